/- Plain lists of bytes: pieces between signs, words between blanks. -/
import Derived.Lib.SplitLaws
import Derived.WalkKit
namespace Go.Proofs.YtfjpgjkfmcedoaaGreatDoor
open Go
/-- A text's bytes. -/
def bs (l : List UInt8) : ByteArray := ⟨l.toArray⟩
theorem bs_size (l : List UInt8) : (bs l).size = l.length := by simp [bs, ByteArray.size]
theorem bs_data (l : List UInt8) : (bs l).data.toList = l := by simp [bs]
theorem bs_of (s : ByteArray) : bs s.data.toList = s := by apply ByteArray.ext; simp [bs]
theorem bs_toList (l : List UInt8) : (bs l).toList = l := by rw [ByteArray.toList_eq, bs_data]
theorem bs_take (l : List UInt8) (k : Nat) : (bs l).extract 0 k = bs (l.take k) := by
  rw [← bs_of ((bs l).extract 0 k), Lib.extract_from_zero, bs_data]
theorem bs_drop (l : List UInt8) (k : Nat) : (bs l).extract k (bs l).size = bs (l.drop k) := by
  rw [← bs_of ((bs l).extract k (bs l).size), Lib.extract_to_end, bs_data]
theorem bs_append (a b : List UInt8) : bs a ++ bs b = bs (a ++ b) := by
  apply ByteArray.ext; simp [bs]
theorem bs_inj {a b : List UInt8} (h : bs a = bs b) : a = b := by rw [← bs_data a, h, bs_data]
theorem toList_inj {a b : ByteArray} (h : a.toList = b.toList) : a = b := by
  rw [ByteArray.toList_eq, ByteArray.toList_eq] at h
  cases a; cases b; simp_all
theorem ret_bool {a b : Bool} (h : a = b) : Ending.returned (.bool a) = .returned (.bool b) := by rw [h]

/-- What stands between signs. -/
def spl (c : UInt8) : List UInt8 → List (List UInt8)
  | [] => [[]]
  | b :: r => if b = c then [] :: spl c r else (b :: (spl c r).headD []) :: (spl c r).tail
theorem spl_ne (c : UInt8) (l : List UInt8) : spl c l ≠ [] := by
  cases l with
  | nil => simp [spl]
  | cons b r => unfold spl; split <;> simp
theorem split_spl (c : UInt8) : ∀ l : List UInt8, Lib.split l [c] = spl c l
  | [] => by simp [Lib.split, Lib.count_one, Lib.splitK, spl]
  | b :: l => by
    have ih := split_spl c l
    unfold spl
    by_cases hb : b = c
    · subst hb
      rw [if_pos rfl, ← ih]
      unfold Lib.split
      rw [Lib.count_cons_eq, Nat.add_comm 1]
      have hix : Lib.index (b :: l) [b] = 0 := by rw [Lib.index]; simp [List.isPrefixOf]
      rw [Lib.splitK, hix]
      simp
    · rw [if_neg hb]
      unfold Lib.split at ih ⊢
      rw [Lib.count_cons_ne b c l hb]
      have hp : ([c] : List UInt8).isPrefixOf (b :: l) = false := by simp [List.isPrefixOf, Ne.symm hb]
      have hix : Lib.index (b :: l) [c] = if Lib.index l [c] == -1 then -1 else Lib.index l [c] + 1 := by rw [Lib.index, hp]; simp
      by_cases hm : Lib.index l [c] = -1
      · rw [Lib.count_miss hm] at ih ⊢
        simp only [Lib.splitK] at ih ⊢
        rw [← ih]
        rfl
      · have hge := Lib.index_ge l [c]
        obtain ⟨j, hj⟩ : ∃ j : Nat, Lib.index l [c] = j := ⟨(Lib.index l [c]).toNat, by omega⟩
        have hix' : Lib.index (b :: l) [c] = ((j + 1 : Nat) : Int) := by rw [hix, if_neg (fun e => hm (beq_iff_eq.1 e)), hj]; omega
        rw [Lib.count_hit (by simp) hj, Nat.add_comm 1] at ih ⊢
        rw [Lib.splitK] at ih ⊢
        rw [hj] at ih
        rw [hix']
        have n1 : ((j : Int) == -1) = false := by rw [beq_eq_false_iff_ne]; omega
        have n2 : (((j + 1 : Nat) : Int) == -1) = false := by rw [beq_eq_false_iff_ne]; omega
        rw [n1] at ih
        rw [n2]
        rw [← ih]
        simp

/-- Words: what stands between blanks, and has bytes. -/
def wgo (cur : List UInt8) : List UInt8 → List (List UInt8)
  | [] => if cur = [] then [] else [cur]
  | b :: r => if b = 32 then (if cur = [] then wgo [] r else cur :: wgo [] r) else wgo (cur ++ [b]) r
def wordsL (l : List UInt8) : List (List UInt8) := wgo [] l
theorem wgo_spl (l : List UInt8) : ∀ cur, wgo cur l = (if cur ++ (spl 32 l).headD [] = [] then [] else [cur ++ (spl 32 l).headD []]) ++ (spl 32 l).tail.filter (fun x => !x.isEmpty) := by
  induction l with
  | nil => intro cur; simp [wgo, spl]
  | cons b r ih =>
    intro cur
    unfold wgo spl
    by_cases hb : b = 32
    · subst hb
      rw [if_pos rfl, if_pos rfl]
      have h0 := ih []
      have hne := spl_ne 32 r
      cases hs : spl 32 r with
      | nil => exact absurd hs hne
      | cons x t =>
        rw [hs] at h0
        simp only [List.headD_cons, List.tail_cons, List.nil_append, List.append_nil] at h0 ⊢
        rw [h0, List.filter_cons]
        cases cur <;> cases x <;> simp
    · rw [if_neg hb, if_neg hb, ih]
      simp
theorem words_spl (l : List UInt8) : wordsL l = (spl 32 l).filter (fun x => !x.isEmpty) := by
  unfold wordsL
  rw [wgo_spl]
  have hne := spl_ne 32 l
  cases hs : spl 32 l with
  | nil => exact absurd hs hne
  | cons x t => cases x <;> simp
theorem wgo_append (a b : List UInt8) : ∀ cur, wgo cur (a ++ 32 :: b) = wgo cur a ++ wgo [] b := by
  induction a with
  | nil => intro cur; simp only [List.nil_append, wgo, if_pos]; by_cases h : cur = [] <;> simp [h]
  | cons x a ih =>
    intro cur
    simp only [List.cons_append, wgo]
    split
    · split <;> simp [ih]
    · exact ih _
theorem words_append (a b : List UInt8) : wordsL (a ++ 32 :: b) = wordsL a ++ wordsL b := wgo_append a b []
/-- A word: some bytes, no blank. -/
def IsWord (x : List UInt8) : Prop := x ≠ [] ∧ ∀ b ∈ x, b ≠ 32
theorem wgo_words (l : List UInt8) : ∀ cur, (∀ b ∈ cur, b ≠ 32) → ∀ x ∈ wgo cur l, IsWord x := by
  induction l with
  | nil =>
    intro cur hc x hx
    unfold wgo at hx
    split at hx
    · simp at hx
    · rw [List.mem_singleton] at hx; subst hx; exact ⟨by assumption, hc⟩
  | cons b r ih =>
    intro cur hc x hx
    unfold wgo at hx
    split at hx
    · split at hx
      · exact ih [] (by simp) x hx
      · rcases List.mem_cons.1 hx with rfl | hx
        · exact ⟨by assumption, hc⟩
        · exact ih [] (by simp) x hx
    · rename_i hb
      refine ih _ ?_ x hx
      intro y hy
      rcases List.mem_append.1 hy with hy | hy
      · exact hc y hy
      · rw [List.mem_singleton] at hy; subst hy; exact hb
theorem words_are (l : List UInt8) : ∀ x ∈ wordsL l, IsWord x := wgo_words l [] (by simp)
theorem wgo_one (x : List UInt8) (h : ∀ b ∈ x, b ≠ 32) : ∀ cur, wgo cur x = if cur ++ x = [] then [] else [cur ++ x] := by
  induction x with
  | nil => intro cur; simp [wgo]
  | cons b r ih =>
    intro cur
    unfold wgo
    rw [if_neg (h b (by simp)), ih (fun y hy => h y (by simp [hy]))]
    simp
theorem words_one {x : List UInt8} (h : IsWord x) : wordsL x = [x] := by
  unfold wordsL
  rw [wgo_one x h.2]
  simp [h.1]
/-- Words, one blank behind each. -/
def joinW (ws : List (List UInt8)) : List UInt8 := ws.flatMap fun x => x ++ [32]
theorem joinW_snoc (ws : List (List UInt8)) (x : List UInt8) : joinW (ws ++ [x]) = joinW ws ++ x ++ [32] := by simp [joinW]
theorem words_join : ∀ ws : List (List UInt8), (∀ x ∈ ws, IsWord x) → wordsL (joinW ws) = ws
  | [], _ => rfl
  | x :: ws, h => by
    have e : joinW (x :: ws) = x ++ 32 :: joinW ws := by simp [joinW]
    rw [e, words_append, words_one (h x (by simp)), words_join ws (fun y hy => h y (by simp [hy]))]
    rfl
theorem wgo_len (l : List UInt8) : ∀ cur, (wgo cur l).length ≤ l.length + (if cur = [] then 0 else 1) := by
  induction l with
  | nil => intro cur; unfold wgo; split <;> simp
  | cons b r ih =>
    intro cur
    unfold wgo
    split
    · have h0 := ih []
      split <;> simp at h0 ⊢ <;> omega
    · have h1 := ih (cur ++ [b])
      rw [if_neg (by simp)] at h1
      simp only [List.length_cons]
      omega
theorem words_len (l : List UInt8) : (wordsL l).length ≤ l.length := by have := wgo_len l []; simpa [wordsL] using this
theorem joinW_len (l : List UInt8) : ∀ cur, (joinW (wgo cur l)).length ≤ cur.length + l.length + 1 := by
  induction l with
  | nil => intro cur; unfold wgo; split <;> simp [joinW]
  | cons b r ih =>
    intro cur
    unfold wgo
    split
    · have h0 := ih []
      split
      · simp only [List.length_cons, List.length_nil] at *; omega
      · simp only [joinW, List.flatMap_cons, List.length_append, List.length_cons, List.length_nil] at *; omega
    · have h1 := ih (cur ++ [b])
      simp only [List.length_cons, List.length_append, List.length_nil] at *
      omega
theorem word_len {l : List UInt8} : ∀ {cur x : List UInt8}, x ∈ wgo cur l → x.length ≤ cur.length + l.length := by
  induction l with
  | nil =>
    intro cur x hx
    unfold wgo at hx
    split at hx
    · simp at hx
    · rw [List.mem_singleton] at hx; subst hx; simp
  | cons b r ih =>
    intro cur x hx
    unfold wgo at hx
    split at hx
    · split at hx
      · have := ih hx; simp at this ⊢; omega
      · rcases List.mem_cons.1 hx with rfl | hx
        · simp
        · have := ih hx; simp at this ⊢; omega
    · have := ih hx; simp at this ⊢; omega
end Go.Proofs.YtfjpgjkfmcedoaaGreatDoor
