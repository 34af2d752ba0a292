/- Put together of PpWrd, PpTxt. -/
import Derived.Lib.SplitLaws
import Derived.WalkKit
import Derived.Test.YtfjpgjkfmcedoaaGreatDoorRows
import Derived.Test.YtfjpgjkfmcedoaaGreatDoorShelfE
import Derived.ProofKit
import Derived.WalkLawsBesides
import Derived.Lib.Hide
import Derived.Deep.QuietTactic
import Derived.BigQuiet
import Derived.Deep.AppendLies
import Derived.Below
import Derived.Laws.NewBlocks
import Derived.Shelf.Strings.PiecesUse
/- Plain lists of bytes: pieces between signs, words between blanks. -/
namespace Go.Proofs.YtfjpgjkfmcedoaaGreatDoor.Pp
open Go
/-- A text's bytes. -/
def bs (l : List UInt8) : ByteArray := ⟨l.toArray⟩
theorem bs_size (l : List UInt8) : (bs l).size = l.length := by simp [bs, ByteArray.size]
theorem bs_data (l : List UInt8) : (bs l).data.toList = l := by simp [bs]
theorem bs_of (s : ByteArray) : bs s.data.toList = s := by apply ByteArray.ext; simp [bs]
theorem bs_toList (l : List UInt8) : (bs l).toList = l := by rw [ByteArray.toList_eq, bs_data]
theorem bs_take (l : List UInt8) (k : Nat) : (bs l).extract 0 k = bs (l.take k) := by
  rw [← bs_of ((bs l).extract 0 k), Lib.extract_from_zero, bs_data]
theorem bs_drop (l : List UInt8) (k : Nat) : (bs l).extract k (bs l).size = bs (l.drop k) := by
  rw [← bs_of ((bs l).extract k (bs l).size), Lib.extract_to_end, bs_data]
theorem bs_append (a b : List UInt8) : bs a ++ bs b = bs (a ++ b) := by
  apply ByteArray.ext; simp [bs]
theorem bs_inj {a b : List UInt8} (h : bs a = bs b) : a = b := by rw [← bs_data a, h, bs_data]
theorem toList_inj {a b : ByteArray} (h : a.toList = b.toList) : a = b := by
  rw [ByteArray.toList_eq, ByteArray.toList_eq] at h
  cases a; cases b; simp_all
theorem ret_bool {a b : Bool} (h : a = b) : Ending.returned (.bool a) = .returned (.bool b) := by rw [h]

/-- What stands between signs. -/
def spl (c : UInt8) : List UInt8 → List (List UInt8)
  | [] => [[]]
  | b :: r => if b = c then [] :: spl c r else (b :: (spl c r).headD []) :: (spl c r).tail
theorem spl_ne (c : UInt8) (l : List UInt8) : spl c l ≠ [] := by
  cases l with
  | nil => simp [spl]
  | cons b r => unfold spl; split <;> simp
theorem split_spl (c : UInt8) : ∀ l : List UInt8, Lib.split l [c] = spl c l
  | [] => by simp [Lib.split, Lib.count_one, Lib.splitK, spl]
  | b :: l => by
    have ih := split_spl c l
    unfold spl
    by_cases hb : b = c
    · subst hb
      rw [if_pos rfl, ← ih]
      unfold Lib.split
      rw [Lib.count_cons_eq, Nat.add_comm 1]
      have hix : Lib.index (b :: l) [b] = 0 := by rw [Lib.index]; simp [List.isPrefixOf]
      rw [Lib.splitK, hix]
      simp
    · rw [if_neg hb]
      unfold Lib.split at ih ⊢
      rw [Lib.count_cons_ne b c l hb]
      have hp : ([c] : List UInt8).isPrefixOf (b :: l) = false := by simp [List.isPrefixOf, Ne.symm hb]
      have hix : Lib.index (b :: l) [c] = if Lib.index l [c] == -1 then -1 else Lib.index l [c] + 1 := by rw [Lib.index, hp]; simp
      by_cases hm : Lib.index l [c] = -1
      · rw [Lib.count_miss hm] at ih ⊢
        simp only [Lib.splitK] at ih ⊢
        rw [← ih]
        rfl
      · have hge := Lib.index_ge l [c]
        obtain ⟨j, hj⟩ : ∃ j : Nat, Lib.index l [c] = j := ⟨(Lib.index l [c]).toNat, by omega⟩
        have hix' : Lib.index (b :: l) [c] = ((j + 1 : Nat) : Int) := by rw [hix, if_neg (fun e => hm (beq_iff_eq.1 e)), hj]; omega
        rw [Lib.count_hit (by simp) hj, Nat.add_comm 1] at ih ⊢
        rw [Lib.splitK] at ih ⊢
        rw [hj] at ih
        rw [hix']
        have n1 : ((j : Int) == -1) = false := by rw [beq_eq_false_iff_ne]; omega
        have n2 : (((j + 1 : Nat) : Int) == -1) = false := by rw [beq_eq_false_iff_ne]; omega
        rw [n1] at ih
        rw [n2]
        rw [← ih]
        simp

/-- Words: what stands between blanks, and has bytes. -/
def wgo (cur : List UInt8) : List UInt8 → List (List UInt8)
  | [] => if cur = [] then [] else [cur]
  | b :: r => if b = 32 then (if cur = [] then wgo [] r else cur :: wgo [] r) else wgo (cur ++ [b]) r
def wordsL (l : List UInt8) : List (List UInt8) := wgo [] l
theorem wgo_spl (l : List UInt8) : ∀ cur, wgo cur l = (if cur ++ (spl 32 l).headD [] = [] then [] else [cur ++ (spl 32 l).headD []]) ++ (spl 32 l).tail.filter (fun x => !x.isEmpty) := by
  induction l with
  | nil => intro cur; simp [wgo, spl]
  | cons b r ih =>
    intro cur
    unfold wgo spl
    by_cases hb : b = 32
    · subst hb
      rw [if_pos rfl, if_pos rfl]
      have h0 := ih []
      have hne := spl_ne 32 r
      cases hs : spl 32 r with
      | nil => exact absurd hs hne
      | cons x t =>
        rw [hs] at h0
        simp only [List.headD_cons, List.tail_cons, List.nil_append, List.append_nil] at h0 ⊢
        rw [h0, List.filter_cons]
        cases cur <;> cases x <;> simp
    · rw [if_neg hb, if_neg hb, ih]
      simp
theorem words_spl (l : List UInt8) : wordsL l = (spl 32 l).filter (fun x => !x.isEmpty) := by
  unfold wordsL
  rw [wgo_spl]
  have hne := spl_ne 32 l
  cases hs : spl 32 l with
  | nil => exact absurd hs hne
  | cons x t => cases x <;> simp
theorem wgo_append (a b : List UInt8) : ∀ cur, wgo cur (a ++ 32 :: b) = wgo cur a ++ wgo [] b := by
  induction a with
  | nil => intro cur; simp only [List.nil_append, wgo, if_pos]; by_cases h : cur = [] <;> simp [h]
  | cons x a ih =>
    intro cur
    simp only [List.cons_append, wgo]
    split
    · split <;> simp [ih]
    · exact ih _
theorem words_append (a b : List UInt8) : wordsL (a ++ 32 :: b) = wordsL a ++ wordsL b := wgo_append a b []
/-- A word: some bytes, no blank. -/
def IsWord (x : List UInt8) : Prop := x ≠ [] ∧ ∀ b ∈ x, b ≠ 32
theorem wgo_words (l : List UInt8) : ∀ cur, (∀ b ∈ cur, b ≠ 32) → ∀ x ∈ wgo cur l, IsWord x := by
  induction l with
  | nil =>
    intro cur hc x hx
    unfold wgo at hx
    split at hx
    · simp at hx
    · rw [List.mem_singleton] at hx; subst hx; exact ⟨by assumption, hc⟩
  | cons b r ih =>
    intro cur hc x hx
    unfold wgo at hx
    split at hx
    · split at hx
      · exact ih [] (by simp) x hx
      · rcases List.mem_cons.1 hx with rfl | hx
        · exact ⟨by assumption, hc⟩
        · exact ih [] (by simp) x hx
    · rename_i hb
      refine ih _ ?_ x hx
      intro y hy
      rcases List.mem_append.1 hy with hy | hy
      · exact hc y hy
      · rw [List.mem_singleton] at hy; subst hy; exact hb
theorem words_are (l : List UInt8) : ∀ x ∈ wordsL l, IsWord x := wgo_words l [] (by simp)
theorem wgo_one (x : List UInt8) (h : ∀ b ∈ x, b ≠ 32) : ∀ cur, wgo cur x = if cur ++ x = [] then [] else [cur ++ x] := by
  induction x with
  | nil => intro cur; simp [wgo]
  | cons b r ih =>
    intro cur
    unfold wgo
    rw [if_neg (h b (by simp)), ih (fun y hy => h y (by simp [hy]))]
    simp
theorem words_one {x : List UInt8} (h : IsWord x) : wordsL x = [x] := by
  unfold wordsL
  rw [wgo_one x h.2]
  simp [h.1]
/-- Words, one blank behind each. -/
def joinW (ws : List (List UInt8)) : List UInt8 := ws.flatMap fun x => x ++ [32]
theorem joinW_snoc (ws : List (List UInt8)) (x : List UInt8) : joinW (ws ++ [x]) = joinW ws ++ x ++ [32] := by simp [joinW]
theorem words_join : ∀ ws : List (List UInt8), (∀ x ∈ ws, IsWord x) → wordsL (joinW ws) = ws
  | [], _ => rfl
  | x :: ws, h => by
    have e : joinW (x :: ws) = x ++ 32 :: joinW ws := by simp [joinW]
    rw [e, words_append, words_one (h x (by simp)), words_join ws (fun y hy => h y (by simp [hy]))]
    rfl
theorem wgo_len (l : List UInt8) : ∀ cur, (wgo cur l).length ≤ l.length + (if cur = [] then 0 else 1) := by
  induction l with
  | nil => intro cur; unfold wgo; split <;> simp
  | cons b r ih =>
    intro cur
    unfold wgo
    split
    · have h0 := ih []
      split <;> simp at h0 ⊢ <;> omega
    · have h1 := ih (cur ++ [b])
      rw [if_neg (by simp)] at h1
      simp only [List.length_cons]
      omega
theorem words_len (l : List UInt8) : (wordsL l).length ≤ l.length := by have := wgo_len l []; simpa [wordsL] using this
theorem joinW_len (l : List UInt8) : ∀ cur, (joinW (wgo cur l)).length ≤ cur.length + l.length + 1 := by
  induction l with
  | nil => intro cur; unfold wgo; split <;> simp [joinW]
  | cons b r ih =>
    intro cur
    unfold wgo
    split
    · have h0 := ih []
      split
      · simp only [List.length_cons, List.length_nil] at *; omega
      · simp only [joinW, List.flatMap_cons, List.length_append, List.length_cons, List.length_nil] at *; omega
    · have h1 := ih (cur ++ [b])
      simp only [List.length_cons, List.length_append, List.length_nil] at *
      omega
theorem word_len {l : List UInt8} : ∀ {cur x : List UInt8}, x ∈ wgo cur l → x.length ≤ cur.length + l.length := by
  induction l with
  | nil =>
    intro cur x hx
    unfold wgo at hx
    split at hx
    · simp at hx
    · rw [List.mem_singleton] at hx; subst hx; simp
  | cons b r ih =>
    intro cur x hx
    unfold wgo at hx
    split at hx
    · split at hx
      · have := ih hx; simp at this ⊢; omega
      · rcases List.mem_cons.1 hx with rfl | hx
        · simp
        · have := ih hx; simp at this ⊢; omega
    · have := ih hx; simp at this ⊢; omega
end Go.Proofs.YtfjpgjkfmcedoaaGreatDoor.Pp
/- Slices of texts in memory; contracts of SameTexts, strings.Split and expr.Words. -/
namespace Go.Proofs.YtfjpgjkfmcedoaaGreatDoor.Pp
open Go.ChangeShapes Go.WideShapes Go.ChangeAt Go.RowKit

/-- A slice value of texts, and what it holds in a world. -/
def IsTexts (w : World) (v : Value) (l : List ByteArray) : Prop :=
  ∃ a cap, v = .slice a l.length cap ∧ ∀ i (h : i < l.length), ∃ b off, a = some ⟨b, off, none⟩ ∧ w.cell? ⟨b, off + i, none⟩ = some (.string l[i])
/-- What the library's own variable holds: some number. -/
structure Env0 (w : World) : Prop where
  len : ∃ m, w.cell? ⟨3, 0, none⟩ = some (.int .i64 m)
theorem cell_below {w w' : World} {a : Addr} {v : Value} (h : w.cell? a = some v) (hb : Below w.heap.size w w') : w'.cell? a = some v := by
  rw [hb.cell (World.block_lt_of_cell? w a h)]; exact h
theorem Env0.below {w w' : World} (h : Env0 w) (hb : Below w.heap.size w w') : Env0 w' := by
  obtain ⟨m, hm⟩ := h.len
  exact ⟨⟨m, cell_below hm hb⟩⟩
theorem IsTexts.below {w w' : World} {v : Value} {l : List ByteArray} (h : IsTexts w v l) (hb : Below w.heap.size w w') : IsTexts w' v l := by
  obtain ⟨a, cap, rfl, hc⟩ := h
  refine ⟨a, cap, rfl, fun i hi => ?_⟩
  obtain ⟨b, off, rfl, c0⟩ := hc i hi
  exact ⟨b, off, rfl, cell_below c0 hb⟩
theorem below_trans {w w1 w2 : World} (h1 : Below w.heap.size w w1) (h2 : Below w1.heap.size w1 w2) : Below w.heap.size w w2 := h1.trans (h2.mono h1.size)
theorem below_drewN (w : World) (n : Nat) : Below w.heap.size w (w.drewN n) := ⟨rfl, rfl, rfl, Nat.le_refl _, fun _ _ => rfl⟩
theorem isTexts_nil (w : World) (a : Option Addr) (cap : Nat) : IsTexts w (.slice a 0 cap) [] := ⟨a, cap, rfl, fun i hi => absurd hi (by simp)⟩

/-- strings.Split at one sign. -/
theorem pieces_eq (c : UInt8) (l : List UInt8) : Lib.splitB ⟨#[c]⟩ 0 (Lib.countB (bs l) ⟨#[c]⟩) (bs l) = (spl c l).map bs := by
  have h := Lib.splitB_data ⟨#[c]⟩ 0 (Lib.countB (bs l) ⟨#[c]⟩) (bs l)
  rw [bs_data] at h
  have h2 : Lib.countB (bs l) ⟨#[c]⟩ = Lib.count l [c] := by show Lib.count (bs l).data.toList [c] = _; rw [bs_data]
  have h3 : Lib.splitK (⟨#[c]⟩ : ByteArray).data.toList 0 (Lib.countB (bs l) ⟨#[c]⟩) l = spl c l := by rw [h2]; exact split_spl c l
  rw [h3] at h
  rw [← h, List.map_map]
  conv => lhs; rw [← List.map_id (Lib.splitB ⟨#[c]⟩ 0 (Lib.countB (bs l) ⟨#[c]⟩) (bs l))]
  apply List.map_congr_left
  intro x _
  exact (bs_of x).symm
theorem split_any (c : UInt8) (l : List UInt8) (w : World) (E : Env0 w) (hl : l.length < 4294967281) :
    Calls Tryz.prog 39 #[.string (bs l), .string ⟨#[c]⟩] w fun e w' => ∃ b, e = .returned (.slice (some ⟨b, 0, none⟩) (spl c l).length (spl c l).length) ∧ (∀ i x, (spl c l)[i]? = some x → w'.cell? ⟨b, i, none⟩ = some (.string (bs x))) ∧ Below w.heap.size w w' := by
  obtain ⟨m, hm⟩ := E.len
  refine (Any.strings_Split Tryz.lays146 (by kernel_rfl) (bs l) ⟨#[c]⟩ m w (by rw [bs_size]; exact hl) hm (Nat.le_refl 1)).mono ?_
  rintro e w' ⟨rfl, rfl⟩
  have hlen := Lib.splitB_all ⟨#[c]⟩ (Nat.le_refl 1) 0 _ (bs l) rfl
  rw [pieces_eq, List.length_map] at hlen
  rw [← hlen, pieces_eq]
  refine ⟨_, rfl, fun i x hx => ?_, (Below.refl _ _).alloc (Nat.le_refl _) _⟩
  have hi : i < (spl c l).length := by rw [List.getElem?_eq_some_iff] at hx; exact hx.1
  have h0 := Lib.pieces_cell w ((spl c l).map bs) 9 i (bs x) (by simp [hx])
  rw [Nat.zero_add] at h0
  exact h0

theorem owns_below {w w' : World} {base : Nat} {e : TypeId} {size : Nat} {v : Value} {n : Nat} {xs : List Value} (h : w.ownsRow base e size v n xs) (hb : Below w.heap.size w w') : w'.ownsRow base e size v n xs := by
  refine h.kept (row := none) ⟨hb.os, hb.tape, hb.output, hb.size, fun k hk _ => hb.block k hk⟩ ?_
  cases v.ownBlock with
  | none => exact .inl rfl
  | some k => exact .inr (by simp)
theorem lit_cells {w : World} {cs : Array Value} {e : TypeId} {g : Nat} (hg : g = w.heap.size) (hm : cs.size ≤ maxLen) : ∀ j u, cs.toList[j]? = some u → (w.alloc (.cells cs e)).cell? ((⟨g, 0, none⟩ : Addr).add j) = some u := by
  subst hg
  exact (World.ownsRow_lit (base := 0) (size := 1) (e := e) w cs cs.size (Nat.zero_le _) hm (by omega)).cells rfl
/-- The cells that texts fill. -/
def strs (l : List (List UInt8)) : List Value := l.map fun x => .string (bs x)
theorem strs_length (l : List (List UInt8)) : (strs l).length = l.length := by simp [strs]
theorem strs_append (a b : List (List UInt8)) : strs (a ++ b) = strs a ++ strs b := by simp [strs]
theorem strs_one (l : List (List UInt8)) : ∀ u ∈ strs l, u.oneCell' = true := by
  intro u hu
  simp only [strs, List.mem_map] at hu
  obtain ⟨x, _, rfl⟩ := hu
  rfl
theorem isTexts_of {w : World} {base : Nat} {v : Value} {l : List (List UInt8)} (h : w.ownsRow base 9 1 v l.length (strs l)) : IsTexts w v (l.map bs) := by
  rcases h.2 with ⟨rfl, h0⟩ | ⟨g, cap, cur, rfl, _⟩
  · exact ⟨none, 0, by rw [List.length_map, h0], fun i hi => by rw [List.length_map] at hi; omega⟩
  · refine ⟨some ⟨g, 0, none⟩, cap, by rw [List.length_map], fun i hi => ⟨g, 0, rfl, ?_⟩⟩
    rw [List.length_map] at hi
    rw [Nat.zero_add, h.cellAt i (by omega)]
    simp [strs, hi]
theorem owns_fresh {w : World} {base : Nat} {e : TypeId} {size : Nat} {v : Value} {n : Nat} {xs : List Value} (h : w.ownsRow base e size v n xs) : ∀ (x : Addr) (m c : Nat), v = .slice (some x) m c → base ≤ x.block := by
  intro x m c hv
  rcases h.2 with ⟨h1, _⟩ | ⟨g, cap, cur, h1, h2, _⟩
  · rw [h1] at hv; cases hv
  · rw [h1] at hv; cases hv; exact h2
theorem infoStr : (Tryz.prog.info? 9).map (fun i => (i.zero, i.size, i.bytes)) = some (some (.string ⟨#[]⟩), 1, 16) := by kernel_rfl
theorem info_parts {P : Program} {t : TypeId} {z : Value} {s b : Nat} (h : (P.info? t).map (fun i => (i.zero, i.size, i.bytes)) = some (some z, s, b)) : ∃ i, P.info? t = some i ∧ i.zero = some z ∧ i.size = s ∧ i.bytes = b := by
  cases hi : P.info? t with
  | none => rw [hi] at h; cases h
  | some i => rw [hi] at h; simp at h; exact ⟨i, rfl, h.1, h.2.1, h.2.2⟩
def WordsSaid (l : List UInt8) (w : World) (e : Ending) (w' : World) : Prop :=
  ∃ a cap, e = .returned (.slice a (wordsL l).length cap) ∧ Hid (IsTexts w' (.slice a (wordsL l).length cap) ((wordsL l).map bs)) ∧ Below w.heap.size w w' ∧ Hid (∀ x : Addr, a = some x → w.heap.size ≤ x.block)
theorem filt_step {ps : List (List UInt8)} {k : Nat} {x : List UInt8} (hx : ps[k]? = some x) : (ps.take (k + 1)).filter (fun x => !x.isEmpty) = (ps.take k).filter (fun x => !x.isEmpty) ++ (if x.isEmpty then [] else [x]) := by
  obtain ⟨hk, rfl⟩ := List.getElem?_eq_some_iff.1 hx
  rw [List.take_succ_eq_append_getElem hk, List.filter_append]
  congr 1
  cases h : ps[k].isEmpty <;> simp [h]
theorem filt_len (ps : List (List UInt8)) (k : Nat) : ((ps.take k).filter (fun x => !x.isEmpty)).length ≤ ps.length := Nat.le_trans (List.length_filter_le _ _) (by rw [List.length_take]; omega)
theorem spl_len (c : UInt8) (l : List UInt8) : (spl c l).length ≤ l.length + 1 := by
  induction l with
  | nil => simp [spl]
  | cons b r ih =>
    have hne := spl_ne c r
    unfold spl
    split
    · simp; omega
    · cases hs : spl c r with
      | nil => exact absurd hs hne
      | cons x t => rw [hs] at ih; simp at ih ⊢; omega
end Go.Proofs.YtfjpgjkfmcedoaaGreatDoor.Pp
