/- Journals: what is written is read; of a part of it the first entries. -/
import Derived.Test.YtifbjngkdifenaaDoorJ7
namespace Go.Proofs.YtifbjngkdifenaaDoor
open Num
theorem itoa_bytes (n : Int) : ∀ c ∈ Lib.itoa n, c = 45 ∨ digB c = true := by
  intro c hc
  unfold Lib.itoa at hc
  split at hc
  · rcases List.mem_cons.1 hc with h | h
    · exact .inl h
    · exact .inr (dec_dig _ c h)
  · exact .inr (dec_dig _ c hc)
theorem itoa_not (n : Int) (x : UInt8) (h1 : x ≠ 45) (h2 : digB x = false) : x ∉ Lib.itoa n := by
  intro h
  rcases itoa_bytes n x h with h | h
  · exact h1 h
  · rw [h2] at h; cases h
theorem cutAt_here (c : UInt8) (a b : List UInt8) (h : c ∉ a) : cutAt c (a ++ c :: b) = (a, b, true) := by
  induction a with
  | nil => unfold cutAt; simp
  | cons x a ih =>
    have hx : x ≠ c := fun e => h (by rw [e]; exact List.mem_cons_self)
    have ih' := ih (fun m => h (List.mem_cons_of_mem _ m))
    rw [List.cons_append, cutAt, if_neg hx, ih']
theorem cutAt_not (c : UInt8) (a : List UInt8) (h : c ∉ a) : cutAt c a = (a, [], false) := by
  induction a with
  | nil => rfl
  | cons x a ih =>
    have hx : x ≠ c := fun e => h (by rw [e]; exact List.mem_cons_self)
    rw [cutAt, if_neg hx, ih (fun m => h (List.mem_cons_of_mem _ m))]
theorem spl_not (c : UInt8) (a : List UInt8) (h : c ∉ a) : spl c a = [a] := by
  induction a with
  | nil => rfl
  | cons x a ih =>
    have hx : x ≠ c := fun e => h (by rw [e]; exact List.mem_cons_self)
    rw [spl, if_neg hx, ih (fun m => h (List.mem_cons_of_mem _ m))]
    rfl
theorem spl_here (c : UInt8) (a b : List UInt8) (h : c ∉ a) : spl c (a ++ c :: b) = a :: spl c b := by
  induction a with
  | nil => rw [List.nil_append, spl, if_pos rfl]
  | cons x a ih =>
    have hx : x ≠ c := fun e => h (by rw [e]; exact List.mem_cons_self)
    rw [List.cons_append, spl, if_neg hx, ih (fun m => h (List.mem_cons_of_mem _ m))]
    rfl
theorem spl_nums (a : List UInt8) (h : (32 : UInt8) ∉ a) (ns : List Int) : spl 32 (a ++ numsT ns) = a :: ns.map Lib.itoa := by
  induction ns generalizing a with
  | nil =>
    unfold numsT
    rw [List.flatMap_nil, List.append_nil, spl_not 32 a h]
    rfl
  | cons n ns ih =>
    have e : a ++ numsT (n :: ns) = a ++ 32 :: (Lib.itoa n ++ numsT ns) := by unfold numsT numT; simp
    rw [e, spl_here 32 a _ h, ih (Lib.itoa n) (itoa_not n 32 (by decide) (by decide))]
    rfl
theorem numL_itoa (ns : List Int) (h : ∀ n ∈ ns, Fit n) : numL (ns.map Lib.itoa) = some ns := by
  induction ns with
  | nil => rfl
  | cons n ns ih =>
    have hn := h n List.mem_cons_self
    rw [List.map_cons, numL, num_itoa hn.1 hn.2]
    simp only
    rw [ih (fun m hm => h m (List.mem_cons_of_mem _ hm))]
theorem numbers_nums (a : List UInt8) (h : (32 : UInt8) ∉ a) (ns : List Int) (hf : ∀ n ∈ ns, Fit n) : numbersL (a ++ numsT ns) = some (a, ns) := by
  unfold numbersL
  rw [spl_nums a h ns, List.tail_cons, numL_itoa ns hf]
  rfl
def lens (ts : List (List UInt8)) : List Int := ts.map fun t => (t.length : Int)
theorem sizes_nums (ts : List (List UInt8)) : sizesT ts = numsT (lens ts) := by
  unfold sizesT numsT lens
  rw [List.flatMap_map]
theorem cutL_all (ts : List (List UInt8)) (rest : List UInt8) : cutL (ts.flatten ++ rest) (lens ts) = some (ts, rest) := by
  induction ts with
  | nil => rfl
  | cons t ts ih =>
    have e : lens (t :: ts) = (t.length : Int) :: lens ts := rfl
    rw [e, List.flatten_cons, List.append_assoc, cutL, if_neg (by rw [List.length_append]; omega), Int.toNat_natCast, List.drop_left, List.take_left, ih]
theorem cutL_sum (ts : List (List UInt8)) (u : List UInt8) {x : List (List UInt8)} {r : List UInt8} (h : cutL u (lens ts) = some (x, r)) : u.length = ts.flatten.length + r.length := by
  induction ts generalizing u x r with
  | nil =>
    simp only [lens, List.map_nil, cutL, Option.some.injEq, Prod.mk.injEq] at h
    obtain ⟨_, rfl⟩ := h
    simp
  | cons t ts ih =>
    have e : lens (t :: ts) = (t.length : Int) :: lens ts := rfl
    rw [e, cutL] at h
    split at h
    · cases h
    · rename_i hn
      cases hc : cutL (u.drop (t.length : Int).toNat) (lens ts) with
      | none => rw [hc] at h; cases h
      | some p =>
        obtain ⟨x', r'⟩ := p
        rw [hc] at h
        simp only [Option.some.injEq, Prod.mk.injEq] at h
        obtain ⟨_, rfl⟩ := h
        have h2 := ih _ hc
        rw [List.length_drop, Int.toNat_natCast] at h2
        rw [List.flatten_cons, List.length_append]
        omega
/-- An entry as TopJournal takes it. -/
structure Plain (e : Ent) : Prop where
  ne : e.kind ≠ []
  kd : ∀ c ∈ e.kind, 97 ≤ c.toNat ∧ c.toNat ≤ 122
  fit : ∀ n ∈ e.n, Fit n
  len : ∀ t ∈ e.texts, t.length ≤ 1000000
def entE (e : Ent) : List UInt8 := entT e.kind e.n e.texts
/-- Its first line. -/
def headE (e : Ent) : List UInt8 := e.kind ++ numsT e.n ++ [59] ++ sizesT e.texts
theorem entE_eq (e : Ent) : entE e = headE e ++ 10 :: (e.texts.flatten ++ [46]) := by unfold entE headE entT; simp
theorem nums_not (x : UInt8) (h0 : x ≠ 32) (h1 : x ≠ 45) (h2 : digB x = false) (ns : List Int) : x ∉ numsT ns := by
  unfold numsT numT
  intro h
  rw [List.mem_flatMap] at h
  obtain ⟨n, _, hm⟩ := h
  rcases List.mem_cons.1 hm with h | h
  · exact h0 h
  · exact itoa_not n x h1 h2 h
theorem kind_not {e : Ent} (h : Plain e) (x : UInt8) (hx : x.toNat < 97) : x ∉ e.kind := fun m => by
  have := h.kd x m
  omega
theorem head_not {e : Ent} (h : Plain e) : (10 : UInt8) ∉ headE e := by
  unfold headE
  rw [sizes_nums]
  simp only [List.mem_append, List.mem_singleton, not_or]
  exact ⟨⟨⟨kind_not h 10 (by decide), nums_not 10 (by decide) (by decide) (by decide) _⟩, by decide⟩, nums_not 10 (by decide) (by decide) (by decide) _⟩
theorem lens_fit {e : Ent} (h : Plain e) : ∀ n ∈ lens e.texts, Fit n := by
  intro n hn
  unfold lens at hn
  rw [List.mem_map] at hn
  obtain ⟨t, ht, rfl⟩ := hn
  have := h.len t ht
  exact ⟨by omega, by omega⟩
theorem one_head {e : Ent} (h : Plain e) (u : List UInt8) : oneL (headE e ++ 10 :: u) = match cutL u (lens e.texts) with
    | none => none
    | some (ts, r) => if r.head? = some 46 then some (⟨e.kind, e.n, ts⟩, r.drop 1) else none := by
  unfold oneL
  rw [cutAt_here 10 _ u (head_not h)]
  simp only
  have e2 : headE e = (e.kind ++ numsT e.n) ++ 59 :: numsT (lens e.texts) := by unfold headE; rw [sizes_nums]; simp
  have h59 : (59 : UInt8) ∉ e.kind ++ numsT e.n := by
    rw [List.mem_append, not_or]
    exact ⟨kind_not h 59 (by decide), nums_not 59 (by decide) (by decide) (by decide) _⟩
  rw [e2, cutAt_here 59 _ _ h59]
  simp only
  rw [if_neg (by simp), numbers_nums e.kind (kind_not h 32 (by decide)) e.n h.fit]
  simp only
  rw [if_neg h.ne]
  have e3 : numsT (lens e.texts) = [] ++ numsT (lens e.texts) := rfl
  rw [e3, numbers_nums [] (by simp) _ (lens_fit h)]
  simp only
  rw [if_neg (by simp)]
  cases cutL u (lens e.texts) <;> rfl
theorem one_whole {e : Ent} (h : Plain e) (rest : List UInt8) : oneL (entE e ++ rest) = some (e, rest) := by
  rw [entE_eq, List.append_assoc, List.cons_append, List.append_assoc, one_head h, cutL_all]
  rfl
theorem one_part {e : Ent} (h : Plain e) (m : Nat) (hm : m < (entE e).length) : oneL ((entE e).take m) = none := by
  rw [entE_eq] at hm ⊢
  by_cases hh : m ≤ (headE e).length
  · have hn : (10 : UInt8) ∉ (headE e ++ 10 :: (e.texts.flatten ++ [46])).take m := by
      rw [List.take_append_of_le_length hh]
      exact fun x => head_not h (List.mem_of_mem_take x)
    unfold oneL
    rw [cutAt_not 10 _ hn]
    simp
  · obtain ⟨j, hj⟩ : ∃ j, m = (headE e).length + (j + 1) := ⟨m - (headE e).length - 1, by omega⟩
    subst hj
    rw [List.take_append, List.take_of_length_le (by omega), Nat.add_sub_cancel_left, List.take_succ_cons, one_head h]
    cases hc : cutL ((e.texts.flatten ++ [46]).take j) (lens e.texts) with
    | none => rfl
    | some p =>
      obtain ⟨ts, r⟩ := p
      have hs := cutL_sum e.texts _ hc
      rw [List.length_append, List.length_cons, List.length_append, List.length_singleton] at hm
      rw [List.length_take, List.length_append, List.length_singleton] at hs
      have hr : r = [] := List.eq_nil_of_length_eq_zero (by omega)
      subst hr
      rfl
/-- A journal's text. -/
def allT (l : List Ent) : List UInt8 := l.flatMap entE
theorem allT_cons (e : Ent) (l : List Ent) : allT (e :: l) = entE e ++ allT l := by unfold allT; rw [List.flatMap_cons]
theorem par_at : ∀ (l : List Ent), (∀ e ∈ l, Plain e) → ∀ (M n : Nat), M ≤ l.length → (allT (l.take M)).length ≤ n → (M < l.length → n < (allT (l.take (M + 1))).length) → parL ((allT l).take n) = l.take M := by
  intro l
  induction l with
  | nil =>
    intro _ M n hM _ _
    have : M = 0 := by simpa using hM
    subst this
    have e : (allT ([] : List Ent)).take n = [] := by unfold allT; simp
    rw [e]
    exact parL_none (by unfold oneL; rw [cutAt_not 10 [] (by simp)]; simp)
  | cons e l ih =>
    intro h M n hM h1 h2
    have he := h e List.mem_cons_self
    rw [allT_cons]
    cases M with
    | zero =>
      have h3 := h2 (by simp)
      rw [Nat.zero_add, List.take_succ_cons, List.take_zero, allT_cons] at h3
      have h4 : n < (entE e).length := by
        have e0 : allT ([] : List Ent) = [] := rfl
        rw [e0, List.append_nil] at h3
        exact h3
      rw [List.take_append_of_le_length (Nat.le_of_lt h4), parL_none (one_part he n h4), List.take_zero]
    | succ M =>
      rw [List.take_succ_cons, allT_cons, List.length_append] at h1
      rw [List.take_append, List.take_of_length_le (by omega), parL_some (one_whole he _), List.take_succ_cons]
      congr 1
      refine ih (fun x hx => h x (List.mem_cons_of_mem _ hx)) M (n - (entE e).length) (by simpa using hM) (by omega) (fun hlt => ?_)
      have h3 := h2 (by simpa using hlt)
      rw [List.take_succ_cons, allT_cons, List.length_append] at h3
      omega
end Go.Proofs.YtifbjngkdifenaaDoor
