/- Benches: how they lie in memory; the closures that look for a slot, slices.IndexFunc over each, find and at. Written by tpl/mk_b1.py. -/
import Derived.Test.YtilgiehcpmafgaaT1
import Derived.Laws.StructEq
namespace Go.Proofs.Ytilgiehcpmafgaa
open Go.ChangeShapes Go.WideShapes Go.ChangeAt Go.RowKit
/-- A slot. -/
structure Sl where
  pw : Int
  ps : Int
  taken : Bool
  job : Int
  fold : Bool
  index : Int
def Sl.cells (s : Sl) : List Value := [.int .i64 s.pw, .int .i64 s.ps, .bool s.taken, .int .i64 s.job, .bool s.fold, .int .i64 s.index]
def Sl.val (s : Sl) : Value := .agg #[.int .i64 s.pw, .int .i64 s.ps, .bool s.taken, .int .i64 s.job, .bool s.fold, .int .i64 s.index]
def cellsS (L : List Sl) : List Value := L.flatMap Sl.cells
theorem cellsS_length (L : List Sl) : (cellsS L).length = L.length * 6 := by
  induction L with
  | nil => rfl
  | cons q L ih =>
    unfold cellsS at ih ⊢
    rw [List.flatMap_cons, List.length_append, ih, List.length_cons]
    simp [Sl.cells]
    omega
theorem cellsS_at (L : List Sl) : ∀ k (h : k < L.length) i, i < 6 → (cellsS L)[k * 6 + i]? = L[k].cells[i]? := by
  induction L with
  | nil => intro k h; simp at h
  | cons q L ih =>
    intro k h i hi
    have e0 : cellsS (q :: L) = q.cells ++ cellsS L := by simp [cellsS]
    have hq : q.cells.length = 6 := rfl
    rw [e0]
    cases k with
    | zero =>
      rw [Nat.zero_mul, Nat.zero_add, List.getElem?_append_left (by omega)]
      rfl
    | succ k =>
      rw [List.getElem?_append_right (by omega), hq, show (k + 1) * 6 + i - 6 = k * 6 + i by omega, ih k (by simpa using h) i hi]
      rfl
/-- A bench of W workers with S slots each, in the blocks from lo on, below hi. -/
structure IsB (w : World) (lo hi P : Nat) (W S : Nat) (g cap : Nat) (L : List Sl) : Prop where
  plo : lo ≤ P
  phi : P < hi
  glo : lo ≤ g
  ghi : g < hi
  row : Blk w P 82 [.int .i64 W, .int .i64 S, .slice (some ⟨g, 0, none⟩) L.length cap]
  ow : w.ownsRow lo 84 6 (.slice (some ⟨g, 0, none⟩) L.length cap) L.length (cellsS L)
  ne : g ≠ P
  w1 : 1 ≤ W ∧ W ≤ 4
  s1 : 1 ≤ S ∧ S ≤ 3
  len : L.length = W * S
  place : ∀ k (h : k < L.length), L[k].pw = ((k / S : Nat) : Int) ∧ L[k].ps = ((k % S : Nat) : Int)
theorem IsB.blw {w w' : World} {lo hi P W S g cap : Nat} {L : List Sl} (h : IsB w lo hi P W S g cap L) (hb : Below w.heap.size w w') : IsB w' lo hi P W S g cap L :=
  { h with
    row := h.row.blw hb
    ow := owns_same h.ow fun k hk => hb.block k (owns_lt h.ow hk).2 }
theorem IsB.win {w w' : World} {lo hi lo' hi' P W S g cap : Nat} {L : List Sl} (h : IsB w lo hi P W S g cap L) (k : Win lo' hi' w w') (hd : hi ≤ lo' ∨ hi' ≤ lo) : IsB w' lo hi P W S g cap L := by
  have key : ∀ j, lo ≤ j → j < hi → j < w.heap.size → w'.heap[j]? = w.heap[j]? := fun j h1 h2 h3 => k.block j h3 (by omega)
  exact { h with
    row := (key P h.plo h.phi h.row.lt).trans h.row
    ow := owns_same h.ow fun j hj => by
      have e : j = g := by simpa [Value.ownBlock] using hj.symm
      subst e
      exact key j h.glo h.ghi (owns_lt h.ow hj).2 }
theorem IsB.small {w : World} {lo hi P W S g cap : Nat} {L : List Sl} (h : IsB w lo hi P W S g cap L) : L.length ≤ 12 := by
  have := h.len
  have h1 := h.w1
  have h2 := h.s1
  have : W * S ≤ 4 * 3 := Nat.mul_le_mul h1.2 h2.2
  omega
theorem IsB.cell {w : World} {lo hi P W S g cap : Nat} {L : List Sl} (h : IsB w lo hi P W S g cap L) {k i : Nat} (hk : k < L.length) (hi : i < 6) {v : Value} (hv : L[k].cells[i]? = some v) : w.cell? ⟨g, k * 6 + i, none⟩ = some v := by
  rw [h.ow.cellAt _ (by omega), cellsS_at L k hk i hi]
  exact hv
theorem eqPlace (a b c d : Int) (w : World) : (Op.equalIn 10000 54 (.agg #[.int .i64 a, .int .i64 b]) (.agg #[.int .i64 c, .int .i64 d])).run Try.prog w = .ok (a == c && b == d) w := by
  have u3 := Try.underlying3
  have a3 := Try.isAgg3
  have z3 := Try.sizeOf3
  have hS : Try.prog.underlying 54 = some (.struct (Try.prog.fieldsOf 54)) := by kernel_rfl
  rw [show (10000 : Nat) = 9999 + 1 from rfl, run_equalIn_agg w 9999 54 _ _ hS (by kernel_rfl)]
  simp only [Program.fieldsOf, Try.underlying54]
  go_simp
  by_cases h1 : a = c <;> by_cases h2 : b = d <;> simp [h1, h2]
theorem eqTask (a c : Int) (b b' : Bool) (x y : Int) (w : World) : (Op.equalIn 10000 51 (.agg #[.int .i64 a, .bool b, .int .i64 x]) (.agg #[.int .i64 c, .bool b', .int .i64 y])).run Try.prog w = .ok (a == c && b == b' && x == y) w := by
  have u3 := Try.underlying3
  have a3 := Try.isAgg3
  have z3 := Try.sizeOf3
  have u4 := Try.underlying4
  have a4 := Try.isAgg4
  have z4 := Try.sizeOf4
  have hS : Try.prog.underlying 51 = some (.struct (Try.prog.fieldsOf 51)) := by kernel_rfl
  rw [show (10000 : Nat) = 9999 + 1 from rfl, run_equalIn_agg w 9999 51 _ _ hS (by kernel_rfl)]
  simp only [Program.fieldsOf, Try.underlying51]
  go_simp
  by_cases h1 : a = c <;> by_cases h3 : x = y <;> cases b <;> cases b' <;> simp [h1, h3]
namespace Bn
def isPlace (a b : Int) (s : Sl) : Bool := s.pw == a && s.ps == b
def isFree (a : Int) (s : Sl) : Bool := s.pw == a && !s.taken
def isTask (j : Int) (f : Bool) (i : Int) (s : Sl) : Bool := s.taken && (s.job == j && s.fold == f && s.index == i)
/-- The first slot that is so; -1: there is none. -/
def idx (p : Sl → Bool) : List Sl → Int
  | [] => -1
  | x :: l => if p x then 0 else if idx p l < 0 then -1 else idx p l + 1
theorem idx_at (p : Sl → Bool) (l : List Sl) (k : Nat) (hk : k < l.length) (h0 : ∀ j (h : j < l.length), j < k → p l[j] = false) (h1 : p l[k] = true) : idx p l = k := by
  induction l generalizing k with
  | nil => simp at hk
  | cons x l ih =>
    cases k with
    | zero => simp at h1; unfold idx; rw [if_pos h1]; rfl
    | succ k =>
      have hx : p x = false := h0 0 (by simp) (by omega)
      have e := ih k (by simpa using hk) (fun j h hj => by have := h0 (j + 1) (by simpa using h) (by omega); rwa [List.getElem_cons_succ] at this) (by simpa using h1)
      unfold idx
      rw [if_neg (by rw [hx]; simp), e, if_neg (by omega)]
      omega
theorem idx_none (p : Sl → Bool) (l : List Sl) (h0 : ∀ j (h : j < l.length), p l[j] = false) : idx p l = -1 := by
  induction l with
  | nil => rfl
  | cons x l ih =>
    have hx : p x = false := h0 0 (by simp)
    have e := ih (fun j h => by have := h0 (j + 1) (by simpa using h); rwa [List.getElem_cons_succ] at this)
    unfold idx
    rw [if_neg (by rw [hx]; simp), e]
    rfl
end Bn
open Bn
set_option maxRecDepth 100000 in
set_option maxHeartbeats 1000000 in
theorem at1_any (s : Sl) (a b : Int) (G : Nat) (w : World) (c0 : w.cell? ⟨G, 0, none⟩ = some (.int .i64 a)) (c1 : w.cell? ⟨G, 1, none⟩ = some (.int .i64 b)) :
    Calls Try.prog 47 #[s.val, .pointer (some ⟨G, 0, none⟩)] w fun e w' => e = .returned (.bool (isPlace a b s)) ∧ Below w.heap.size w w' := by
  have EQ := eqPlace
  have hG := block_lt c0
  simp only at hG
  unfold Sl.val isPlace
  generalize s.pw = pw
  generalize s.ps = ps
  go_enter Try.func47, Try.ntmps47
  go_wp2
  go_ret
  exact ⟨rfl, blw_box _⟩
set_option maxRecDepth 100000 in
set_option maxHeartbeats 1000000 in
theorem room1_any (s : Sl) (a : Int) (G : Nat) (w : World) (c0 : w.cell? ⟨G, 0, none⟩ = some (.int .i64 a)) :
    Calls Try.prog 41 #[s.val, .pointer (some ⟨G, 0, none⟩)] w fun e w' => e = .returned (.bool (isFree a s)) ∧ Below w.heap.size w w' := by
  have hG := block_lt c0
  simp only at hG
  unfold Sl.val isFree
  generalize s.pw = pw
  generalize s.taken = tk
  cases g : pw == a with
  | false =>
    go_enter Try.func41, Try.ntmps41
    go_wp2
    go_ret
    exact ⟨rfl, blw_box _⟩
  | true =>
    go_enter Try.func41, Try.ntmps41
    go_wp2
    go_ret
    exact ⟨by simp, blw_box _⟩
set_option maxRecDepth 100000 in
set_option maxHeartbeats 1000000 in
theorem runs1_any (s : Sl) (j i : Int) (f : Bool) (G : Nat) (w : World) (c0 : w.cell? ⟨G, 0, none⟩ = some (.int .i64 j)) (c1 : w.cell? ⟨G, 1, none⟩ = some (.bool f)) (c2 : w.cell? ⟨G, 2, none⟩ = some (.int .i64 i)) :
    Calls Try.prog 44 #[s.val, .pointer (some ⟨G, 0, none⟩)] w fun e w' => e = .returned (.bool (isTask j f i s)) ∧ Below w.heap.size w w' := by
  have EQ := eqTask
  have hG := block_lt c0
  simp only at hG
  unfold Sl.val isTask
  generalize s.taken = tk
  generalize s.job = sj
  generalize s.fold = sf
  generalize s.index = si
  cases tk with
  | false =>
    go_enter Try.func44, Try.ntmps44
    go_wp2
    go_ret
    exact ⟨rfl, blw_box _⟩
  | true =>
    go_enter Try.func44, Try.ntmps44
    go_wp2
    go_ret
    exact ⟨by simp, blw_box _⟩
theorem idx_cases (p : Sl → Bool) (L : List Sl) : (∃ k : Nat, k < L.length ∧ idx p L = k) ∨ idx p L = -1 := by
  induction L with
  | nil => exact .inr rfl
  | cons x L ih =>
    unfold idx
    by_cases hx : p x = true
    · rw [if_pos hx]; exact .inl ⟨0, by simp, rfl⟩
    · rw [if_neg hx]
      rcases ih with ⟨k, hk, e⟩ | e
      · rw [e, if_neg (by omega)]; exact .inl ⟨k + 1, by simpa using hk, by omega⟩
      · rw [e]; exact .inr rfl
set_option maxRecDepth 100000 in
set_option maxHeartbeats 2000000 in
theorem indexP {lo hi P W S g cap : Nat} {L : List Sl} (w : World) (h : IsB w lo hi P W S g cap L) (G : Nat) (a b : Int) (c0 : w.cell? ⟨G, 0, none⟩ = some (.int .i64 a)) (c1 : w.cell? ⟨G, 1, none⟩ = some (.int .i64 b)) :
    Calls Try.prog 48 #[.slice (some ⟨g, 0, none⟩) L.length cap, .func (.func 47) #[] #[.pointer (some ⟨G, 0, none⟩)]] w fun e w' => e = .returned (.int .i64 (idx (isPlace a b) L)) ∧ Below w.heap.size w w' := by
  have H := Lib.hid h
  have hl := h.small
  have D : Hid (∀ s w', Below w.heap.size w w' → Calls Try.prog 47 #[Sl.val s, .pointer (some ⟨G, 0, none⟩)] w' fun e w'' => e = .returned (.bool (isPlace a b s)) ∧ Below w'.heap.size w' w'') := fun s w' hb => at1_any s a b G w' (cell_blw c0 hb) (cell_blw c1 hb)
  clear h c0 c1
  generalize hp : (isPlace a b) = p at *
  clear hp
  obtain ⟨n, hn⟩ : ∃ n, n = L.length := ⟨_, rfl⟩
  rw [← hn] at hl ⊢
  have HN := Lib.hid hn
  clear hn
  go_enter Try.func48, Try.ntmps48
  go_wp2
  go_loopw [5, 8] (fun _ kv wr => ∃ k : Nat, k ≤ n ∧ kv = .int .i64 k ∧ Hid (∀ j (h : j < L.length), j < k → p L[j] = false) ∧ Below w.heap.size w wr) (fun _ kv _ => n - (intOf kv).toNat)
  case atStart => exact ⟨0, Nat.zero_le _, rfl, fun j _ h => absurd h (by omega), Below.refl _ _⟩
  case round =>
    obtain ⟨k, hk, rfl, HP, hb⟩ := hrel
    by_cases hlt : k < n
    · have hkl : k < L.length := by have := HN.out; omega
      have h' := H.out.blw hb
      have c0 := h'.cell hkl (i := 0) (by omega) rfl
      have c1 := h'.cell hkl (i := 1) (by omega) rfl
      have c2 := h'.cell hkl (i := 2) (by omega) rfl
      have c3 := h'.cell hkl (i := 3) (by omega) rfl
      have c4 := h'.cell hkl (i := 4) (by omega) rfl
      have c5 := h'.cell hkl (i := 5) (by omega) rfl
      rw [Nat.add_zero] at c0
      have D0 := D.out L[k] wr hb
      unfold Sl.val at D0
      have HT : Hid (p L[k] = false → ∀ j (h : j < L.length), j < k + 1 → p L[j] = false) := fun e j hj hjk => by
        by_cases e' : j = k
        · subst e'; exact e
        · exact HP.out j hj (by omega)
      have HF : Hid (p L[k] = true → idx p L = k) := fun e => idx_at p L k hkl HP.out e
      clear HP h'
      generalize p L[k] = r at *
      generalize L[k].pw = q0 at *
      generalize L[k].ps = q1 at *
      generalize L[k].taken = q2 at *
      generalize L[k].job = q3 at *
      generalize L[k].fold = q4 at *
      generalize L[k].index = q5 at *
      have HD0 := Lib.hid D0
      clear D0
      cases r with
      | true =>
        have HF' := Lib.hid (HF.out rfl)
        clear HT HF
        go_wp2_with (go_at_call 47; refine HD0.out.mono ?_; rintro _ w1 ⟨rfl, hb1⟩)
        go_ret
        exact ⟨by rw [HF'.out]; rfl, blw_step hb hb1⟩
      | false =>
        have HT' := Lib.hid (HT.out rfl)
        clear HT HF
        go_wp2_with (go_at_call 47; refine HD0.out.mono ?_; rintro _ w1 ⟨rfl, hb1⟩)
        go_roundw
        case rel => exact ⟨k + 1, by omega, by go_num, HT', blw_step hb hb1⟩
        case measure => simp [intOf]; omega
    · have HE : Hid (idx p L = -1) := idx_none p L fun j h => HP.out j h (by have := HN.out; omega)
      clear HP
      go_wp2
      go_ret
      exact ⟨by rw [HE.out]; rfl, hb⟩
set_option maxRecDepth 100000 in
set_option maxHeartbeats 1000000 in
theorem findP {lo hi P W S g cap : Nat} {L : List Sl} (w : World) (h : IsB w lo hi P W S g cap L) (G : Nat) (a b : Int) (c0 : w.cell? ⟨G, 0, none⟩ = some (.int .i64 a)) (c1 : w.cell? ⟨G, 1, none⟩ = some (.int .i64 b)) :
    Calls Try.prog 40 #[.pointer (some ⟨P, 0, none⟩), .func (.func 47) #[] #[.pointer (some ⟨G, 0, none⟩)]] w fun e w' => ((∃ k : Nat, k < L.length ∧ idx (isPlace a b) L = k ∧ e = .returned (.pointer (some ⟨g, k * 6, none⟩))) ∨ (idx (isPlace a b) L = -1 ∧ e = .returned (.pointer none))) ∧ Below w.heap.size w w' := by
  have D := Lib.hid (indexP w h G a b c0 c1)
  have hl := h.small
  have C0 := Lib.hid (h.row.at (i := 2) (v := .slice (some ⟨g, 0, none⟩) L.length cap) rfl)
  have HI := Lib.hid (idx_cases (isPlace a b) L)
  clear h c0 c1
  generalize idx (isPlace a b) L = x at *
  generalize L.length = n at *
  have c0 := C0.out
  rcases HI.out with ⟨k, hk, hx⟩ | hx
  · subst hx
    go_enter Try.func40, Try.ntmps40
    go_wp2_with (go_at_call 48; refine D.out.mono ?_; rintro _ w1 ⟨rfl, hb1⟩; have c1 := cell_blw C0.out hb1)
    go_ret
    exact ⟨.inl ⟨k, hk, rfl, rfl⟩, hb1⟩
  · subst hx
    go_enter Try.func40, Try.ntmps40
    go_wp2_with (go_at_call 48; refine D.out.mono ?_; rintro _ w1 ⟨rfl, hb1⟩; have c1 := cell_blw C0.out hb1)
    go_ret
    exact ⟨.inr ⟨by trivial, rfl⟩, hb1⟩
set_option maxRecDepth 100000 in
set_option maxHeartbeats 2000000 in
theorem indexF {lo hi P W S g cap : Nat} {L : List Sl} (w : World) (h : IsB w lo hi P W S g cap L) (G : Nat) (a : Int) (c0 : w.cell? ⟨G, 0, none⟩ = some (.int .i64 a)) :
    Calls Try.prog 48 #[.slice (some ⟨g, 0, none⟩) L.length cap, .func (.func 41) #[] #[.pointer (some ⟨G, 0, none⟩)]] w fun e w' => e = .returned (.int .i64 (idx (isFree a) L)) ∧ Below w.heap.size w w' := by
  have H := Lib.hid h
  have hl := h.small
  have D : Hid (∀ s w', Below w.heap.size w w' → Calls Try.prog 41 #[Sl.val s, .pointer (some ⟨G, 0, none⟩)] w' fun e w'' => e = .returned (.bool (isFree a s)) ∧ Below w'.heap.size w' w'') := fun s w' hb => room1_any s a G w' (cell_blw c0 hb)
  clear h c0
  generalize hp : (isFree a) = p at *
  clear hp
  obtain ⟨n, hn⟩ : ∃ n, n = L.length := ⟨_, rfl⟩
  rw [← hn] at hl ⊢
  have HN := Lib.hid hn
  clear hn
  go_enter Try.func48, Try.ntmps48
  go_wp2
  go_loopw [5, 8] (fun _ kv wr => ∃ k : Nat, k ≤ n ∧ kv = .int .i64 k ∧ Hid (∀ j (h : j < L.length), j < k → p L[j] = false) ∧ Below w.heap.size w wr) (fun _ kv _ => n - (intOf kv).toNat)
  case atStart => exact ⟨0, Nat.zero_le _, rfl, fun j _ h => absurd h (by omega), Below.refl _ _⟩
  case round =>
    obtain ⟨k, hk, rfl, HP, hb⟩ := hrel
    by_cases hlt : k < n
    · have hkl : k < L.length := by have := HN.out; omega
      have h' := H.out.blw hb
      have c0 := h'.cell hkl (i := 0) (by omega) rfl
      have c1 := h'.cell hkl (i := 1) (by omega) rfl
      have c2 := h'.cell hkl (i := 2) (by omega) rfl
      have c3 := h'.cell hkl (i := 3) (by omega) rfl
      have c4 := h'.cell hkl (i := 4) (by omega) rfl
      have c5 := h'.cell hkl (i := 5) (by omega) rfl
      rw [Nat.add_zero] at c0
      have D0 := D.out L[k] wr hb
      unfold Sl.val at D0
      have HT : Hid (p L[k] = false → ∀ j (h : j < L.length), j < k + 1 → p L[j] = false) := fun e j hj hjk => by
        by_cases e' : j = k
        · subst e'; exact e
        · exact HP.out j hj (by omega)
      have HF : Hid (p L[k] = true → idx p L = k) := fun e => idx_at p L k hkl HP.out e
      clear HP h'
      generalize p L[k] = r at *
      generalize L[k].pw = q0 at *
      generalize L[k].ps = q1 at *
      generalize L[k].taken = q2 at *
      generalize L[k].job = q3 at *
      generalize L[k].fold = q4 at *
      generalize L[k].index = q5 at *
      have HD0 := Lib.hid D0
      clear D0
      cases r with
      | true =>
        have HF' := Lib.hid (HF.out rfl)
        clear HT HF
        go_wp2_with (go_at_call 41; refine HD0.out.mono ?_; rintro _ w1 ⟨rfl, hb1⟩)
        go_ret
        exact ⟨by rw [HF'.out]; rfl, blw_step hb hb1⟩
      | false =>
        have HT' := Lib.hid (HT.out rfl)
        clear HT HF
        go_wp2_with (go_at_call 41; refine HD0.out.mono ?_; rintro _ w1 ⟨rfl, hb1⟩)
        go_roundw
        case rel => exact ⟨k + 1, by omega, by go_num, HT', blw_step hb hb1⟩
        case measure => simp [intOf]; omega
    · have HE : Hid (idx p L = -1) := idx_none p L fun j h => HP.out j h (by have := HN.out; omega)
      clear HP
      go_wp2
      go_ret
      exact ⟨by rw [HE.out]; rfl, hb⟩
set_option maxRecDepth 100000 in
set_option maxHeartbeats 1000000 in
theorem findF {lo hi P W S g cap : Nat} {L : List Sl} (w : World) (h : IsB w lo hi P W S g cap L) (G : Nat) (a : Int) (c0 : w.cell? ⟨G, 0, none⟩ = some (.int .i64 a)) :
    Calls Try.prog 40 #[.pointer (some ⟨P, 0, none⟩), .func (.func 41) #[] #[.pointer (some ⟨G, 0, none⟩)]] w fun e w' => ((∃ k : Nat, k < L.length ∧ idx (isFree a) L = k ∧ e = .returned (.pointer (some ⟨g, k * 6, none⟩))) ∨ (idx (isFree a) L = -1 ∧ e = .returned (.pointer none))) ∧ Below w.heap.size w w' := by
  have D := Lib.hid (indexF w h G a c0)
  have hl := h.small
  have C0 := Lib.hid (h.row.at (i := 2) (v := .slice (some ⟨g, 0, none⟩) L.length cap) rfl)
  have HI := Lib.hid (idx_cases (isFree a) L)
  clear h c0
  generalize idx (isFree a) L = x at *
  generalize L.length = n at *
  have c0 := C0.out
  rcases HI.out with ⟨k, hk, hx⟩ | hx
  · subst hx
    go_enter Try.func40, Try.ntmps40
    go_wp2_with (go_at_call 48; refine D.out.mono ?_; rintro _ w1 ⟨rfl, hb1⟩; have c1 := cell_blw C0.out hb1)
    go_ret
    exact ⟨.inl ⟨k, hk, rfl, rfl⟩, hb1⟩
  · subst hx
    go_enter Try.func40, Try.ntmps40
    go_wp2_with (go_at_call 48; refine D.out.mono ?_; rintro _ w1 ⟨rfl, hb1⟩; have c1 := cell_blw C0.out hb1)
    go_ret
    exact ⟨.inr ⟨by trivial, rfl⟩, hb1⟩
set_option maxRecDepth 100000 in
set_option maxHeartbeats 2000000 in
theorem indexT {lo hi P W S g cap : Nat} {L : List Sl} (w : World) (h : IsB w lo hi P W S g cap L) (G : Nat) (j i : Int) (f : Bool) (c0 : w.cell? ⟨G, 0, none⟩ = some (.int .i64 j)) (c1 : w.cell? ⟨G, 1, none⟩ = some (.bool f)) (c2 : w.cell? ⟨G, 2, none⟩ = some (.int .i64 i)) :
    Calls Try.prog 48 #[.slice (some ⟨g, 0, none⟩) L.length cap, .func (.func 44) #[] #[.pointer (some ⟨G, 0, none⟩)]] w fun e w' => e = .returned (.int .i64 (idx (isTask j f i) L)) ∧ Below w.heap.size w w' := by
  have H := Lib.hid h
  have hl := h.small
  have D : Hid (∀ s w', Below w.heap.size w w' → Calls Try.prog 44 #[Sl.val s, .pointer (some ⟨G, 0, none⟩)] w' fun e w'' => e = .returned (.bool (isTask j f i s)) ∧ Below w'.heap.size w' w'') := fun s w' hb => runs1_any s j i f G w' (cell_blw c0 hb) (cell_blw c1 hb) (cell_blw c2 hb)
  clear h c0 c1 c2
  generalize hp : (isTask j f i) = p at *
  clear hp
  obtain ⟨n, hn⟩ : ∃ n, n = L.length := ⟨_, rfl⟩
  rw [← hn] at hl ⊢
  have HN := Lib.hid hn
  clear hn
  go_enter Try.func48, Try.ntmps48
  go_wp2
  go_loopw [5, 8] (fun _ kv wr => ∃ k : Nat, k ≤ n ∧ kv = .int .i64 k ∧ Hid (∀ j (h : j < L.length), j < k → p L[j] = false) ∧ Below w.heap.size w wr) (fun _ kv _ => n - (intOf kv).toNat)
  case atStart => exact ⟨0, Nat.zero_le _, rfl, fun j _ h => absurd h (by omega), Below.refl _ _⟩
  case round =>
    obtain ⟨k, hk, rfl, HP, hb⟩ := hrel
    by_cases hlt : k < n
    · have hkl : k < L.length := by have := HN.out; omega
      have h' := H.out.blw hb
      have c0 := h'.cell hkl (i := 0) (by omega) rfl
      have c1 := h'.cell hkl (i := 1) (by omega) rfl
      have c2 := h'.cell hkl (i := 2) (by omega) rfl
      have c3 := h'.cell hkl (i := 3) (by omega) rfl
      have c4 := h'.cell hkl (i := 4) (by omega) rfl
      have c5 := h'.cell hkl (i := 5) (by omega) rfl
      rw [Nat.add_zero] at c0
      have D0 := D.out L[k] wr hb
      unfold Sl.val at D0
      have HT : Hid (p L[k] = false → ∀ j (h : j < L.length), j < k + 1 → p L[j] = false) := fun e j hj hjk => by
        by_cases e' : j = k
        · subst e'; exact e
        · exact HP.out j hj (by omega)
      have HF : Hid (p L[k] = true → idx p L = k) := fun e => idx_at p L k hkl HP.out e
      clear HP h'
      generalize p L[k] = r at *
      generalize L[k].pw = q0 at *
      generalize L[k].ps = q1 at *
      generalize L[k].taken = q2 at *
      generalize L[k].job = q3 at *
      generalize L[k].fold = q4 at *
      generalize L[k].index = q5 at *
      have HD0 := Lib.hid D0
      clear D0
      cases r with
      | true =>
        have HF' := Lib.hid (HF.out rfl)
        clear HT HF
        go_wp2_with (go_at_call 44; refine HD0.out.mono ?_; rintro _ w1 ⟨rfl, hb1⟩)
        go_ret
        exact ⟨by rw [HF'.out]; rfl, blw_step hb hb1⟩
      | false =>
        have HT' := Lib.hid (HT.out rfl)
        clear HT HF
        go_wp2_with (go_at_call 44; refine HD0.out.mono ?_; rintro _ w1 ⟨rfl, hb1⟩)
        go_roundw
        case rel => exact ⟨k + 1, by omega, by go_num, HT', blw_step hb hb1⟩
        case measure => simp [intOf]; omega
    · have HE : Hid (idx p L = -1) := idx_none p L fun j h => HP.out j h (by have := HN.out; omega)
      clear HP
      go_wp2
      go_ret
      exact ⟨by rw [HE.out]; rfl, hb⟩
set_option maxRecDepth 100000 in
set_option maxHeartbeats 1000000 in
theorem findT {lo hi P W S g cap : Nat} {L : List Sl} (w : World) (h : IsB w lo hi P W S g cap L) (G : Nat) (j i : Int) (f : Bool) (c0 : w.cell? ⟨G, 0, none⟩ = some (.int .i64 j)) (c1 : w.cell? ⟨G, 1, none⟩ = some (.bool f)) (c2 : w.cell? ⟨G, 2, none⟩ = some (.int .i64 i)) :
    Calls Try.prog 40 #[.pointer (some ⟨P, 0, none⟩), .func (.func 44) #[] #[.pointer (some ⟨G, 0, none⟩)]] w fun e w' => ((∃ k : Nat, k < L.length ∧ idx (isTask j f i) L = k ∧ e = .returned (.pointer (some ⟨g, k * 6, none⟩))) ∨ (idx (isTask j f i) L = -1 ∧ e = .returned (.pointer none))) ∧ Below w.heap.size w w' := by
  have D := Lib.hid (indexT w h G j i f c0 c1 c2)
  have hl := h.small
  have C0 := Lib.hid (h.row.at (i := 2) (v := .slice (some ⟨g, 0, none⟩) L.length cap) rfl)
  have HI := Lib.hid (idx_cases (isTask j f i) L)
  clear h c0 c1 c2
  generalize idx (isTask j f i) L = x at *
  generalize L.length = n at *
  have c0 := C0.out
  rcases HI.out with ⟨k, hk, hx⟩ | hx
  · subst hx
    go_enter Try.func40, Try.ntmps40
    go_wp2_with (go_at_call 48; refine D.out.mono ?_; rintro _ w1 ⟨rfl, hb1⟩; have c1 := cell_blw C0.out hb1)
    go_ret
    exact ⟨.inl ⟨k, hk, rfl, rfl⟩, hb1⟩
  · subst hx
    go_enter Try.func40, Try.ntmps40
    go_wp2_with (go_at_call 48; refine D.out.mono ?_; rintro _ w1 ⟨rfl, hb1⟩; have c1 := cell_blw C0.out hb1)
    go_ret
    exact ⟨.inr ⟨by trivial, rfl⟩, hb1⟩
end Go.Proofs.Ytilgiehcpmafgaa
