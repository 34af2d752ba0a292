/- Rules as they are gathered. Written by tpl/mk_rdj.py. -/
import Derived.Test.YthmojcalllbclaaDoorRd3
namespace Go.Proofs.YthmojcalllbclaaDoor
open Go.ChangeShapes Go.WideShapes Go.ChangeAt Go.RowKit
def rowR (x : Rl) (si sk sv : Value) : List Value := [.bool x.each, .int .i64 x.when, .int .i64 x.iff.k, .int .i64 x.iff.n, .string (bs x.iff.s), si, .string (bs x.s), .int .i64 x.key.k, .int .i64 x.key.n, .string (bs x.key.s), sk, .int .i64 x.val.k, .int .i64 x.val.n, .string (bs x.val.s), sv]
theorem rowR_len (x : Rl) (si sk sv : Value) : (rowR x si sk sv).length = 15 := rfl
def cellsR (l : List Rl) (A : Nat → Value × Value × Value) : List Value := l.zipIdx.flatMap fun p => rowR p.1 (A p.2).1 (A p.2).2.1 (A p.2).2.2
theorem cellsR_snoc (l : List Rl) (A : Nat → Value × Value × Value) (x : Rl) : cellsR (l ++ [x]) A = cellsR l A ++ rowR x (A l.length).1 (A l.length).2.1 (A l.length).2.2 := by
  unfold cellsR; rw [List.zipIdx_append]; simp
theorem cellsR_gen (A A' : Nat → Value × Value × Value) : ∀ (l : List Rl) (m : Nat), (∀ j, j < l.length → A (m + j) = A' (m + j)) → ((l.zipIdx m).flatMap fun p => rowR p.1 (A p.2).1 (A p.2).2.1 (A p.2).2.2) = ((l.zipIdx m).flatMap fun p => rowR p.1 (A' p.2).1 (A' p.2).2.1 (A' p.2).2.2) := by
  intro l
  induction l with
  | nil => intro m _; rfl
  | cons x l ih =>
    intro m h
    have h0 := h 0 (by simp)
    rw [Nat.add_zero] at h0
    rw [List.zipIdx_cons, List.flatMap_cons, List.flatMap_cons, ih (m + 1) (fun j hj => by have := h (j + 1) (by simpa using hj); rw [show m + 1 + j = m + (j + 1) by omega]; exact this), h0]
theorem cellsR_congr (l : List Rl) (A A' : Nat → Value × Value × Value) (h : ∀ j, j < l.length → A j = A' j) : cellsR l A = cellsR l A' :=
  cellsR_gen A A' l 0 (fun j hj => by rw [Nat.zero_add]; exact h j hj)
theorem cellsR_at (A : Nat → Value × Value × Value) : ∀ (l : List Rl) (m i : Nat) (x : Rl) (j : Nat), l[i]? = some x → j < 15 → ((l.zipIdx m).flatMap fun p => rowR p.1 (A p.2).1 (A p.2).2.1 (A p.2).2.2)[i * 15 + j]? = (rowR x (A (m + i)).1 (A (m + i)).2.1 (A (m + i)).2.2)[j]? := by
  intro l
  induction l with
  | nil => intro m i x j hx; simp at hx
  | cons y l ih =>
    intro m i x j hx hj
    rw [List.zipIdx_cons, List.flatMap_cons]
    cases i with
    | zero =>
      simp at hx
      subst hx
      rw [List.getElem?_append_left (by rw [rowR_len]; omega)]
      simp
    | succ i =>
      rw [List.getElem?_append_right (by rw [rowR_len]; omega), rowR_len, show (i + 1) * 15 + j - 15 = i * 15 + j by omega, ih (m + 1) i x j (by simpa using hx) hj, show m + 1 + i = m + (i + 1) by omega]
/-- The row of the rules that have been read; where each one's expressions lie. -/
def RulesAt (B base : Nat) (wr : World) (rv : Value) (rs : List Rl) : Prop :=
  ∃ (A : Nat → Value × Value × Value) (lo hi : Nat → Nat), wr.ownsRow base 56 15 rv rs.length (cellsR rs A) ∧ (∀ g, rv.ownBlock = some g → B < g) ∧
    ∀ j x, rs[j]? = some x → B < lo j ∧ hi j ≤ wr.heap.size ∧ (∀ g, rv.ownBlock = some g → g < lo j ∨ hi j ≤ g) ∧ IsExW (lo j) (hi j) wr (A j).1 x.iff ∧ IsExW (lo j) (hi j) wr (A j).2.1 x.key ∧ IsExW (lo j) (hi j) wr (A j).2.2 x.val
theorem RulesAt.zero (B base : Nat) (wr : World) : RulesAt B base wr (.slice none 0 0) [] :=
  ⟨fun _ => (undef, undef, undef), fun _ => 0, fun _ => 0, World.ownsRow_nil _ _ _ _, fun g h => by simp [Value.ownBlock] at h, fun j x h => by simp at h⟩
theorem RulesAt.lower {B base : Nat} {wr w' : World} {rv : Value} {rs : List Rl} (h : RulesAt B base wr rv rs) (hb : Below wr.heap.size wr w') : RulesAt B base w' rv rs := by
  obtain ⟨A, lo, hi, h1, h2, h3⟩ := h
  refine ⟨A, lo, hi, h1.kept (row := none) ⟨hb.os, hb.tape, hb.output, hb.size, fun k hk _ => hb.block k hk⟩ ?_, h2, fun j x hx => ?_⟩
  · cases rv.ownBlock with
    | none => exact .inl rfl
    | some k => exact .inr (by simp)
  · obtain ⟨a, b, c, d1, d2, d3⟩ := h3 j x hx
    have hk := Keeps.of_below (lo := lo j) hb b
    exact ⟨a, Nat.le_trans b hb.size, c, d1.carry hk, d2.carry hk, d3.carry hk⟩
theorem RulesAt.put {B base j : Nat} {wr : World} {rv v : Value} {rs : List Rl} (h : RulesAt B base wr rv rs) : RulesAt B base (wr.setCell ⟨B, j, none⟩ v) rv rs := by
  obtain ⟨A, lo, hi, h1, h2, h3⟩ := h
  refine ⟨A, lo, hi, ownsRow_setCell_other h1 (fun e => by have := h2 _ e; simp at this) v, h2, fun j' x hx => ?_⟩
  obtain ⟨a, b, c, d1, d2, d3⟩ := h3 j' x hx
  exact ⟨a, by simpa using b, c, d1.put (by omega) v, d2.put (by omega) v, d3.put (by omega) v⟩
theorem RulesAt.drew {B base : Nat} {wr : World} {rv : Value} {rs : List Rl} (h : RulesAt B base wr rv rs) : RulesAt B base wr.drew rv rs := h
/-- One more: read in w1, appended in w2, which comes to be w3. -/
theorem RulesAt.more {B base g cap H : Nat} {w1 w2 w3 : World} {rv si sk sv : Value} {rs : List Rl} {x : Rl} (h : RulesAt B base w1 rv rs) (hB : B < w1.heap.size)
    (hk : RulesAt B base w2 rv rs) (hxi : IsExW (w1.heap.size + 1) H w2 si x.iff) (hxk : IsExW (w1.heap.size + 1) H w2 sk x.key) (hxv : IsExW (w1.heap.size + 1) H w2 sv x.val) (hH : H ≤ w2.heap.size)
    (ho : ∀ A, w2.ownsRow base 56 15 rv rs.length (cellsR rs A) → w3.ownsRow base 56 15 (.slice (some ⟨g, 0, none⟩) (rs.length + 1) cap) (rs.length + 1) (cellsR rs A ++ rowR x si sk sv))
    (hg : w2.grownBy w3 rv.ownBlock) (hat : rv.ownBlock = some g ∨ g = w2.heap.size) (hBB : B < w2.heap.size) : RulesAt B base w3 (.slice (some ⟨g, 0, none⟩) (rs.length + 1) cap) (rs ++ [x]) := by
  obtain ⟨A0, lo0, hi0, o0, b0, _⟩ := h
  obtain ⟨A, lo, hi, h1, h2, h3⟩ := hk
  have hlt : ∀ g', rv.ownBlock = some g' → g' < w1.heap.size := fun g' e => (o0.lt g' e).2
  refine ⟨fun j => if j = rs.length then (si, sk, sv) else A j, fun j => if j = rs.length then w1.heap.size + 1 else lo j, fun j => if j = rs.length then H else hi j, ?_, ?_, ?_⟩
  · have e := ho A h1
    rw [cellsR_snoc, List.length_append, List.length_singleton]
    simp only [if_true]
    rw [cellsR_congr rs (fun j => if j = rs.length then (si, sk, sv) else A j) A (fun j hj => if_neg (by omega))]
    exact e
  · intro g' e
    have e' : g' = g := by simpa [Value.ownBlock] using e.symm
    subst e'
    rcases hat with hat | hat
    · exact h2 _ hat
    · rw [hat]; exact hBB
  · intro j y hy
    by_cases hj : j < rs.length
    · rw [List.getElem?_append_left hj] at hy
      obtain ⟨a, b, c, d1, d2, d3⟩ := h3 j y hy
      have hne : ¬ j = rs.length := by omega
      simp only [if_neg hne]
      have hkp := Keeps.of_grown hg b c
      refine ⟨a, Nat.le_trans b hg.size, ?_, d1.carry hkp, d2.carry hkp, d3.carry hkp⟩
      intro g' e
      have e' : g' = g := by simpa [Value.ownBlock] using e.symm
      subst e'
      rcases hat with hat | hat
      · exact c _ hat
      · right; omega
    · have hlen : j = rs.length := by
        have := (List.getElem?_eq_some_iff.1 hy).1
        simp at this; omega
      subst hlen
      simp only [List.getElem?_concat_length, Option.some.injEq] at hy
      subst hy
      simp only [if_true]
      have hkp : Keeps (w1.heap.size + 1) H w2 w3 := Keeps.of_grown hg hH (fun g' e => .inl (by have := hlt g' e; omega))
      refine ⟨by omega, Nat.le_trans hH hg.size, ?_, hxi.carry hkp, hxk.carry hkp, hxv.carry hkp⟩
      intro g' e
      have e' : g' = g := by simpa [Value.ownBlock] using e.symm
      subst e'
      rcases hat with hat | hat
      · have := hlt _ hat; exact .inl (by omega)
      · right; omega
/-- What has been read are rules. -/
theorem RulesAt.done {B base : Nat} {wr : World} {rv : Value} {rs : List Rl} (h : RulesAt B base wr rv rs) : ∀ w', Keeps (B + 1) wr.heap.size wr w' → IsRules w' rv rs := by
  obtain ⟨A, lo, hi, h1, h2, h3⟩ := h
  intro w' hk
  have kids : ∀ i x, rs[i]? = some x → IsEx w' (A i).1 x.iff ∧ IsEx w' (A i).2.1 x.key ∧ IsEx w' (A i).2.2 x.val := fun i x hx => by
    obtain ⟨a, b, _, d1, d2, d3⟩ := h3 i x hx
    have hks := hk.sub (lo' := lo i) (hi' := hi i) (by omega) b
    exact ⟨d1 w' hks, d2 w' hks, d3 w' hks⟩
  rcases h1.2 with ⟨rfl, h0⟩ | ⟨g, cap, cur, rfl, _, hg, hr⟩
  · have e : rs = [] := List.eq_nil_of_length_eq_zero h0
    subst e
    exact ⟨none, 0, 0, 0, fun _ => undef, fun _ => undef, fun _ => undef, rfl, fun h => by simp at h, fun i x hx => by simp at hx⟩
  · refine ⟨some ⟨g, 0, none⟩, cap, g, 0, fun i => (A i).1, fun i => (A i).2.1, fun i => (A i).2.2, rfl, fun _ => rfl, fun i x hx => ⟨?_, kids i x hx⟩⟩
    have hlt := (List.getElem?_eq_some_iff.1 hx).1
    have hblk := hk g (h2 g rfl) (blockLt hg)
    have cell : ∀ j, j < 15 → w'.cell? ⟨g, 0 + i * 15 + j, none⟩ = (rowR x (A i).1 (A i).2.1 (A i).2.2)[j]? := fun j hj => by
      have e := cellsR_at A rs 0 i x j hx hj
      rw [Nat.zero_add] at e
      rw [World.cell?_of_block (a := ⟨g, 0 + i * 15 + j, none⟩) hblk, Nat.zero_add, h1.cellAt (i * 15 + j) (by omega)]
      exact e
    exact ⟨cell 0 (by omega), cell 1 (by omega), cell 2 (by omega), cell 3 (by omega), cell 4 (by omega), cell 5 (by omega), cell 6 (by omega), cell 7 (by omega), cell 8 (by omega), cell 9 (by omega), cell 10 (by omega), cell 11 (by omega), cell 12 (by omega), cell 13 (by omega), cell 14 (by omega)⟩
end Go.Proofs.YthmojcalllbclaaDoor
