/- Expressions that lie in a window of blocks; the cells that a list of them fills; copies of lists. -/
import Derived.Test.YtmgpacenooncjaaGreatDoorEx
import Derived.Test.YtmgpacenooncjaaGreatDoorOnl
namespace Go.Proofs.YtmgpacenooncjaaGreatDoor
open Go.ChangeShapes Go.WideShapes Go.ChangeAt Go.RowKit
/-- Between these blocks both worlds are the same. -/
def Keeps (lo hi : Nat) (w w' : World) : Prop := ∀ k, lo ≤ k → k < hi → w'.heap[k]? = w.heap[k]?
theorem Keeps.trans {lo hi : Nat} {a b c : World} (h : Keeps lo hi a b) (k : Keeps lo hi b c) : Keeps lo hi a c := fun i h1 h2 => (k i h1 h2).trans (h i h1 h2)
theorem Keeps.sub {lo hi lo' hi' : Nat} {a b : World} (h : Keeps lo hi a b) (h1 : lo ≤ lo') (h2 : hi' ≤ hi) : Keeps lo' hi' a b := fun i h3 h4 => h i (by omega) (by omega)
theorem Keeps.of_below {lo hi : Nat} {w w' : World} (h : Below w.heap.size w w') (hh : hi ≤ w.heap.size) : Keeps lo hi w w' := fun k _ h2 => h.block k (by omega)
theorem Keeps.of_grown {lo hi : Nat} {w w' : World} {row : Option Nat} (h : w.grownBy w' row) (hh : hi ≤ w.heap.size) (hr : ∀ g, row = some g → g < lo ∨ hi ≤ g) : Keeps lo hi w w' := fun k h1 h2 => h.block k (by omega) (fun e => by have := hr k e.symm; omega)
theorem Keeps.of_only {lo hi P : Nat} {w w' : World} (h : Only P w w') (hh : hi ≤ w.heap.size) (hr : P < lo ∨ hi ≤ P) : Keeps lo hi w w' := Keeps.of_grown h hh (fun g e => by injection e with e; omega)
/-- An expression that lies between these blocks. -/
def IsExW (lo hi : Nat) (w : World) (v : Value) (e : Ex) : Prop := ∀ w', Keeps lo hi w w' → IsEx w' v e
theorem IsExW.self {lo hi : Nat} {w : World} {v : Value} {e : Ex} (h : IsExW lo hi w v e) : IsEx w v e := h w (fun _ _ _ => rfl)
theorem IsExW.carry {lo hi : Nat} {w w' : World} {v : Value} {e : Ex} (h : IsExW lo hi w v e) (hk : Keeps lo hi w w') : IsExW lo hi w' v e := fun _ hk' => h _ (hk.trans hk')
theorem IsExW.wide {lo hi lo' hi' : Nat} {w : World} {v : Value} {e : Ex} (h : IsExW lo hi w v e) (h1 : lo' ≤ lo) (h2 : hi ≤ hi') : IsExW lo' hi' w v e := fun _ hk => h _ (hk.sub h1 h2)
theorem IsExW.put {lo hi b j : Nat} {w : World} {v : Value} {e : Ex} (h : IsExW lo hi w v e) (hb : b < lo) (u : Value) : IsExW lo hi (w.setCell ⟨b, j, none⟩ u) v e :=
  h.carry (fun k hk1 _ => Below.heap_setCell w ⟨b, j, none⟩ u k (fun e => by simp at e; omega))
/-- The cells that expressions fill, their lists these. -/
def cellsX (l : List Ex) (A : Nat → Value) : List Value := (l.zipIdx).flatMap fun p => [.int .i64 p.1.k, .int .i64 p.1.n, .string (bs p.1.s), A p.2]
theorem cellsX_snoc (l : List Ex) (A : Nat → Value) (x : Ex) : cellsX (l ++ [x]) A = cellsX l A ++ [.int .i64 x.k, .int .i64 x.n, .string (bs x.s), A l.length] := by
  unfold cellsX; rw [List.zipIdx_append]; simp
theorem cellsX_len (l : List Ex) (A : Nat → Value) : (cellsX l A).length = l.length * 4 := by
  have : ∀ (l : List Ex) (m : Nat), ((l.zipIdx m).flatMap fun p => [Value.int .i64 p.1.k, .int .i64 p.1.n, .string (bs p.1.s), A p.2]).length = l.length * 4 := by
    intro l
    induction l with
    | nil => intro m; rfl
    | cons x l ih => intro m; rw [List.zipIdx_cons, List.flatMap_cons, List.length_append, ih]; simp; omega
  exact this l 0
theorem cellsX_congr (l : List Ex) (A A' : Nat → Value) (h : ∀ j, j < l.length → A j = A' j) : cellsX l A = cellsX l A' := by
  have gen : ∀ (l : List Ex) (m : Nat), (∀ j, j < l.length → A (m + j) = A' (m + j)) → ((l.zipIdx m).flatMap fun p => [Value.int .i64 p.1.k, .int .i64 p.1.n, .string (bs p.1.s), A p.2]) = ((l.zipIdx m).flatMap fun p => [Value.int .i64 p.1.k, .int .i64 p.1.n, .string (bs p.1.s), A' p.2]) := by
    intro l
    induction l with
    | nil => intro m _; rfl
    | cons x l ih =>
      intro m h
      have h0 := h 0 (by simp)
      rw [Nat.add_zero] at h0
      rw [List.zipIdx_cons, List.flatMap_cons, List.flatMap_cons, ih (m + 1) (fun j hj => by have := h (j + 1) (by simpa using hj); rw [show m + 1 + j = m + (j + 1) by omega]; exact this), h0]
  exact gen l 0 (fun j hj => by rw [Nat.zero_add]; exact h j hj)
theorem cellsX_at (A : Nat → Value) : ∀ (l : List Ex) (i : Nat) (x : Ex), l[i]? = some x → (cellsX l A)[i * 4]? = some (.int .i64 x.k) ∧ (cellsX l A)[i * 4 + 1]? = some (.int .i64 x.n) ∧ (cellsX l A)[i * 4 + 2]? = some (.string (bs x.s)) ∧ (cellsX l A)[i * 4 + 3]? = some (A i) := by
  have gen : ∀ (l : List Ex) (m i : Nat) (x : Ex), l[i]? = some x → ((l.zipIdx m).flatMap fun p => [Value.int .i64 p.1.k, .int .i64 p.1.n, .string (bs p.1.s), A p.2])[i * 4]? = some (.int .i64 x.k) ∧ ((l.zipIdx m).flatMap fun p => [Value.int .i64 p.1.k, .int .i64 p.1.n, .string (bs p.1.s), A p.2])[i * 4 + 1]? = some (.int .i64 x.n) ∧ ((l.zipIdx m).flatMap fun p => [Value.int .i64 p.1.k, .int .i64 p.1.n, .string (bs p.1.s), A p.2])[i * 4 + 2]? = some (.string (bs x.s)) ∧ ((l.zipIdx m).flatMap fun p => [Value.int .i64 p.1.k, .int .i64 p.1.n, .string (bs p.1.s), A p.2])[i * 4 + 3]? = some (A (m + i)) := by
    intro l
    induction l with
    | nil => intro m i x hx; simp at hx
    | cons y l ih =>
      intro m i x hx
      cases i with
      | zero =>
        simp at hx
        subst hx
        simp [List.zipIdx_cons]
      | succ i =>
        have h := ih (m + 1) i x (by simpa using hx)
        rw [List.zipIdx_cons, List.flatMap_cons]
        rw [show (i + 1) * 4 = i * 4 + 4 by omega]
        have e : m + 1 + i = m + (i + 1) := by omega
        rw [e] at h
        refine ⟨?_, ?_, ?_, ?_⟩
        · rw [List.getElem?_append_right (by simp)]; simpa using h.1
        · rw [List.getElem?_append_right (by simp)]; simpa [show i * 4 + 4 + 1 - 4 = i * 4 + 1 by omega] using h.2.1
        · rw [List.getElem?_append_right (by simp)]; simpa [show i * 4 + 4 + 2 - 4 = i * 4 + 2 by omega] using h.2.2.1
        · rw [List.getElem?_append_right (by simp)]; simpa [show i * 4 + 4 + 3 - 4 = i * 4 + 3 by omega] using h.2.2.2
  intro l i x hx
  have := gen l 0 i x hx
  rw [Nat.zero_add] at this
  exact this
theorem cellsX_one (l : List Ex) (A : Nat → Value) (h : ∀ i x, l[i]? = some x → (A i).oneCell' = true) : ∀ u ∈ cellsX l A, u.oneCell' = true := by
  intro u hu
  obtain ⟨j, hj⟩ := List.getElem?_of_mem hu
  have hlt := (List.getElem?_eq_some_iff.1 hj).1
  rw [cellsX_len] at hlt
  have hi : j / 4 < l.length := by omega
  obtain ⟨x, hx⟩ : ∃ x, l[j / 4]? = some x := ⟨l[j / 4], by simp⟩
  obtain ⟨c0, c1, c2, c3⟩ := cellsX_at A l _ x hx
  have hj4 : j = j / 4 * 4 ∨ j = j / 4 * 4 + 1 ∨ j = j / 4 * 4 + 2 ∨ j = j / 4 * 4 + 3 := by omega
  rcases hj4 with e | e | e | e <;> rw [e] at hj
  · rw [c0, Option.some.injEq] at hj; subst hj; rfl
  · rw [c1, Option.some.injEq] at hj; subst hj; rfl
  · rw [c2, Option.some.injEq] at hj; subst hj; rfl
  · rw [c3, Option.some.injEq] at hj; subst hj; exact h _ x hx
theorem eqlNil {P : Program} (w : World) (t e : TypeId) (a : Option Addr) (l c : Nat) (h : P.underlying t = some (.slice e)) : (binOp .eql t (.slice a l c) (.slice none 0 0)).run P w = .ok (.bool a.isNone) w := by
  simp only [binOp]
  simp [run_equal_slice_nil w t e a l c h]
theorem infoExpr : (Tryz.prog.info? 56).map (fun i => (i.zero, i.size, i.bytes)) = some (some (.agg #[.int .i64 0, .int .i64 0, .string ⟨#[]⟩, .slice none 0 0]), 4, 56) := by kernel_rfl
end Go.Proofs.YtmgpacenooncjaaGreatDoor
