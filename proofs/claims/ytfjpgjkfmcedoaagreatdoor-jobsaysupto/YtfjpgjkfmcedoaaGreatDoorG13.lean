/- Put together of RdX, Lx6. -/
import Derived.Test.YtfjpgjkfmcedoaaGreatDoorG12
import Derived.Lib.SmallJoins
import Derived.Deep.AppendLies
import Derived.OneCell
import Derived.Deep.RegionLaw
import Derived.Test.YtfjpgjkfmcedoaaGreatDoorLx5
/- Reading an expression: what stands where meanwhile. -/
namespace Go.Proofs.YtfjpgjkfmcedoaaGreatDoor
open Go.ChangeShapes Go.WideShapes Go.ChangeAt Go.RowKit
/-- While an expression is read. -/
structure XSt (P B : Nat) (r : List UInt8) (k n : Int) (t : List UInt8) (sv : Value) (w wr : World) : Prop where
  rd : RdAt P r wr
  res : wr.heap[w.heap.size]? = some (.cells #[.int .i64 0, .int .i64 0, .string ⟨#[]⟩, .slice none 0 0] 44 (0, 0))
  ex : wr.heap[B]? = some (.cells #[.int .i64 k, .int .i64 n, .string (bs t), sv] 44 (0, 0))
  only : Only P w wr
  ltP : P < w.heap.size
  ltB : w.heap.size < B
theorem blockLt {w : World} {g : Nat} {o : Obj} (h : w.heap[g]? = some o) : g < w.heap.size := (Array.getElem?_eq_some_iff.1 h).1
theorem XSt.read {P B : Nat} {r r' t : List UInt8} {k n : Int} {sv : Value} {w wr w' : World} (h : XSt P B r k n t sv w wr) (hr : RdAt P r' w') (ho : Only P wr w') : XSt P B r' k n t sv w w' := by
  have h1 := h.ltP
  have h2 := h.ltB
  exact ⟨hr, (ho.block _ (blockLt h.res) (by simp; omega)).trans h.res, (ho.block _ (blockLt h.ex) (by simp; omega)).trans h.ex, h.only.trans ho, h1, h2⟩
theorem XSt.lower {P B : Nat} {r t : List UInt8} {k n : Int} {sv : Value} {w wr w' : World} (h : XSt P B r k n t sv w wr) (hb : Below wr.heap.size wr w') : XSt P B r k n t sv w w' :=
  h.read (h.rd.lower hb) (Only.of_below hb)
theorem XSt.drew {P B : Nat} {r t : List UInt8} {k n : Int} {sv : Value} {w wr : World} (h : XSt P B r k n t sv w wr) : XSt P B r k n t sv w wr.drew := ⟨h.rd, h.res, h.ex, h.only.drew, h.ltP, h.ltB⟩
theorem only_far {P : Nat} {w wr w' : World} (h : Only P w wr) (hs : wr.heap.size ≤ w'.heap.size) (ho : w'.os = wr.os) (ht : w'.tape = wr.tape) (hp : w'.output = wr.output) (hk : ∀ k, k < w.heap.size → w'.heap[k]? = wr.heap[k]?) : Only P w w' :=
  ⟨ho.trans h.os, ht.trans h.tape, hp.trans h.output, Nat.le_trans h.size hs, fun k hk1 hne => (hk k hk1).trans (h.block k hk1 hne)⟩
theorem only_setCell {P B j : Nat} {w wr : World} (h : Only P w wr) (hB : w.heap.size ≤ B) (v : Value) : Only P w (wr.setCell ⟨B, j, none⟩ v) :=
  only_far h (by simp) rfl rfl rfl (fun k hk => Below.heap_setCell wr ⟨B, j, none⟩ v k (fun e => by rw [e] at hk; simp at hk; omega))
theorem XSt.put {P B j : Nat} {r t : List UInt8} {k n : Int} {sv v : Value} {w wr : World} {k' n' : Int} {t' : List UInt8} {sv' : Value} (h : XSt P B r k n t sv w wr)
    (hc : #[.int .i64 k, .int .i64 n, .string (bs t), sv].setIfInBounds j v = #[.int .i64 k', .int .i64 n', .string (bs t'), sv']) : XSt P B r k' n' t' sv' w (wr.setCell ⟨B, j, none⟩ v) := by
  have h1 := h.ltP
  have h2 := h.ltB
  refine ⟨?_, ?_, ?_, only_setCell h.only (by omega) v, h1, h2⟩
  · exact (Below.heap_setCell wr ⟨B, j, none⟩ v P (fun e => by rw [e] at h1; simp at h1; omega)).trans h.rd
  · exact (Below.heap_setCell wr ⟨B, j, none⟩ v _ (fun e => by simp at e; omega)).trans h.res
  · rw [← hc]; exact heap_set h.ex v
theorem XSt.grown {P B : Nat} {r t : List UInt8} {k n : Int} {sv : Value} {w wr w' : World} {row : Option Nat} (h : XSt P B r k n t sv w wr) (hg : wr.grownBy w' row) (hr : ∀ g, row = some g → B < g) : XSt P B r k n t sv w w' := by
  have h1 := h.ltP
  have h2 := h.ltB
  have hne : ∀ b, b ≤ B → some b ≠ row := fun b hb e => by have := hr b e.symm; omega
  refine ⟨(hg.block P h.rd.lt (hne P (by omega))).trans h.rd, (hg.block _ (blockLt h.res) (hne _ (by omega))).trans h.res, (hg.block _ (blockLt h.ex) (hne _ (Nat.le_refl _))).trans h.ex, ?_, h1, h2⟩
  exact only_far h.only hg.size hg.os hg.tape hg.output (fun k hk => hg.block k (Nat.lt_of_lt_of_le hk h.only.size) (hne k (by omega)))
theorem owns_unique {w : World} {b b' : Nat} {e : TypeId} {size n : Nat} {v : Value} {xs ys : List Value} (h : w.ownsRow b e size v n xs) (k : w.ownsRow b' e size v n ys) : xs = ys := by
  rcases h.2 with ⟨rfl, h0⟩ | ⟨g, cap, cur, rfl, _, hg, _, _, _, hx⟩
  · have a := h.1
    have c := k.1
    rw [h0] at a c
    have e1 : xs = [] := List.eq_nil_of_length_eq_zero (by simpa using a)
    have e2 : ys = [] := List.eq_nil_of_length_eq_zero (by simpa using c)
    rw [e1, e2]
  · rcases k.2 with ⟨e1, _⟩ | ⟨g', cap', cur', e1, _, hg', _, _, _, hx'⟩
    · cases e1
    · injection e1 with e1 e2 e3
      injection e1 with e1
      injection e1 with e1
      subst e1
      rw [hg] at hg'
      injection hg' with hg'
      injection hg' with hg'
      subst hg'
      rw [← hx, ← hx']
theorem XSt.c (i : Nat) {P B : Nat} {r t : List UInt8} {k n : Int} {sv : Value} {w wr : World} (h : XSt P B r k n t sv w wr) : wr.cell? ⟨B, i, none⟩ = #[.int .i64 k, .int .i64 n, .string (bs t), sv][i]? := cell_of_row wr B i _ _ (0, 0) h.ex
theorem XSt.f (i : Nat) {P B : Nat} {r t : List UInt8} {k n : Int} {sv : Value} {w wr : World} (h : XSt P B r k n t sv w wr) : wr.frozen? ⟨B, i, none⟩ = false := frozen_of_row wr B i _ _ h.ex
/-- Those that have been read, as they lie. -/
def cellsE (l : List Ex) (A : Nat → Value) : List Value := (l.zipIdx).flatMap fun p => [.int .i64 p.1.k, .int .i64 p.1.n, .string (bs p.1.s), A p.2]
theorem cellsE_snoc (l : List Ex) (A : Nat → Value) (x : Ex) : cellsE (l ++ [x]) A = cellsE l A ++ [.int .i64 x.k, .int .i64 x.n, .string (bs x.s), A l.length] := by
  unfold cellsE; rw [List.zipIdx_append]; simp
theorem cellsE_len (l : List Ex) (A : Nat → Value) : (cellsE l A).length = l.length * 4 := by
  have : ∀ (l : List Ex) (m : Nat), ((l.zipIdx m).flatMap fun p => [Value.int .i64 p.1.k, .int .i64 p.1.n, .string (bs p.1.s), A p.2]).length = l.length * 4 := by
    intro l
    induction l with
    | nil => intro m; rfl
    | cons x l ih => intro m; rw [List.zipIdx_cons, List.flatMap_cons, List.length_append, ih]; simp; omega
  exact this l 0
theorem cellsE_congr (l : List Ex) (A A' : Nat → Value) (h : ∀ j, j < l.length → A j = A' j) : cellsE l A = cellsE l A' := by
  have gen : ∀ (l : List Ex) (m : Nat), (∀ j, j < l.length → A (m + j) = A' (m + j)) → ((l.zipIdx m).flatMap fun p => [Value.int .i64 p.1.k, .int .i64 p.1.n, .string (bs p.1.s), A p.2]) = ((l.zipIdx m).flatMap fun p => [Value.int .i64 p.1.k, .int .i64 p.1.n, .string (bs p.1.s), A' p.2]) := by
    intro l
    induction l with
    | nil => intro m _; rfl
    | cons x l ih =>
      intro m h
      have h0 := h 0 (by simp)
      rw [Nat.add_zero] at h0
      rw [List.zipIdx_cons, List.flatMap_cons, List.flatMap_cons, ih (m + 1) (fun j hj => by have := h (j + 1) (by simpa using hj); rw [show m + 1 + j = m + (j + 1) by omega]; exact this), h0]
  exact gen l 0 (fun j hj => by rw [Nat.zero_add]; exact h j hj)
theorem cellsE_at (A : Nat → Value) : ∀ (l : List Ex) (i : Nat) (x : Ex), l[i]? = some x → (cellsE l A)[i * 4]? = some (.int .i64 x.k) ∧ (cellsE l A)[i * 4 + 1]? = some (.int .i64 x.n) ∧ (cellsE l A)[i * 4 + 2]? = some (.string (bs x.s)) ∧ (cellsE l A)[i * 4 + 3]? = some (A i) := by
  have gen : ∀ (l : List Ex) (m i : Nat) (x : Ex), l[i]? = some x → ((l.zipIdx m).flatMap fun p => [Value.int .i64 p.1.k, .int .i64 p.1.n, .string (bs p.1.s), A p.2])[i * 4]? = some (.int .i64 x.k) ∧ ((l.zipIdx m).flatMap fun p => [Value.int .i64 p.1.k, .int .i64 p.1.n, .string (bs p.1.s), A p.2])[i * 4 + 1]? = some (.int .i64 x.n) ∧ ((l.zipIdx m).flatMap fun p => [Value.int .i64 p.1.k, .int .i64 p.1.n, .string (bs p.1.s), A p.2])[i * 4 + 2]? = some (.string (bs x.s)) ∧ ((l.zipIdx m).flatMap fun p => [Value.int .i64 p.1.k, .int .i64 p.1.n, .string (bs p.1.s), A p.2])[i * 4 + 3]? = some (A (m + i)) := by
    intro l
    induction l with
    | nil => intro m i x hx; simp at hx
    | cons y l ih =>
      intro m i x hx
      cases i with
      | zero =>
        simp at hx
        subst hx
        simp [List.zipIdx_cons]
      | succ i =>
        have h := ih (m + 1) i x (by simpa using hx)
        rw [List.zipIdx_cons, List.flatMap_cons]
        rw [show (i + 1) * 4 = i * 4 + 4 by omega]
        have e : m + 1 + i = m + (i + 1) := by omega
        rw [e] at h
        refine ⟨?_, ?_, ?_, ?_⟩
        · rw [List.getElem?_append_right (by simp)]; simpa using h.1
        · rw [List.getElem?_append_right (by simp)]; simpa [show i * 4 + 4 + 1 - 4 = i * 4 + 1 by omega] using h.2.1
        · rw [List.getElem?_append_right (by simp)]; simpa [show i * 4 + 4 + 2 - 4 = i * 4 + 2 by omega] using h.2.2.1
        · rw [List.getElem?_append_right (by simp)]; simpa [show i * 4 + 4 + 3 - 4 = i * 4 + 3 by omega] using h.2.2.2
  intro l i x hx
  have := gen l 0 i x hx
  rw [Nat.zero_add] at this
  exact this
/-- The row of those that have been read; where each lies. -/
def KidsAt (B : Nat) (w wr : World) (sv : Value) (ks : List Ex) : Prop :=
  ∃ (A : Nat → Value) (lo hi : Nat → Nat), wr.ownsRow w.heap.size 44 4 sv ks.length (cellsE ks A) ∧ (∀ g, sv.ownBlock = some g → B < g) ∧
    ∀ j x, ks[j]? = some x → B < lo j ∧ hi j ≤ wr.heap.size ∧ (∀ g, sv.ownBlock = some g → g < lo j ∨ hi j ≤ g) ∧ IsExW (lo j) (hi j) wr (A j) x
theorem KidsAt.zero (B : Nat) (w wr : World) : KidsAt B w wr (.slice none 0 0) [] :=
  ⟨fun _ => undef, fun _ => 0, fun _ => 0, World.ownsRow_nil _ _ _ _, fun g h => by simp [Value.ownBlock] at h, fun j x h => by simp at h⟩
theorem KidsAt.only {P B : Nat} {w wr w' : World} {sv : Value} {ks : List Ex} (h : KidsAt B w wr sv ks) (ho : Only P wr w') (hP : P < w.heap.size) (hB : w.heap.size < B) : KidsAt B w w' sv ks := by
  obtain ⟨A, lo, hi, h1, h2, h3⟩ := h
  refine ⟨A, lo, hi, h1.kept ho ?_, h2, fun j x hx => ?_⟩
  · cases hv : sv.ownBlock with
    | none => exact .inl rfl
    | some g => right; have := h2 g hv; simp; omega
  · obtain ⟨a, b, c, d⟩ := h3 j x hx
    exact ⟨a, Nat.le_trans b ho.size, c, d.carry (Keeps.of_only ho b (.inl (by omega)))⟩
theorem KidsAt.put {B j : Nat} {w wr : World} {sv v : Value} {ks : List Ex} (h : KidsAt B w wr sv ks) : KidsAt B w (wr.setCell ⟨B, j, none⟩ v) sv ks := by
  obtain ⟨A, lo, hi, h1, h2, h3⟩ := h
  refine ⟨A, lo, hi, ownsRow_setCell_other h1 (fun e => by have := h2 _ e; simp at this) v, h2, fun j' x hx => ?_⟩
  obtain ⟨a, b, c, d⟩ := h3 j' x hx
  exact ⟨a, by simpa using b, c, d.carry (fun k hk1 hk2 => Below.heap_setCell wr ⟨B, j, none⟩ v k (fun e => by simp at e; omega))⟩
theorem KidsAt.drew {B : Nat} {w wr : World} {sv : Value} {ks : List Ex} (h : KidsAt B w wr sv ks) : KidsAt B w wr.drew sv ks := h
/-- One more: read in w1, appended in w2, which comes to be w3. -/
theorem KidsAt.more {B g cap H : Nat} {w w1 w2 w3 : World} {sv xv : Value} {ks : List Ex} {x : Ex} (h : KidsAt B w w1 sv ks) (hB : B < w1.heap.size)
    (hk : KidsAt B w w2 sv ks) (hx : IsExW w1.heap.size H w2 xv x) (hH : H ≤ w2.heap.size) (hle : w1.heap.size ≤ H)
    (ho : ∀ A, w2.ownsRow w.heap.size 44 4 sv ks.length (cellsE ks A) → w3.ownsRow w.heap.size 44 4 (.slice (some ⟨g, 0, none⟩) (ks.length + 1) cap) (ks.length + 1) (cellsE ks A ++ [.int .i64 x.k, .int .i64 x.n, .string (bs x.s), xv]))
    (hg : w2.grownBy w3 sv.ownBlock) (hat : sv.ownBlock = some g ∨ g = w2.heap.size) : KidsAt B w w3 (.slice (some ⟨g, 0, none⟩) (ks.length + 1) cap) (ks ++ [x]) := by
  obtain ⟨A0, lo0, hi0, o0, b0, _⟩ := h
  obtain ⟨A, lo, hi, h1, h2, h3⟩ := hk
  have hlt : ∀ g', sv.ownBlock = some g' → g' < w1.heap.size := fun g' e => (o0.lt g' e).2
  refine ⟨fun j => if j = ks.length then xv else A j, fun j => if j = ks.length then w1.heap.size else lo j, fun j => if j = ks.length then H else hi j, ?_, ?_, ?_⟩
  · have e := ho A h1
    rw [cellsE_snoc, List.length_append, List.length_singleton]
    simp only [if_true]
    rw [cellsE_congr ks (fun j => if j = ks.length then xv else A j) A (fun j hj => if_neg (by omega))]
    exact e
  · intro g' e
    have e' : g' = g := by simpa [Value.ownBlock] using e.symm
    subst e'
    rcases hat with hat | hat
    · exact h2 _ hat
    · omega
  · intro j y hy
    by_cases hj : j < ks.length
    · rw [List.getElem?_append_left hj] at hy
      obtain ⟨a, b, c, d⟩ := h3 j y hy
      have hne : ¬ j = ks.length := by omega
      simp only [if_neg hne]
      refine ⟨a, Nat.le_trans b hg.size, ?_, d.carry (Keeps.of_grown hg b c)⟩
      intro g' e
      have e' : g' = g := by simpa [Value.ownBlock] using e.symm
      subst e'
      rcases hat with hat | hat
      · exact c _ hat
      · right; omega
    · have hlen : j = ks.length := by
        have := (List.getElem?_eq_some_iff.1 hy).1
        simp at this; omega
      subst hlen
      simp only [List.getElem?_concat_length, Option.some.injEq] at hy
      subst hy
      simp only [if_true]
      refine ⟨hB, Nat.le_trans hH hg.size, ?_, hx.carry (Keeps.of_grown hg hH (fun g' e => .inl (hlt g' e)))⟩
      intro g' e
      have e' : g' = g := by simpa [Value.ownBlock] using e.symm
      subst e'
      rcases hat with hat | hat
      · exact .inl (hlt _ hat)
      · right; omega
/-- What has been read is an expression. -/
theorem KidsAt.done {B : Nat} {w wr : World} {sv : Value} {ks : List Ex} (h : KidsAt B w wr sv ks) (k n : Int) (t : List UInt8) : IsExW (B + 1) wr.heap.size wr sv (.mk k n t ks) := by
  obtain ⟨A, lo, hi, h1, h2, h3⟩ := h
  intro w' hk
  have kids : ∀ i x, ks[i]? = some x → IsEx w' (A i) x := fun i x hx => by
    obtain ⟨a, b, _, d⟩ := h3 i x hx
    exact d w' (hk.sub (by omega) b)
  rcases h1.2 with ⟨rfl, h0⟩ | ⟨g, cap, cur, rfl, _, hg, hr⟩
  · have e : ks = [] := List.eq_nil_of_length_eq_zero h0
    subst e
    exact IsEx.mk k n t none 0 [] 0 0 A (fun h => by simp at h) (fun i x hx => by simp at hx) (fun i x hx => by simp at hx)
  · refine IsEx.mk k n t (some ⟨g, 0, none⟩) cap ks g 0 A (fun _ => rfl) (fun i x hx => ?_) kids
    have hlt := (List.getElem?_eq_some_iff.1 hx).1
    have hblk := hk g (h2 g rfl) (blockLt hg)
    have cell : ∀ j, j < ks.length * 4 → w'.cell? ⟨g, j, none⟩ = (cellsE ks A)[j]? := fun j hj => by
      rw [World.cell?_of_block (a := ⟨g, j, none⟩) hblk, h1.cellAt j hj]
    obtain ⟨c0, c1, c2, c3⟩ := cellsE_at A ks i x hx
    simp only [Nat.zero_add]
    exact ⟨(cell _ (by omega)).trans c0, (cell _ (by omega)).trans c1, (cell _ (by omega)).trans c2, (cell _ (by omega)).trans c3⟩
end Go.Proofs.YtfjpgjkfmcedoaaGreatDoor
/- The document's lexer, an expression: what stands where meanwhile. -/
namespace Go.Proofs.YtfjpgjkfmcedoaaGreatDoor
open Go.ChangeShapes Go.WideShapes Go.ChangeAt Go.RowKit
/-- While an expression is taken. -/
structure LSt (P B : Nat) (s : List UInt8) (a : Nat) (b : Bool) (k n : Int) (t : List UInt8) (sv : Value) (w wr : World) : Prop where
  lx : Blk wr P 64 (lexC s a b)
  res : wr.heap[w.heap.size]? = some (.cells #[.int .i64 0, .int .i64 0, .string ⟨#[]⟩, .slice none 0 0] 44 (0, 0))
  ex : wr.heap[B]? = some (.cells #[.int .i64 k, .int .i64 n, .string (bs t), sv] 44 (0, 0))
  only : Only P w wr
  ltP : P < w.heap.size
  ltB : w.heap.size < B
theorem LSt.read {P B a a' : Nat} {s t : List UInt8} {b b' : Bool} {k n : Int} {sv : Value} {w wr w' : World} (h : LSt P B s a b k n t sv w wr) (hr : Blk w' P 64 (lexC s a' b')) (ho : Only P wr w') : LSt P B s a' b' k n t sv w w' := by
  have h1 := h.ltP
  have h2 := h.ltB
  exact ⟨hr, (ho.block _ (blockLt h.res) (by simp; omega)).trans h.res, (ho.block _ (blockLt h.ex) (by simp; omega)).trans h.ex, h.only.trans ho, h1, h2⟩
theorem LSt.lower {P B a : Nat} {s t : List UInt8} {b : Bool} {k n : Int} {sv : Value} {w wr w' : World} (h : LSt P B s a b k n t sv w wr) (hb : Below wr.heap.size wr w') : LSt P B s a b k n t sv w w' :=
  h.read (h.lx.blw hb) (Only.of_below hb)
theorem LSt.drew {P B a : Nat} {s t : List UInt8} {b : Bool} {k n : Int} {sv : Value} {w wr : World} (h : LSt P B s a b k n t sv w wr) : LSt P B s a b k n t sv w wr.drew := ⟨h.lx, h.res, h.ex, h.only.drew, h.ltP, h.ltB⟩
theorem LSt.put {P B j a : Nat} {s t : List UInt8} {b : Bool} {k n : Int} {sv v : Value} {w wr : World} {k' n' : Int} {t' : List UInt8} {sv' : Value} (h : LSt P B s a b k n t sv w wr)
    (hc : #[.int .i64 k, .int .i64 n, .string (bs t), sv].setIfInBounds j v = #[.int .i64 k', .int .i64 n', .string (bs t'), sv']) : LSt P B s a b k' n' t' sv' w (wr.setCell ⟨B, j, none⟩ v) := by
  have h1 := h.ltP
  have h2 := h.ltB
  refine ⟨(Below.heap_setCell wr ⟨B, j, none⟩ v P (fun e => by rw [e] at h1; simp at h1; omega)).trans h.lx, ?_, ?_, only_setCell h.only (by omega) v, h1, h2⟩
  · exact (Below.heap_setCell wr ⟨B, j, none⟩ v _ (fun e => by simp at e; omega)).trans h.res
  · rw [← hc]; exact heap_set h.ex v
theorem LSt.grown {P B a : Nat} {s t : List UInt8} {b : Bool} {k n : Int} {sv : Value} {w wr w' : World} {row : Option Nat} (h : LSt P B s a b k n t sv w wr) (hg : wr.grownBy w' row) (hr : ∀ g, row = some g → B < g) : LSt P B s a b k n t sv w w' := by
  have h1 := h.ltP
  have h2 := h.ltB
  have hne : ∀ b, b ≤ B → some b ≠ row := fun b hb e => by have := hr b e.symm; omega
  refine ⟨(hg.block P h.lx.lt (hne P (by omega))).trans h.lx, (hg.block _ (blockLt h.res) (hne _ (by omega))).trans h.res, (hg.block _ (blockLt h.ex) (hne _ (Nat.le_refl _))).trans h.ex, ?_, h1, h2⟩
  exact only_far h.only hg.size hg.os hg.tape hg.output (fun k hk => hg.block k (Nat.lt_of_lt_of_le hk h.only.size) (hne k (by omega)))
theorem LSt.c (i : Nat) {P B a : Nat} {s t : List UInt8} {b : Bool} {k n : Int} {sv : Value} {w wr : World} (h : LSt P B s a b k n t sv w wr) : wr.cell? ⟨B, i, none⟩ = #[.int .i64 k, .int .i64 n, .string (bs t), sv][i]? := cell_of_row wr B i _ _ (0, 0) h.ex
theorem LSt.f (i : Nat) {P B a : Nat} {s t : List UInt8} {b : Bool} {k n : Int} {sv : Value} {w wr : World} (h : LSt P B s a b k n t sv w wr) : wr.frozen? ⟨B, i, none⟩ = false := frozen_of_row wr B i _ _ h.ex
/-- What the lexer's expr gives. -/
def LexSaid (P : Nat) (s : List UInt8) (a d : Nat) (w : World) (r : Ending) (w' : World) : Prop :=
  ∃ e a' b' sv, r = .returned (e.val sv) ∧ IsExW w.heap.size w'.heap.size w' sv e ∧ LexE s a d e a' b' ∧ LxAt P s a' b' w w'
end Go.Proofs.YtfjpgjkfmcedoaaGreatDoor
