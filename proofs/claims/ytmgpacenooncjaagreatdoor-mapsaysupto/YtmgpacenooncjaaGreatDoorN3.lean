/- Mapper: copyJob. Written by tpl/mk_n3.py. -/
import Derived.Test.YtmgpacenooncjaaGreatDoorN2
import Derived.Test.YtmgpacenooncjaaGreatDoorJbC
namespace Go.Proofs.YtmgpacenooncjaaGreatDoor
open Go.ChangeShapes Go.WideShapes Go.ChangeAt Go.RowKit
/-- The cells that rules fill, their lists these. -/
def cellsU (l : List Rl) (TI TK TV : Nat → Value) : List Value := l.zipIdx.flatMap fun p => [.bool p.1.each, .int .i64 p.1.when, .int .i64 p.1.iff.k, .int .i64 p.1.iff.n, .string (bs p.1.iff.s), TI p.2, .string (bs p.1.s), .int .i64 p.1.key.k, .int .i64 p.1.key.n, .string (bs p.1.key.s), TK p.2, .int .i64 p.1.val.k, .int .i64 p.1.val.n, .string (bs p.1.val.s), TV p.2]
theorem cellsU_len (l : List Rl) (TI TK TV : Nat → Value) : (cellsU l TI TK TV).length = l.length * 15 := by
  have : ∀ (l : List Rl) (m : Nat), ((l.zipIdx m).flatMap fun p => [.bool p.1.each, .int .i64 p.1.when, .int .i64 p.1.iff.k, .int .i64 p.1.iff.n, .string (bs p.1.iff.s), TI p.2, .string (bs p.1.s), .int .i64 p.1.key.k, .int .i64 p.1.key.n, .string (bs p.1.key.s), TK p.2, .int .i64 p.1.val.k, .int .i64 p.1.val.n, .string (bs p.1.val.s), TV p.2]).length = l.length * 15 := by
    intro l
    induction l with
    | nil => intro m; rfl
    | cons x l ih => intro m; rw [List.zipIdx_cons, List.flatMap_cons, List.length_append, ih]; simp; omega
  exact this l 0
/-- One rule's cells. -/
def cells1 (x : Rl) (a b c : Value) : List Value := [.bool x.each, .int .i64 x.when, .int .i64 x.iff.k, .int .i64 x.iff.n, .string (bs x.iff.s), a, .string (bs x.s), .int .i64 x.key.k, .int .i64 x.key.n, .string (bs x.key.s), b, .int .i64 x.val.k, .int .i64 x.val.n, .string (bs x.val.s), c]
theorem cellsU_part (TI TK TV : Nat → Value) : ∀ (l : List Rl) (i : Nat) (x : Rl), l[i]? = some x → ∀ j, j < 15 → (cellsU l TI TK TV)[i * 15 + j]? = (cells1 x (TI i) (TK i) (TV i))[j]? := by
  have gen : ∀ (l : List Rl) (m i : Nat) (x : Rl), l[i]? = some x → ∀ j, j < 15 → ((l.zipIdx m).flatMap fun p => [.bool p.1.each, .int .i64 p.1.when, .int .i64 p.1.iff.k, .int .i64 p.1.iff.n, .string (bs p.1.iff.s), TI p.2, .string (bs p.1.s), .int .i64 p.1.key.k, .int .i64 p.1.key.n, .string (bs p.1.key.s), TK p.2, .int .i64 p.1.val.k, .int .i64 p.1.val.n, .string (bs p.1.val.s), TV p.2])[i * 15 + j]? = (cells1 x (TI (m + i)) (TK (m + i)) (TV (m + i)))[j]? := by
    intro l
    induction l with
    | nil => intro m i x hx; simp at hx
    | cons y l ih =>
      intro m i x hx j hj
      cases i with
      | zero =>
        simp only [List.getElem?_cons_zero, Option.some.injEq] at hx
        subst hx
        rw [List.zipIdx_cons, List.flatMap_cons, List.getElem?_append_left (by simp; omega)]
        simp [cells1]
      | succ i =>
        have h := ih (m + 1) i x (by simpa using hx) j hj
        rw [List.zipIdx_cons, List.flatMap_cons, List.getElem?_append_right (by simp; omega)]
        rw [show m + 1 + i = m + (i + 1) by omega] at h
        rw [← h]
        congr 1
        simp; omega
  intro l i x hx j hj
  have := gen l 0 i x hx j hj
  rw [Nat.zero_add] at this
  exact this
theorem cellsU_at (TI TK TV : Nat → Value) (l : List Rl) (i : Nat) (x : Rl) (hx : l[i]? = some x) : (cellsU l TI TK TV)[i * 15]? = some (.bool x.each) ∧ (cellsU l TI TK TV)[i * 15 + 1]? = some (.int .i64 x.when) ∧ (cellsU l TI TK TV)[i * 15 + 2]? = some (.int .i64 x.iff.k) ∧ (cellsU l TI TK TV)[i * 15 + 3]? = some (.int .i64 x.iff.n) ∧ (cellsU l TI TK TV)[i * 15 + 4]? = some (.string (bs x.iff.s)) ∧ (cellsU l TI TK TV)[i * 15 + 5]? = some (TI i) ∧ (cellsU l TI TK TV)[i * 15 + 6]? = some (.string (bs x.s)) ∧ (cellsU l TI TK TV)[i * 15 + 7]? = some (.int .i64 x.key.k) ∧ (cellsU l TI TK TV)[i * 15 + 8]? = some (.int .i64 x.key.n) ∧ (cellsU l TI TK TV)[i * 15 + 9]? = some (.string (bs x.key.s)) ∧ (cellsU l TI TK TV)[i * 15 + 10]? = some (TK i) ∧ (cellsU l TI TK TV)[i * 15 + 11]? = some (.int .i64 x.val.k) ∧ (cellsU l TI TK TV)[i * 15 + 12]? = some (.int .i64 x.val.n) ∧ (cellsU l TI TK TV)[i * 15 + 13]? = some (.string (bs x.val.s)) ∧ (cellsU l TI TK TV)[i * 15 + 14]? = some (TV i) :=
  ⟨cellsU_part TI TK TV l i x hx 0 (by decide), cellsU_part TI TK TV l i x hx 1 (by decide), cellsU_part TI TK TV l i x hx 2 (by decide), cellsU_part TI TK TV l i x hx 3 (by decide), cellsU_part TI TK TV l i x hx 4 (by decide), cellsU_part TI TK TV l i x hx 5 (by decide), cellsU_part TI TK TV l i x hx 6 (by decide), cellsU_part TI TK TV l i x hx 7 (by decide), cellsU_part TI TK TV l i x hx 8 (by decide), cellsU_part TI TK TV l i x hx 9 (by decide), cellsU_part TI TK TV l i x hx 10 (by decide), cellsU_part TI TK TV l i x hx 11 (by decide), cellsU_part TI TK TV l i x hx 12 (by decide), cellsU_part TI TK TV l i x hx 13 (by decide), cellsU_part TI TK TV l i x hx 14 (by decide)⟩
theorem cellsU_ext (l : List Rl) (TI TK TV : Nat → Value) (L : List Value) (hL : L.length = l.length * 15) (h : ∀ (q : Nat) (y : Rl), l[q]? = some y → ∀ r, r < 15 → L[q * 15 + r]? = (cells1 y (TI q) (TK q) (TV q))[r]?) : L = cellsU l TI TK TV := by
  apply List.ext_getElem?
  intro j
  by_cases hj : j < l.length * 15
  · obtain ⟨y, hy⟩ : ∃ y, l[j / 15]? = some y := ⟨l[j / 15]'(by omega), by simp⟩
    have e : j / 15 * 15 + j % 15 = j := by omega
    have h1 := h _ y hy (j % 15) (by omega)
    have h2 := cellsU_part TI TK TV l _ y hy (j % 15) (by omega)
    rw [e] at h1 h2
    rw [h1, h2]
  · rw [List.getElem?_eq_none (by omega), List.getElem?_eq_none (by rw [cellsU_len]; omega)]
theorem cellsU_set (l : List Rl) (TI TK TV TI' TK' TV' : Nat → Value) (i : Nat) (x : Rl) (hx : l[i]? = some x) (c : Nat) (v : Value) (hc : c < 15)
    (h1 : (cells1 x (TI i) (TK i) (TV i)).set c v = cells1 x (TI' i) (TK' i) (TV' i)) (h2 : ∀ j, j ≠ i → TI' j = TI j ∧ TK' j = TK j ∧ TV' j = TV j) : (cellsU l TI TK TV).set (i * 15 + c) v = cellsU l TI' TK' TV' := by
  refine cellsU_ext l TI' TK' TV' _ (by rw [List.length_set, cellsU_len]) fun q y hy r hr => ?_
  have hi := (List.getElem?_eq_some_iff.1 hx).1
  rw [List.getElem?_set, cellsU_len]
  by_cases e : q = i
  · subst e
    rw [hx, Option.some.injEq] at hy
    subst hy
    rw [← h1, List.getElem?_set]
    by_cases e2 : c = r
    · subst e2
      rw [if_pos rfl, if_pos rfl, if_pos (by omega), if_pos (by simp [cells1]; omega)]
    · rw [if_neg (by omega), if_neg e2]
      exact cellsU_part TI TK TV l _ _ hx r hr
  · obtain ⟨e1, e2, e3⟩ := h2 q e
    rw [if_neg (by omega), e1, e2, e3]
    exact cellsU_part TI TK TV l _ _ hy r hr
theorem cellsU_put (l : List Rl) (TI TK TV : Nat → Value) (i : Nat) (x : Rl) (vi vk vv : Value) (hx : l[i]? = some x) : (((((((((((((cellsU l TI TK TV).set (i * 15 + 2) (.int .i64 x.iff.k)).set (i * 15 + 3) (.int .i64 x.iff.n)).set (i * 15 + 4) (.string (bs x.iff.s))).set (i * 15 + 5) (vi)).set (i * 15 + 7) (.int .i64 x.key.k)).set (i * 15 + 8) (.int .i64 x.key.n)).set (i * 15 + 9) (.string (bs x.key.s))).set (i * 15 + 10) (vk)).set (i * 15 + 11) (.int .i64 x.val.k)).set (i * 15 + 12) (.int .i64 x.val.n)).set (i * 15 + 13) (.string (bs x.val.s))).set (i * 15 + 14) (vv)) = cellsU l (fun j => if j = i then vi else TI j) (fun j => if j = i then vk else TK j) (fun j => if j = i then vv else TV j) := by
  obtain ⟨c0, c1, c2, c3, c4, c5, c6, c7, c8, c9, c10, c11, c12, c13, c14⟩ := cellsU_at TI TK TV l i x hx
  rw [set_same c2, set_same c3, set_same c4, cellsU_set l TI TK TV (fun j => if j = i then vi else TI j) TK TV i x hx 5 vi (by decide) (by simp [cells1]) (fun j hj => ⟨if_neg hj, rfl, rfl⟩)]
  obtain ⟨c0, c1, c2, c3, c4, c5, c6, c7, c8, c9, c10, c11, c12, c13, c14⟩ := cellsU_at (fun j => if j = i then vi else TI j) TK TV l i x hx
  rw [set_same c7, set_same c8, set_same c9, cellsU_set l (fun j => if j = i then vi else TI j) TK TV (fun j => if j = i then vi else TI j) (fun j => if j = i then vk else TK j) TV i x hx 10 vk (by decide) (by simp [cells1]) (fun j hj => ⟨rfl, if_neg hj, rfl⟩)]
  obtain ⟨c0, c1, c2, c3, c4, c5, c6, c7, c8, c9, c10, c11, c12, c13, c14⟩ := cellsU_at (fun j => if j = i then vi else TI j) (fun j => if j = i then vk else TK j) TV l i x hx
  rw [set_same c11, set_same c12, set_same c13]
  exact cellsU_set l _ _ TV _ _ (fun j => if j = i then vv else TV j) i x hx 14 vv (by decide) (by simp [cells1]) (fun j hj => ⟨rfl, rfl, if_neg hj⟩)
theorem cellsU_one (l : List Rl) (TI TK TV : Nat → Value) (h : ∀ i x, l[i]? = some x → (TI i).oneCell' = true ∧ (TK i).oneCell' = true ∧ (TV i).oneCell' = true) : ∀ u ∈ cellsU l TI TK TV, u.oneCell' = true := by
  intro u hu
  obtain ⟨j, hj⟩ := List.getElem?_of_mem hu
  have hlt := (List.getElem?_eq_some_iff.1 hj).1
  rw [cellsU_len] at hlt
  obtain ⟨x, hx⟩ : ∃ x, l[j / 15]? = some x := ⟨l[j / 15]'(by omega), by simp⟩
  have h2 := cellsU_part TI TK TV l _ x hx (j % 15) (by omega)
  rw [show j / 15 * 15 + j % 15 = j by omega, hj] at h2
  obtain ⟨h3, h4, h5⟩ := h _ x hx
  have hm : u ∈ cells1 x (TI (j / 15)) (TK (j / 15)) (TV (j / 15)) := List.mem_of_getElem? h2.symm
  simp only [cells1, List.mem_cons, List.not_mem_nil, or_false] at hm
  rcases hm with rfl | rfl | rfl | rfl | rfl | rfl | rfl | rfl | rfl | rfl | rfl | rfl | rfl | rfl | rfl <;> first | rfl | assumption
/-- While a job is copied: so many of its rules are. -/
structure CJ (w w0 wr : World) (P : Nat) (l : List Rl) (fo : Int) (ea : Bool) (sl : Int) (v : Value) (SI SK SV TI TK TV : Nat → Value) (i : Nat) : Prop where
  box : Blk wr P 24 [v, .int .i64 fo, .bool ea, .int .i64 sl]
  res : Blk wr (P + 1) 24 [.slice none 0 0, .int .i64 0, .bool false, .int .i64 0]
  row : wr.ownsRow (P + 2) 58 15 v l.length (cellsU l TI TK TV)
  old : ∀ j, i ≤ j → TI j = SI j ∧ TK j = SK j ∧ TV j = SV j
  new : ∀ j x, j < i → l[j]? = some x → IsExW w0.heap.size wr.heap.size wr (TI j) x.iff ∧ IsExW w0.heap.size wr.heap.size wr (TK j) x.key ∧ IsExW w0.heap.size wr.heap.size wr (TV j) x.val
  low : P + 2 ≤ w0.heap.size
  lowv : ∀ g, v.ownBlock = some g → g < w0.heap.size
  size : w0.heap.size ≤ wr.heap.size
  bel : Below w.heap.size w wr
theorem CJ.below {w w0 wr w' : World} {P : Nat} {l : List Rl} {fo : Int} {ea : Bool} {sl : Int} {v : Value} {SI SK SV TI TK TV : Nat → Value} {i : Nat} (h : CJ w w0 wr P l fo ea sl v SI SK SV TI TK TV i) (hb : Below wr.heap.size wr w') : CJ w w0 w' P l fo ea sl v SI SK SV TI TK TV i :=
  have k : ∀ u e, IsExW w0.heap.size wr.heap.size wr u e → IsExW w0.heap.size w'.heap.size w' u e := fun _ _ h => (h.carry (Keeps.of_below hb (Nat.le_refl _))).wide (Nat.le_refl _) hb.size
  ⟨h.box.blw hb, h.res.blw hb, ow_below h.row hb, h.old, fun j x hj hx => ⟨k _ _ (h.new j x hj hx).1, k _ _ (h.new j x hj hx).2.1, k _ _ (h.new j x hj hx).2.2⟩, h.low, h.lowv, Nat.le_trans h.size hb.size, below_trans h.bel hb⟩
theorem CJ.put {w w0 wr : World} {P g cap : Nat} {l : List Rl} {fo : Int} {ea : Bool} {sl : Int} {SI SK SV TI TK TV : Nat → Value} {i : Nat} {x : Rl} {vi vk vv : Value} (h : CJ w w0 wr P l fo ea sl (.slice (some ⟨g, 0, none⟩) l.length cap) SI SK SV TI TK TV i) (hx : l[i]? = some x) (hP : w.heap.size ≤ P)
    (h1 : IsExW w0.heap.size wr.heap.size wr vi x.iff) (h2 : IsExW w0.heap.size wr.heap.size wr vk x.key) (h3 : IsExW w0.heap.size wr.heap.size wr vv x.val) :
    CJ w w0 ((((((((((((wr.setCell ⟨g, i * 15 + 2, none⟩ (.int .i64 x.iff.k)).setCell ⟨g, i * 15 + 3, none⟩ (.int .i64 x.iff.n)).setCell ⟨g, i * 15 + 4, none⟩ (.string (bs x.iff.s))).setCell ⟨g, i * 15 + 5, none⟩ (vi)).setCell ⟨g, i * 15 + 7, none⟩ (.int .i64 x.key.k)).setCell ⟨g, i * 15 + 8, none⟩ (.int .i64 x.key.n)).setCell ⟨g, i * 15 + 9, none⟩ (.string (bs x.key.s))).setCell ⟨g, i * 15 + 10, none⟩ (vk)).setCell ⟨g, i * 15 + 11, none⟩ (.int .i64 x.val.k)).setCell ⟨g, i * 15 + 12, none⟩ (.int .i64 x.val.n)).setCell ⟨g, i * 15 + 13, none⟩ (.string (bs x.val.s))).setCell ⟨g, i * 15 + 14, none⟩ (vv)) P l fo ea sl (.slice (some ⟨g, 0, none⟩) l.length cap) SI SK SV (fun j => if j = i then vi else TI j) (fun j => if j = i then vk else TK j) (fun j => if j = i then vv else TV j) (i + 1) := by
  have hg : g < w0.heap.size := h.lowv g rfl
  have hPg : P + 2 ≤ g := by
    rcases row_slice h.row with ⟨h1, _⟩ | ⟨g', c', h1, h2, _⟩
    · cases h1
    · injection h1 with e1
      injection e1 with e1
      injection e1 with e1
      omega
  have ne1 : P ≠ g := by omega
  have ne2 : P + 1 ≠ g := by omega
  have kp : ∀ (u : Value) (y : Ex), IsExW w0.heap.size wr.heap.size wr u y → IsExW w0.heap.size wr.heap.size ((((((((((((wr.setCell ⟨g, i * 15 + 2, none⟩ (.int .i64 x.iff.k)).setCell ⟨g, i * 15 + 3, none⟩ (.int .i64 x.iff.n)).setCell ⟨g, i * 15 + 4, none⟩ (.string (bs x.iff.s))).setCell ⟨g, i * 15 + 5, none⟩ (vi)).setCell ⟨g, i * 15 + 7, none⟩ (.int .i64 x.key.k)).setCell ⟨g, i * 15 + 8, none⟩ (.int .i64 x.key.n)).setCell ⟨g, i * 15 + 9, none⟩ (.string (bs x.key.s))).setCell ⟨g, i * 15 + 10, none⟩ (vk)).setCell ⟨g, i * 15 + 11, none⟩ (.int .i64 x.val.k)).setCell ⟨g, i * 15 + 12, none⟩ (.int .i64 x.val.n)).setCell ⟨g, i * 15 + 13, none⟩ (.string (bs x.val.s))).setCell ⟨g, i * 15 + 14, none⟩ (vv)) u y := fun u y hy => (((((((((((hy.put hg _).put hg _).put hg _).put hg _).put hg _).put hg _).put hg _).put hg _).put hg _).put hg _).put hg _).put hg _
  have bl : ∀ (B : Nat) (t : TypeId) (xs : List Value), Blk wr B t xs → B ≠ g → Blk ((((((((((((wr.setCell ⟨g, i * 15 + 2, none⟩ (.int .i64 x.iff.k)).setCell ⟨g, i * 15 + 3, none⟩ (.int .i64 x.iff.n)).setCell ⟨g, i * 15 + 4, none⟩ (.string (bs x.iff.s))).setCell ⟨g, i * 15 + 5, none⟩ (vi)).setCell ⟨g, i * 15 + 7, none⟩ (.int .i64 x.key.k)).setCell ⟨g, i * 15 + 8, none⟩ (.int .i64 x.key.n)).setCell ⟨g, i * 15 + 9, none⟩ (.string (bs x.key.s))).setCell ⟨g, i * 15 + 10, none⟩ (vk)).setCell ⟨g, i * 15 + 11, none⟩ (.int .i64 x.val.k)).setCell ⟨g, i * 15 + 12, none⟩ (.int .i64 x.val.n)).setCell ⟨g, i * 15 + 13, none⟩ (.string (bs x.val.s))).setCell ⟨g, i * 15 + 14, none⟩ (vv)) B t xs := fun B t xs hB ne => (((((((((((hB.other _ _ ne).other _ _ ne).other _ _ ne).other _ _ ne).other _ _ ne).other _ _ ne).other _ _ ne).other _ _ ne).other _ _ ne).other _ _ ne).other _ _ ne).other _ _ ne
  refine ⟨bl _ _ _ h.box ne1, bl _ _ _ h.res ne2, ?_, fun j hj => ?_, fun j y hj hy => ?_, h.low, h.lowv, by simpa using h.size, ?_⟩
  · have r := ((((((((((((h.row.stored (i * 15 + 2) (.int .i64 x.iff.k)).1.stored (i * 15 + 3) (.int .i64 x.iff.n)).1.stored (i * 15 + 4) (.string (bs x.iff.s))).1.stored (i * 15 + 5) (vi)).1.stored (i * 15 + 7) (.int .i64 x.key.k)).1.stored (i * 15 + 8) (.int .i64 x.key.n)).1.stored (i * 15 + 9) (.string (bs x.key.s))).1.stored (i * 15 + 10) (vk)).1.stored (i * 15 + 11) (.int .i64 x.val.k)).1.stored (i * 15 + 12) (.int .i64 x.val.n)).1.stored (i * 15 + 13) (.string (bs x.val.s))).1.stored (i * 15 + 14) (vv)).1
    rw [cellsU_put l TI TK TV i x vi vk vv hx] at r
    exact r
  · simp only [if_neg (show ¬ j = i by omega)]
    exact h.old j (by omega)
  · simp only [World.size_setCell]
    by_cases e : j = i
    · subst e
      rw [hx, Option.some.injEq] at hy
      subst hy
      simp only [if_true]
      exact ⟨kp _ _ h1, kp _ _ h2, kp _ _ h3⟩
    · simp only [if_neg e]
      obtain ⟨k1, k2, k3⟩ := h.new j y (by omega) hy
      exact ⟨kp _ _ k1, kp _ _ k2, kp _ _ k3⟩
  · have s : ∀ (wx : World) (c : Nat) (u : Value), Below w.heap.size w wx → Below w.heap.size w (wx.setCell ⟨g, c, none⟩ u) := fun wx c u hb => hb.setCell (p := ⟨g, c, none⟩) (by simp; omega) u
    exact s _ _ _ (s _ _ _ (s _ _ _ (s _ _ _ (s _ _ _ (s _ _ _ (s _ _ _ (s _ _ _ (s _ _ _ (s _ _ _ (s _ _ _ (s _ _ _ (h.bel))))))))))))
theorem CJ.done {w w0 wr : World} {P vc : Nat} {va : Option Addr} {l : List Rl} {fo : Int} {ea : Bool} {sl : Int} {SI SK SV TI TK TV : Nat → Value} (h : CJ w w0 wr P l fo ea sl (.slice va l.length vc) SI SK SV TI TK TV l.length) : ∀ w', Keeps (P + 2) wr.heap.size wr w' → IsRules w' (.slice va l.length vc) l := by
  intro w' hk
  have kids : ∀ i x, l[i]? = some x → IsEx w' (TI i) x.iff ∧ IsEx w' (TK i) x.key ∧ IsEx w' (TV i) x.val := fun i x hx => by
    obtain ⟨k1, k2, k3⟩ := h.new i x (List.getElem?_eq_some_iff.1 hx).1 hx
    exact ⟨k1 w' (hk.sub h.low (Nat.le_refl _)), k2 w' (hk.sub h.low (Nat.le_refl _)), k3 w' (hk.sub h.low (Nat.le_refl _))⟩
  rcases h.row.2 with ⟨h1, h0⟩ | ⟨g, cap, cur, h1, h2, hg, _⟩
  · have e : l = [] := List.eq_nil_of_length_eq_zero h0
    subst e
    exact ⟨va, vc, 0, 0, TI, TK, TV, rfl, fun h => by simp at h, fun i x hx => by simp at hx⟩
  · injection h1 with e1 e2 e3
    subst e1 e3
    refine ⟨some ⟨g, 0, none⟩, vc, g, 0, TI, TK, TV, rfl, fun _ => rfl, fun i x hx => ⟨?_, kids i x hx⟩⟩
    have hlt := (List.getElem?_eq_some_iff.1 hx).1
    have hblk := hk g h2 (Array.getElem?_eq_some_iff.1 hg).1
    have cell : ∀ j, j < l.length * 15 → w'.cell? ⟨g, j, none⟩ = (cellsU l TI TK TV)[j]? := fun j hj => by
      rw [World.cell?_of_block (a := ⟨g, j, none⟩) hblk, h.row.cellAt j hj]
    obtain ⟨c0, c1, c2, c3, c4, c5, c6, c7, c8, c9, c10, c11, c12, c13, c14⟩ := cellsU_at TI TK TV l i x hx
    simp only [Nat.zero_add]
    exact ⟨(cell _ (by omega)).trans c0, (cell _ (by omega)).trans c1, (cell _ (by omega)).trans c2, (cell _ (by omega)).trans c3, (cell _ (by omega)).trans c4, (cell _ (by omega)).trans c5, (cell _ (by omega)).trans c6, (cell _ (by omega)).trans c7, (cell _ (by omega)).trans c8, (cell _ (by omega)).trans c9, (cell _ (by omega)).trans c10, (cell _ (by omega)).trans c11, (cell _ (by omega)).trans c12, (cell _ (by omega)).trans c13, (cell _ (by omega)).trans c14⟩
end Go.Proofs.YtmgpacenooncjaaGreatDoor
