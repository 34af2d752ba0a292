/- Mapper: copyExpr. -/
import Derived.Test.YtmgpacenooncjaaGreatDoorN1
import Derived.Test.YtmgpacenooncjaaGreatDoorM1
import Derived.Deep.RegionWith
import Derived.Deep.Cut
import Derived.Deep.LoopGhost
namespace Go.Proofs.YtmgpacenooncjaaGreatDoor
open Go.ChangeShapes Go.WideShapes Go.ChangeAt Go.RowKit
theorem set_same {α : Type} {l : List α} {i : Nat} {v : α} (h : l[i]? = some v) : l.set i v = l := by
  apply List.ext_getElem?
  intro j
  rw [List.getElem?_set]
  by_cases e : i = j
  · subst e
    rw [if_pos rfl, h]
    have := (List.getElem?_eq_some_iff.1 h).1
    simp [this]
  · rw [if_neg e]
theorem cellsX_set (l : List Ex) (A : Nat → Value) (i : Nat) (v : Value) (hi : i < l.length) : (cellsX l A).set (i * 4 + 3) v = cellsX l (fun j => if j = i then v else A j) := by
  apply List.ext_getElem?
  intro j
  rw [List.getElem?_set]
  by_cases hj : j < l.length * 4
  · obtain ⟨x, hx⟩ : ∃ x, l[j / 4]? = some x := ⟨l[j / 4]'(by omega), by simp⟩
    obtain ⟨c0, c1, c2, c3⟩ := cellsX_at A l _ x hx
    obtain ⟨d0, d1, d2, d3⟩ := cellsX_at (fun j => if j = i then v else A j) l _ x hx
    have h4 : j = j / 4 * 4 ∨ j = j / 4 * 4 + 1 ∨ j = j / 4 * 4 + 2 ∨ j = j / 4 * 4 + 3 := by omega
    generalize j / 4 = q at *
    rcases h4 with rfl | rfl | rfl | rfl
    · rw [if_neg (by omega), c0, d0]
    · rw [if_neg (by omega), c1, d1]
    · rw [if_neg (by omega), c2, d2]
    · by_cases e : q = i
      · subst e
        rw [if_pos rfl, cellsX_len, if_pos hj, d3, if_pos rfl]
      · rw [if_neg (by omega), c3, d3, if_neg e]
  · rw [if_neg (by omega), List.getElem?_eq_none (by rw [cellsX_len]; omega), List.getElem?_eq_none (by rw [cellsX_len]; omega)]
theorem cellsX_put (l : List Ex) (A : Nat → Value) (i : Nat) (x : Ex) (v : Value) (hx : l[i]? = some x) : ((((cellsX l A).set (i * 4) (.int .i64 x.k)).set (i * 4 + 1) (.int .i64 x.n)).set (i * 4 + 2) (.string (bs x.s))).set (i * 4 + 3) v = cellsX l (fun j => if j = i then v else A j) := by
  obtain ⟨c0, c1, c2, _⟩ := cellsX_at A l i x hx
  rw [set_same c0, set_same c1, set_same c2]
  exact cellsX_set l A i v (List.getElem?_eq_some_iff.1 hx).1
theorem row_slice {w : World} {base n size : Nat} {e : TypeId} {v : Value} {xs : List Value} (h : w.ownsRow base e size v n xs) : (v = .slice none 0 0 ∧ n = 0) ∨ ∃ g cap, v = .slice (some ⟨g, 0, none⟩) n cap ∧ base ≤ g ∧ g < w.heap.size := by
  rcases h.2 with h0 | ⟨g, cap, cur, h1, h2, h3, _⟩
  · exact .inl h0
  · exact .inr ⟨g, cap, h1, h2, (Array.getElem?_eq_some_iff.1 h3).1⟩
/-- What copyExpr hands back. -/
def CopySaid (w : World) (e : Ex) (r : Ending) (w' : World) : Prop :=
  ∃ a cap, r = .returned (e.val (.slice a e.a.length cap)) ∧ IsExW w.heap.size w'.heap.size w' (.slice a e.a.length cap) e ∧ Below w.heap.size w w'
/-- While an expression is copied: so many of those in it are. -/
structure CE (w w0 wr : World) (P : Nat) (k n : Int) (s : List UInt8) (l : List Ex) (v : Value) (AI A : Nat → Value) (i : Nat) : Prop where
  box : Blk wr P 56 [.int .i64 k, .int .i64 n, .string (bs s), v]
  res : Blk wr (P + 1) 56 [.int .i64 0, .int .i64 0, .string ⟨#[]⟩, .slice none 0 0]
  row : wr.ownsRow (P + 2) 56 4 v l.length (cellsX l A)
  old : ∀ j, i ≤ j → A j = AI j
  new : ∀ j x, j < i → l[j]? = some x → IsExW w0.heap.size wr.heap.size wr (A j) x
  low : P + 2 ≤ w0.heap.size
  lowv : ∀ g, v.ownBlock = some g → g < w0.heap.size
  size : w0.heap.size ≤ wr.heap.size
  bel : Below w.heap.size w wr
theorem CE.below {w w0 wr w' : World} {P : Nat} {k n : Int} {s : List UInt8} {l : List Ex} {v : Value} {AI A : Nat → Value} {i : Nat} (h : CE w w0 wr P k n s l v AI A i) (hb : Below wr.heap.size wr w') : CE w w0 w' P k n s l v AI A i :=
  ⟨h.box.blw hb, h.res.blw hb, ow_below h.row hb, h.old, fun j x hj hx => ((h.new j x hj hx).carry (Keeps.of_below hb (Nat.le_refl _))).wide (Nat.le_refl _) hb.size, h.low, h.lowv, Nat.le_trans h.size hb.size, below_trans h.bel hb⟩
theorem CE.put {w w0 wr : World} {P g cap : Nat} {k n : Int} {s : List UInt8} {l : List Ex} {AI A : Nat → Value} {i : Nat} {x : Ex} {v' : Value} (h : CE w w0 wr P k n s l (.slice (some ⟨g, 0, none⟩) l.length cap) AI A i) (hx : l[i]? = some x) (hP : w.heap.size ≤ P) (hv : IsExW w0.heap.size wr.heap.size wr v' x) :
    CE w w0 ((((wr.setCell ⟨g, i * 4, none⟩ (.int .i64 x.k)).setCell ⟨g, i * 4 + 1, none⟩ (.int .i64 x.n)).setCell ⟨g, i * 4 + 2, none⟩ (.string (bs x.s))).setCell ⟨g, i * 4 + 3, none⟩ v') P k n s l (.slice (some ⟨g, 0, none⟩) l.length cap) AI (fun j => if j = i then v' else A j) (i + 1) := by
  have hg : g < w0.heap.size := h.lowv g rfl
  have hPg : P + 2 ≤ g := by
    rcases row_slice h.row with ⟨h1, _⟩ | ⟨g', c', h1, h2, _⟩
    · cases h1
    · injection h1 with e1
      injection e1 with e1
      injection e1 with e1
      omega
  have ne1 : P ≠ g := by omega
  have ne2 : P + 1 ≠ g := by omega
  have kp : ∀ (u : Value) (y : Ex), IsExW w0.heap.size wr.heap.size wr u y → IsExW w0.heap.size wr.heap.size ((((wr.setCell ⟨g, i * 4, none⟩ (.int .i64 x.k)).setCell ⟨g, i * 4 + 1, none⟩ (.int .i64 x.n)).setCell ⟨g, i * 4 + 2, none⟩ (.string (bs x.s))).setCell ⟨g, i * 4 + 3, none⟩ v') u y := fun u y hy => (((hy.put hg _).put hg _).put hg _).put hg _
  refine ⟨(((h.box.other _ _ ne1).other _ _ ne1).other _ _ ne1).other _ _ ne1, (((h.res.other _ _ ne2).other _ _ ne2).other _ _ ne2).other _ _ ne2, ?_, fun j hj => ?_, fun j y hj hy => ?_, h.low, h.lowv, by simpa using h.size, ?_⟩
  · have r := ((((h.row.stored (i * 4) (.int .i64 x.k)).1.stored (i * 4 + 1) (.int .i64 x.n)).1.stored (i * 4 + 2) (.string (bs x.s))).1.stored (i * 4 + 3) v').1
    rw [cellsX_put l A i x v' hx] at r
    exact r
  · simp only [if_neg (show ¬ j = i by omega)]
    exact h.old j (by omega)
  · simp only [World.size_setCell]
    by_cases e : j = i
    · subst e
      rw [hx, Option.some.injEq] at hy
      subst hy
      simp only [if_true]
      exact kp _ _ hv
    · simp only [if_neg e]
      exact kp _ _ (h.new j y (by omega) hy)
  · exact (((h.bel.setCell (p := ⟨g, i * 4, none⟩) (by simp; omega) _).setCell (p := ⟨g, i * 4 + 1, none⟩) (by simp; omega) _).setCell (p := ⟨g, i * 4 + 2, none⟩) (by simp; omega) _).setCell (p := ⟨g, i * 4 + 3, none⟩) (by simp; omega) _
theorem CE.done {w w0 wr : World} {P vc : Nat} {va : Option Addr} {k n : Int} {s : List UInt8} {l : List Ex} {AI A : Nat → Value} (h : CE w w0 wr P k n s l (.slice va l.length vc) AI A l.length) : IsExW (P + 2) wr.heap.size wr (.slice va l.length vc) (.mk k n s l) := by
  intro w' hk
  have kids : ∀ i x, l[i]? = some x → IsEx w' (A i) x := fun i x hx => h.new i x (List.getElem?_eq_some_iff.1 hx).1 hx w' (hk.sub h.low (Nat.le_refl _))
  rcases h.row.2 with ⟨h1, h0⟩ | ⟨g, cap, cur, h1, h2, hg, _⟩
  · have e : l = [] := List.eq_nil_of_length_eq_zero h0
    subst e
    exact IsEx.mk k n s va vc [] 0 0 A (fun h => by simp at h) (fun i x hx => by simp at hx) (fun i x hx => by simp at hx)
  · injection h1 with e1 e2 e3
    subst e1 e3
    refine IsEx.mk k n s (some ⟨g, 0, none⟩) vc l g 0 A (fun _ => rfl) (fun i x hx => ?_) kids
    have hlt := (List.getElem?_eq_some_iff.1 hx).1
    have hblk := hk g h2 (Array.getElem?_eq_some_iff.1 hg).1
    have cell : ∀ j, j < l.length * 4 → w'.cell? ⟨g, j, none⟩ = (cellsX l A)[j]? := fun j hj => by
      rw [World.cell?_of_block (a := ⟨g, j, none⟩) hblk, h.row.cellAt j hj]
    obtain ⟨c0, c1, c2, c3⟩ := cellsX_at A l i x hx
    simp only [Nat.zero_add]
    exact ⟨(cell _ (by omega)).trans c0, (cell _ (by omega)).trans c1, (cell _ (by omega)).trans c2, (cell _ (by omega)).trans c3⟩
set_option maxRecDepth 100000 in
set_option maxHeartbeats 4000000 in
theorem copyExpr_any {w : World} {sv : Value} {e : Ex} (h : IsEx w sv e) : e.wt ≤ 1000000 → ∀ w', Below w.heap.size w w' → Calls Tryz.prog 74 #[e.val sv] w' (CopySaid w' e) := by
  induction h using IsEx.ind with
  | mk k n s a cap l b off AI ha hc kids ih =>
    intro hwt w1 hb
    have hll : l.length ≤ 1000000 := by
      simp only [Ex.wt] at hwt
      have := len_wtL l
      omega
    have IH : Hid (∀ i x, l[i]? = some x → ∀ w', Below w.heap.size w w' → Calls Tryz.prog 74 #[x.val (AI i)] w' (CopySaid w' x)) := fun i x hx w' hb' => ih i x hx (by
      simp only [Ex.wt] at hwt
      have := wt_kid hx
      omega) w' hb'
    have HKS : Hid (∀ i x, l[i]? = some x → ∃ a c, AI i = .slice a x.a.length c) := fun i x hx => (kids i x hx).slice
    have HC1 := cloneX_any a l.length cap (cellsX l AI) 
    have HCL : Hid (∀ w', Below w.heap.size w w' → Calls Tryz.prog 96 #[.slice a l.length cap] w' fun e w'' => ∃ v, e = .returned v ∧ w''.ownsRow w'.heap.size 56 4 v l.length (cellsX l AI) ∧ Below w'.heap.size w' w'') := fun w' hb' => cloneX_any a l.length cap (cellsX l AI) w' (cellsX_len l AI) (fun e => by
        rcases Nat.eq_zero_or_pos l.length with h0 | h0
        · exact h0
        · rw [ha h0] at e; cases e) (fun ad e j u hu => by
        have hlt := (List.getElem?_eq_some_iff.1 hu).1
        rw [cellsX_len] at hlt
        have e2 := ha (by omega)
        rw [e2, Option.some.injEq] at e
        subst e
        obtain ⟨x, hx⟩ : ∃ x, l[j / 4]? = some x := ⟨l[j / 4]'(by omega), by simp⟩
        obtain ⟨c0, c1, c2, c3⟩ := hc _ x hx
        obtain ⟨d0, d1, d2, d3⟩ := cellsX_at AI l _ x hx
        have h4 : j = j / 4 * 4 ∨ j = j / 4 * 4 + 1 ∨ j = j / 4 * 4 + 2 ∨ j = j / 4 * 4 + 3 := by omega
        have hadd : ∀ m, (⟨b, off, none⟩ : Addr).add m = ⟨b, off + m, none⟩ := fun m => by unfold Addr.add; split <;> simp_all
        rw [hadd]
        generalize j / 4 = q at *
        rcases h4 with rfl | rfl | rfl | rfl
        · rw [d0, Option.some.injEq] at hu; subst hu; exact cell_below c0 hb'
        · rw [d1, Option.some.injEq] at hu; subst hu; rw [← Nat.add_assoc]; exact cell_below c1 hb'
        · rw [d2, Option.some.injEq] at hu; subst hu; rw [← Nat.add_assoc]; exact cell_below c2 hb'
        · rw [d3, Option.some.injEq] at hu; subst hu; rw [← Nat.add_assoc]; exact cell_below c3 hb') (cellsX_one l AI (fun i x hx => by obtain ⟨a, c, e⟩ := HKS.out i x hx; rw [e]; rfl)) hll
    clear ha hc kids ih hwt HC1
    obtain ⟨P, hP⟩ : ∃ P, P = w1.heap.size := ⟨_, rfl⟩
    obtain ⟨w2, hw2⟩ : ∃ w2, w2 = (w1.alloc (.cells #[.int .i64 k, .int .i64 n, .string (bs s), .slice a l.length cap] 56)).alloc (.cells #[.int .i64 0, .int .i64 0, .string ⟨#[]⟩, .slice none 0 0] 56) := ⟨_, rfl⟩
    have hb12 : Below w1.heap.size w1 w2 := by rw [hw2]; exact below_trans (below_box _) (below_box _)
    have BX : Hid (Blk w2 P 56 [.int .i64 k, .int .i64 n, .string (bs s), .slice a l.length cap]) := by
      show Blk _ _ _ _
      rw [hw2]
      exact (blk_new hP).blw (below_box _)
    have RS : Hid (Blk w2 (P + 1) 56 [.int .i64 0, .int .i64 0, .string ⟨#[]⟩, .slice none 0 0]) := by
      show Blk _ _ _ _
      rw [hw2]
      exact blk_new (by rw [hP]; simp)
    have hsz2 : w2.heap.size = P + 2 := by rw [hw2, hP]; simp
    have q3 := BX.out.at (i := 3) (v := .slice a l.length cap) rfl
    have HW2 := Lib.hid hw2
    have HPP := Lib.hid hP
    have HB12 := Lib.hid hb12
    have HB := Lib.hid hb
    have HSZ := Lib.hid hsz2
    obtain ⟨m, hm⟩ : ∃ m, m = l.length := ⟨_, rfl⟩
    rw [← hm] at BX q3 HCL hll hw2
    have HW2 := Lib.hid hw2
    have HMM := Lib.hid hm
    simp only [Ex.val, Ex.k, Ex.n, Ex.s]
    rw [← hm]
    clear hw2 hP hb12 hb hsz2 hm
    go_enter Tryz.func74, Tryz.ntmps74
    go_upto_region 1 with fail
    rw [← HW2.out, ← HPP.out]
    clear HW2
    go_wp2_with (go_at_call 96; refine Hid.out ?_)
    refine Lib.hid ?_
    refine (HCL.out w2 (below_trans HB.out HB12.out)).mono ?_
    rintro _ w3 ⟨v, rfl, hrow, hb23⟩
    have BX3 := BX.out.blw hb23
    have RS3 := Lib.hid (RS.out.blw hb23)
    have q3 := BX3.at (i := 3) (v := .slice a m cap) rfl
    have f3 := BX3.frozen 3
    have hs23 : P + 2 ≤ w3.heap.size := by rw [← HSZ.out]; exact hb23.size
    obtain ⟨va, vc, ev⟩ : ∃ va vc, v = .slice va m vc := by
      rcases row_slice hrow with ⟨h1, h2⟩ | ⟨g, c, h1, _⟩
      · exact ⟨_, _, by rw [h1, h2]⟩
      · exact ⟨_, _, h1⟩
    subst ev
    obtain ⟨w4, hw4⟩ : ∃ w4, w4 = w3.setCell ⟨P, 3, none⟩ (.slice va m vc) := ⟨_, rfl⟩
    have C4 : Hid (CE w1 w4 w4 P k n s l (.slice va m vc) AI AI 0) := by
      rw [hw4]
      refine ⟨BX3.set 3 _, RS3.out.other 3 _ (by omega), ?_, fun j _ => rfl, fun j x hj _ => absurd hj (by omega), by simpa using hs23, fun g hg => by have := (hrow.lt g hg).2; simpa using this, Nat.le_refl _, ?_⟩
      · have h := row_stay (i := 3) (u := .slice va m vc) (ow_low hrow (Nat.le_of_eq HSZ.out.symm)) (show P < P + 2 by omega)
        rw [HMM.out] at h ⊢
        exact h
      · exact (below_trans HB12.out hb23).setCell (p := ⟨P, 3, none⟩) (by rw [HPP.out]; exact Nat.le_refl _) _
    have HW4 := Lib.hid hw4
    clear hw4 BX BX3 RS RS3 hrow hb23 hs23 HCL HB12 HSZ
    go_upto_region 2 with fail
    rw [← HW4.out]
    clear HW4 q3 f3
    have p3 := C4.out.box.at (i := 3) (v := .slice va m vc) rfl
    go_wp2
    clear p3
    have hmm : m ≤ 1000000 := hll
    go_loopg [11] m (fun gg iv wr => ∃ (i : Nat) (A : Nat → Value), gg = m - i ∧ i ≤ m ∧ iv = .int .i64 i ∧ Hid (CE w1 w4 wr P k n s l (.slice va m vc) AI A i))
    case atStart => exact ⟨0, AI, rfl, Nat.zero_le _, rfl, C4⟩
    case round =>
      clear C4
      obtain ⟨i, A, hgi, hi, rfl, HC⟩ := hrel
      have HGI := Lib.hid hgi
      clear hgi
      by_cases hlt : i < m
      · have HLT := Lib.hid hlt
        obtain ⟨x, hx⟩ : ∃ x, l[i]? = some x := ⟨l[i]'(by have := HMM.out; omega), by simp⟩
        obtain ⟨g, rfl⟩ : ∃ g, va = some ⟨g, 0, none⟩ := by
          rcases row_slice HC.out.row with ⟨h1, h2⟩ | ⟨g, c, h1, _⟩
          · have := HMM.out; omega
          · injection h1 with h1; exact ⟨g, h1⟩
        have hrow : wr.ownsRow (P + 2) 56 4 (.slice (some ⟨g, 0, none⟩) l.length vc) l.length (cellsX l A) := by
          have h := HC.out.row
          rw [HMM.out] at h
          exact h
        obtain ⟨e0, e1, e2, e3⟩ := cellsX_at A l i x hx
        rw [HC.out.old i (Nat.le_refl _)] at e3
        have hil := (List.getElem?_eq_some_iff.1 hx).1
        have c0 := (hrow.cellAt (i * 4) (by omega)).trans e0
        have c1 := (hrow.cellAt (i * 4 + 1) (by omega)).trans e1
        have c2 := (hrow.cellAt (i * 4 + 2) (by omega)).trans e2
        have c3 := (hrow.cellAt (i * 4 + 3) (by omega)).trans e3
        have p3 := HC.out.box.at (i := 3) (v := .slice (some ⟨g, 0, none⟩) m vc) rfl
        have D : Hid (∀ w', Below wr.heap.size wr w' → Calls Tryz.prog 74 #[x.val (AI i)] w' (CopySaid w' x)) := fun w' hb' => IH.out i x hx w' (below_trans HB.out (below_trans HC.out.bel hb'))
        unfold CopySaid Ex.val at D
        have HP2 : Hid (w1.heap.size ≤ P) := by show _ ≤ _; rw [HPP.out]; exact Nat.le_refl _
        have PUT : Hid (∀ w5 (v' : Value), Below wr.heap.size wr w5 → IsExW w4.heap.size w5.heap.size w5 v' x → CE w1 w4 ((((w5.setCell ⟨g, i * 4, none⟩ (.int .i64 x.k)).setCell ⟨g, i * 4 + 1, none⟩ (.int .i64 x.n)).setCell ⟨g, i * 4 + 2, none⟩ (.string (bs x.s))).setCell ⟨g, i * 4 + 3, none⟩ v') P k n s l (.slice (some ⟨g, 0, none⟩) m vc) AI (fun j => if j = i then v' else A j) (i + 1)) := fun w5 v' hb5 hv => by
          have h := HC.out.below hb5
          rw [HMM.out] at h ⊢
          exact h.put hx HP2.out hv
        have HROW := Lib.hid hrow
        have CELLS : Hid (∀ w', Below wr.heap.size wr w' → w'.cell? ⟨g, i * 4, none⟩ = some (.int .i64 x.k) ∧ w'.cell? ⟨g, i * 4 + 1, none⟩ = some (.int .i64 x.n) ∧ w'.cell? ⟨g, i * 4 + 2, none⟩ = some (.string (bs x.s)) ∧ w'.cell? ⟨g, i * 4 + 3, none⟩ = some (AI i) ∧ w'.cell? ⟨P, 3, none⟩ = some (.slice (some ⟨g, 0, none⟩) m vc) ∧ w'.frozen? ⟨g, i * 4, none⟩ = false ∧ w'.frozen? ⟨g, i * 4 + 1, none⟩ = false ∧ w'.frozen? ⟨g, i * 4 + 2, none⟩ = false ∧ w'.frozen? ⟨g, i * 4 + 3, none⟩ = false) := fun w' hb' => by
          have r := ow_below HROW.out hb'
          exact ⟨cell_below c0 hb', cell_below c1 hb', cell_below c2 hb', cell_below c3 hb', cell_below p3 hb', r.frozenAt _, r.frozenAt _, r.frozenAt _, r.frozenAt _⟩
        have hsz4 := HC.out.size
        have HSZ4 := Lib.hid hsz4
        generalize x.k = xk at *
        generalize x.n = xn at *
        generalize bs x.s = xs at *
        generalize AI i = xa at c3 D CELLS
        generalize x.a.length = xl at D
        clear HROW hrow e0 e1 e2 e3 hx hil hsz4
        go_upto_region 5 with fail
        go_region_with (go_at_call 74; refine (D.out _ ?_).mono ?_; first | exact Below.refl _ _ | exact Pp.blw_drew (Below.refl _ wr); rintro _ w5 ⟨ka, kc, rfl, hW, hb5⟩; have hb5' : Below wr.heap.size wr w5 := (by first | exact hb5 | exact below_trans (Pp.blw_drew (Below.refl _ wr)) hb5); have W5 : Hid (IsExW w4.heap.size w5.heap.size w5 (.slice ka xl kc) x) := (hW.wide (by first | exact HSZ4.out | (simp; exact HSZ4.out)) (Nat.le_refl _)); have P5 := Lib.hid (PUT.out w5 _ hb5' W5.out); obtain ⟨d0, d1, d2, d3, d4, g0, g1, g2, g3⟩ := CELLS.out w5 hb5')
        all_goals
          obtain ⟨w6, hw6⟩ : ∃ w6, w6 = (((w5.setCell ⟨g, i * 4, none⟩ (.int .i64 xk)).setCell ⟨g, i * 4 + 1, none⟩ (.int .i64 xn)).setCell ⟨g, i * 4 + 2, none⟩ (.string xs)).setCell ⟨g, i * 4 + 3, none⟩ (.slice ka xl kc) := ⟨_, rfl⟩
          rw [← hw6] at P5 ⊢
          clear hw6 d0 d1 d2 d3 d4 g0 g1 g2 g3 W5 hb5' hb5 hW D CELLS PUT c0 c1 c2 c3 p3 HC
          (try simp only [Exit.inBlock, Exit.then])
          go_wp2
          go_roundg (m - (i + 1))
          case measure => have := HGI.out; have := HLT.out; omega
          case rel => exact ⟨i + 1, _, rfl, HLT.out, by have := HLT.out; go_num, P5⟩
      · have him : i = l.length := by have := HMM.out; omega
        have HDN : Hid (IsExW (P + 2) wr.heap.size wr (.slice va m vc) (.mk k n s l)) := by
          have h := HC.out
          rw [him, HMM.out] at h
          have h2 := h.done
          rw [← HMM.out] at h2
          exact h2
        have b0 := HC.out.box.at (i := 0) (v := .int .i64 k) rfl
        have b1 := HC.out.box.at (i := 1) (v := .int .i64 n) rfl
        have b2 := HC.out.box.at (i := 2) (v := .string (bs s)) rfl
        have b3 := HC.out.box.at (i := 3) (v := .slice va m vc) rfl
        have r0 := HC.out.res.at (i := 0) (v := .int .i64 0) rfl
        have r1 := HC.out.res.at (i := 1) (v := .int .i64 0) rfl
        have r2 := HC.out.res.at (i := 2) (v := .string ⟨#[]⟩) rfl
        have r3 := HC.out.res.at (i := 3) (v := .slice none 0 0) rfl
        have f0 := HC.out.res.frozen 0
        have f1 := HC.out.res.frozen 1
        have f2 := HC.out.res.frozen 2
        have f3 := HC.out.res.frozen 3
        clear him
        go_wp2
        (try simp only [Exit.inBlock, Exit.then])
        have g4 := (((HC.out.res.set 0 (.int .i64 k)).set 1 (.int .i64 n)).set 2 (.string (bs s))).set 3 (.slice va m vc)
        have hp1 := (((HC.out.bel.setCell (p := ⟨P + 1, 0, none⟩) (by rw [HPP.out]; simp) (.int .i64 k)).setCell (p := ⟨P + 1, 1, none⟩) (by rw [HPP.out]; simp) (.int .i64 n)).setCell (p := ⟨P + 1, 2, none⟩) (by rw [HPP.out]; simp) (.string (bs s))).setCell (p := ⟨P + 1, 3, none⟩) (by rw [HPP.out]; simp) (.slice va m vc)
        refine bodyPost_ret (results_cell_row rfl _ _ (P + 1) 56 #[.int .i64 k, .int .i64 n, .string (bs s), .slice va m vc] (0, 0) _ rfl g4 Tryz.underlying56 rfl (by kernel_rfl)) rfl ?_
        refine ⟨va, vc, by rw [HMM.out]; rfl, ?_, hp1⟩
        have h := (((HDN.out.put (b := P + 1) (j := 0) (by omega) (.int .i64 k)).put (b := P + 1) (j := 1) (by omega) (.int .i64 n)).put (b := P + 1) (j := 2) (by omega) (.string (bs s))).put (b := P + 1) (j := 3) (by omega) (.slice va m vc)
        rw [HMM.out] at h ⊢
        exact h.wide (by rw [HPP.out]; omega) (by simp)
end Go.Proofs.YtmgpacenooncjaaGreatDoor
