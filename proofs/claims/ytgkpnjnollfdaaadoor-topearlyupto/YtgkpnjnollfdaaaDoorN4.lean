/- Mapper: the walk of copyJob. Written by tpl/mk_n4.py. -/
import Derived.Test.YtgkpnjnollfdaaaDoorN4a
namespace Go.Proofs.YtgkpnjnollfdaaaDoor
open Go.ChangeShapes Go.WideShapes Go.ChangeAt Go.RowKit
/-- What copyJob hands back. -/
def CopyJ (w : World) (j : Jb) (r : Ending) (w' : World) : Prop :=
  ∃ va vc, r = .returned (j.value (.slice va j.rules.length vc)) ∧ (∀ w2, Keeps w.heap.size w'.heap.size w' w2 → IsRules w2 (.slice va j.rules.length vc) j.rules) ∧ Below w.heap.size w w'
theorem wp_nrm {c : Code} {Q : Exit → Act → World → Prop} {a : Act} {w : World} (h : c.wp Tryd.prog (Exit.then (fun a w => Q .normal a w) fun _ _ _ => False) a w) : c.wp Tryd.prog Q a w :=
  wp_mono h fun e a w hq => by
    cases e with
    | normal => exact hq
    | exit id => exact False.elim hq
    | goto l => exact False.elim hq
    | ret => exact False.elim hq
    | panic ch => exact False.elim hq
    | outgrown => exact False.elim hq
theorem keeps_put {lo hi b j : Nat} {w : World} {u : Value} (hb : b < lo) : Keeps lo hi w (w.setCell ⟨b, j, none⟩ u) := fun k hk _ => Below.heap_setCell w ⟨b, j, none⟩ u k (fun e => by simp at e; omega)
set_option maxRecDepth 100000 in
set_option maxHeartbeats 8000000 in
theorem copyJob_any (jj : Jb) (rv : Value) (w1 : World) (h : IsRules w1 rv jj.rules) (hw : rulesWt jj.rules ≤ 1000000) : Calls Tryd.prog 43 #[jj.value rv] w1 (CopyJ w1 jj) := by
  obtain ⟨l, fo, ea, sl⟩ := jj
  obtain ⟨a, cap, b, off, SI, SK, SV, rfl, ha, hc⟩ := h
  simp only at ha hc hw
  have hll : l.length ≤ 1000000 := Nat.le_trans (rules_len l) hw
  have IH : Hid (∀ (i : Nat) (x : Rl), l[i]? = some x → ∀ w', Below w1.heap.size w1 w' → Calls Tryd.prog 63 #[x.iff.val (SI i)] w' (CopySaid w' x.iff) ∧ Calls Tryd.prog 63 #[x.key.val (SK i)] w' (CopySaid w' x.key) ∧ Calls Tryd.prog 63 #[x.val.val (SV i)] w' (CopySaid w' x.val)) := fun i x hx w' hb' => by
    obtain ⟨_, xi, xk, xv⟩ := hc i x hx
    have hx2 := rule_wt hx
    unfold Rl.wt at hx2
    exact ⟨copyExpr_any xi (by omega) w' hb', copyExpr_any xk (by omega) w' hb', copyExpr_any xv (by omega) w' hb'⟩
  have HCL : Hid (∀ w', Below w1.heap.size w1 w' → Calls Tryd.prog 62 #[.slice a l.length cap] w' fun e w'' => ∃ v, e = .returned v ∧ w''.ownsRow w'.heap.size 43 15 v l.length (cellsU l SI SK SV) ∧ Below w'.heap.size w' w'') := fun w' hb' => cloneR_any a l.length cap (cellsU l SI SK SV) w' (cellsU_len l SI SK SV) (fun e => by
      rcases Nat.eq_zero_or_pos l.length with h0 | h0
      · exact h0
      · rw [ha h0] at e; cases e) (fun ad e j u hu => by
      have hlt := (List.getElem?_eq_some_iff.1 hu).1
      rw [cellsU_len] at hlt
      have e2 := ha (by omega)
      rw [e2, Option.some.injEq] at e
      subst e
      obtain ⟨x, hx⟩ : ∃ x, l[j / 15]? = some x := ⟨l[j / 15]'(by omega), by simp⟩
      obtain ⟨⟨c0, c1, c2, c3, c4, c5, c6, c7, c8, c9, c10, c11, c12, c13, c14⟩, -⟩ := hc _ x hx
      have hp := cellsU_part SI SK SV l _ x hx (j % 15) (by omega)
      have hadd : (⟨b, off, none⟩ : Addr).add j = ⟨b, off + (j / 15 * 15 + j % 15), none⟩ := by
        rw [show j / 15 * 15 + j % 15 = j by omega]
        unfold Addr.add; split <;> simp_all
      rw [hadd]
      rw [show j / 15 * 15 + j % 15 = j by omega] at hp
      rw [hp] at hu
      have hr : j % 15 < 15 := by omega
      generalize j / 15 = q at *
      generalize j % 15 = r at *
      rw [← Nat.add_assoc]
      have all : ∀ r u, r < 15 → (cells1 x (SI q) (SK q) (SV q))[r]? = some u → w1.cell? ⟨b, off + q * 15 + r, none⟩ = some u := by
        intro r u hr hu
        have hr2 : r = 0 ∨ r = 1 ∨ r = 2 ∨ r = 3 ∨ r = 4 ∨ r = 5 ∨ r = 6 ∨ r = 7 ∨ r = 8 ∨ r = 9 ∨ r = 10 ∨ r = 11 ∨ r = 12 ∨ r = 13 ∨ r = 14 := by omega
        rcases hr2 with rfl | rfl | rfl | rfl | rfl | rfl | rfl | rfl | rfl | rfl | rfl | rfl | rfl | rfl | rfl <;> simp only [cells1, List.getElem?_cons_zero, List.getElem?_cons_succ, Option.some.injEq] at hu <;> subst hu <;> assumption
      exact cell_below (all r u hr hu) hb') (cellsU_one l SI SK SV (fun i x hx => by
        obtain ⟨_, xi, xk, xv⟩ := hc i x hx
        obtain ⟨_, _, e1⟩ := xi.slice
        obtain ⟨_, _, e2⟩ := xk.slice
        obtain ⟨_, _, e3⟩ := xv.slice
        rw [e1, e2, e3]
        exact ⟨rfl, rfl, rfl⟩)) hll
  clear ha hc hw
  obtain ⟨P, hP⟩ : ∃ P, P = w1.heap.size := ⟨_, rfl⟩
  obtain ⟨m, hm⟩ : ∃ m, m = l.length := ⟨_, rfl⟩
  rw [← hm] at HCL hll
  obtain ⟨w2, hw2⟩ : ∃ w2, w2 = (w1.alloc (.cells #[.slice a m cap, .int .i64 fo, .bool ea, .int .i64 sl] 37)).alloc (.cells #[.slice none 0 0, .int .i64 0, .bool false, .int .i64 0] 37) := ⟨_, rfl⟩
  have hb12 : Below w1.heap.size w1 w2 := by rw [hw2]; exact below_trans (below_box _) (below_box _)
  have BX : Hid (Blk w2 P 37 [.slice a m cap, .int .i64 fo, .bool ea, .int .i64 sl]) := by
    show Blk _ _ _ _
    rw [hw2]
    exact (blk_new hP).blw (below_box _)
  have RS : Hid (Blk w2 (P + 1) 37 [.slice none 0 0, .int .i64 0, .bool false, .int .i64 0]) := by
    show Blk _ _ _ _
    rw [hw2]
    exact blk_new (by rw [hP]; simp)
  have hsz2 : w2.heap.size = P + 2 := by rw [hw2, hP]; simp
  have q3 := BX.out.at (i := 0) (v := .slice a m cap) rfl
  have HW2 := Lib.hid hw2
  have HPP := Lib.hid hP
  have HB12 := Lib.hid hb12
  have HSZ := Lib.hid hsz2
  have HMM := Lib.hid hm
  simp only [Jb.value]
  rw [← hm]
  clear hw2 hP hb12 hsz2 hm
  go_enter Tryd.func43, Tryd.ntmps43
  go_upto_region 1 with fail
  rw [← HW2.out, ← HPP.out]
  clear HW2
  go_wp2_with (go_at_call 62; refine Hid.out ?_)
  refine Lib.hid ?_
  refine (HCL.out w2 HB12.out).mono ?_
  rintro _ w3 ⟨v, rfl, hrow, hb23⟩
  have BX3 := BX.out.blw hb23
  have RS3 := Lib.hid (RS.out.blw hb23)
  have q3 := BX3.at (i := 0) (v := .slice a m cap) rfl
  have f3 := BX3.frozen 0
  have hs23 : P + 2 ≤ w3.heap.size := by rw [← HSZ.out]; exact hb23.size
  obtain ⟨va, vc, ev⟩ : ∃ va vc, v = .slice va m vc := by
    rcases row_slice hrow with ⟨h1, h2⟩ | ⟨g, c, h1, _⟩
    · exact ⟨_, _, by rw [h1, h2]⟩
    · exact ⟨_, _, h1⟩
  subst ev
  obtain ⟨w4, hw4⟩ : ∃ w4, w4 = w3.setCell ⟨P, 0, none⟩ (.slice va m vc) := ⟨_, rfl⟩
  have C4 : Hid (CJ w1 w4 w4 P l fo ea sl (.slice va m vc) SI SK SV SI SK SV 0) := by
    rw [hw4]
    refine ⟨BX3.set 0 _, RS3.out.other 0 _ (by omega), ?_, fun j _ => ⟨rfl, rfl, rfl⟩, fun j x hj _ => absurd hj (by omega), by simpa using hs23, fun g hg => by have := (hrow.lt g hg).2; simpa using this, Nat.le_refl _, ?_⟩
    · have h := row_stay (i := 0) (u := .slice va m vc) (ow_low hrow (Nat.le_of_eq HSZ.out.symm)) (show P < P + 2 by omega)
      rw [HMM.out] at h ⊢
      exact h
    · exact (below_trans HB12.out hb23).setCell (p := ⟨P, 0, none⟩) (by rw [HPP.out]; exact Nat.le_refl _) _
  have HW4 := Lib.hid hw4
  clear hw4 BX BX3 RS RS3 hrow hb23 hs23 HCL HB12 HSZ
  go_upto_region 2 with fail
  rw [← HW4.out]
  clear HW4 q3 f3
  have p3 := C4.out.box.at (i := 0) (v := .slice va m vc) rfl
  go_wp2
  clear p3
  have hmm : m ≤ 1000000 := hll
  go_loopg [12] m (fun gg iv wr => ∃ (i : Nat) (TI TK TV : Nat → Value), gg = m - i ∧ i ≤ m ∧ iv = .int .i64 i ∧ Hid (CJ w1 w4 wr P l fo ea sl (.slice va m vc) SI SK SV TI TK TV i))
  case atStart => exact ⟨0, SI, SK, SV, rfl, Nat.zero_le _, rfl, C4⟩
  case round =>
    clear C4
    obtain ⟨i, TI, TK, TV, hgi, hi, rfl, HC⟩ := hrel
    have HGI := Lib.hid hgi
    clear hgi
    by_cases hlt : i < m
    · have HLT := Lib.hid hlt
      obtain ⟨x, hx⟩ : ∃ x, l[i]? = some x := ⟨l[i]'(by have := HMM.out; omega), by simp⟩
      obtain ⟨g, rfl⟩ : ∃ g, va = some ⟨g, 0, none⟩ := by
        rcases row_slice HC.out.row with ⟨h1, h2⟩ | ⟨g, c, h1, _⟩
        · have := HMM.out; omega
        · injection h1 with h1; exact ⟨g, h1⟩
      have hrow : wr.ownsRow (P + 2) 43 15 (.slice (some ⟨g, 0, none⟩) l.length vc) l.length (cellsU l TI TK TV) := by
        have h := HC.out.row
        rw [HMM.out] at h
        exact h
      have CELLS : Hid (∀ w', Below wr.heap.size wr w' → w'.cell? ⟨g, i * 15 + 2, none⟩ = some (.int .i64 x.iff.k) ∧ w'.cell? ⟨g, i * 15 + 3, none⟩ = some (.int .i64 x.iff.n) ∧ w'.cell? ⟨g, i * 15 + 4, none⟩ = some (.string (bs x.iff.s)) ∧ w'.cell? ⟨g, i * 15 + 5, none⟩ = some (SI i) ∧ w'.cell? ⟨g, i * 15 + 7, none⟩ = some (.int .i64 x.key.k) ∧ w'.cell? ⟨g, i * 15 + 8, none⟩ = some (.int .i64 x.key.n) ∧ w'.cell? ⟨g, i * 15 + 9, none⟩ = some (.string (bs x.key.s)) ∧ w'.cell? ⟨g, i * 15 + 10, none⟩ = some (SK i) ∧ w'.cell? ⟨g, i * 15 + 11, none⟩ = some (.int .i64 x.val.k) ∧ w'.cell? ⟨g, i * 15 + 12, none⟩ = some (.int .i64 x.val.n) ∧ w'.cell? ⟨g, i * 15 + 13, none⟩ = some (.string (bs x.val.s)) ∧ w'.cell? ⟨g, i * 15 + 14, none⟩ = some (SV i) ∧ w'.frozen? ⟨g, i * 15 + 2, none⟩ = false ∧ w'.frozen? ⟨g, i * 15 + 3, none⟩ = false ∧ w'.frozen? ⟨g, i * 15 + 4, none⟩ = false ∧ w'.frozen? ⟨g, i * 15 + 5, none⟩ = false ∧ w'.frozen? ⟨g, i * 15 + 7, none⟩ = false ∧ w'.frozen? ⟨g, i * 15 + 8, none⟩ = false ∧ w'.frozen? ⟨g, i * 15 + 9, none⟩ = false ∧ w'.frozen? ⟨g, i * 15 + 10, none⟩ = false ∧ w'.frozen? ⟨g, i * 15 + 11, none⟩ = false ∧ w'.frozen? ⟨g, i * 15 + 12, none⟩ = false ∧ w'.frozen? ⟨g, i * 15 + 13, none⟩ = false ∧ w'.frozen? ⟨g, i * 15 + 14, none⟩ = false) := fun w' hb' => by
        have r := ow_below hrow hb'
        obtain ⟨e0, e1, e2, e3, e4, e5, e6, e7, e8, e9, e10, e11, e12, e13, e14⟩ := cellsU_at TI TK TV l i x hx
        obtain ⟨o1, o2, o3⟩ := HC.out.old i (Nat.le_refl _)
        rw [o1] at e5
        rw [o2] at e10
        rw [o3] at e14
        have hil := (List.getElem?_eq_some_iff.1 hx).1
        exact ⟨(r.cellAt _ (by omega)).trans e2, (r.cellAt _ (by omega)).trans e3, (r.cellAt _ (by omega)).trans e4, (r.cellAt _ (by omega)).trans e5, (r.cellAt _ (by omega)).trans e7, (r.cellAt _ (by omega)).trans e8, (r.cellAt _ (by omega)).trans e9, (r.cellAt _ (by omega)).trans e10, (r.cellAt _ (by omega)).trans e11, (r.cellAt _ (by omega)).trans e12, (r.cellAt _ (by omega)).trans e13, (r.cellAt _ (by omega)).trans e14, r.frozenAt _, r.frozenAt _, r.frozenAt _, r.frozenAt _, r.frozenAt _, r.frozenAt _, r.frozenAt _, r.frozenAt _, r.frozenAt _, r.frozenAt _, r.frozenAt _, r.frozenAt _⟩
      have p3 := HC.out.box.at (i := 0) (v := .slice (some ⟨g, 0, none⟩) m vc) rfl
      have DI : Hid (∀ w', Below wr.heap.size wr w' → Calls Tryd.prog 63 #[x.iff.val (SI i)] w' (CopySaid w' x.iff)) := fun w' hb' => (IH.out i x hx w' (below_trans HC.out.bel hb')).1
      have DK : Hid (∀ w', Below wr.heap.size wr w' → Calls Tryd.prog 63 #[x.key.val (SK i)] w' (CopySaid w' x.key)) := fun w' hb' => (IH.out i x hx w' (below_trans HC.out.bel hb')).2.1
      have DV : Hid (∀ w', Below wr.heap.size wr w' → Calls Tryd.prog 63 #[x.val.val (SV i)] w' (CopySaid w' x.val)) := fun w' hb' => (IH.out i x hx w' (below_trans HC.out.bel hb')).2.2
      unfold CopySaid Ex.val at DI DK DV
      have HP2 : Hid (w1.heap.size ≤ P) := by show _ ≤ _; rw [HPP.out]; exact Nat.le_refl _
      have HSZ4 := Lib.hid HC.out.size
      have PUT : Hid (∀ (wa wb wc wd : World) (vi vk vv : Value), Below wr.heap.size wr wa → Below wa.heap.size wa wb → Below wb.heap.size wb wc → Below wc.heap.size wc wd → IsExW wa.heap.size wb.heap.size wb vi x.iff → IsExW wb.heap.size wc.heap.size wc vk x.key → IsExW wc.heap.size wd.heap.size wd vv x.val → CJ w1 w4 ((((((((((((wd.setCell ⟨g, i * 15 + 2, none⟩ (.int .i64 x.iff.k)).setCell ⟨g, i * 15 + 3, none⟩ (.int .i64 x.iff.n)).setCell ⟨g, i * 15 + 4, none⟩ (.string (bs x.iff.s))).setCell ⟨g, i * 15 + 5, none⟩ (vi)).setCell ⟨g, i * 15 + 7, none⟩ (.int .i64 x.key.k)).setCell ⟨g, i * 15 + 8, none⟩ (.int .i64 x.key.n)).setCell ⟨g, i * 15 + 9, none⟩ (.string (bs x.key.s))).setCell ⟨g, i * 15 + 10, none⟩ (vk)).setCell ⟨g, i * 15 + 11, none⟩ (.int .i64 x.val.k)).setCell ⟨g, i * 15 + 12, none⟩ (.int .i64 x.val.n)).setCell ⟨g, i * 15 + 13, none⟩ (.string (bs x.val.s))).setCell ⟨g, i * 15 + 14, none⟩ (vv)) P l fo ea sl (.slice (some ⟨g, 0, none⟩) m vc) SI SK SV (fun j => if j = i then vi else TI j) (fun j => if j = i then vk else TK j) (fun j => if j = i then vv else TV j) (i + 1)) := fun wa wb wc wd vi vk vv h1 h2 h3 h4 x1 x2 x3 => by
        have h := HC.out.below (below_trans h1 (below_trans h2 (below_trans h3 h4)))
        have s1 := Nat.le_trans HSZ4.out h1.size
        have s2 := Nat.le_trans s1 h2.size
        have s3 := Nat.le_trans s2 h3.size
        rw [HMM.out] at h ⊢
        exact h.put hx HP2.out (((x1.carry (Keeps.of_below (below_trans h3 h4) (Nat.le_refl _))).wide s1 (below_trans h3 h4).size)) ((x2.carry (Keeps.of_below h4 (Nat.le_refl _))).wide s2 h4.size) (x3.wide s3 (Nat.le_refl _))
      generalize x.iff.k = ik at *
      generalize x.iff.n = im at *
      generalize bs x.iff.s = ib at *
      generalize x.key.k = kk at *
      generalize x.key.n = km at *
      generalize bs x.key.s = kb at *
      generalize x.val.k = vk at *
      generalize x.val.n = vm at *
      generalize bs x.val.s = vb at *
      generalize SI i = si at CELLS DI
      generalize SK i = sk at CELLS DK
      generalize SV i = sv at CELLS DV
      generalize x.iff.a.length = il at DI
      generalize x.key.a.length = kl at DK
      generalize x.val.a.length = vl at DV
      have HCG : Hid (gk = m - i) := HGI.out
      clear hrow hx
      go_upto_region 6 with fail
      clear p3
      refine wp_nrm (r6_any g (i * 15) il kl vl ik im kk km vk vm ib kb vb si sk sv x.iff x.key x.val wr _ _ _ _ _ _ _ _ _ _ _ _ _ _ _ _ _ _ _ _ _ _ _ _ _ _ _ _ _ _ _ _ _ _ _ _ _ _ _ _ _ _ _ _ _ CELLS.out DI DK DV ?_)
      refine Lib.hid ?_
      intro z19 z20 z21 z22 z23 z24 z25 z26 z27 z28 z29 z30 z31 z32 z33 z34 z35 z36 z37 z38 z39 z40 z41 z42 wa wb wc wd ia2 ka2 va2 ic2 kc2 vc2 h1 h2 h3 h4 x1 x2 x3
      have P5 := Lib.hid (PUT.out wa wb wc wd _ _ _ h1 h2 h3 h4 x1 x2 x3)
      obtain ⟨w6, hw6⟩ : ∃ w6, w6 = ((((((((((((wd.setCell ⟨g, i * 15 + 2, none⟩ (.int .i64 ik)).setCell ⟨g, i * 15 + 3, none⟩ (.int .i64 im)).setCell ⟨g, i * 15 + 4, none⟩ (.string ib)).setCell ⟨g, i * 15 + 5, none⟩ (.slice ia2 il ic2)).setCell ⟨g, i * 15 + 7, none⟩ (.int .i64 kk)).setCell ⟨g, i * 15 + 8, none⟩ (.int .i64 km)).setCell ⟨g, i * 15 + 9, none⟩ (.string kb)).setCell ⟨g, i * 15 + 10, none⟩ (.slice ka2 kl kc2)).setCell ⟨g, i * 15 + 11, none⟩ (.int .i64 vk)).setCell ⟨g, i * 15 + 12, none⟩ (.int .i64 vm)).setCell ⟨g, i * 15 + 13, none⟩ (.string vb)).setCell ⟨g, i * 15 + 14, none⟩ (.slice va2 vl vc2)) := ⟨_, rfl⟩
      rw [← hw6] at P5 ⊢
      clear hw6 h1 h2 h3 h4 x1 x2 x3 PUT CELLS DI DK DV HC
      simp only [Exit.inBlock, Exit.then]
      go_wp2
      go_roundg (m - (i + 1))
      case measure => have := HGI.out; have := HLT.out; omega
      case rel => exact ⟨i + 1, _, _, _, rfl, HLT.out, by have := HLT.out; go_num, P5⟩
    · have him : i = l.length := by have := HMM.out; omega
      have HDN : Hid (∀ w', Keeps (P + 2) wr.heap.size wr w' → IsRules w' (.slice va m vc) l) := by
        have h := HC.out
        rw [him, HMM.out] at h
        have h2 := h.done
        rw [← HMM.out] at h2
        exact h2
      have b0 := HC.out.box.at (i := 0) (v := .slice va m vc) rfl
      have b1 := HC.out.box.at (i := 1) (v := .int .i64 fo) rfl
      have b2 := HC.out.box.at (i := 2) (v := .bool ea) rfl
      have b3 := HC.out.box.at (i := 3) (v := .int .i64 sl) rfl
      have r0 := HC.out.res.at (i := 0) (v := .slice none 0 0) rfl
      have r1 := HC.out.res.at (i := 1) (v := .int .i64 0) rfl
      have r2 := HC.out.res.at (i := 2) (v := .bool false) rfl
      have r3 := HC.out.res.at (i := 3) (v := .int .i64 0) rfl
      have f0 := HC.out.res.frozen 0
      have f1 := HC.out.res.frozen 1
      have f2 := HC.out.res.frozen 2
      have f3 := HC.out.res.frozen 3
      clear him
      go_wp2
      (try simp only [Exit.inBlock, Exit.then])
      have g4 := (((HC.out.res.set 0 (.slice va m vc)).set 1 (.int .i64 fo)).set 2 (.bool ea)).set 3 (.int .i64 sl)
      have hp1 := (((HC.out.bel.setCell (p := ⟨P + 1, 0, none⟩) (by rw [HPP.out]; simp) (.slice va m vc)).setCell (p := ⟨P + 1, 1, none⟩) (by rw [HPP.out]; simp) (.int .i64 fo)).setCell (p := ⟨P + 1, 2, none⟩) (by rw [HPP.out]; simp) (.bool ea)).setCell (p := ⟨P + 1, 3, none⟩) (by rw [HPP.out]; simp) (.int .i64 sl)
      refine bodyPost_ret (results_cell_row rfl _ _ (P + 1) 37 #[.slice va m vc, .int .i64 fo, .bool ea, .int .i64 sl] (0, 0) _ rfl g4 Tryd.underlying37 rfl (by kernel_rfl)) rfl ?_
      refine ⟨va, vc, by rw [HMM.out]; rfl, fun w2 hk => ?_, hp1⟩
      rw [← HMM.out]
      refine HDN.out w2 (Keeps.trans (Keeps.trans (Keeps.trans (Keeps.trans (keeps_put (b := P + 1) (j := 0) (u := .slice va m vc) (by omega)) (keeps_put (b := P + 1) (j := 1) (u := .int .i64 fo) (by omega))) (keeps_put (b := P + 1) (j := 2) (u := .bool ea) (by omega))) (keeps_put (b := P + 1) (j := 3) (u := .int .i64 sl) (by omega))) (hk.sub (by rw [HPP.out]; omega) (by simp)))
end Go.Proofs.YtgkpnjnollfdaaaDoor
