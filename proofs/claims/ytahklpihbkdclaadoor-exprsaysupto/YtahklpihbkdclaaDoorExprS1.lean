/- The law ExprSays, walked: a text. Written by tpl/mk_exprs.py. -/
import Derived.Test.YtahklpihbkdclaaDoorExprS0
import Derived.Deep.RegionHeld3
namespace Go.Proofs.YtahklpihbkdclaaDoor
open Go.ChangeShapes Go.WideShapes Go.ChangeAt Go.RowKit
set_option maxRecDepth 100000 in
set_option maxHeartbeats 8000000 in
theorem exprSays_walk1 (e : Ex) (se : Value) (text each : Bool) (l : List UInt8) (which : Int) (w : World) (E : EnvS w) (he : IsEx w se e) (hwe : e.wt ≤ 2000000) (hl : l.length ≤ 2000000) (q1 : 1 ≤ e.k) (q2 : e.k ≤ 6) :
    Calls Tryd.prog 6 #[e.val se, .bool text, .bool each, .string (bs l), .int .i64 which] w fun r w' => r = .returned (.bool true) ∧ Below w.heap.size w w' := by
  have hmix : Tryd.prog.follows .mixedOrders = true := by kernel_rfl
  obtain ⟨ae, ce, rfl⟩ := he.slice
  have LE := Lib.hid (fun w (h : IsEx w (.slice ae e.a.length ce) e) => lightExpr_any h (by omega))
  have CE := Lib.hid (fun w (h : IsEx w (.slice ae e.a.length ce) e) E => check_any h (by omega) text each E)
  have FE := Lib.hid (fun w (h : IsEx w (.slice ae e.a.length ce) e) => exprFault_any h (by omega) text each)
  have HI := Lib.hid he
  have HE := Lib.hid E
  clear he E
  unfold Ex.val at LE CE FE ⊢
  have hsz : (bs l).size ≤ 2000000 := by rw [bs_size]; exact hl
  have HSZ := Lib.hid (bs_size l)
  obtain ⟨w1, hw1⟩ : ∃ w1, w1 = w.alloc (.cells #[.int .i64 e.k, .int .i64 e.n, .string (bs e.s), .slice ae e.a.length ce] 53) := ⟨_, rfl⟩
  have hb1 : Below w.heap.size w w1 := by rw [hw1]; exact below_box _
  have e0 : w1.cell? ⟨w.heap.size, 0, none⟩ = some (.int .i64 e.k) := by rw [hw1]; simp
  have e1 : w1.cell? ⟨w.heap.size, 1, none⟩ = some (.int .i64 e.n) := by rw [hw1]; simp
  have e2 : w1.cell? ⟨w.heap.size, 2, none⟩ = some (.string (bs e.s)) := by rw [hw1]; simp
  have e3 : w1.cell? ⟨w.heap.size, 3, none⟩ = some (.slice ae e.a.length ce) := by rw [hw1]; simp
  go_enter Tryd.func6, Tryd.ntmps6
  go_wp2_with (go_at_call 25; refine Hid.out ?_)
  refine Lib.hid ?_
  rw [← hw1]
  clear hw1
  refine (exprs_any w1 (HE.out.lower hb1)).mono ?_
  rintro _ w2 ⟨rfl, hb12⟩
  replace e0 := cell_below e0 hb12
  replace e1 := cell_below e1 hb12
  replace e2 := cell_below e2 hb12
  replace e3 := cell_below e3 hb12
  have hb2 := below_trans hb1 hb12
  clear hb1 hb12
  go_wp2_with (go_at_call 26; refine Hid.out ?_)
  refine Lib.hid ?_
  refine (LE.out _ (HI.out.lower hb2)).mono ?_
  rintro _ w3 ⟨g1, rfl, hb23⟩
  replace e0 := cell_below e0 hb23
  replace e1 := cell_below e1 hb23
  replace e2 := cell_below e2 hb23
  replace e3 := cell_below e3 hb23
  have hb3 := below_trans hb2 hb23
  clear hb2 hb23
  cases g1 with
  | false =>
    go_wp2
    go_ret
    exact ⟨rfl, hb3⟩
  | true =>
  by_cases hl2 : ¬ (bs l).size ≤ 300
  · go_wp2
    go_ret
    exact ⟨rfl, hb3⟩
  replace hl2 := Decidable.not_not.1 hl2
  have hlb : l.length ≤ 300 := by have := HSZ.out; omega
  go_wp2_with (go_at_call 27; refine Hid.out ?_)
  refine Lib.hid ?_
  refine (FE.out _ (HI.out.lower hb3)).mono ?_
  rintro _ w4 ⟨rfl, hb34⟩
  replace e0 := cell_below e0 hb34
  replace e1 := cell_below e1 hb34
  replace e2 := cell_below e2 hb34
  replace e3 := cell_below e3 hb34
  have hb4 := below_trans hb3 hb34
  clear hb3 hb34 FE LE
  obtain ⟨f, hf⟩ : ∃ f, f = faultE e text each := ⟨_, rfl⟩
  rw [← hf] at CE ⊢
  have HF := Lib.hid hf
  clear hf
  obtain ⟨m, hm⟩ : ∃ m, m = (wordsL l).length := ⟨_, rfl⟩
  have K1 : Hid (∀ w', Below w4.heap.size w4 w' → Calls Tryd.prog 28 #[.agg #[.int .i64 e.k, .int .i64 e.n, .string (bs e.s), .slice ae e.a.length ce], .bool text, .bool each] w' fun r w'' => r = .returned (errV f) ∧ Below w4.heap.size w4 w'') := fun w' hb => (CE.out _ ((HI.out.lower hb4).lower hb) ((HE.out.lower hb4).lower hb)).mono fun _ _ h => ⟨h.1, below_trans hb h.2⟩
  have K2 : Hid (∀ w', Below w4.heap.size w4 w' → Calls Tryd.prog 7 #[errV f, .int .i64 f] w' fun r w'' => r = .returned (.bool true) ∧ Below w4.heap.size w4 w'') := fun w' hb => (same_any f w').mono fun _ _ h => ⟨h.1, by rw [h.2]; exact hb⟩
  have K3 : Hid (∀ w', Below w4.heap.size w4 w' → Calls Tryd.prog 30 #[.string (bs l)] w' fun r w'' => ∃ a c, r = .returned (.slice a m c) ∧ Hid (IsTexts w'' (.slice a m c) ((wordsL l).map bs)) ∧ Below w4.heap.size w4 w'') := fun w' hb => (words_any l w' ((HE.out.lower hb4).lower hb).toEnv0 (by omega)).mono fun _ _ ⟨a, c, h1, h2, h3, _⟩ => ⟨a, c, by rw [hm]; exact h1, by rw [hm]; exact h2, below_trans hb h3⟩
  have K4 : Hid (∀ w' a c, Hid (IsTexts w' (.slice a m c) ((wordsL l).map bs)) → Below w4.heap.size w4 w' → Calls Tryd.prog 31 #[.string (bs l)] w' fun r w'' => ∃ a2 c2, r = .returned (.slice a2 m c2) ∧ Hid (IsTexts w'' (.slice a m c) ((wordsL l).map bs)) ∧ Hid (IsTexts w'' (.slice a2 m c2) ((wordsL l).map bs)) ∧ Below w4.heap.size w4 w'') := fun w' a c hT hb => (rwords_any l w' (by omega)).mono fun _ _ ⟨a2, c2, h1, h2, h3⟩ => ⟨a2, c2, by rw [hm]; exact h1, hT.out.below h3, by rw [hm]; exact h2, below_trans hb h3⟩
  have K5 : Hid (∀ w' a c a2 c2, Hid (IsTexts w' (.slice a m c) ((wordsL l).map bs)) → Hid (IsTexts w' (.slice a2 m c2) ((wordsL l).map bs)) → Below w4.heap.size w4 w' → Calls Tryd.prog 29 #[.slice a m c, .slice a2 m c2] w' fun r w'' => r = .returned (.bool true) ∧ Below w4.heap.size w4 w'') := fun w' a c a2 c2 h1 h2 hb => (sameTexts_any _ _ _ _ w' h1.out h2.out (by rw [List.length_map, ← hm]; have := words_len l; unfold maxLen; omega)).mono fun _ _ ⟨h1, n, h2⟩ => ⟨by rw [h1]; simp, by rw [h2]; exact below_trans hb (below_drewN _ _)⟩
  have K6 : Hid (∀ w', Below w4.heap.size w4 w' → Calls Tryd.prog 32 #[.agg #[.int .i64 e.k, .int .i64 e.n, .string (bs e.s), .slice ae e.a.length ce]] w' fun r w'' => r = .returned (.bool (isTxt e.k)) ∧ Below w4.heap.size w4 w'') := fun w' hb => (texts_any e.k e.n (bs e.s) _ w').mono fun _ _ h => ⟨h.1, below_trans hb h.2⟩
  have HM := Lib.hid hm
  clear hm CE
  generalize errV f = fv at *
  have E0 := Lib.hid e0
  have E1 := Lib.hid e1
  have E2 := Lib.hid e2
  have E3 := Lib.hid e3
  clear e0 e1 e2 e3
  have d1 : decide (1 ≤ e.k) = true := decide_eq_true q1
  have d2 : decide (e.k ≤ 6) = true := decide_eq_true q2
  have d3 : isTxt e.k = true := by simp [isTxt, q1, q2]
  rw [d3] at K6
  go_wp2
  have hb00 : Below w4.heap.size w4 w4.drew := ⟨rfl, rfl, rfl, Nat.le_refl _, fun _ _ => rfl⟩
  go_region_held3 (fun w' => Below w4.heap.size w4 w' ∧ w'.cell? ⟨w.heap.size, 0, none⟩ = some (.int .i64 e.k) ∧ w'.cell? ⟨w.heap.size, 1, none⟩ = some (.int .i64 e.n) ∧ w'.cell? ⟨w.heap.size, 2, none⟩ = some (.string (bs e.s)) ∧ w'.cell? ⟨w.heap.size, 3, none⟩ = some (.slice ae e.a.length ce))
    (refine ⟨?_, ?_, ?_, ?_, ?_⟩ <;> first | assumption | exact cell_below E0.out (by assumption) | exact cell_below E1.out (by assumption) | exact cell_below E2.out (by assumption) | exact cell_below E3.out (by assumption))
    (first
      | (go_at_call 28; refine (K1.out _ (by assumption)).mono ?_; rintro _ w5 ⟨rfl, hb5⟩)
      | (go_at_call 7; refine (K2.out _ (by assumption)).mono ?_; rintro _ w6 ⟨rfl, hb6⟩)
      | (go_at_call 30; refine (K3.out _ (by assumption)).mono ?_; rintro _ w7 ⟨a7, c7, rfl, H7, hb7⟩)
      | (go_at_call 31; refine (K4.out _ _ _ H7 (by assumption)).mono ?_; rintro _ w8 ⟨a8, c8, rfl, H8, H8', hb8⟩)
      | (go_at_call 29; refine (K5.out _ _ _ _ _ H8 H8' (by assumption)).mono ?_; rintro _ w9 ⟨rfl, hb9⟩)
      | (go_at_call 32; refine (K6.out _ (by assumption)).mono ?_; rintro _ w10 ⟨rfl, hb10⟩))
  have hb10w := below_trans hb4 hb10
  have e0 := cell_below E0.out hb10
  have e1 := cell_below E1.out hb10
  have e2 := cell_below E2.out hb10
  have e3 := cell_below E3.out hb10
  have OFC := Lib.hid (of_any l m HM.out w10 (HE.out.lower hb10w).toEnv0 (by omega))
  have RW : Hid (∀ w', Calls Tryd.prog 31 #[.string (bs l)] w' fun r w'' => ∃ a c, r = .returned (.slice a m c) ∧ Hid (IsTexts w'' (.slice a m c) ((wordsL l).map bs)) ∧ Below w'.heap.size w' w'') := by
    have hm := HM.out
    subst hm
    exact fun w' => rwords_any l w' (by omega)
  have hm3 : m ≤ 300 := by rw [HM.out]; exact Nat.le_trans (words_len l) hlb
  clear K1 K2 K3 K4 K5 K6 hb00 hb5 hb6 hb7 hb8 hb9 H7 H8 H8' hb4 E0 E1 E2 E3
  go_wp2_with (go_at_call 33; refine Hid.out ?_)
  refine Lib.hid ?_
  refine OFC.out.mono ?_
  rintro _ w11 ⟨rb, rd, rfl, HT11, hb1011, _⟩
  replace e0 := cell_below e0 hb1011
  replace e1 := cell_below e1 hb1011
  replace e2 := cell_below e2 hb1011
  replace e3 := cell_below e3 hb1011
  have hb11 := below_trans hb10w hb1011
  have hge : Hid (w.heap.size < w11.heap.size) := World.block_lt_of_cell? w11 ⟨w.heap.size, 0, none⟩ e0
  obtain ⟨w12, hw12⟩ : ∃ w12, w12 = w11.alloc (.cells #[.string (bs l), .string ⟨#[]⟩, .slice rb m rd] 61) := ⟨_, rfl⟩
  have hb1112 : Below w11.heap.size w11 w12 := by rw [hw12]; exact below_box _
  replace e0 := cell_below e0 hb1112
  replace e1 := cell_below e1 hb1112
  replace e2 := cell_below e2 hb1112
  replace e3 := cell_below e3 hb1112
  have hb12 := below_trans hb11 hb1112
  have HT12 := Lib.hid (HT11.out.below hb1112)
  have hg12 : Hid (w12.heap[w11.heap.size]? = some (.cells #[.string (bs l), .string ⟨#[]⟩, .slice rb m rd] 61 (0, 0))) := by rw [hw12]; exact heap_alloc_new _ _
  have hlt12 : Hid (w11.heap.size < w12.heap.size) := by rw [hw12]; show _ < _; simp
  go_wp2_with (go_at_call 31; refine Hid.out ?_)
  refine Lib.hid ?_
  rw [← hw12]
  clear hw12
  refine (RW.out w12).mono ?_
  rintro _ w13 ⟨aw, cw, rfl, HW13, hb1213⟩
  replace e0 := cell_below e0 hb1213
  replace e1 := cell_below e1 hb1213
  replace e2 := cell_below e2 hb1213
  replace e3 := cell_below e3 hb1213
  have hb13 := below_trans hb12 hb1213
  have HT13 := Lib.hid (HT12.out.below hb1213)
  have hg13 : Hid (w13.heap[w11.heap.size]? = some (.cells #[.string (bs l), .string ⟨#[]⟩, .slice rb m rd] 61 (0, 0))) := by
    show _ = _
    rw [hb1213.block _ hlt12.out]; exact hg12.out
  have hlt13 : Hid (w11.heap.size < w13.heap.size) := Nat.lt_of_lt_of_le hlt12.out hb1213.size
  have HTF : Hid (∀ w', Below w11.heap.size w11 w' → IsTexts w' (.slice rb m rd) ((wordsL l).map bs)) := fun w' hb => HT11.out.below hb
  have HBG := Lib.hid (below_trans hb1112 hb1213)
  clear hb10w hb1011 hb11 hb1112 hb12 hb1213 HT11 HT12 hg12 hlt12 OFC RW
  generalize w11.heap.size = g at *
  have r0 : w13.cell? ⟨g, 0, none⟩ = some (.string (bs l)) := by rw [cell_of_row _ _ _ _ _ _ hg13.out]; rfl
  have r1 : w13.cell? ⟨g, 1, none⟩ = some (.string ⟨#[]⟩) := by rw [cell_of_row _ _ _ _ _ _ hg13.out]; rfl
  have r2 : w13.cell? ⟨g, 2, none⟩ = some (.slice rb m rd) := by rw [cell_of_row _ _ _ _ _ _ hg13.out]; rfl
  have ST : Hid (Calls Tryd.prog 29 #[.slice rb m rd, .slice aw m cw] w13 fun r w' => r = .returned (.bool true) ∧ Below w13.heap.size w13 w') := (sameTexts_any _ _ _ _ w13 HT13.out HW13.out (by rw [List.length_map, ← HM.out]; unfold maxLen; omega)).mono (fun _ _ ⟨h1, n, h2⟩ => ⟨by rw [h1]; simp, by rw [h2]; exact below_drewN _ _⟩)
  go_wp2_with (go_at_call 29; refine Hid.out ?_)
  refine Lib.hid ?_
  refine ST.out.mono ?_
  rintro _ w15 ⟨rfl, hb1315⟩
  clear ST
  replace e0 := cell_below e0 hb1315
  replace e1 := cell_below e1 hb1315
  replace e2 := cell_below e2 hb1315
  replace e3 := cell_below e3 hb1315
  replace r0 := cell_below r0 hb1315
  replace r1 := cell_below r1 hb1315
  replace r2 := cell_below r2 hb1315
  have hb15 := below_trans hb13 hb1315
  have HT15 := Lib.hid (HT13.out.below hb1315)
  have HW15 := Lib.hid (HW13.out.below hb1315)
  have HBG15 : Hid (Below g w11 w15) := HBG.out.trans (hb1315.mono (Nat.le_of_lt hlt13.out))
  have hg15 : Hid (w15.heap[g]? = some (.cells #[.string (bs l), .string ⟨#[]⟩, .slice rb m rd] 61 (0, 0))) := by
    show _ = _
    rw [hb1315.block _ hlt13.out]; exact hg13.out
  clear HT13 HW13 hg13 hb13 hb1315
  by_cases hm0 : ¬ 0 < m
  · skip
    obtain ⟨it, hit0⟩ : ∃ it : List UInt8, it = [] := ⟨_, rfl⟩
    have hit : it.length ≤ 300 := by rw [hit0]; simp
    have r1b : w15.cell? ⟨g, 1, none⟩ = some (.string (bs it)) := by rw [hit0]; exact r1
    clear r1 hit0
    have r1 := r1b
    clear r1b
    have hb16 := hb15
    have HT16 := HT15
    generalize w15 = w16 at *

    rcases (Nat.eq_zero_or_pos f).symm with hf0 | hf0
    · go_wp2
      go_ret
      exact ⟨rfl, hb16⟩
    subst hf0
    have hF0 := Lib.hid HF.out.symm
    cases text with
    | true =>
      have D1 : Hid (∀ d os, Calls Tryd.prog 34 #[e.val (.slice ae e.a.length ce), .agg #[.string (bs l), .string (bs it), .slice rb m rd]] (Sort.grow (redrawn w16 d) os) fun r w'' => r = .returned (.string (bs (e.str (rc l it)))) ∧ ∃ p : Regrown, w'' = Sort.grow (redrawn w16 p.d) p.os) := fun d os => Calls.regrown_of (sStr l it hlb hit m HM.out rb rd ((HI.out.lower hb16).lower (below_regrown w16 d os)) (HT16.out.below (below_regrown w16 d os)) (by omega) hF0.out ((HE.out.lower hb16).lower (below_regrown w16 d os)))
      have D2 : Hid (∀ d os, Calls Tryd.prog 35 #[e.val (.slice ae e.a.length ce), .string (bs l), .string (bs it)] (Sort.grow (redrawn w16 d) os) fun r w'' => r = .returned (.string (bs (e.str (rc l it)))) ∧ ∃ p : Regrown, w'' = Sort.grow (redrawn w16 p.d) p.os) := fun d os => Calls.regrown_of (rstr_any l it (by omega) each ((HI.out.lower hb16).lower (below_regrown w16 d os)) (fault_ok hF0.out) (by have := rc_len l it hlb hit hF0.out (by omega); omega) _ (Below.refl _ _))
      unfold Ex.val at D1 D2
      clear HF hF0
      generalize bs (e.str (rc l it)) = V at *
      have k0 := cell_regrown e0
      have k1 := cell_regrown e1
      have k2 := cell_regrown e2
      have k3 := cell_regrown e3
      have j0 := cell_regrown r0
      have j1 := cell_regrown r1
      have j2 := cell_regrown r2
      go_wp2
      refine wp_region_quiet_below hmix (by kernel_rfl) ?_
      repeat (quiet_step (first | (go_at_call 34; exact D1.out _ _) | (go_at_call 35; exact D2.out _ _)))
      refine wpQuiet_nil ?_
      intro _ hw'
      obtain ⟨⟨dq, osq⟩, hw''⟩ := hw'
      subst hw''
      have hbb : Below w.heap.size w (Sort.grow (redrawn w16 dq) osq) := below_trans hb16 (below_regrown w16 dq osq)
      generalize Sort.grow (redrawn w16 dq) osq = w17 at *
      go_wp2
      go_ret
      exact ⟨by first | rfl | simp, hbb⟩
    | false =>
      have D1 : Hid (∀ d os, Calls Tryd.prog 36 #[e.val (.slice ae e.a.length ce), .agg #[.string (bs l), .string (bs it), .slice rb m rd]] (Sort.grow (redrawn w16 d) os) fun r w'' => r = .returned (.int .i64 (e.num (rc l it))) ∧ ∃ p : Regrown, w'' = Sort.grow (redrawn w16 p.d) p.os) := fun d os => Calls.regrown_of (sInt l it hlb hit m HM.out rb rd ((HI.out.lower hb16).lower (below_regrown w16 d os)) (HT16.out.below (below_regrown w16 d os)) (by omega) hF0.out ((HE.out.lower hb16).lower (below_regrown w16 d os)))
      have D2 : Hid (∀ d os, Calls Tryd.prog 37 #[e.val (.slice ae e.a.length ce), .string (bs l), .string (bs it)] (Sort.grow (redrawn w16 d) os) fun r w'' => r = .returned (.int .i64 (e.num (rc l it))) ∧ ∃ p : Regrown, w'' = Sort.grow (redrawn w16 p.d) p.os) := fun d os => Calls.regrown_of (rint_any l it (by omega) each ((HI.out.lower hb16).lower (below_regrown w16 d os)) (fault_ok hF0.out) (by have := rc_far l it hlb hit hF0.out (by omega); omega) _ (Below.refl _ _))
      unfold Ex.val at D1 D2
      clear HF hF0
      generalize e.num (rc l it) = V at *
      have k0 := cell_regrown e0
      have k1 := cell_regrown e1
      have k2 := cell_regrown e2
      have k3 := cell_regrown e3
      have j0 := cell_regrown r0
      have j1 := cell_regrown r1
      have j2 := cell_regrown r2
      go_wp2
      refine wp_region_quiet_below hmix (by kernel_rfl) ?_
      repeat (quiet_step (first | (go_at_call 36; exact D1.out _ _) | (go_at_call 37; exact D2.out _ _)))
      refine wpQuiet_nil ?_
      intro _ hw'
      obtain ⟨⟨dq, osq⟩, hw''⟩ := hw'
      subst hw''
      have hbb : Below w.heap.size w (Sort.grow (redrawn w16 dq) osq) := below_trans hb16 (below_regrown w16 dq osq)
      generalize Sort.grow (redrawn w16 dq) osq = w17 at *
      go_wp2
      go_ret
      exact ⟨by first | rfl | simp, hbb⟩
  replace hm0 := Decidable.not_not.1 hm0
  cases each with
  | false =>
    obtain ⟨it, hit0⟩ : ∃ it : List UInt8, it = [] := ⟨_, rfl⟩
    have hit : it.length ≤ 300 := by rw [hit0]; simp
    have r1b : w15.cell? ⟨g, 1, none⟩ = some (.string (bs it)) := by rw [hit0]; exact r1
    clear r1 hit0
    have r1 := r1b
    clear r1b
    have hb16 := hb15
    have HT16 := HT15
    generalize w15 = w16 at *

    rcases (Nat.eq_zero_or_pos f).symm with hf0 | hf0
    · go_wp2
      go_ret
      exact ⟨rfl, hb16⟩
    subst hf0
    have hF0 := Lib.hid HF.out.symm
    cases text with
    | true =>
      have D1 : Hid (∀ d os, Calls Tryd.prog 34 #[e.val (.slice ae e.a.length ce), .agg #[.string (bs l), .string (bs it), .slice rb m rd]] (Sort.grow (redrawn w16 d) os) fun r w'' => r = .returned (.string (bs (e.str (rc l it)))) ∧ ∃ p : Regrown, w'' = Sort.grow (redrawn w16 p.d) p.os) := fun d os => Calls.regrown_of (sStr l it hlb hit m HM.out rb rd ((HI.out.lower hb16).lower (below_regrown w16 d os)) (HT16.out.below (below_regrown w16 d os)) (by omega) hF0.out ((HE.out.lower hb16).lower (below_regrown w16 d os)))
      have D2 : Hid (∀ d os, Calls Tryd.prog 35 #[e.val (.slice ae e.a.length ce), .string (bs l), .string (bs it)] (Sort.grow (redrawn w16 d) os) fun r w'' => r = .returned (.string (bs (e.str (rc l it)))) ∧ ∃ p : Regrown, w'' = Sort.grow (redrawn w16 p.d) p.os) := fun d os => Calls.regrown_of (rstr_any l it (by omega) false ((HI.out.lower hb16).lower (below_regrown w16 d os)) (fault_ok hF0.out) (by have := rc_len l it hlb hit hF0.out (by omega); omega) _ (Below.refl _ _))
      unfold Ex.val at D1 D2
      clear HF hF0
      generalize bs (e.str (rc l it)) = V at *
      have k0 := cell_regrown e0
      have k1 := cell_regrown e1
      have k2 := cell_regrown e2
      have k3 := cell_regrown e3
      have j0 := cell_regrown r0
      have j1 := cell_regrown r1
      have j2 := cell_regrown r2
      go_wp2
      refine wp_region_quiet_below hmix (by kernel_rfl) ?_
      repeat (quiet_step (first | (go_at_call 34; exact D1.out _ _) | (go_at_call 35; exact D2.out _ _)))
      refine wpQuiet_nil ?_
      intro _ hw'
      obtain ⟨⟨dq, osq⟩, hw''⟩ := hw'
      subst hw''
      have hbb : Below w.heap.size w (Sort.grow (redrawn w16 dq) osq) := below_trans hb16 (below_regrown w16 dq osq)
      generalize Sort.grow (redrawn w16 dq) osq = w17 at *
      go_wp2
      go_ret
      exact ⟨by first | rfl | simp, hbb⟩
    | false =>
      have D1 : Hid (∀ d os, Calls Tryd.prog 36 #[e.val (.slice ae e.a.length ce), .agg #[.string (bs l), .string (bs it), .slice rb m rd]] (Sort.grow (redrawn w16 d) os) fun r w'' => r = .returned (.int .i64 (e.num (rc l it))) ∧ ∃ p : Regrown, w'' = Sort.grow (redrawn w16 p.d) p.os) := fun d os => Calls.regrown_of (sInt l it hlb hit m HM.out rb rd ((HI.out.lower hb16).lower (below_regrown w16 d os)) (HT16.out.below (below_regrown w16 d os)) (by omega) hF0.out ((HE.out.lower hb16).lower (below_regrown w16 d os)))
      have D2 : Hid (∀ d os, Calls Tryd.prog 37 #[e.val (.slice ae e.a.length ce), .string (bs l), .string (bs it)] (Sort.grow (redrawn w16 d) os) fun r w'' => r = .returned (.int .i64 (e.num (rc l it))) ∧ ∃ p : Regrown, w'' = Sort.grow (redrawn w16 p.d) p.os) := fun d os => Calls.regrown_of (rint_any l it (by omega) false ((HI.out.lower hb16).lower (below_regrown w16 d os)) (fault_ok hF0.out) (by have := rc_far l it hlb hit hF0.out (by omega); omega) _ (Below.refl _ _))
      unfold Ex.val at D1 D2
      clear HF hF0
      generalize e.num (rc l it) = V at *
      have k0 := cell_regrown e0
      have k1 := cell_regrown e1
      have k2 := cell_regrown e2
      have k3 := cell_regrown e3
      have j0 := cell_regrown r0
      have j1 := cell_regrown r1
      have j2 := cell_regrown r2
      go_wp2
      refine wp_region_quiet_below hmix (by kernel_rfl) ?_
      repeat (quiet_step (first | (go_at_call 36; exact D1.out _ _) | (go_at_call 37; exact D2.out _ _)))
      refine wpQuiet_nil ?_
      intro _ hw'
      obtain ⟨⟨dq, osq⟩, hw''⟩ := hw'
      subst hw''
      have hbb : Below w.heap.size w (Sort.grow (redrawn w16 dq) osq) := below_trans hb16 (below_regrown w16 dq osq)
      generalize Sort.grow (redrawn w16 dq) osq = w17 at *
      go_wp2
      go_ret
      exact ⟨by first | rfl | simp, hbb⟩
  | true =>
  obtain ⟨B, hB1, hB⟩ := and_1023 which
  obtain ⟨j, hj⟩ : ∃ j, j = B % m := ⟨_, rfl⟩
  have hjm : j < m := by rw [hj]; exact Nat.mod_lt _ hm0
  have hrem : (B : Int).tmod (m : Int) = (j : Int) := by rw [hj]; rfl
  obtain ⟨it, hitx⟩ : ∃ x, (wordsL l)[j]? = some x := ⟨(wordsL l)[j]'(by rw [← HM.out]; exact hjm), by simp⟩
  obtain ⟨ba, oa, rfl, cc⟩ := texts_get HW15.out j it hitx
  have hit : it.length ≤ 300 := by
    have := word_len (l := l) (cur := []) (List.mem_of_getElem? hitx)
    simp at this
    omega
  have f1 := frozen_of_row w15 g 1 _ _ hg15.out
  have G1 := heap_setCell_same w15 g 1 _ _ (.string (bs it)) hg15.out
  obtain ⟨w16, hw16⟩ : ∃ w16, w16 = w15.setCell ⟨g, 1, none⟩ (.string (bs it)) := ⟨_, rfl⟩
  have hwg : w.heap.size ≤ g := Nat.le_of_lt hge.out
  have hb16 : Below w.heap.size w w16 := by rw [hw16]; exact below_setCell hg15.out hb15 hwg _
  have HT16 := Lib.hid (HTF.out w16 (by rw [hw16]; exact below_setCell hg15.out HBG15.out (Nat.le_refl _) _))
  have n0 : w.heap.size ≠ g := Nat.ne_of_lt hge.out
  have x0 : w16.cell? ⟨w.heap.size, 0, none⟩ = some (.int .i64 e.k) := by rw [hw16]; exact cell_far n0 e0
  have x1 : w16.cell? ⟨w.heap.size, 1, none⟩ = some (.int .i64 e.n) := by rw [hw16]; exact cell_far n0 e1
  have x2 : w16.cell? ⟨w.heap.size, 2, none⟩ = some (.string (bs e.s)) := by rw [hw16]; exact cell_far n0 e2
  have x3 : w16.cell? ⟨w.heap.size, 3, none⟩ = some (.slice ae e.a.length ce) := by rw [hw16]; exact cell_far n0 e3
  have y0 : w16.cell? ⟨g, 0, none⟩ = some (.string (bs l)) := by rw [hw16, cell_of_row _ _ _ _ _ _ G1]; rfl
  have y1 : w16.cell? ⟨g, 1, none⟩ = some (.string (bs it)) := by rw [hw16, cell_of_row _ _ _ _ _ _ G1]; rfl
  have y2 : w16.cell? ⟨g, 2, none⟩ = some (.slice rb m rd) := by rw [hw16, cell_of_row _ _ _ _ _ _ G1]; rfl
  have HW16 := Lib.hid hw16
  clear hw16 G1 hitx hwg n0 HBG15 HTF HT15 hj e0 e1 e2 e3 r0 r2
  have rr := r1
  clear r1
  have e0 := x0
  have e1 := x1
  have e2 := x2
  have e3 := x3
  have r0 := y0
  have r1 := y1
  have r2 := y2
  clear x0 x1 x2 x3 y0 y1 y2
  rcases (Nat.eq_zero_or_pos f).symm with hf0 | hf0
  · go_wp2
    go_ret
    have hfin := hb16
    rw [HW16.out] at hfin
    exact ⟨rfl, hfin⟩
  subst hf0
  have hF0 := Lib.hid HF.out.symm
  cases text with
  | true =>
    have D1 : Hid (∀ d os, Calls Tryd.prog 34 #[e.val (.slice ae e.a.length ce), .agg #[.string (bs l), .string (bs it), .slice rb m rd]] (Sort.grow (redrawn w16 d) os) fun r w'' => r = .returned (.string (bs (e.str (rc l it)))) ∧ ∃ p : Regrown, w'' = Sort.grow (redrawn w16 p.d) p.os) := fun d os => Calls.regrown_of (sStr l it hlb hit m HM.out rb rd ((HI.out.lower hb16).lower (below_regrown w16 d os)) (HT16.out.below (below_regrown w16 d os)) (by omega) hF0.out ((HE.out.lower hb16).lower (below_regrown w16 d os)))
    have D2 : Hid (∀ d os, Calls Tryd.prog 35 #[e.val (.slice ae e.a.length ce), .string (bs l), .string (bs it)] (Sort.grow (redrawn w16 d) os) fun r w'' => r = .returned (.string (bs (e.str (rc l it)))) ∧ ∃ p : Regrown, w'' = Sort.grow (redrawn w16 p.d) p.os) := fun d os => Calls.regrown_of (rstr_any l it (by omega) true ((HI.out.lower hb16).lower (below_regrown w16 d os)) (fault_ok hF0.out) (by have := rc_len l it hlb hit hF0.out (by omega); omega) _ (Below.refl _ _))
    unfold Ex.val at D1 D2
    clear HF hF0
    generalize bs (e.str (rc l it)) = V at *
    have k0 := cell_regrown e0
    have k1 := cell_regrown e1
    have k2 := cell_regrown e2
    have k3 := cell_regrown e3
    have j0 := cell_regrown r0
    have j1 := cell_regrown r1
    have j2 := cell_regrown r2
    go_wp2
    rw [← HW16.out]
    refine wp_region_quiet_below hmix (by kernel_rfl) ?_
    repeat (quiet_step (first | (go_at_call 34; exact D1.out _ _) | (go_at_call 35; exact D2.out _ _)))
    refine wpQuiet_nil ?_
    intro _ hw'
    obtain ⟨⟨dq, osq⟩, hw''⟩ := hw'
    subst hw''
    have hbb : Below w.heap.size w (Sort.grow (redrawn w16 dq) osq) := below_trans hb16 (below_regrown w16 dq osq)
    generalize Sort.grow (redrawn w16 dq) osq = w17 at *
    go_wp2
    go_ret
    exact ⟨by first | rfl | simp, hbb⟩
  | false =>
    have D1 : Hid (∀ d os, Calls Tryd.prog 36 #[e.val (.slice ae e.a.length ce), .agg #[.string (bs l), .string (bs it), .slice rb m rd]] (Sort.grow (redrawn w16 d) os) fun r w'' => r = .returned (.int .i64 (e.num (rc l it))) ∧ ∃ p : Regrown, w'' = Sort.grow (redrawn w16 p.d) p.os) := fun d os => Calls.regrown_of (sInt l it hlb hit m HM.out rb rd ((HI.out.lower hb16).lower (below_regrown w16 d os)) (HT16.out.below (below_regrown w16 d os)) (by omega) hF0.out ((HE.out.lower hb16).lower (below_regrown w16 d os)))
    have D2 : Hid (∀ d os, Calls Tryd.prog 37 #[e.val (.slice ae e.a.length ce), .string (bs l), .string (bs it)] (Sort.grow (redrawn w16 d) os) fun r w'' => r = .returned (.int .i64 (e.num (rc l it))) ∧ ∃ p : Regrown, w'' = Sort.grow (redrawn w16 p.d) p.os) := fun d os => Calls.regrown_of (rint_any l it (by omega) true ((HI.out.lower hb16).lower (below_regrown w16 d os)) (fault_ok hF0.out) (by have := rc_far l it hlb hit hF0.out (by omega); omega) _ (Below.refl _ _))
    unfold Ex.val at D1 D2
    clear HF hF0
    generalize e.num (rc l it) = V at *
    have k0 := cell_regrown e0
    have k1 := cell_regrown e1
    have k2 := cell_regrown e2
    have k3 := cell_regrown e3
    have j0 := cell_regrown r0
    have j1 := cell_regrown r1
    have j2 := cell_regrown r2
    go_wp2
    rw [← HW16.out]
    refine wp_region_quiet_below hmix (by kernel_rfl) ?_
    repeat (quiet_step (first | (go_at_call 36; exact D1.out _ _) | (go_at_call 37; exact D2.out _ _)))
    refine wpQuiet_nil ?_
    intro _ hw'
    obtain ⟨⟨dq, osq⟩, hw''⟩ := hw'
    subst hw''
    have hbb : Below w.heap.size w (Sort.grow (redrawn w16 dq) osq) := below_trans hb16 (below_regrown w16 dq osq)
    generalize Sort.grow (redrawn w16 dq) osq = w17 at *
    go_wp2
    go_ret
    exact ⟨by first | rfl | simp, hbb⟩
end Go.Proofs.YtahklpihbkdclaaDoor
