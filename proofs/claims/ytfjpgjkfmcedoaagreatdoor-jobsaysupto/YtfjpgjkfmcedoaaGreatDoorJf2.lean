/- The document's JobFault. Written by tpl/mk_jf.py. -/
import Derived.Test.YtfjpgjkfmcedoaaGreatDoorJf1
namespace Go.Proofs.YtfjpgjkfmcedoaaGreatDoor
open Go.ChangeShapes Go.WideShapes Go.ChangeAt Go.RowKit
set_option maxRecDepth 1000000 in
set_option maxHeartbeats 8000000 in
theorem rJobFault_any (j : Jb) (rv : Value) (w : World) (h : IsRules w rv j.rules) (hw : rulesWt j.rules ≤ 1000000000) :
    Calls Tryz.prog 6 #[j.value rv] w fun v w' => v = .returned (.int .i64 ((jobFault j : Nat) : Int)) ∧ Below w.heap.size w w' := by
  obtain ⟨l, fo, ea', sl⟩ := j
  simp only [Jb.value] at *
  obtain ⟨a, cap, b, off, AI, AK, AV, rfl, ha, hc⟩ := h
  have hl := rules_len l
  have HA := Lib.hid ha
  have HC := Lib.hid hc
  clear ha hc
  obtain ⟨R, hR⟩ : ∃ R : Nat, R = jobFault ⟨l, fo, ea', sl⟩ := ⟨_, rfl⟩
  rw [← hR]
  simp only [jobFault] at hR
  have HR := Lib.hid hR
  obtain ⟨ln, hln⟩ : ∃ n, n = l.length := ⟨_, rfl⟩
  rw [← hln]
  have HLN := Lib.hid hln
  have hln2 : ln ≤ 1000000000 := by omega
  clear hR hln hl
  obtain ⟨w1, hw1⟩ : ∃ w1, w1 = w.alloc (.cells #[.slice a ln cap, .int .i64 fo, .bool ea', .int .i64 sl] 24) := ⟨_, rfl⟩
  obtain ⟨P, hP⟩ : ∃ P, P = w.heap.size := ⟨_, rfl⟩
  have hb1 : Below w.heap.size w w1 := by rw [hw1]; exact below_box _
  have HJ : Hid (Blk w1 P 24 [.slice a ln cap, .int .i64 fo, .bool ea', .int .i64 sl]) := by
    show Blk _ _ _ _
    rw [hw1]
    exact blk_new hP
  have HB1 := Lib.hid hb1
  have HW1 := Lib.hid hw1
  have HPP := Lib.hid hP
  clear hw1 hP hb1
  go_enter Tryz.func6, Tryz.ntmps6
  go_upto_region 1 with fail
  rw [← HW1.out, ← HPP.out]
  clear HW1 HPP
  have k0 := HJ.out.at (i := 0) (v := .slice a ln cap) rfl
  have k1 := HJ.out.at (i := 1) (v := .int .i64 fo) rfl
  have k2 := HJ.out.at (i := 2) (v := .bool ea') rfl
  have k3 := HJ.out.at (i := 3) (v := .int .i64 sl) rfl
  by_cases h1 : ln < 1
  · have g1 : (ln : Int) < 1 := by omega
    go_wp2
    go_ret
    exact ⟨by rw [HR.out, if_pos (.inl (by rw [← HLN.out]; exact h1))]; rfl, HB1.out⟩
  have g1 : ¬ (ln : Int) < 1 := by omega
  by_cases h2 : 4 < ln
  · have g2 : (4 : Int) < (ln : Int) := by omega
    go_wp2
    go_ret
    exact ⟨by rw [HR.out, if_pos (.inr (by rw [← HLN.out]; exact h2))]; rfl, HB1.out⟩
  have g2 : ¬ (4 : Int) < (ln : Int) := by omega
  have HNL : Hid (¬ (l.length < 1 ∨ 4 < l.length)) := by show ¬ _; rw [← HLN.out]; omega
  by_cases h3 : fo < 1
  · go_wp2
    go_ret
    exact ⟨by rw [HR.out, if_neg HNL.out, if_pos (.inl h3)]; rfl, HB1.out⟩
  by_cases h4 : 4 < fo
  · go_wp2
    go_ret
    exact ⟨by rw [HR.out, if_neg HNL.out, if_pos (.inr h4)]; rfl, HB1.out⟩
  by_cases h5 : sl < 1
  · go_wp2
    go_ret
    exact ⟨by rw [HR.out, if_neg HNL.out, if_neg (by omega), if_pos (.inl h5)]; rfl, HB1.out⟩
  by_cases h6 : 4 < sl
  · go_wp2
    go_ret
    exact ⟨by rw [HR.out, if_neg HNL.out, if_neg (by omega), if_pos (.inr h6)]; rfl, HB1.out⟩
  have HR2 : Hid (R = rulesFault l) := by
    show R = _
    have h0 := HR.out
    rw [if_neg HNL.out, if_neg (by omega), if_neg (by omega)] at h0
    exact h0
  have hln4 : ln ≤ 4 := by omega
  clear HR h1 h2
  go_wp2
  clear k0 k1 k2 k3 g1 g2 h3 h4 h5 h6
  go_loopg [3] ln (fun gg iv wr => ∃ i : Nat, gg = ln - i ∧ i ≤ ln ∧ iv = .int .i64 i ∧ Hid (rulesFault (l.take i) = 0) ∧ Hid (Below w1.heap.size w1 wr))
  case atStart => exact ⟨0, rfl, Nat.zero_le _, rfl, (show rulesFault _ = 0 from rfl), (Below.refl _ _ : Below w1.heap.size w1 w1)⟩
  case round =>
    obtain ⟨i, hgi, hi, rfl, HZ, HBR⟩ := hrel
    have HGI := Lib.hid hgi
    clear hgi
    have k0 := (HJ.out.blw HBR.out).at (i := 0) (v := .slice a ln cap) rfl
    by_cases hlt : i < ln
    · obtain ⟨r, hr⟩ : ∃ r, l[i]? = some r := ⟨l[i]'(by rw [← HLN.out]; exact hlt), by simp⟩
      have ea := HA.out (by rw [← HLN.out]; omega)
      subst ea
      have hbw := below_trans HB1.out HBR.out
      obtain ⟨⟨c0, c1, c2, c3, c4, c5, c6, c7, c8, c9, c10, c11, c12, c13, c14⟩, xi, xk, xv⟩ := HC.out i r hr
      obtain ⟨ai, ci, ei⟩ := xi.slice
      obtain ⟨ak, ck, ek⟩ := xk.slice
      obtain ⟨av, cv, ev⟩ := xv.slice
      rw [ei] at c5 xi
      rw [ek] at c10 xk
      rw [ev] at c14 xv
      replace c0 := cell_below c0 hbw
      replace c1 := cell_below c1 hbw
      replace c2 := cell_below c2 hbw
      replace c3 := cell_below c3 hbw
      replace c4 := cell_below c4 hbw
      replace c5 := cell_below c5 hbw
      replace c6 := cell_below c6 hbw
      replace c7 := cell_below c7 hbw
      replace c8 := cell_below c8 hbw
      replace c9 := cell_below c9 hbw
      replace c10 := cell_below c10 hbw
      replace c11 := cell_below c11 hbw
      replace c12 := cell_below c12 hbw
      replace c13 := cell_below c13 hbw
      replace c14 := cell_below c14 hbw
      obtain ⟨w4, hw4⟩ : ∃ w4, w4 = wr.alloc (.cells #[.bool r.each, .int .i64 r.when, .int .i64 r.iff.k, .int .i64 r.iff.n, .string (bs r.iff.s), .slice ai r.iff.a.length ci, .string (bs r.s), .int .i64 r.key.k, .int .i64 r.key.n, .string (bs r.key.s), .slice ak r.key.a.length ck, .int .i64 r.val.k, .int .i64 r.val.n, .string (bs r.val.s), .slice av r.val.a.length cv] 46) := ⟨_, rfl⟩
      obtain ⟨B, hB⟩ : ∃ B, B = wr.heap.size := ⟨_, rfl⟩
      have RU : Hid (Blk w4 B 46 (ruleCells r ai ak av ci ck cv)) := by show Blk _ _ _ _; rw [hw4]; exact blk_new hB
      have hb4 : Below wr.heap.size wr w4 := by rw [hw4]; exact below_box _
      have HB4 : Hid (Below w.heap.size w w4) := below_trans hbw hb4
      have XI : Hid (∀ w', Below w4.heap.size w4 w' → IsEx w' (.slice ai r.iff.a.length ci) r.iff) := fun w' hb => xi.lower (below_trans HB4.out hb)
      have hwr := rule_wt hr
      have hwr2 : r.wt ≤ 1000000000 := by omega
      have hwk : r.key.wt ≤ 1000000000 ∧ r.val.wt ≤ 1000000000 := by unfold Rl.wt at hwr2; omega
      have EK : Hid (∀ w', Below w4.heap.size w4 w' → Calls Tryz.prog 16 #[r.key.val (.slice ak r.key.a.length ck), .bool true, .bool r.each] w' fun q w'' => q = .returned (.int .i64 (faultE r.key true r.each : Nat)) ∧ Below w'.heap.size w' w'') := fun w' hb => exprFault_any (xk.lower (below_trans HB4.out hb)) hwk.1 true r.each
      have EV : Hid (∀ w', Below w4.heap.size w4 w' → Calls Tryz.prog 16 #[r.val.val (.slice av r.val.a.length cv), .bool false, .bool r.each] w' fun q w'' => q = .returned (.int .i64 (faultE r.val false r.each : Nat)) ∧ Below w'.heap.size w' w'') := fun w' hb => exprFault_any (xv.lower (below_trans HB4.out hb)) hwk.2 false r.each
      unfold Ex.val at EK EV
      have HN := Lib.hid (rulesFault_at hr HZ.out)
      have HW4 := Lib.hid hw4
      have HBB := Lib.hid hB
      have HB1R : Hid (Below w1.heap.size w1 w4) := below_trans HBR.out hb4
      obtain ⟨WF, hWF⟩ : ∃ x, x = whenFault r := ⟨_, rfl⟩
      have HWF := Lib.hid hWF
      have q1 := RU.out.at (i := 1) (v := .int .i64 r.when) rfl
      have hRF : ruleFault r = if WF ≠ 0 then WF else if faultE r.key true r.each ≠ 0 then faultE r.key true r.each else faultE r.val false r.each := by rw [hWF]; rfl
      have HRF := Lib.hid hRF
      have HWR := Lib.hid hwr2
      have HBW := Lib.hid hbw
      clear hr hw4 hB hb4 hbw xi xk xv ei ek ev hwr hwk hWF hRF
      go_upto_region 11 with fail
      rw [← HW4.out, ← HBB.out]
      clear HW4 HBB c0 c1 c2 c3 c4 c5 c6 c7 c8 c9 c10 c11 c12 c13 c14
      go_upto_block 2 with fail
      trace_state
      refine wp_normR (jf_b2 r B WF r.when ai ak av ci ck cv _ _ _ _ _ _ _ _ _ _ _ _ _ _ _ _ _ _ _ _ _ _ _ _ _ _ _ _ _ _ _ _ _ _ _ _ _ _ _ _ _ _ _ _ _ _ _ _ _ _ _ _ _ _ _ _ _ _ _ _ _ _ _ _ _ _ _ _ _ _ _ _ _ _ _ _ _ _ _ _ _ _ _ _ _ _ _ _ _ _ _ _ _ _ _ _ _ _ _ _ _ _ _ _ _ _ _ _ _ _ _ _ _ _ _ _ _ _ HWF (Lib.hid rfl) (fun w' hb => RU.out.blw hb) XI HWR.out ?_ ?_)
      · refine Lib.hid ?_
        intro z2 z5 z6 z49 z50 z51 z52 z53 z54 z55 z56 z57 z58 z59 z60 z61 z62 z63 z64 z65 z66 z67 z68 z69 z70 z71 z72 z73 z74 z75 z76 z77 z78 z79 z80 z81 z82 z83 z84 z85 z86 z87 z88 z89 z90 z91 z92 z93 z94 z95 z96 z97 z98 z99 z100 wx hW0 hbx
        have HW0 := Lib.hid hW0
        have RUX := Lib.hid (RU.out.blw hbx)
        have HBX := Lib.hid hbx
        obtain ⟨q0, q1, q2, q3, q4, q5, q6, q7, q8, q9, q10, q11, q12, q13, q14⟩ := ruleAt RUX.out
        obtain ⟨f2, hf2⟩ : ∃ x, x = faultE r.key true r.each := ⟨_, rfl⟩
        obtain ⟨f3, hf3⟩ : ∃ x, x = faultE r.val false r.each := ⟨_, rfl⟩
        have HRF2 : Hid (ruleFault r = if f2 ≠ 0 then f2 else f3) := by
          show _ = _
          rw [HRF.out, if_neg (by rw [HW0.out]; decide), hf2, hf3]
        rw [← hf2] at EK
        rw [← hf3] at EV
        clear hW0 hbx hf2 hf3 q1 q2 q3 q4 q5 q6 k0
        go_wp2_with (go_at_call 16; refine Hid.out ?_)
        refine Lib.hid ?_
        refine (EK.out _ HBX.out).mono ?_
        rintro _ w5 ⟨rfl, hb5⟩
        have RU5 := Lib.hid (RUX.out.blw hb5)
        have HB5 : Hid (Below w4.heap.size w4 w5) := below_trans HBX.out hb5
        clear q0 q7 q8 q9 q10 q11 q12 q13 q14 hb5
        obtain ⟨q0, q1, q2, q3, q4, q5, q6, q7, q8, q9, q10, q11, q12, q13, q14⟩ := ruleAt RU5.out
        clear q1 q2 q3 q4 q5 q6 q7 q8 q9 q10
        by_cases h2 : f2 = 0
        · have g2 : ¬ (0 : Int) < (f2 : Int) := by omega
          have HF3 : Hid (ruleFault r = f3) := by
            show _ = _
            rw [HRF2.out, if_neg (by rw [h2]; decide)]
          go_wp2_with (go_at_call 16; refine Hid.out ?_)
          refine Lib.hid ?_
          refine (EV.out _ HB5.out).mono ?_
          rintro _ w6 ⟨rfl, hb6⟩
          have HB6 : Hid (Below w4.heap.size w4 w6) := below_trans HB5.out hb6
          clear q0 q11 q12 q13 q14 hb6
          by_cases h3 : f3 = 0
          · have g3 : ¬ (0 : Int) < (f3 : Int) := by omega
            have hz2 : Hid (rulesFault (l.take (i + 1)) = 0) := HN.out.1.trans (HF3.out.trans h3)
            have HBW6 : Hid (Below w1.heap.size w1 w6) := below_trans HB1R.out HB6.out
            go_wp2
            go_roundg (ln - (i + 1))
            case measure => have := HGI.out; omega
            case rel => exact ⟨i + 1, rfl, hlt, by go_num, hz2, HBW6⟩
          · have g3 : (0 : Int) < (f3 : Int) := by omega
            have HBW6 : Hid (Below w.heap.size w w6) := below_trans HB4.out HB6.out
            have HFIN : Hid (R = f3) := by show _ = _; rw [HR2.out, HN.out.2 (by rw [HF3.out]; exact h3), HF3.out]
            go_wp2
            go_ret
            exact ⟨by rw [HFIN.out]; rfl, HBW6.out⟩
        · have g2 : (0 : Int) < (f2 : Int) := by omega
          have HF2 : Hid (ruleFault r = f2) := by
            show _ = _
            rw [HRF2.out, if_pos h2]
          have HBW5 : Hid (Below w.heap.size w w5) := below_trans HB4.out HB5.out
          have HFIN : Hid (R = f2) := by show _ = _; rw [HR2.out, HN.out.2 (by rw [HF2.out]; exact h2), HF2.out]
          go_wp2
          go_ret
          exact ⟨by rw [HFIN.out]; rfl, HBW5.out⟩
      · refine Lib.hid ?_
        intro z5 z6 z49 z50 z51 z52 z53 z54 z55 z56 z57 z58 z59 z60 z61 z62 z63 z64 z65 z66 z67 z68 z69 z70 z71 z72 z73 z74 z75 z76 z77 z78 z79 z80 z81 z82 z83 z84 z85 z86 z87 z88 z89 z90 z91 z92 z93 z94 z95 z96 z97 z98 z99 z100 wx hW0 hbx
        have HF2 : Hid (ruleFault r = WF) := by
          show _ = _
          rw [HRF.out, if_pos hW0]
        have HBWX : Hid (Below w.heap.size w wx) := below_trans HB4.out hbx
        have HFIN : Hid (R = WF) := by show _ = _; rw [HR2.out, HN.out.2 (by rw [HF2.out]; exact hW0), HF2.out]
        (try simp only [Exit.then, Exit.inBlock])
        go_ret
        exact ⟨by rw [HFIN.out]; rfl, HBWX.out⟩
    · have HZ3 : Hid (rulesFault l = 0) := by
        have h0 := HZ.out
        rw [List.take_of_length_le (by rw [← HLN.out]; omega)] at h0
        exact h0
      have HBF : Hid (Below w.heap.size w wr) := below_trans HB1.out HBR.out
      go_wp2
      go_ret
      exact ⟨by rw [HR2.out, HZ3.out]; rfl, HBF.out⟩
end Go.Proofs.YtfjpgjkfmcedoaaGreatDoor
