/- Put together of SameE, JbL. -/
import Derived.Test.YtfjpgjkfmcedoaaGreatDoorG3
import Derived.Lib.QuietBelow
import Derived.Deep.QuietTactic
import Derived.BigQuiet
import Derived.Deep.RegionWith
import Derived.Test.YtfjpgjkfmcedoaaGreatDoorG8
/- Contract of the document's SameExpr, at one expression as it lies twice. -/
namespace Go.Proofs.YtfjpgjkfmcedoaaGreatDoor
open Go.ChangeShapes Go.WideShapes Go.ChangeAt Go.RowKit
set_option maxRecDepth 100000 in
set_option maxHeartbeats 1000000 in
theorem sameExpr_any {w : World} {sv : Value} {e : Ex} (h : IsEx w sv e) : e.wt ≤ 1000000000 → ∀ su w', IsEx w' su e → Below w.heap.size w w' →
    Calls Tryz.prog 30 #[e.val sv, e.val su] w' fun r w'' => r = .returned (.bool true) ∧ Below w'.heap.size w' w'' := by
  induction h using IsEx.ind with
  | mk k n s a cap l b off A ha hc kids ih =>
    intro hw su w1 hu hb
    simp only [Ex.wt] at hw
    simp only [Ex.val, Ex.k, Ex.n, Ex.s]
    have hl := len_wtL l
    obtain ⟨d, hd⟩ := hu
    cases d with
    | zero => exact absurd hd (by simp [IsExN])
    | succ d =>
      obtain ⟨a', cap', b', off', A', hsu, ha', hc', kids'⟩ := hd
      simp only [Ex.a] at hsu ha' hc' kids'
      subst hsu
      have HA := Lib.hid ha
      have HC := Lib.hid hc
      have HA' := Lib.hid ha'
      have HC' := Lib.hid hc'
      have HK' := Lib.hid kids'
      have IH := Lib.hid ih
      clear ha hc ha' hc' kids' ih
      obtain ⟨m, hm⟩ : ∃ m, m = l.length := ⟨_, rfl⟩
      rw [← hm] at hl ⊢
      have HM := Lib.hid hm
      clear hm
      go_enter Tryz.func30, Tryz.ntmps30
      go_wp2
      go_loopw [5, 6] (fun iv _ wr => ∃ i : Nat, i ≤ m ∧ iv = .int .i64 i ∧ Below w1.heap.size w1 wr ∧ wr.cell? ⟨w1.heap.size, 3, none⟩ = some (.slice a m cap) ∧ wr.cell? ⟨w1.heap.size + 1, 3, none⟩ = some (.slice a' m cap')) (fun iv _ _ => m - (intOf iv).toNat)
      case atStart => exact ⟨0, Nat.zero_le _, rfl, below_trans (below_box _) (below_box _), by simp, by simp⟩
      case round =>
        obtain ⟨i, hi, rfl, hbr, cb, cb'⟩ := hrel
        by_cases hlt : i < m
        · obtain ⟨x, hx⟩ : ∃ x, l[i]? = some x := ⟨l[i]'(by have := HM.out; omega), by simp⟩
          have ea := HA.out (by have := HM.out; omega)
          have ea' := HA'.out (by have := HM.out; omega)
          subst ea ea'
          have hbw := below_trans hb hbr
          obtain ⟨c0, c1, c2, c3⟩ := HC.out i x hx
          replace c0 := cell_below c0 hbw
          replace c1 := cell_below c1 hbw
          replace c2 := cell_below c2 hbw
          replace c3 := cell_below c3 hbw
          obtain ⟨d0, d1, d2, d3⟩ := HC'.out i x hx
          replace d0 := cell_below d0 hbr
          replace d1 := cell_below d1 hbr
          replace d2 := cell_below d2 hbr
          replace d3 := cell_below d3 hbr
          have I := Lib.hid (IH.out i x hx (by have := wt_kid hx; omega) (A' i) wr.drew (IsEx.lower (w' := wr.drew) (IsEx.lower ⟨d, HK'.out i x hx⟩ hbr) ⟨rfl, rfl, rfl, Nat.le_refl _, fun _ _ => rfl⟩) (below_trans hbw ⟨rfl, rfl, rfl, Nat.le_refl _, fun _ _ => rfl⟩))
          unfold Ex.val at I
          clear hx
          go_wp2
          go_region_with (go_at_call 30; refine I.out.mono ?_; rintro _ w2 ⟨rfl, hb2⟩)
          all_goals
            have hb3 : Below wr.heap.size wr w2 := below_trans (w1 := wr.drew) ⟨rfl, rfl, rfl, Nat.le_refl _, fun _ _ => rfl⟩ hb2
            have cb2 := cell_below cb hb3
            have cb2' := cell_below cb' hb3
            clear c0 c1 c2 c3 d0 d1 d2 d3 cb cb'
            go_wp2
            go_roundw
            case rel => exact ⟨i + 1, by omega, by go_num, below_trans hbr hb3, cb2, cb2'⟩
            case measure => simp [intOf]; omega
        · go_wp2
          go_ret
          exact ⟨rfl, hbr⟩
end Go.Proofs.YtfjpgjkfmcedoaaGreatDoor
/- Contract of LightJob. Written by tpl/mk_jbl.py. -/
namespace Go.Proofs.YtfjpgjkfmcedoaaGreatDoor
open Go.ChangeShapes Go.WideShapes Go.ChangeAt Go.RowKit
set_option maxRecDepth 100000 in
set_option maxHeartbeats 2000000 in
theorem lightJob_any (j : Jb) (rv : Value) (w : World) (h : IsRules w rv j.rules) (hw : rulesWt j.rules ≤ 1000000000) :
    Calls Tryz.prog 5 #[j.value rv] w fun v w' => ∃ g : Bool, v = .returned (.bool g) ∧ Below w.heap.size w w' := by
  obtain ⟨l, fo, ea', sl⟩ := j
  simp only [Jb.value] at *
  obtain ⟨a, cap, b, off, AI, AK, AV, rfl, ha, hc⟩ := h
  have hl := rules_len l
  have HA := Lib.hid ha
  have HC := Lib.hid hc
  clear ha hc
  by_cases h1 : 6 < l.length
  · go_enter Tryz.func5, Tryz.ntmps5
    go_wp2
    go_ret
    exact ⟨_, rfl, below_box _⟩
  have hb0 : Hid (Below w.heap.size w w) := Below.refl _ _
  go_enter Tryz.func5, Tryz.ntmps5
  go_wp2
  go_loopw [3] (fun iv wr => ∃ i : Nat, i ≤ l.length ∧ iv = .int .i64 i ∧ Below w.heap.size w wr ∧ wr.cell? ⟨w.heap.size, 0, none⟩ = some (.slice a l.length cap)) (fun iv _ => l.length - (intOf iv).toNat)
  case atStart => exact ⟨0, Nat.zero_le _, rfl, below_box _, by simp⟩
  case round =>
    obtain ⟨i, hi, rfl, hbr, cb⟩ := hrel
    by_cases hlt : i < l.length
    · skip
      obtain ⟨x, hx⟩ : ∃ x, l[i]? = some x := ⟨l[i]'(by omega), by simp⟩
      have ea := HA.out (by omega)
      subst ea
      have hbw := below_trans hb0.out hbr
      obtain ⟨⟨c0, c1, c2, c3, c4, c5, c6, c7, c8, c9, c10, c11, c12, c13, c14⟩, xi, xk, xv⟩ := HC.out i x hx
      obtain ⟨ai, ci, ei⟩ := xi.slice
      obtain ⟨ak, ck, ek⟩ := xk.slice
      obtain ⟨av, cv, ev⟩ := xv.slice
      rw [ei] at c5 xi
      rw [ek] at c10 xk
      rw [ev] at c14 xv
      replace c0 := cell_below c0 hbw
      replace c1 := cell_below c1 hbw
      replace c2 := cell_below c2 hbw
      replace c3 := cell_below c3 hbw
      replace c4 := cell_below c4 hbw
      replace c5 := cell_below c5 hbw
      replace c6 := cell_below c6 hbw
      replace c7 := cell_below c7 hbw
      replace c8 := cell_below c8 hbw
      replace c9 := cell_below c9 hbw
      replace c10 := cell_below c10 hbw
      replace c11 := cell_below c11 hbw
      replace c12 := cell_below c12 hbw
      replace c13 := cell_below c13 hbw
      replace c14 := cell_below c14 hbw
      have XI := Lib.hid (xi.lower hbw)
      have XK := Lib.hid (xk.lower hbw)
      have XV := Lib.hid (xv.lower hbw)
      clear xi xk xv ei ek ev
      have hxw := rule_wt hx
      have hal := below_box (w := wr) (.cells #[.bool x.each, .int .i64 x.when, .int .i64 x.iff.k, .int .i64 x.iff.n, .string (bs x.iff.s), .slice ai x.iff.a.length ci, .string (bs x.s), .int .i64 x.key.k, .int .i64 x.key.n, .string (bs x.key.s), .slice ak x.key.a.length ck, .int .i64 x.val.k, .int .i64 x.val.n, .string (bs x.val.s), .slice av x.val.a.length cv] 46)
      unfold Rl.wt at hxw
      have LI := Lib.hid (fun w (h : IsEx w (.slice ai x.iff.a.length ci) x.iff) => lightExpr_any h (by omega))
      have LK := Lib.hid (fun w (h : IsEx w (.slice ak x.key.a.length ck) x.key) => lightExpr_any h (by omega))
      have LV := Lib.hid (fun w (h : IsEx w (.slice av x.val.a.length cv) x.val) => lightExpr_any h (by omega))
      have hxs : (bs x.s).size ≤ 1000000000 := by rw [bs_size]; omega
      have cb1 := cell_below cb hal
      have HAL := Lib.hid hal
      clear hx hal
      unfold Ex.val at LI LK LV
      go_wp2_with (go_at_call 14; refine Hid.out ?_)
      refine Lib.hid ?_
      refine (LI.out _ (XI.out.lower HAL.out)).mono ?_
      rintro _ w2 ⟨g1, rfl, hb2⟩
      have k6 := cell_below (a := ⟨wr.heap.size, 6, none⟩) (v := .string (bs x.s)) (by simp) hb2
      have k7 := cell_below (a := ⟨wr.heap.size, 7, none⟩) (v := .int .i64 x.key.k) (by simp) hb2
      have k8 := cell_below (a := ⟨wr.heap.size, 8, none⟩) (v := .int .i64 x.key.n) (by simp) hb2
      have k9 := cell_below (a := ⟨wr.heap.size, 9, none⟩) (v := .string (bs x.key.s)) (by simp) hb2
      have k10 := cell_below (a := ⟨wr.heap.size, 10, none⟩) (v := .slice ak x.key.a.length ck) (by simp) hb2
      have k11 := cell_below (a := ⟨wr.heap.size, 11, none⟩) (v := .int .i64 x.val.k) (by simp) hb2
      have k12 := cell_below (a := ⟨wr.heap.size, 12, none⟩) (v := .int .i64 x.val.n) (by simp) hb2
      have k13 := cell_below (a := ⟨wr.heap.size, 13, none⟩) (v := .string (bs x.val.s)) (by simp) hb2
      have k14 := cell_below (a := ⟨wr.heap.size, 14, none⟩) (v := .slice av x.val.a.length cv) (by simp) hb2
      have cb2 := cell_below cb1 hb2
      have hbx2 := below_trans HAL.out hb2
      have hb3 := below_trans hbr hbx2
      clear c0 c1 c2 c3 c4 c5 c6 c7 c8 c9 c10 c11 c12 c13 c14 cb cb1 hb2 HAL
      cases g1 with
      | false =>
        go_wp2
        go_ret
        exact ⟨_, rfl, hb3⟩
      | true =>
      go_wp2_with (go_at_call 14; refine Hid.out ?_)
      refine Lib.hid ?_
      refine (LK.out _ (XK.out.lower hbx2)).mono ?_
      rintro _ w4 ⟨g2, rfl, hb4⟩
      replace k6 := cell_below k6 hb4
      replace k11 := cell_below k11 hb4
      replace k12 := cell_below k12 hb4
      replace k13 := cell_below k13 hb4
      replace k14 := cell_below k14 hb4
      have cb3 := cell_below cb2 hb4
      have hbx4 := below_trans hbx2 hb4
      have hb5 := below_trans hbr hbx4
      clear k7 k8 k9 k10 cb2 hb4 hbx2 hb3
      cases g2 with
      | false =>
        go_wp2
        go_ret
        exact ⟨_, rfl, hb5⟩
      | true =>
      go_wp2_with (go_at_call 14; refine Hid.out ?_)
      refine Lib.hid ?_
      refine (LV.out _ (XV.out.lower hbx4)).mono ?_
      rintro _ w6 ⟨g3, rfl, hb6⟩
      replace k6 := cell_below k6 hb6
      have cb4 := cell_below cb3 hb6
      have hb7 := below_trans hbr (below_trans hbx4 hb6)
      clear k11 k12 k13 k14 cb3 hb6 hbx4 hb5
      cases g3 with
      | false =>
        go_wp2
        go_ret
        exact ⟨_, rfl, hb7⟩
      | true =>
      by_cases hs : 100 < (bs x.s).size
      · go_wp2
        go_ret
        exact ⟨_, rfl, hb7⟩
      · go_wp2
        go_roundw
        case rel => exact ⟨i + 1, by omega, by go_num, hb7, cb4⟩
        case measure => simp [intOf]; omega
    · go_wp2
      go_ret
      exact ⟨_, rfl, hbr⟩
end Go.Proofs.YtfjpgjkfmcedoaaGreatDoor
