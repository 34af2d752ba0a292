/- Contracts of weight, LightExpr and expr.count: how much, and how many. -/
import Derived.Test.YtmgpacenooncjaaGreatDoorEx
namespace Go.Proofs.YtmgpacenooncjaaGreatDoor
open Go.ChangeShapes Go.WideShapes Go.ChangeAt Go.RowKit
theorem below_box {w : World} (o : Obj) : Below w.heap.size w (w.alloc o) := (Below.refl _ _).alloc (Nat.le_refl _) _
set_option maxRecDepth 100000 in
set_option maxHeartbeats 1000000 in
theorem weight_any {w : World} {sv : Value} {e : Ex} (h : IsEx w sv e) : e.wt ≤ 1000000000 → ∀ w', Below w.heap.size w w' →
    Calls Tryz.prog 64 #[e.val sv, .int .i64 400] w' fun r w'' => ∃ c : Nat, r = .returned (.int .i64 c) ∧ c ≤ e.wt ∧ Below w'.heap.size w' w'' := by
  induction h using IsEx.ind with
  | mk k n s a cap l b off A ha hc kids ih =>
    intro hw w1 hb
    simp only [Ex.wt] at hw
    simp only [Ex.val, Ex.k, Ex.n, Ex.s, Ex.wt]
    have hl := len_wtL l
    have hsz : (bs s).size ≤ 1000000000 := by rw [bs_size]; omega
    have HS := Lib.hid (bs_size s)
    have HA := Lib.hid ha
    have HC := Lib.hid hc
    clear ha hc
    go_enter Tryz.func64, Tryz.ntmps64
    go_wp2
    go_loopw [5, 6] (fun nv iv wr => ∃ (i m : Nat), i ≤ l.length ∧ iv = .int .i64 i ∧ nv = .int .i64 m ∧ m ≤ 1 + (bs s).size + Ex.wt.wtL (l.take i) ∧ Below w1.heap.size w1 wr ∧ wr.cell? ⟨w1.heap.size, 3, none⟩ = some (.slice a l.length cap)) (fun _ iv _ => l.length - (intOf iv).toNat)
    case atStart => exact ⟨0, 1 + (bs s).size, Nat.zero_le _, rfl, by go_num, by omega, below_box _, by simp⟩
    case round =>
      obtain ⟨i, m, hi, rfl, rfl, hm, hbr, cb⟩ := hrel
      by_cases hlt : i < l.length
      · by_cases h4 : m ≤ 400
        · obtain ⟨x, hx⟩ : ∃ x, l[i]? = some x := ⟨l[i], by simp⟩
          have ea := HA.out (by omega)
          subst ea
          have hbw := below_trans hb hbr
          obtain ⟨c0, c1, c2, c3⟩ := HC.out i x hx
          replace c0 := cell_below c0 hbw
          replace c1 := cell_below c1 hbw
          replace c2 := cell_below c2 hbw
          replace c3 := cell_below c3 hbw
          have I := Lib.hid (ih i x hx (by have := wt_kid hx; omega) wr hbw)
          have hwt := wtL_take hx
          have hwk := wt_kid hx
          have HX := Lib.hid hx
          clear hx ih
          unfold Ex.val at I
          go_wp2_with (go_at_call 64; refine Hid.out ?_)
          refine Lib.hid ?_
          refine I.out.mono ?_
          rintro _ w2 ⟨c, rfl, hcw, hb2⟩
          have cb2 := cell_below cb hb2
          go_wp2
          go_roundw
          case rel => exact ⟨i + 1, m + c, by omega, by go_num, by go_num, by omega, below_trans hbr hb2, cb2⟩
          case measure => simp [intOf]; omega
        · go_wp2
          go_ret
          exact ⟨m, rfl, by have := wtL_le l i; have := HS.out; omega, hbr⟩
      · go_wp2
        go_ret
        exact ⟨m, rfl, by have := wtL_le l i; have := HS.out; omega, hbr⟩
set_option maxRecDepth 100000 in
theorem lightExpr_any {w : World} {sv : Value} {e : Ex} (h : IsEx w sv e) (hw : e.wt ≤ 1000000000) :
    Calls Tryz.prog 33 #[e.val sv] w fun r w' => ∃ g : Bool, r = .returned (.bool g) ∧ Below w.heap.size w w' := by
  obtain ⟨a, cap, rfl⟩ := h.slice
  have W := Lib.hid (weight_any h hw)
  unfold Ex.val at W ⊢
  go_enter Tryz.func33, Tryz.ntmps33
  go_wp2_with (go_at_call 64; refine Hid.out ?_)
  refine Lib.hid ?_
  refine (W.out _ (below_box _)).mono ?_
  rintro _ w2 ⟨c, rfl, _, hb2⟩
  by_cases h4 : c ≤ 400
  · go_wp2
    go_ret
    exact ⟨_, rfl, below_trans (below_box _) hb2⟩
  · go_wp2
    go_ret
    exact ⟨_, rfl, below_trans (below_box _) hb2⟩
/-- How many, from so many on, at that depth: 31 where it is too many or too deep. -/
def upBy (sn d c p : Nat) : Nat := if sn + c ≤ 30 ∧ d + p ≤ 6 then sn + c else 31
theorem upBy_le (sn d c p : Nat) : upBy sn d c p ≤ 31 := by unfold upBy; split <;> omega
theorem upBy_step (sn d c p c' p' : Nat) (h : upBy (sn + 1) (d + 1) c p ≤ 30) : upBy (upBy (sn + 1) (d + 1) c p) (d + 1) c' p' = upBy (sn + 1) (d + 1) (c + c') (max p p') := by
  unfold upBy at h ⊢
  split at h
  · rename_i h1
    rw [if_pos h1]
    by_cases h2 : sn + 1 + c + c' ≤ 30 ∧ d + 1 + p' ≤ 6
    · rw [if_pos h2, if_pos (by omega)]; omega
    · rw [if_neg h2, if_neg (by omega)]
  · omega
set_option maxRecDepth 100000 in
set_option maxHeartbeats 1000000 in
theorem count_any {w : World} {sv : Value} {e : Ex} (h : IsEx w sv e) : e.wt ≤ 1000000000 → ∀ d sn : Nat, d ≤ 6 → sn ≤ 30 → ∀ w', Below w.heap.size w w' →
    Calls Tryz.prog 108 #[e.val sv, .int .i64 d, .int .i64 sn] w' fun r w'' => r = .returned (.int .i64 (upBy sn d e.cnt e.dep : Nat)) ∧ Below w'.heap.size w' w'' := by
  induction h using IsEx.ind with
  | mk k n s a cap l b off A ha hc kids ih =>
    intro hw d sn hd hsn w1 hb
    simp only [Ex.wt] at hw
    simp only [Ex.val, Ex.k, Ex.n, Ex.s, Ex.cnt, Ex.dep]
    have hl := len_wtL l
    have HA := Lib.hid ha
    have HC := Lib.hid hc
    clear ha hc
    by_cases hd5 : d ≤ 5
    · go_enter Tryz.func108, Tryz.ntmps108
      go_wp2
      go_loopw [2, 7] (fun nv iv wr => ∃ (i m : Nat), i ≤ l.length ∧ iv = .int .i64 i ∧ nv = .int .i64 m ∧ m ≤ 31 ∧ Hid (m = upBy (sn + 1) (d + 1) (Ex.cnt.cntL (l.take i)) (Ex.dep.depL (l.take i))) ∧ Below w1.heap.size w1 wr ∧ wr.cell? ⟨w1.heap.size, 3, none⟩ = some (.slice a l.length cap)) (fun _ iv _ => l.length - (intOf iv).toNat)
      case atStart => exact ⟨0, sn + 1, Nat.zero_le _, rfl, by go_num, by omega, (show sn + 1 = _ by simp only [List.take_zero, Ex.cnt.cntL, Ex.dep.depL, upBy]; split <;> omega), below_box _, by simp⟩
      case round =>
        obtain ⟨i, m, hi, rfl, rfl, hm, HM, hbr, cb⟩ := hrel
        by_cases hlt : i < l.length
        · by_cases h4 : m ≤ 30
          · obtain ⟨x, hx⟩ : ∃ x, l[i]? = some x := ⟨l[i], by simp⟩
            have ea := HA.out (by omega)
            subst ea
            have hbw := below_trans hb hbr
            obtain ⟨c0, c1, c2, c3⟩ := HC.out i x hx
            replace c0 := cell_below c0 hbw
            replace c1 := cell_below c1 hbw
            replace c2 := cell_below c2 hbw
            replace c3 := cell_below c3 hbw
            have I := Lib.hid (ih i x hx (by have := wt_kid hx; omega) (d + 1) m (by omega) h4 wr hbw)
            have hnx : Hid (upBy m (d + 1) x.cnt x.dep = upBy (sn + 1) (d + 1) (Ex.cnt.cntL (l.take (i + 1))) (Ex.dep.depL (l.take (i + 1)))) := by
              show _ = _
              have h5 := h4
              rw [HM.out] at h5 ⊢
              rw [upBy_step _ _ _ _ _ _ h5, cntL_take hx, depL_take hx]
            have hul := upBy_le m (d + 1) x.cnt x.dep
            clear hx ih
            unfold Ex.val at I
            generalize upBy m (d + 1) x.cnt x.dep = m2 at *
            rw [show (((d + 1 : Nat)) : Int) = (d : Int) + 1 by omega] at I
            go_wp2_with (go_at_call 108; refine Hid.out ?_)
            refine Lib.hid ?_
            refine I.out.mono ?_
            rintro _ w2 ⟨rfl, hb2⟩
            have cb2 := cell_below cb hb2
            go_wp2
            go_roundw
            case rel => exact ⟨i + 1, m2, by omega, by go_num, rfl, by omega, hnx, below_trans hbr hb2, cb2⟩
            case measure => simp [intOf]; omega
          · have hfin : Hid (m = upBy sn d (1 + Ex.cnt.cntL l) (1 + Ex.dep.depL l)) := by
              show m = _
              have h1 := HM.out
              have h2 := cntL_le l i
              have h3 := depL_le l i
              unfold upBy at h1 ⊢
              split at h1
              · omega
              · rw [if_neg (by omega)]; exact h1
            go_wp2
            go_ret
            exact ⟨by rw [← hfin.out]; rfl, hbr⟩
        · have hfin : Hid (m = upBy sn d (1 + Ex.cnt.cntL l) (1 + Ex.dep.depL l)) := by
            show m = _
            have h1 := HM.out
            rw [List.take_of_length_le (by omega)] at h1
            rw [h1]
            unfold upBy
            by_cases h2 : sn + 1 + Ex.cnt.cntL l ≤ 30 ∧ d + 1 + Ex.dep.depL l ≤ 6
            · rw [if_pos h2, if_pos (by omega)]; omega
            · rw [if_neg h2, if_neg (by omega)]
          go_wp2
          go_ret
          exact ⟨by rw [← hfin.out]; rfl, hbr⟩
    · have hfin : Hid (upBy sn d (1 + Ex.cnt.cntL l) (1 + Ex.dep.depL l) = 31) := by
        show _ = 31
        unfold upBy
        rw [if_neg (by omega)]
      go_enter Tryz.func108, Tryz.ntmps108
      go_wp2
      go_ret
      exact ⟨by rw [hfin.out]; rfl, below_box _⟩
end Go.Proofs.YtmgpacenooncjaaGreatDoor
