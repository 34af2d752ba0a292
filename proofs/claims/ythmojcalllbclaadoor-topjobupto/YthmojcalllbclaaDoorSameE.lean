/- Contract of the document's SameExpr, at one expression as it lies twice. -/
import Derived.Test.YthmojcalllbclaaDoorExU
import Derived.Lib.QuietBelow
import Derived.Deep.QuietTactic
import Derived.BigQuiet
import Derived.Deep.RegionWith
namespace Go.Proofs.YthmojcalllbclaaDoor
open Go.ChangeShapes Go.WideShapes Go.ChangeAt Go.RowKit
set_option maxRecDepth 100000 in
set_option maxHeartbeats 1000000 in
theorem sameExpr_any {w : World} {sv : Value} {e : Ex} (h : IsEx w sv e) : e.wt ≤ 1000000000 → ∀ su w', IsEx w' su e → Below w.heap.size w w' →
    Calls Tryd.prog 27 #[e.val sv, e.val su] w' fun r w'' => r = .returned (.bool true) ∧ Below w'.heap.size w' w'' := by
  induction h using IsEx.ind with
  | mk k n s a cap l b off A ha hc kids ih =>
    intro hw su w1 hu hb
    simp only [Ex.wt] at hw
    simp only [Ex.val, Ex.k, Ex.n, Ex.s]
    have hl := len_wtL l
    obtain ⟨d, hd⟩ := hu
    cases d with
    | zero => exact absurd hd (by simp [IsExN])
    | succ d =>
      obtain ⟨a', cap', b', off', A', hsu, ha', hc', kids'⟩ := hd
      simp only [Ex.a] at hsu ha' hc' kids'
      subst hsu
      have HA := Lib.hid ha
      have HC := Lib.hid hc
      have HA' := Lib.hid ha'
      have HC' := Lib.hid hc'
      have HK' := Lib.hid kids'
      have IH := Lib.hid ih
      clear ha hc ha' hc' kids' ih
      obtain ⟨m, hm⟩ : ∃ m, m = l.length := ⟨_, rfl⟩
      rw [← hm] at hl ⊢
      have HM := Lib.hid hm
      clear hm
      go_enter Tryd.func27, Tryd.ntmps27
      go_wp2
      go_loopw [5, 6] (fun iv _ wr => ∃ i : Nat, i ≤ m ∧ iv = .int .i64 i ∧ Below w1.heap.size w1 wr ∧ wr.cell? ⟨w1.heap.size, 3, none⟩ = some (.slice a m cap) ∧ wr.cell? ⟨w1.heap.size + 1, 3, none⟩ = some (.slice a' m cap')) (fun iv _ _ => m - (intOf iv).toNat)
      case atStart => exact ⟨0, Nat.zero_le _, rfl, below_trans (below_box _) (below_box _), by simp, by simp⟩
      case round =>
        obtain ⟨i, hi, rfl, hbr, cb, cb'⟩ := hrel
        by_cases hlt : i < m
        · obtain ⟨x, hx⟩ : ∃ x, l[i]? = some x := ⟨l[i]'(by have := HM.out; omega), by simp⟩
          have ea := HA.out (by have := HM.out; omega)
          have ea' := HA'.out (by have := HM.out; omega)
          subst ea ea'
          have hbw := below_trans hb hbr
          obtain ⟨c0, c1, c2, c3⟩ := HC.out i x hx
          replace c0 := cell_below c0 hbw
          replace c1 := cell_below c1 hbw
          replace c2 := cell_below c2 hbw
          replace c3 := cell_below c3 hbw
          obtain ⟨d0, d1, d2, d3⟩ := HC'.out i x hx
          replace d0 := cell_below d0 hbr
          replace d1 := cell_below d1 hbr
          replace d2 := cell_below d2 hbr
          replace d3 := cell_below d3 hbr
          have I := Lib.hid (IH.out i x hx (by have := wt_kid hx; omega) (A' i) wr.drew (IsEx.lower (w' := wr.drew) (IsEx.lower ⟨d, HK'.out i x hx⟩ hbr) ⟨rfl, rfl, rfl, Nat.le_refl _, fun _ _ => rfl⟩) (below_trans hbw ⟨rfl, rfl, rfl, Nat.le_refl _, fun _ _ => rfl⟩))
          unfold Ex.val at I
          clear hx
          go_wp2
          go_region_with (go_at_call 27; refine I.out.mono ?_; rintro _ w2 ⟨rfl, hb2⟩)
          all_goals
            have hb3 : Below wr.heap.size wr w2 := below_trans (w1 := wr.drew) ⟨rfl, rfl, rfl, Nat.le_refl _, fun _ _ => rfl⟩ hb2
            have cb2 := cell_below cb hb3
            have cb2' := cell_below cb' hb3
            clear c0 c1 c2 c3 d0 d1 d2 d3 cb cb'
            go_wp2
            go_roundw
            case rel => exact ⟨i + 1, by omega, by go_num, below_trans hbr hb3, cb2, cb2'⟩
            case measure => simp [intOf]; omega
        · go_wp2
          go_ret
          exact ⟨rfl, hbr⟩
end Go.Proofs.YthmojcalllbclaaDoor
