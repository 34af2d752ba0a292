/- Benches: the walk of the law BenchSays. -/
import Derived.Test.YtilgiehcpmafgaaB11
import Derived.Test.YtilgiehcpmafgaaT8
namespace Go.Proofs.Ytilgiehcpmafgaa
open Go.ChangeShapes Go.WideShapes Go.ChangeAt Go.RowKit
open Bn
set_option maxRecDepth 100000 in
set_option maxHeartbeats 2000000 in
theorem benchSays_out (W S : Int) (hr : ¬ (1 ≤ W ∧ W ≤ 4 ∧ 1 ≤ S ∧ S ≤ 3)) (v : Value) (l : List ActV) (w : World) (h : IsActs w v l) (hl : l.length ≤ maxLen) :
    Calls Try.prog 4 #[.int .i64 W, .int .i64 S, v] w fun e w' => e = .returned (.bool true) ∧ Below w.heap.size w w' := by
  have L0 := Lib.hid (seats_any w)
  have LA : Hid (∀ w1, Below w.heap.size w w1 → Calls Try.prog 6 #[v, .int .i64 80] w1 fun e w' => (e = .returned (.bool true) ∨ e = .returned (.bool false)) ∧ w' = w1) := fun w1 hb => lightActs_any v l 80 w1 (isActs_blw h hb) hl
  have N1 := Lib.hid (fun w => new_bad w W S hr)
  have SM : Hid (∀ w1, Calls Try.prog 9 #[.iface 68 (.int .i64 1), .int .i64 1] w1 fun e w' => e = .returned (.bool true) ∧ w' = w1) := fun w1 => same_any 1 (by omega) w1
  have hd : (decide (W < 1) || decide (4 < W) || decide (S < 1) || decide (3 < S)) = true := by
    by_cases h1 : W < 1 <;> by_cases h2 : 4 < W <;> by_cases h3 : S < 1 <;> by_cases h4 : 3 < S <;> simp [h1, h2, h3, h4]
    omega
  clear h hl hr
  go_enter Try.func4, Try.ntmps4
  go_wp2_with (first | (go_at_call 18; refine L0.out.mono ?_; rintro _ w1 ⟨rfl, hb1⟩) | (go_at_call 6; refine (LA.out _ hb1).mono ?_; rintro _ w9 ⟨rfl | rfl, h9⟩ <;> (rw [h9]; clear h9 w9)) | (go_at_call 19; refine (N1.out _).mono ?_; rintro _ w2 ⟨rfl, hb2⟩) | (go_at_call 9; refine (SM.out _).mono ?_; rintro _ w9 ⟨rfl, h9⟩; rw [h9]; clear h9 w9))
  all_goals go_ret
  all_goals first | exact ⟨rfl, hb1⟩ | exact ⟨rfl, blw_step hb1 hb2⟩
end Go.Proofs.Ytilgiehcpmafgaa
