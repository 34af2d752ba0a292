/- Benches: none is made of numbers that are out of bounds. -/
import Derived.Test.YtilgiehcpmafgaaB6
namespace Go.Proofs.Ytilgiehcpmafgaa
open Go.ChangeShapes Go.WideShapes Go.ChangeAt Go.RowKit
open Bn
set_option maxRecDepth 100000 in
set_option maxHeartbeats 2000000 in
theorem new_bad (w : World) (W S : Int) (h : ¬ (1 ≤ W ∧ W ≤ 4 ∧ 1 ≤ S ∧ S ≤ 3)) :
    Calls Try.prog 19 #[.int .i64 W, .int .i64 S] w fun e w' => e = .returned (.tuple #[.pointer none, .iface 68 (.int .i64 1)]) ∧ Below w.heap.size w w' := by
  have hd : (decide (W < 1) || decide (4 < W) || decide (S < 1) || decide (3 < S)) = true := by
    by_cases h1 : W < 1 <;> by_cases h2 : 4 < W <;> by_cases h3 : S < 1 <;> by_cases h4 : 3 < S <;> simp [h1, h2, h3, h4]
    omega
  go_enter Try.func19, Try.ntmps19
  go_wp2
  all_goals exact bodyPost_ret (v := .tuple #[.pointer none, .iface 68 (.int .i64 1)]) (by simp [results, Try.results19, go_sem]) rfl ⟨rfl, Below.refl _ _⟩
end Go.Proofs.Ytilgiehcpmafgaa
