/- The law ExprSays, walked: whatever the expression, the text and the numbers, it returns true, and turns nothing that was there. -/
import Derived.Test.YtahklpihbkdclaaDoorExprS1
import Derived.Test.YtahklpihbkdclaaDoorExprS2
import Derived.Test.YtahklpihbkdclaaDoorExprS3
namespace Go.Proofs.YtahklpihbkdclaaDoor
open Go.ChangeShapes Go.WideShapes Go.ChangeAt Go.RowKit
theorem exprSays_walk (e : Ex) (se : Value) (text each : Bool) (l : List UInt8) (which : Int) (w : World) (E : EnvS w) (he : IsEx w se e) (hwe : e.wt ≤ 2000000) (hl : l.length ≤ 2000000) :
    Calls Tryd.prog 6 #[e.val se, .bool text, .bool each, .string (bs l), .int .i64 which] w fun r w' => r = .returned (.bool true) ∧ Below w.heap.size w w' := by
  by_cases q1 : 1 ≤ e.k
  · by_cases q2 : e.k ≤ 6
    · exact exprSays_walk1 e se text each l which w E he hwe hl q1 q2
    · exact exprSays_walk2 e se text each l which w E he hwe hl q1 q2
  · exact exprSays_walk3 e se text each l which w E he hwe hl q1
end Go.Proofs.YtahklpihbkdclaaDoor
