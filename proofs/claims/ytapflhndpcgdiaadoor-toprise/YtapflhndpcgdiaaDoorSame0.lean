/- Contract of threshfloorlaw.same: an error by its number. -/
import Derived.Test.YtapflhndpcgdiaaDoorBase
namespace Go.Proofs.YtapflhndpcgdiaaDoor
open Go.ChangeShapes Go.WideShapes Go.ChangeAt Go.RowKit
theorem assert_err (n : Int) (w : World) : Sem.run Tryd.prog (Instr.typeAssert (Value.iface 58 (Value.int IntKind.i64 n)) 27 58 true) w = .ok (.tuple #[.int .i64 n, .bool true]) w := by kernel_rfl
set_option maxRecDepth 100000 in
theorem same_err (n : Int) (w : World) (h : 0 < n) : Calls Tryd.prog 9 #[.iface 58 (.int .i64 n), .int .i64 n] w fun e w' => e = .returned (.bool true) ∧ Below w.heap.size w w' := by
  have ta := assert_err n
  go_enter Tryd.func9, Tryd.ntmps9
  go_wp2
  go_ret
  exact ⟨rfl, Below.refl _ _⟩
set_option maxRecDepth 100000 in
theorem same_nil (w : World) : Calls Tryd.prog 9 #[.nilIface, .int .i64 0] w fun e w' => e = .returned (.bool true) ∧ Below w.heap.size w w' := by
  go_enter Tryd.func9, Tryd.ntmps9
  go_wp2
  go_ret
  exact ⟨rfl, Below.refl _ _⟩
end Go.Proofs.YtapflhndpcgdiaaDoor
