/- The contract of fold.First. -/
import Derived.Test.YtmgpacenooncjaaGreatDoorPpFoldT
namespace Go.Proofs.YtmgpacenooncjaaGreatDoor.Pp
open Go.ChangeShapes Go.WideShapes Go.ChangeAt Go.RowKit
open Grp
theorem ret_num {k : IntKind} {a b : Int} (h : a = b) : Ending.returned (.int k a) = .returned (.int k b) := by rw [h]
def firstI (k v : Int) : Int := if k = 4 then 1 else v
set_option maxRecDepth 100000 in
theorem first_any (k v : Int) (w : World) : Calls Tryz.prog 77 #[.int .i64 k, .int .i64 v] w fun e w' => e = .returned (.int .i64 (firstI k v)) ∧ w' = w := by
  unfold firstI
  by_cases h : k = 4
  · subst h
    go_enter Tryz.func77, Tryz.ntmps77
    go_wp2
    go_ret
    exact ⟨rfl, rfl⟩
  · have h' : (k == 4) = false := by simpa using h
    go_enter Tryz.func77, Tryz.ntmps77
    go_wp2
    go_ret
    exact ⟨rfl, rfl⟩
end Go.Proofs.YtmgpacenooncjaaGreatDoor.Pp
