/- Contracts of package fold (Check, Two). -/
import Derived.Test.YtmgpacenooncjaaGreatDoorPpBase
import Derived.Test.YtmgpacenooncjaaGreatDoorPpGrp
namespace Go.Proofs.YtmgpacenooncjaaGreatDoor.Pp
open Go.ChangeShapes Go.WideShapes Go.ChangeAt Go.RowKit
open Grp
theorem ret_numK {k : IntKind} {a b : Int} (h : a = b) : Ending.returned (.int k a) = .returned (.int k b) := by rw [h]
def kindB (k : Int) : Bool := decide (1 ≤ k) && decide (k ≤ 4)
def kindV (k : Int) : Value := if kindB k then .nilIface else .iface 70 (.int .i64 3)
set_option maxRecDepth 100000 in
theorem foldCheck_any (k : Int) (w : World) : Calls Tryz.prog 59 #[.int .i64 k] w fun e w' => e = .returned (kindV k) ∧ w' = w := by
  by_cases h1 : 1 ≤ k
  · by_cases h2 : k ≤ 4
    · rw [show kindV k = .nilIface by simp [kindV, kindB, h1, h2]]
      go_enter Tryz.func59, Tryz.ntmps59
      go_wp2
      go_ret
      exact ⟨rfl, rfl⟩
    · rw [show kindV k = .iface 70 (.int .i64 3) by simp [kindV, kindB, h2]]
      go_enter Tryz.func59, Tryz.ntmps59
      go_wp2
      go_ret
      exact ⟨rfl, rfl⟩
  · rw [show kindV k = .iface 70 (.int .i64 3) by simp [kindV, kindB, h1]]
    go_enter Tryz.func59, Tryz.ntmps59
    go_wp2
    go_ret
    exact ⟨rfl, rfl⟩
set_option maxRecDepth 100000 in
theorem two_any (k a b : Int) (w : World) : Calls Tryz.prog 83 #[.int .i64 k, .int .i64 a, .int .i64 b] w fun e w' => e = .returned (.int .i64 (two k a b)) ∧ w' = w := by
  unfold two
  by_cases h : k = 2
  · subst h
    go_enter Tryz.func83, Tryz.ntmps83
    go_wp2
    all_goals go_ret
    all_goals exact ⟨ret_numK (by omega), rfl⟩
  · have h' : (k == 2) = false := by simpa using h
    by_cases g : k = 3
    · subst g
      go_enter Tryz.func83, Tryz.ntmps83
      go_wp2
      all_goals go_ret
      all_goals exact ⟨ret_numK (by omega), rfl⟩
    · have g' : (k == 3) = false := by simpa using g
      go_enter Tryz.func83, Tryz.ntmps83
      go_wp2
      go_ret
      exact ⟨ret_numK (IntWalk.i64_left _).symm, rfl⟩
end Go.Proofs.YtmgpacenooncjaaGreatDoor.Pp
