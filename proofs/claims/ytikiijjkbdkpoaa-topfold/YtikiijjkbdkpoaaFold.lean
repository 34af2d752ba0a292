/- Contracts of package fold (Check, First, Two) and of the document's Two. -/
import Derived.Test.YtikiijjkbdkpoaaBase
import Derived.Test.YtikiijjkbdkpoaaGrp
namespace Go.Proofs.Ytikiijjkbdkpoaa
open Go.ChangeShapes Go.WideShapes Go.ChangeAt Go.RowKit
open Grp
theorem ret_num {k : IntKind} {a b : Int} (h : a = b) : Ending.returned (.int k a) = .returned (.int k b) := by rw [h]
def kindB (k : Int) : Bool := decide (1 ≤ k) && decide (k ≤ 4)
def kindV (k : Int) : Value := if kindB k then .nilIface else .iface 41 (.int .i64 3)
set_option maxRecDepth 100000 in
theorem foldCheck_any (k : Int) (w : World) : Calls Try.prog 8 #[.int .i64 k] w fun e w' => e = .returned (kindV k) ∧ w' = w := by
  by_cases h1 : 1 ≤ k
  · by_cases h2 : k ≤ 4
    · rw [show kindV k = .nilIface by simp [kindV, kindB, h1, h2]]
      go_enter Try.func8, Try.ntmps8
      go_wp2
      go_ret
      exact ⟨rfl, rfl⟩
    · rw [show kindV k = .iface 41 (.int .i64 3) by simp [kindV, kindB, h2]]
      go_enter Try.func8, Try.ntmps8
      go_wp2
      go_ret
      exact ⟨rfl, rfl⟩
  · rw [show kindV k = .iface 41 (.int .i64 3) by simp [kindV, kindB, h1]]
    go_enter Try.func8, Try.ntmps8
    go_wp2
    go_ret
    exact ⟨rfl, rfl⟩
def firstI (k v : Int) : Int := if k = 4 then 1 else v
set_option maxRecDepth 100000 in
theorem first_any (k v : Int) (w : World) : Calls Try.prog 10 #[.int .i64 k, .int .i64 v] w fun e w' => e = .returned (.int .i64 (firstI k v)) ∧ w' = w := by
  unfold firstI
  by_cases h : k = 4
  · subst h
    go_enter Try.func10, Try.ntmps10
    go_wp2
    go_ret
    exact ⟨rfl, rfl⟩
  · have h' : (k == 4) = false := by simpa using h
    go_enter Try.func10, Try.ntmps10
    go_wp2
    go_ret
    exact ⟨rfl, rfl⟩
set_option maxRecDepth 100000 in
theorem two_any (k a b : Int) (w : World) : Calls Try.prog 14 #[.int .i64 k, .int .i64 a, .int .i64 b] w fun e w' => e = .returned (.int .i64 (two k a b)) ∧ w' = w := by
  unfold two
  by_cases h : k = 2
  · subst h
    go_enter Try.func14, Try.ntmps14
    go_wp2
    all_goals go_ret
    all_goals exact ⟨ret_num (by omega), rfl⟩
  · have h' : (k == 2) = false := by simpa using h
    by_cases g : k = 3
    · subst g
      go_enter Try.func14, Try.ntmps14
      go_wp2
      all_goals go_ret
      all_goals exact ⟨ret_num (by omega), rfl⟩
    · have g' : (k == 3) = false := by simpa using g
      go_enter Try.func14, Try.ntmps14
      go_wp2
      go_ret
      exact ⟨ret_num (IntWalk.i64_left _).symm, rfl⟩
set_option maxRecDepth 100000 in
theorem twoR_any (k a b : Int) (w : World) : Calls Try.prog 15 #[.int .i64 k, .int .i64 a, .int .i64 b] w fun e w' => e = .returned (.int .i64 (two k a b)) ∧ w' = w := by
  unfold two
  by_cases h : k = 2
  · subst h
    go_enter Try.func15, Try.ntmps15
    go_wp2
    all_goals go_ret
    all_goals exact ⟨ret_num (by omega), rfl⟩
  · have h' : (k == 2) = false := by simpa using h
    by_cases g : k = 3
    · subst g
      go_enter Try.func15, Try.ntmps15
      go_wp2
      all_goals go_ret
      all_goals exact ⟨ret_num (by omega), rfl⟩
    · have g' : (k == 3) = false := by simpa using g
      go_enter Try.func15, Try.ntmps15
      go_wp2
      go_ret
      exact ⟨ret_num (IntWalk.i64_left _).symm, rfl⟩
end Go.Proofs.Ytikiijjkbdkpoaa
