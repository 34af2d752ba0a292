/- Contract of the document's PairFault. -/
import Derived.Test.YtapflhndpcgdiaaDoorPChk
namespace Go.Proofs.YtapflhndpcgdiaaDoor
open Go.ChangeShapes Go.WideShapes Go.ChangeAt Go.RowKit
set_option maxHeartbeats 400000 in
theorem pairFault_any (s : ByteArray) (m : Int) (w : World) :
    Calls Tryd.prog 11 #[.agg #[.string s, .int .i64 m]] w fun e w' => e = .returned (.int .i64 (faultN (badB (s, m)))) ∧ Below w.heap.size w w' := by
  unfold badB
  simp only
  by_cases h1 : 20 < s.size
  · rw [show decide (20 < s.size) = true from decide_eq_true h1]
    simp only [Bool.true_or, faultN, if_true]
    go_enter Tryd.func11, Tryd.ntmps11
    go_wp2
    all_goals go_ret
    all_goals exact ⟨rfl, (Below.refl _ _).alloc (Nat.le_refl _) _⟩
  · rw [show decide (20 < s.size) = false from decide_eq_false h1]
    by_cases h2 : m < -1000000000
    · rw [show decide (m < -1000000000) = true from decide_eq_true h2]
      simp only [Bool.true_or, Bool.false_or, faultN, if_true]
      go_enter Tryd.func11, Tryd.ntmps11
      go_wp2
      all_goals go_ret
      all_goals exact ⟨rfl, (Below.refl _ _).alloc (Nat.le_refl _) _⟩
    · rw [show decide (m < -1000000000) = false from decide_eq_false h2]
      by_cases h3 : 1000000000 < m
      · rw [show decide (1000000000 < m) = true from decide_eq_true h3]
        simp only [Bool.or_true, faultN, if_true]
        go_enter Tryd.func11, Tryd.ntmps11
        go_wp2
        all_goals go_ret
        all_goals exact ⟨rfl, (Below.refl _ _).alloc (Nat.le_refl _) _⟩
      · rw [show decide (1000000000 < m) = false from decide_eq_false h3]
        simp only [Bool.or_false, faultN, Bool.false_eq_true, if_false]
        go_enter Tryd.func11, Tryd.ntmps11
        go_wp2
        all_goals go_ret
        all_goals exact ⟨rfl, (Below.refl _ _).alloc (Nat.le_refl _) _⟩
end Go.Proofs.YtapflhndpcgdiaaDoor
