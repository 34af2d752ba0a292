/- Benches: the law's own small bench. -/
import Derived.Test.YtilgiehcpmafgaaB10
import Derived.Test.YtilgiehcpmafgaaT7
namespace Go.Proofs.Ytilgiehcpmafgaa
open Go.ChangeShapes Go.WideShapes Go.ChangeAt Go.RowKit
open Bn
def sl0 : Sl := ⟨0, 0, false, 0, false, 0⟩
theorem room_one (w : World) {lo hi P g cap : Nat} (h : IsB w lo hi P 1 1 g cap [sl0]) :
    Calls Try.prog 22 #[.pointer (some ⟨P, 0, none⟩), .int .i64 0] w fun e w' => e = .returned (.tuple #[.agg #[.int .i64 0, .int .i64 0], .nilIface]) ∧ Below w.heap.size w w' := by
  refine (room_any w h 0).mono ?_
  rintro e w' ⟨⟨h1, _⟩ | ⟨_, ⟨h2, _⟩ | ⟨k, hk, h3, h4⟩⟩, hb⟩
  · omega
  · exact absurd h2 (by decide)
  · have e0 : idx (isFree 0) [sl0] = 0 := by decide
    have hk0 : k = 0 := by omega
    subst hk0
    exact ⟨h4, hb⟩
theorem put_one (w : World) {lo hi P g cap : Nat} (h : IsB w lo hi P 1 1 g cap [sl0]) (hw : hi ≤ w.heap.size) :
    Calls Try.prog 20 #[.pointer (some ⟨P, 0, none⟩), .agg #[.int .i64 0, .int .i64 0], .agg #[.int .i64 3, .bool false, .int .i64 0]] w fun e w' => e = .returned .nilIface ∧ IsB w' lo hi P 1 1 g cap [sl0.put 3 false 0] ∧ Win lo hi w w' := by
  refine (put_any w h hw 0 0 3 0 false).mono ?_
  rintro e w' ⟨⟨h1, _⟩ | ⟨k, hk, h2, ⟨h3, _⟩ | ⟨_, h4, h5⟩⟩, hb⟩
  · exact absurd h1 (by decide)
  · have hk0 : k = 0 := by simp at hk; exact hk
    subst hk0
    exact absurd (show false = true from h3) (by decide)
  · have hk0 : k = 0 := by simp at hk; exact hk
    subst hk0
    exact ⟨h4, h5, hb⟩
theorem runs_one (w : World) {lo hi P g cap : Nat} (h : IsB w lo hi P 1 1 g cap [sl0.put 3 false 0]) :
    Calls Try.prog 27 #[.pointer (some ⟨P, 0, none⟩), .agg #[.int .i64 3, .bool false, .int .i64 0]] w fun e w' => e = .returned (.bool true) ∧ Below w.heap.size w w' := by
  refine (runs_any w h 3 0 false).mono ?_
  rintro e w' ⟨h1, hb⟩
  exact ⟨h1, hb⟩
set_option maxRecDepth 100000 in
set_option maxHeartbeats 2000000 in
theorem seats_any (w : World) : Calls Try.prog 18 #[] w fun e w' => e = .returned (.bool true) ∧ Below w.heap.size w w' := by
  have N := Lib.hid (new_good w 1 1 (by omega) (by omega))
  have S : Hid (∀ w1, Calls Try.prog 9 #[.nilIface, .int .i64 0] w1 fun e w' => e = .returned (.bool true) ∧ w' = w1) := fun w1 => same_any 0 (by omega) w1
  go_enter Try.func18, Try.ntmps18
  go_wp2_with (go_at_call 19; refine Hid.out ?_)
  refine Lib.hid ?_
  refine N.out.mono ?_
  rintro _ w1 ⟨rfl, ⟨g, cap, hB⟩, hb1⟩
  have e0 : mkL 1 (1 * 1) = [sl0] := rfl
  rw [e0] at hB
  have R := Lib.hid (room_one w1 hB)
  obtain ⟨G, hG⟩ : ∃ G, G = w.heap.size := ⟨_, rfl⟩
  rw [← hG] at hB R ⊢
  have PT : Hid (∀ w2, Below w1.heap.size w1 w2 → Calls Try.prog 20 #[.pointer (some ⟨G, 0, none⟩), .agg #[.int .i64 0, .int .i64 0], .agg #[.int .i64 3, .bool false, .int .i64 0]] w2 fun e w' => e = .returned .nilIface ∧ IsB w' G w1.heap.size G 1 1 g cap [sl0.put 3 false 0] ∧ Win G w1.heap.size w2 w') := fun w2 hb => put_one w2 (hB.blw hb) hb.size
  have hGe : w.heap.size ≤ G := by omega
  clear N e0 hB hG
  go_wp2_with (first | (go_at_call 22; refine R.out.mono ?_; rintro _ w2 ⟨rfl, hb2⟩) | (go_at_call 20; refine (PT.out _ (blw_step hb2 (blw_box _))).mono ?_; rintro _ w3 ⟨rfl, hB3, hw3⟩; have RN := Lib.hid (runs_one w3 hB3); clear hB3) | (go_at_call 9; refine (S.out _).mono ?_; rintro _ w9 ⟨rfl, h9⟩; rw [h9]; clear h9 w9) | (go_at_call 27; refine RN.out.mono ?_; rintro _ w4 ⟨rfl, hb4⟩))
  go_ret
  exact ⟨rfl, blw_step (Win.blw (blw_step (blw_step hb1 hb2) (blw_box _)) hw3 hGe) hb4⟩
end Go.Proofs.Ytilgiehcpmafgaa
