/- Contract of threshfloorlaw.orders. -/
import Derived.Test.YtncjgmohpebnmaaRise
import Derived.Test.YtncjgmohpebnmaaMrg
namespace Go.Proofs.Ytncjgmohpebnmaa
open Go.ChangeShapes Go.WideShapes Go.ChangeAt Go.RowKit
open Stable
def litAB : List (ByteArray × Int) := [(⟨#[97]⟩, 0), (⟨#[98]⟩, 0)]
def litBA : List (ByteArray × Int) := [(⟨#[98]⟩, 0), (⟨#[97]⟩, 0)]
theorem lit_lt : bl (key (⟨#[97]⟩, 0)) (key (⟨#[98]⟩, 0)) = true := by decide +kernel
theorem lit_sorted : Sorted litAB := List.pairwise_cons.2 ⟨fun q hq => by rw [List.mem_singleton] at hq; subst hq; exact lt_le lit_lt, List.pairwise_singleton _ _⟩
theorem lit_se : SE litBA litAB := SE.swap1 (a := []) (b := []) lit_lt
theorem sort_lit (g : Nat) (w : World) (c0 : w.cell? ⟨g, 0, none⟩ = some (.string ⟨#[98]⟩)) (c1 : w.cell? ⟨g, 1, none⟩ = some (.int .i64 0)) (c2 : w.cell? ⟨g, 2, none⟩ = some (.string ⟨#[97]⟩)) (c3 : w.cell? ⟨g, 3, none⟩ = some (.int .i64 0)) :
    Calls Try.prog 8 #[.slice (some ⟨g, 0, none⟩) 2 2] w fun e w' => (∃ b off cap, e = .returned (.slice (some ⟨b, off, none⟩) 2 cap) ∧ w'.cell? ⟨b, off, none⟩ = some (.string ⟨#[97]⟩) ∧ Hid (IsPairs w' (.slice (some ⟨b, off, none⟩) 2 cap) litAB)) ∧ Below w.heap.size w w' := by
  refine (sort_any (.slice (some ⟨g, 0, none⟩) 2 2) litBA w ⟨_, _, rfl, fun i hi => ?_⟩ (by decide)).mono ?_
  · have hi' : i < 2 := hi
    match i, hi' with
    | 0, _ => exact ⟨g, 0, rfl, c0, c1⟩
    | 1, _ => exact ⟨g, 0, rfl, c2, c3⟩
  · rintro e w' ⟨u, Z, rfl, z1, z2, z3, z4, hb⟩
    have hZ : Z = litAB := sorted_unique _ _ z1 lit_sorted (z2.symm.trans lit_se)
    subst hZ
    obtain ⟨a, cap, rfl, hc⟩ := z4
    obtain ⟨b, off, rfl, k0, _⟩ := hc 0 (by decide)
    exact ⟨⟨b, off, cap, rfl, k0, ⟨_, cap, rfl, hc⟩⟩, hb⟩
theorem rises_lit (b off cap : Nat) (w : World) (h : IsPairs w (.slice (some ⟨b, off, none⟩) 2 cap) litAB) : Calls Try.prog 10 #[.slice (some ⟨b, off, none⟩) 2 cap] w fun e w' => e = .returned (.bool true) ∧ Below w.heap.size w w' := by
  refine (rises_any _ litAB w h (by decide)).mono ?_
  rintro e w' ⟨r, rfl, hr, hb⟩
  have : r = true := hr.2 (fun k h1 h2 => by
    have h2' : k < 2 := h2
    have : k = 1 := by omega
    subst this
    exact lt_le lit_lt)
  subst this
  exact ⟨rfl, hb⟩
set_option maxRecDepth 100000 in
theorem orders_any (w : World) : Calls Try.prog 5 #[] w fun e w' => e = .returned (.bool true) ∧ Below w.heap.size w w' := by
  go_enter Try.func5, Try.ntmps5
  go_wp2_with (first | (go_at_call 8; refine (sort_lit _ _ (by simp) (by simp) (by simp) (by simp)).mono ?_; rintro e w1 ⟨⟨b, off, cap, rfl, k0, HP⟩, hb1⟩) | (go_at_call 10; refine (rises_lit _ _ _ _ HP.out).mono ?_; rintro e w2 ⟨rfl, hb2⟩))
  go_ret
  refine ⟨rfl, ?_⟩
  have h0 : Below w.heap.size w (w.alloc (.cells #[.string ⟨#[98]⟩, .int .i64 0, .string ⟨#[97]⟩, .int .i64 0] 36)) := (Below.refl _ _).alloc (Nat.le_refl _) _
  have h1 := h0.trans (hb1.mono h0.size)
  exact h1.trans (hb2.mono h1.size)
end Go.Proofs.Ytncjgmohpebnmaa
