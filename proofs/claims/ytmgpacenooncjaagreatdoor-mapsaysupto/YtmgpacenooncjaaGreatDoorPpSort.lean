/- Contract of order.Sort. -/
import Derived.Test.YtmgpacenooncjaaGreatDoorPpStab
import Derived.Test.YtmgpacenooncjaaGreatDoorPpOwn
namespace Go.Proofs.YtmgpacenooncjaaGreatDoor.Pp
open Go.ChangeShapes Go.WideShapes Go.ChangeAt Go.RowKit
open Stable
set_option maxRecDepth 100000 in
set_option maxHeartbeats 1000000 in
theorem sort_full (v : Value) (l : List (ByteArray × Int)) (w : World) (h : IsPairs w v l) (hl : l.length ≤ 1000000) :
    Calls Tryz.prog 50 #[v] w fun e w' => ∃ u Z, e = .returned u ∧ Sorted Z ∧ SE l Z ∧ Z.length = l.length ∧ IsPairs w' u Z ∧ Below w.heap.size w w' ∧ ∃ g, u = .slice (some ⟨g, 0, none⟩) l.length l.length := by
  have H := Lib.hid h
  obtain ⟨ao, cap, rfl, _⟩ := h
  obtain ⟨n, hn⟩ : ∃ n, n = l.length := ⟨_, rfl⟩
  rw [← hn] at H hl ⊢
  have HN := Lib.hid hn
  clear hn
  go_enter Tryz.func50, Tryz.ntmps50
  go_wp2_with (at_make; refine Hid.out ?_)
  refine Lib.hid ?_
  obtain ⟨i0, hi, hz0, hz1, hz2⟩ := info_parts pairInfo
  refine wpList_make_full w rfl (.tmp 5) (.tmp 5) 42 rfl w.heap.size 67 i0 _ 2 Tryz.underlying42 hi hz0 hz1 _ _ _ _ n rfl rfl rfl rfl (by rw [hz2]; omega) (by unfold maxLen; omega) (Nat.le_refl _) ?_
  intro w1 hown hgrow
  have hb1 : Below w.heap.size w w1 := ⟨hgrow.os, hgrow.tape, hgrow.output, hgrow.size, fun k hk => hgrow.block k hk (by simp)⟩
  have HP1 := isPairs_below H.out hb1
  obtain ⟨w2, hrun, hr2, ho2⟩ : ∃ w2, (∀ ty, (Builtin.copy_ #[42, 42] ty #[.slice (some ⟨w.heap.size, 0, none⟩) n n, .slice ao n cap]).run Tryz.prog w1 = .ok (goInt n) w2) ∧ Row w.heap.size l w2 ∧ Only w.heap.size w1 w2 := by
    rcases hown.2 with ⟨h1, _⟩ | ⟨g', cap', cur, h1, _, h3, _, _, h6, _⟩
    · cases h1
    · injection h1 with e1 e2 e3
      injection e1 with e1
      injection e1 with e1
      subst e1 e3
      exact copy_pairs h3 HN.out h6 HP1
  have C1 := Lib.hid (sortStable_any w.heap.size n n l w2 hr2 HN.out hl)
  have hb2 := below_of_only hb1 (Nat.le_refl _) ho2
  clear hown hgrow hb1 HP1 hr2 ho2 hi hz0 hz1 hz2
  go_wp2_with (go_at_call 79; refine Hid.out ?_)
  refine Lib.hid ?_
  refine C1.out.mono ?_
  rintro _ w3 ⟨rfl, ⟨Z, z1, z2, z3, z4⟩, ho3⟩
  have hb3 := below_of_only hb2 (Nat.le_refl _) ho3
  have z5 : IsPairs w3 (.slice (some ⟨w.heap.size, 0, none⟩) n n) Z := z4.isPairs (by rw [z3]; exact HN.out)
  have HZ : Hid (Z.length = n) := by show _ = _; rw [z3]; exact HN.out.symm
  clear hrun C1 hb2 ho3 z4 z3
  go_wp2
  go_ret
  exact ⟨_, Z, rfl, z1, z2, HZ.out, z5, hb3, _, rfl⟩
theorem sort_any (v : Value) (l : List (ByteArray × Int)) (w : World) (h : IsPairs w v l) (hl : l.length ≤ 1000000) :
    Calls Tryz.prog 50 #[v] w fun e w' => ∃ u Z, e = .returned u ∧ Sorted Z ∧ SE l Z ∧ Z.length = l.length ∧ IsPairs w' u Z ∧ Below w.heap.size w w' := by
  refine (sort_full v l w h hl).mono ?_
  rintro e w' ⟨u, Z, h1, h2, h3, h4, h5, h6, _⟩
  exact ⟨u, Z, h1, h2, h3, h4, h5, h6⟩
end Go.Proofs.YtmgpacenooncjaaGreatDoor.Pp
