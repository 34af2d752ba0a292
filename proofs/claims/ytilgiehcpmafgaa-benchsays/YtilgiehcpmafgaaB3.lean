/- Benches: room, a task is put into a slot, a slot is freed. -/
import Derived.Test.YtilgiehcpmafgaaB2
import Derived.RegionTactic
import Derived.Deep.RegionWith
namespace Go.Proofs.Ytilgiehcpmafgaa
open Go.ChangeShapes Go.WideShapes Go.ChangeAt Go.RowKit
open Bn
def zeroPlace : Value := .agg #[.int .i64 0, .int .i64 0]
/-- What Room says. -/
def RoomSaid (L : List Sl) (W : Nat) (a : Int) (e : Ending) : Prop :=
  ((a < 0 ∨ (W : Int) ≤ a) ∧ e = .returned (.tuple #[zeroPlace, .iface 68 (.int .i64 5)])) ∨ ((0 ≤ a ∧ a < W) ∧ ((idx (isFree a) L = -1 ∧ e = .returned (.tuple #[zeroPlace, .iface 68 (.int .i64 8)])) ∨ ∃ (k : Nat) (hk : k < L.length), idx (isFree a) L = k ∧ e = .returned (.tuple #[.agg #[.int .i64 L[k].pw, .int .i64 L[k].ps], .nilIface])))
set_option maxRecDepth 100000 in
set_option maxHeartbeats 1000000 in
theorem room_any {lo hi P W S g cap : Nat} {L : List Sl} (w : World) (h : IsB w lo hi P W S g cap L) (a : Int) :
    Calls Try.prog 22 #[.pointer (some ⟨P, 0, none⟩), .int .i64 a] w fun e w' => RoomSaid L W a e ∧ Below w.heap.size w w' := by
  obtain ⟨w1, hw1⟩ : ∃ w1, w1 = (w.alloc (.cells #[.int .i64 a] 3)).alloc (.cells #[.int .i64 0, .int .i64 0] 54) := ⟨_, rfl⟩
  have hb1 : Below w.heap.size w w1 := by rw [hw1]; exact blw_step (blw_box _) (blw_box _)
  have r0 : w1.cell? ⟨w.heap.size, 0, none⟩ = some (.int .i64 a) := by rw [hw1]; exact cell_blw (cell_new _ _ _ _ _ _ rfl rfl) (blw_box _)
  have r1 : Blk w1 (w.heap.size + 1) 54 [.int .i64 0, .int .i64 0] := by
    have h := Blk.new (w.alloc (.cells #[.int .i64 a] 3)) #[.int .i64 0, .int .i64 0] 54
    rw [show (w.alloc (.cells #[.int .i64 a] 3)).heap.size = w.heap.size + 1 by simp] at h
    rw [hw1]
    exact h
  have H1 := Lib.hid (h.blw hb1)
  have R1 := Lib.hid r1
  have p0 : w1.cell? ⟨P, 0, none⟩ = some (.int .i64 W) := H1.out.row.at rfl
  have HW := Lib.hid hw1
  have hGl : w.heap.size + 1 < w1.heap.size := r1.lt
  clear h hw1 r1
  go_enter Try.func22, Try.ntmps22
  go_wp2
  rw [← HW.out]
  obtain ⟨G, hGe⟩ : ∃ G, G = w.heap.size + 1 := ⟨_, rfl⟩
  rw [← hGe] at R1 hGl ⊢
  have hGw : w.heap.size ≤ G := by omega
  clear hGe HW
  have zz : ∀ (w5 : World) (x y : Int), Blk w5 G 54 [.int .i64 x, .int .i64 y] → w5.cell? ⟨G, 0, none⟩ = some (.int .i64 x) ∧ w5.cell? ⟨G, 1, none⟩ = some (.int .i64 y) := fun w5 x y h => ⟨h.at rfl, h.at rfl⟩
  have ZZ := Lib.hid zz
  clear zz
  by_cases hr : a < 0 ∨ (W : Int) ≤ a
  · have HS : Hid (RoomSaid L W a (.returned (.tuple #[zeroPlace, .iface 68 (.int .i64 5)]))) := .inl ⟨hr, rfl⟩
    have fin : Hid (∀ (w5 : World), Below w1.heap.size w1 w5 → (Below w.heap.size w ((w5.setCell ⟨G, 0, none⟩ (.int .i64 0)).setCell ⟨G, 1, none⟩ (.int .i64 0)) ∧ Blk ((w5.setCell ⟨G, 0, none⟩ (.int .i64 0)).setCell ⟨G, 1, none⟩ (.int .i64 0)) G 54 [.int .i64 0, .int .i64 0])) := fun w5 hb => ⟨((blw_step hb1 hb).setCell (p := ⟨G, 0, none⟩) hGw _).setCell (p := ⟨G, 1, none⟩) hGw _, ((R1.out.blw hb).set 0 (.int .i64 0)).set 1 (.int .i64 0)⟩
    cases g1 : decide (a < 0) with
    | true =>
      clear hr
      go_quiet (fail)
      obtain ⟨f1, f2⟩ := fin.out _ (blw_drewN w1 nq)
      have x0 := (R1.out.drewN nq).at (i := 0) (v := .int .i64 0) rfl
      have x1 := (R1.out.drewN nq).at (i := 1) (v := .int .i64 0) rfl
      have y0 := (R1.out.drewN nq).frozen 0
      have y1 := (R1.out.drewN nq).frozen 1
      generalize w1.drewN nq = w5 at *
      obtain ⟨z0, z1⟩ := ZZ.out _ _ _ f2
      clear f2
      go_wp2
      exact bodyPost_ret (v := .tuple #[zeroPlace, .iface 68 (.int .i64 5)]) (by simp [results, Try.results22, go_sem, z0, z1, zeroPlace]) rfl ⟨HS.out, f1⟩
    | false =>
      have g2 : decide ((W : Int) ≤ a) = true := decide_eq_true (by have := of_decide_eq_false g1; omega)
      clear hr
      go_quiet (fail)
      obtain ⟨f1, f2⟩ := fin.out _ (blw_drewN w1 nq)
      have x0 := (R1.out.drewN nq).at (i := 0) (v := .int .i64 0) rfl
      have x1 := (R1.out.drewN nq).at (i := 1) (v := .int .i64 0) rfl
      have y0 := (R1.out.drewN nq).frozen 0
      have y1 := (R1.out.drewN nq).frozen 1
      generalize w1.drewN nq = w5 at *
      obtain ⟨z0, z1⟩ := ZZ.out _ _ _ f2
      clear f2
      go_wp2
      exact bodyPost_ret (v := .tuple #[zeroPlace, .iface 68 (.int .i64 5)]) (by simp [results, Try.results22, go_sem, z0, z1, zeroPlace]) rfl ⟨HS.out, f1⟩
  · have g1 : decide (a < 0) = false := decide_eq_false (by omega)
    have g2 : decide ((W : Int) ≤ a) = false := decide_eq_false (by omega)
    have hin : 0 ≤ a ∧ a < W := by omega
    have HIN := Lib.hid hin
    clear hr hin
    go_quiet (fail)
    have hb2 : Below w1.heap.size w1 (w1.drewN nq) := blw_drewN _ _
    generalize w1.drewN nq = w2 at *
    have D := Lib.hid (findF w2 (H1.out.blw hb2) w.heap.size a (cell_blw r0 hb2))
    clear r0 p0
    go_wp2_with (go_at_call 40; refine Hid.out ?_)
    refine Lib.hid ?_
    refine D.out.mono ?_
    rintro _ w3 ⟨⟨k, hk, hx, rfl⟩ | ⟨hx, rfl⟩, hb3⟩
    · have hb13 := blw_step hb2 hb3
      have h3 := H1.out.blw hb13
      have c0 := h3.cell hk (i := 0) (by omega) rfl
      have c1 := h3.cell hk (i := 1) (by omega) rfl
      rw [Nat.add_zero] at c0
      have R3 := Lib.hid (R1.out.blw hb13)
      have HS : Hid (RoomSaid L W a (.returned (.tuple #[.agg #[.int .i64 L[k].pw, .int .i64 L[k].ps], .nilIface]))) := .inr ⟨HIN.out, .inr ⟨k, hk, hx, rfl⟩⟩
      clear hx h3 H1 D
      generalize L[k].pw = q0 at *
      generalize L[k].ps = q1 at *
      have x0 := R3.out.at (i := 0) (v := .int .i64 0) rfl
      have x1 := R3.out.at (i := 1) (v := .int .i64 0) rfl
      have y0 := R3.out.frozen 0
      have y1 := R3.out.frozen 1
      have f1 : Below w.heap.size w ((w3.setCell ⟨G, 0, none⟩ (.int .i64 q0)).setCell ⟨G, 1, none⟩ (.int .i64 q1)) := ((blw_step hb1 hb13).setCell (p := ⟨G, 0, none⟩) hGw _).setCell (p := ⟨G, 1, none⟩) hGw _
      obtain ⟨z0, z1⟩ := ZZ.out _ _ _ ((R3.out.set 0 (.int .i64 q0)).set 1 (.int .i64 q1))
      go_wp2
      exact bodyPost_ret (v := .tuple #[.agg #[.int .i64 q0, .int .i64 q1], .nilIface]) (by simp [results, Try.results22, go_sem, z0, z1]) rfl ⟨HS.out, f1⟩
    · have hb13 := blw_step hb2 hb3
      have R3 := Lib.hid (R1.out.blw hb13)
      have HS : Hid (RoomSaid L W a (.returned (.tuple #[zeroPlace, .iface 68 (.int .i64 8)]))) := .inr ⟨HIN.out, .inl ⟨hx, rfl⟩⟩
      clear hx H1 D
      have x0 := R3.out.at (i := 0) (v := .int .i64 0) rfl
      have x1 := R3.out.at (i := 1) (v := .int .i64 0) rfl
      have y0 := R3.out.frozen 0
      have y1 := R3.out.frozen 1
      have f1 : Below w.heap.size w ((w3.setCell ⟨G, 0, none⟩ (.int .i64 0)).setCell ⟨G, 1, none⟩ (.int .i64 0)) := ((blw_step hb1 hb13).setCell (p := ⟨G, 0, none⟩) hGw _).setCell (p := ⟨G, 1, none⟩) hGw _
      obtain ⟨z0, z1⟩ := ZZ.out _ _ _ ((R3.out.set 0 (.int .i64 0)).set 1 (.int .i64 0))
      go_wp2
      exact bodyPost_ret (v := .tuple #[zeroPlace, .iface 68 (.int .i64 8)]) (by simp [results, Try.results22, go_sem, z0, z1, zeroPlace]) rfl ⟨HS.out, f1⟩
end Go.Proofs.Ytilgiehcpmafgaa
