/- Benches: what is read of them. -/
import Derived.Test.YtilgiehcpmafgaaB1
namespace Go.Proofs.Ytilgiehcpmafgaa
open Go.ChangeShapes Go.WideShapes Go.ChangeAt Go.RowKit
open Bn
def zeroTask : Value := .agg #[.int .i64 0, .bool false, .int .i64 0]
def Sl.task (s : Sl) : Value := .agg #[.int .i64 s.job, .bool s.fold, .int .i64 s.index]
set_option maxRecDepth 100000 in
set_option maxHeartbeats 1000000 in
theorem at_any {lo hi P W S g cap : Nat} {L : List Sl} (w : World) (h : IsB w lo hi P W S g cap L) (a b : Int) :
    Calls Try.prog 39 #[.pointer (some ⟨P, 0, none⟩), .agg #[.int .i64 a, .int .i64 b]] w fun e w' => ((∃ k : Nat, k < L.length ∧ idx (isPlace a b) L = k ∧ e = .returned (.pointer (some ⟨g, k * 6, none⟩))) ∨ (idx (isPlace a b) L = -1 ∧ e = .returned (.pointer none))) ∧ Below w.heap.size w w' := by
  obtain ⟨w1, hw1⟩ : ∃ w1, w1 = w.alloc (.cells #[.int .i64 a, .int .i64 b] 54) := ⟨_, rfl⟩
  have hb1 : Below w.heap.size w w1 := by rw [hw1]; exact blw_box _
  have D := Lib.hid (findP w1 (h.blw hb1) w.heap.size a b (by rw [hw1]; exact cell_new _ _ _ _ _ _ rfl rfl) (by rw [hw1]; exact cell_new _ _ _ _ _ _ rfl rfl))
  have HW := Lib.hid hw1
  clear h hw1
  generalize idx (isPlace a b) L = x at *
  generalize L.length = n at *
  go_enter Try.func39, Try.ntmps39
  go_wp2_with (go_at_call 40; refine Hid.out ?_)
  refine Lib.hid ?_
  rw [← HW.out]
  refine D.out.mono ?_
  rintro _ w2 ⟨⟨k, hk, hx, rfl⟩ | ⟨hx, rfl⟩, hb2⟩
  · have HX := Lib.hid hx
    clear hx
    go_wp2
    go_ret
    exact ⟨.inl ⟨k, hk, HX.out, rfl⟩, blw_step hb1 hb2⟩
  · have HX := Lib.hid hx
    clear hx
    go_wp2
    go_ret
    exact ⟨.inr ⟨HX.out, rfl⟩, blw_step hb1 hb2⟩
/-- What In says. -/
def InSaid (L : List Sl) (a b : Int) (e : Ending) : Prop :=
  (idx (isPlace a b) L = -1 ∧ e = .returned (.tuple #[zeroTask, .iface 68 (.int .i64 5)])) ∨ ∃ (k : Nat) (hk : k < L.length), idx (isPlace a b) L = k ∧ ((L[k].taken = false ∧ e = .returned (.tuple #[zeroTask, .iface 68 (.int .i64 7)])) ∨ (L[k].taken = true ∧ e = .returned (.tuple #[L[k].task, .nilIface])))
set_option maxRecDepth 100000 in
set_option maxHeartbeats 1000000 in
theorem in_any {lo hi P W S g cap : Nat} {L : List Sl} (w : World) (h : IsB w lo hi P W S g cap L) (a b : Int) :
    Calls Try.prog 23 #[.pointer (some ⟨P, 0, none⟩), .agg #[.int .i64 a, .int .i64 b]] w fun e w' => InSaid L a b e ∧ Below w.heap.size w w' := by
  obtain ⟨w1, hw1⟩ : ∃ w1, w1 = (w.alloc (.cells #[.int .i64 a, .int .i64 b] 54)).alloc (.cells #[.int .i64 0, .bool false, .int .i64 0] 51) := ⟨_, rfl⟩
  have hb1 : Below w.heap.size w w1 := by rw [hw1]; exact blw_step (blw_box _) (blw_box _)
  have r1 : Blk w1 (w.heap.size + 1) 51 [.int .i64 0, .bool false, .int .i64 0] := by
    have h := Blk.new (w.alloc (.cells #[.int .i64 a, .int .i64 b] 54)) #[.int .i64 0, .bool false, .int .i64 0] 51
    rw [show (w.alloc (.cells #[.int .i64 a, .int .i64 b] 54)).heap.size = w.heap.size + 1 by simp] at h
    rw [hw1]
    exact h
  have D := Lib.hid (at_any w1 (h.blw hb1) a b)
  have H1 := Lib.hid (h.blw hb1)
  have R1 := Lib.hid r1
  have HW := Lib.hid hw1
  have hG : w.heap.size + 1 < w1.heap.size := r1.lt
  clear h hw1 r1
  go_enter Try.func23, Try.ntmps23
  go_wp2_with (go_at_call 39; refine Hid.out ?_)
  refine Lib.hid ?_
  rw [← HW.out]
  refine D.out.mono ?_
  obtain ⟨G, hGe⟩ : ∃ G, G = w.heap.size + 1 := ⟨_, rfl⟩
  rw [← hGe] at R1 hG ⊢
  have hGw : w.heap.size ≤ G := by omega
  clear hGe HW D
  rintro _ w2 ⟨⟨k, hk, hx, rfl⟩ | ⟨hx, rfl⟩, hb2⟩
  · have HX := Lib.hid hx
    have R2 := Lib.hid (R1.out.blw hb2)
    have hb02 := blw_step hb1 hb2
    have h2 := H1.out.blw hb2
    have c2 := h2.cell hk (i := 2) (by omega) rfl
    have c3 := h2.cell hk (i := 3) (by omega) rfl
    have c4 := h2.cell hk (i := 4) (by omega) rfl
    have c5 := h2.cell hk (i := 5) (by omega) rfl
    have x0 := R2.out.at (i := 0) (v := .int .i64 0) rfl
    have x1 := R2.out.at (i := 1) (v := .bool false) rfl
    have x2 := R2.out.at (i := 2) (v := .int .i64 0) rfl
    have y0 := R2.out.frozen 0
    have y1 := R2.out.frozen 1
    have y2 := R2.out.frozen 2
    have HS : Hid (∀ e, ((L[k].taken = false ∧ e = .returned (.tuple #[zeroTask, .iface 68 (.int .i64 7)])) ∨ (L[k].taken = true ∧ e = .returned (.tuple #[L[k].task, .nilIface]))) → InSaid L a b e) := fun e he => .inr ⟨k, hk, HX.out, he⟩
    unfold Sl.task at HS
    clear hx h2 H1
    generalize L[k].taken = tk at *
    generalize L[k].job = q3 at *
    generalize L[k].fold = q4 at *
    generalize L[k].index = q5 at *
    cases tk with
    | false =>
      have g1 := (R2.out.set 0 (.int .i64 0)).set 1 (.bool false)
      have g3 := g1.set 2 (.int .i64 0)
      have z0 := g3.at (i := 0) (v := .int .i64 0) rfl
      have z1 := g3.at (i := 1) (v := .bool false) rfl
      have z2 := g3.at (i := 2) (v := .int .i64 0) rfl
      have hb5 : Below w.heap.size w (((w2.setCell ⟨G, 0, none⟩ (.int .i64 0)).setCell ⟨G, 1, none⟩ (.bool false)).setCell ⟨G, 2, none⟩ (.int .i64 0)) := ((hb02.setCell (p := ⟨G, 0, none⟩) hGw _).setCell (p := ⟨G, 1, none⟩) hGw _).setCell (p := ⟨G, 2, none⟩) hGw _
      clear g1 g3
      go_wp2
      exact bodyPost_ret (v := .tuple #[zeroTask, .iface 68 (.int .i64 7)]) (by simp [results, Try.results23, go_sem, z0, z1, z2, zeroTask]) rfl ⟨HS.out _ (.inl ⟨by trivial, rfl⟩), hb5⟩
    | true =>
      have g1 := (R2.out.set 0 (.int .i64 q3)).set 1 (.bool q4)
      have g3 := g1.set 2 (.int .i64 q5)
      have z0 := g3.at (i := 0) (v := .int .i64 q3) rfl
      have z1 := g3.at (i := 1) (v := .bool q4) rfl
      have z2 := g3.at (i := 2) (v := .int .i64 q5) rfl
      have hb5 : Below w.heap.size w (((w2.setCell ⟨G, 0, none⟩ (.int .i64 q3)).setCell ⟨G, 1, none⟩ (.bool q4)).setCell ⟨G, 2, none⟩ (.int .i64 q5)) := ((hb02.setCell (p := ⟨G, 0, none⟩) hGw _).setCell (p := ⟨G, 1, none⟩) hGw _).setCell (p := ⟨G, 2, none⟩) hGw _
      clear g1 g3
      go_wp2
      exact bodyPost_ret (v := .tuple #[.agg #[.int .i64 q3, .bool q4, .int .i64 q5], .nilIface]) (by simp [results, Try.results23, go_sem, z0, z1, z2]) rfl ⟨HS.out _ (.inr ⟨by trivial, rfl⟩), hb5⟩
  · have HX := Lib.hid hx
    have R2 := Lib.hid (R1.out.blw hb2)
    have hb02 := blw_step hb1 hb2
    have x0 := R2.out.at (i := 0) (v := .int .i64 0) rfl
    have x1 := R2.out.at (i := 1) (v := .bool false) rfl
    have x2 := R2.out.at (i := 2) (v := .int .i64 0) rfl
    have y0 := R2.out.frozen 0
    have y1 := R2.out.frozen 1
    have y2 := R2.out.frozen 2
    have HS : Hid (InSaid L a b (.returned (.tuple #[zeroTask, .iface 68 (.int .i64 5)]))) := .inl ⟨HX.out, rfl⟩
    clear hx H1
    have g1 := (R2.out.set 0 (.int .i64 0)).set 1 (.bool false)
    have g3 := g1.set 2 (.int .i64 0)
    have z0 := g3.at (i := 0) (v := .int .i64 0) rfl
    have z1 := g3.at (i := 1) (v := .bool false) rfl
    have z2 := g3.at (i := 2) (v := .int .i64 0) rfl
    have hb5 : Below w.heap.size w (((w2.setCell ⟨G, 0, none⟩ (.int .i64 0)).setCell ⟨G, 1, none⟩ (.bool false)).setCell ⟨G, 2, none⟩ (.int .i64 0)) := ((hb02.setCell (p := ⟨G, 0, none⟩) hGw _).setCell (p := ⟨G, 1, none⟩) hGw _).setCell (p := ⟨G, 2, none⟩) hGw _
    clear g1 g3
    go_wp2
    exact bodyPost_ret (v := .tuple #[zeroTask, .iface 68 (.int .i64 5)]) (by simp [results, Try.results23, go_sem, z0, z1, z2, zeroTask]) rfl ⟨HS.out, hb5⟩
set_option maxRecDepth 100000 in
set_option maxHeartbeats 1000000 in
theorem runs_any {lo hi P W S g cap : Nat} {L : List Sl} (w : World) (h : IsB w lo hi P W S g cap L) (j i : Int) (f : Bool) :
    Calls Try.prog 27 #[.pointer (some ⟨P, 0, none⟩), .agg #[.int .i64 j, .bool f, .int .i64 i]] w fun e w' => e = .returned (.bool (decide (0 ≤ idx (isTask j f i) L))) ∧ Below w.heap.size w w' := by
  obtain ⟨w1, hw1⟩ : ∃ w1, w1 = w.alloc (.cells #[.int .i64 j, .bool f, .int .i64 i] 51) := ⟨_, rfl⟩
  have hb1 : Below w.heap.size w w1 := by rw [hw1]; exact blw_box _
  have D := Lib.hid (findT w1 (h.blw hb1) w.heap.size j i f (by rw [hw1]; exact cell_new _ _ _ _ _ _ rfl rfl) (by rw [hw1]; exact cell_new _ _ _ _ _ _ rfl rfl) (by rw [hw1]; exact cell_new _ _ _ _ _ _ rfl rfl))
  have HW := Lib.hid hw1
  clear h hw1
  generalize idx (isTask j f i) L = x at *
  generalize L.length = n at *
  go_enter Try.func27, Try.ntmps27
  go_wp2_with (go_at_call 40; refine Hid.out ?_)
  refine Lib.hid ?_
  rw [← HW.out]
  refine D.out.mono ?_
  rintro _ w2 ⟨⟨k, hk, hx, rfl⟩ | ⟨hx, rfl⟩, hb2⟩
  · have HX : Hid (decide (0 ≤ x) = true) := decide_eq_true (by omega)
    clear hx
    go_wp2
    go_ret
    exact ⟨by rw [HX.out]; rfl, blw_step hb1 hb2⟩
  · have HX : Hid (decide (0 ≤ x) = false) := decide_eq_false (by omega)
    clear hx
    go_wp2
    go_ret
    exact ⟨by rw [HX.out]; rfl, blw_step hb1 hb2⟩
set_option maxRecDepth 100000 in
set_option maxHeartbeats 1000000 in
theorem size_any {lo hi P W S g cap : Nat} {L : List Sl} (w : World) (h : IsB w lo hi P W S g cap L) :
    Calls Try.prog 24 #[.pointer (some ⟨P, 0, none⟩)] w fun e w' => e = .returned (.tuple #[.int .i64 W, .int .i64 S]) ∧ Below w.heap.size w w' := by
  have c0 := h.row.at (i := 0) (v := .int .i64 W) rfl
  have c1 := h.row.at (i := 1) (v := .int .i64 S) rfl
  clear h
  go_enter Try.func24, Try.ntmps24
  go_wp2
  go_quiet (fail)
  go_wp2
  go_ret2
  exact ⟨rfl, blw_drewN _ _⟩
end Go.Proofs.Ytilgiehcpmafgaa
