/- Benches: a slot is freed. -/
import Derived.Test.YtilgiehcpmafgaaB4
import Derived.Deep.RegionWith
namespace Go.Proofs.Ytilgiehcpmafgaa
open Go.ChangeShapes Go.WideShapes Go.ChangeAt Go.RowKit
open Bn
/-- What Free says, and leaves. -/
def FreeSaid (lo hi P W S g cap : Nat) (L : List Sl) (a b : Int) (e : Ending) (w' : World) : Prop :=
  (idx (isPlace a b) L = -1 ∧ e = .returned (.tuple #[zeroTask, .iface 68 (.int .i64 5)]) ∧ IsB w' lo hi P W S g cap L) ∨ ∃ (k : Nat) (hk : k < L.length), idx (isPlace a b) L = k ∧ ((L[k].taken = false ∧ e = .returned (.tuple #[zeroTask, .iface 68 (.int .i64 7)]) ∧ IsB w' lo hi P W S g cap L) ∨ (L[k].taken = true ∧ e = .returned (.tuple #[L[k].task, .nilIface]) ∧ IsB w' lo hi P W S g cap (L.set k L[k].free)))
theorem Win.storeUp {lo hi : Nat} {w w1 : World} (h : Win lo hi w w1) {g i : Nat} (v : Value) (h1 : w.heap.size ≤ g) : Win lo hi w (w1.setCell ⟨g, i, none⟩ v) :=
  ⟨h.os, h.tape, h.output, by rw [World.size_setCell]; exact h.size, fun j hj hj' => (Below.heap_setCell w1 ⟨g, i, none⟩ v j (by show j ≠ g; omega)).trans (h.block j hj hj')⟩
theorem Win.allocB {lo hi : Nat} {W w : World} (h : Win lo hi W w) (o : Obj) : Win lo hi W (w.alloc o) := h.trans (Win.of_blw (blw_box o))
set_option maxRecDepth 100000 in
set_option maxHeartbeats 2000000 in
theorem free_any {lo hi P W S g cap : Nat} {L : List Sl} (w : World) (h : IsB w lo hi P W S g cap L) (hw : hi ≤ w.heap.size) (a b : Int) :
    Calls Try.prog 21 #[.pointer (some ⟨P, 0, none⟩), .agg #[.int .i64 a, .int .i64 b]] w fun e w' => FreeSaid lo hi P W S g cap L a b e w' ∧ Win lo hi w w' := by
  obtain ⟨w1, hw1⟩ : ∃ w1, w1 = (w.alloc (.cells #[.int .i64 a, .int .i64 b] 54)).alloc (.cells #[.int .i64 0, .bool false, .int .i64 0] 51) := ⟨_, rfl⟩
  have hb1 : Below w.heap.size w w1 := by rw [hw1]; exact blw_step (blw_box _) (blw_box _)
  have r1 : Blk w1 (w.heap.size + 1) 51 [.int .i64 0, .bool false, .int .i64 0] := by
    have h := Blk.new (w.alloc (.cells #[.int .i64 a, .int .i64 b] 54)) #[.int .i64 0, .bool false, .int .i64 0] 51
    rw [show (w.alloc (.cells #[.int .i64 a, .int .i64 b] 54)).heap.size = w.heap.size + 1 by simp] at h
    rw [hw1]
    exact h
  have r0 : Blk w1 w.heap.size 54 [.int .i64 a, .int .i64 b] := by
    rw [hw1]
    exact (Blk.new w #[.int .i64 a, .int .i64 b] 54).blw (blw_box _)
  have D := Lib.hid (in_any w1 (h.blw hb1) a b)
  have D2 : Hid (∀ w2, IsB w2 lo hi P W S g cap L → Calls Try.prog 39 #[.pointer (some ⟨P, 0, none⟩), .agg #[.int .i64 a, .int .i64 b]] w2 fun e w' => ((∃ k : Nat, k < L.length ∧ idx (isPlace a b) L = k ∧ e = .returned (.pointer (some ⟨g, k * 6, none⟩))) ∨ (idx (isPlace a b) L = -1 ∧ e = .returned (.pointer none))) ∧ Below w2.heap.size w2 w') := fun w2 h2 => at_any w2 h2 a b
  have H1 := Lib.hid (h.blw hb1)
  have R1 := Lib.hid r1
  have R0 := Lib.hid r0
  have HW := Lib.hid hw1
  have hG : w.heap.size + 1 < w1.heap.size := r1.lt
  have hgl := h.glo
  have hgh := h.ghi
  clear h hw1 r1 r0
  go_enter Try.func21, Try.ntmps21
  go_wp2_with (go_at_call 23; refine Hid.out ?_)
  refine Lib.hid ?_
  rw [← HW.out]
  refine D.out.mono ?_
  obtain ⟨G0, hGe0⟩ : ∃ G0, G0 = w.heap.size := ⟨_, rfl⟩
  obtain ⟨G, hGe⟩ : ∃ G, G = w.heap.size + 1 := ⟨_, rfl⟩
  rw [← hGe] at R1 hG ⊢
  rw [← hGe0] at R0 ⊢
  have hGw : w.heap.size ≤ G := by omega
  have hG0w : w.heap.size ≤ G0 := by omega
  have hG0 : G0 < G := by omega
  have hgG : g < G0 := by omega
  have z6 := hw
  clear hGe HW D hGe0
  rintro e2 w2 ⟨hin, hb2⟩
  have hsz : w1.heap.size ≤ w2.heap.size := hb2.size
  have R2 := Lib.hid (R1.out.blw hb2)
  have R20 := Lib.hid (R0.out.blw hb2)
  have hb02 := blw_step hb1 hb2
  have H2 := Lib.hid (H1.out.blw hb2)
  clear H1 R1 R0
  have hGs : G < w2.heap.size := by omega
  have hG0s : G0 < w2.heap.size := by omega
  have hgs : g < w2.heap.size := by omega
  have n1 : ¬ G = w2.heap.size := by omega
  have n2 : ¬ G0 = w2.heap.size := by omega
  have n3 : ¬ g = w2.heap.size := by omega
  have n4 : ¬ G = g := by omega
  have n5 : ¬ G0 = g := by omega
  have n6 : ¬ G0 = G := by omega
  have x0 := R2.out.at (i := 0) (v := .int .i64 0) rfl
  have x1 := R2.out.at (i := 1) (v := .bool false) rfl
  have x2 := R2.out.at (i := 2) (v := .int .i64 0) rfl
  have y0 := R2.out.frozen 0
  have y1 := R2.out.frozen 1
  have y2 := R2.out.frozen 2
  have p0 := R20.out.at (i := 0) (v := .int .i64 a) rfl
  have p1 := R20.out.at (i := 1) (v := .int .i64 b) rfl
  rcases hin with ⟨hx, rfl⟩ | ⟨k, hk, hx, ⟨ht, rfl⟩ | ⟨ht, rfl⟩⟩
  · unfold zeroTask
    have HS : Hid (∀ w3, IsB w3 lo hi P W S g cap L → FreeSaid lo hi P W S g cap L a b (.returned (.tuple #[.agg #[.int .i64 0, .bool false, .int .i64 0], .iface 68 (.int .i64 5)])) w3) := fun w3 h3 => .inl ⟨hx, rfl, h3⟩
    clear hx
    have g3 := (((R2.out.set 0 (.int .i64 0)).set 1 (.bool false)).set 2 (.int .i64 0)).blw (blw_box (.cells #[.int .i64 0, .bool false, .int .i64 0] 51))
    have z0 := g3.at (i := 0) (v := .int .i64 0) rfl
    have z1 := g3.at (i := 1) (v := .bool false) rfl
    have z2 := g3.at (i := 2) (v := .int .i64 0) rfl
    have W0 : Win G (G + 1) w2 ((((w2.setCell ⟨G, 0, none⟩ (.int .i64 0)).setCell ⟨G, 1, none⟩ (.bool false)).setCell ⟨G, 2, none⟩ (.int .i64 0)).alloc (.cells #[.int .i64 0, .bool false, .int .i64 0] 51)) := ((((Win.refl G (G + 1) w2).store _ (Nat.le_refl _) (Nat.lt_succ_self _)).store _ (Nat.le_refl _) (Nat.lt_succ_self _)).store _ (Nat.le_refl _) (Nat.lt_succ_self _)).allocB _
    have I0 := H2.out.win W0 (.inl (by omega))
    have V0 : Win lo hi w ((((w2.setCell ⟨G, 0, none⟩ (.int .i64 0)).setCell ⟨G, 1, none⟩ (.bool false)).setCell ⟨G, 2, none⟩ (.int .i64 0)).alloc (.cells #[.int .i64 0, .bool false, .int .i64 0] 51)) := ((((Win.of_blw hb02).storeUp _ hGw).storeUp _ hGw).storeUp _ hGw).allocB _
    have I1 := Lib.hid I0
    have V1 := Lib.hid V0
    clear g3 W0 I0 V0
    go_wp2
    exact bodyPost_ret (v := .tuple #[.agg #[.int .i64 0, .bool false, .int .i64 0], .iface 68 (.int .i64 5)]) (by simp [results, Try.results21, go_sem, z0, z1, z2]) rfl ⟨HS.out _ I1.out, V1.out⟩
  · unfold zeroTask
    have HS : Hid (∀ w3, IsB w3 lo hi P W S g cap L → FreeSaid lo hi P W S g cap L a b (.returned (.tuple #[.agg #[.int .i64 0, .bool false, .int .i64 0], .iface 68 (.int .i64 7)])) w3) := fun w3 h3 => .inr ⟨k, hk, hx, .inl ⟨ht, rfl, h3⟩⟩
    clear hx
    have g3 := (((R2.out.set 0 (.int .i64 0)).set 1 (.bool false)).set 2 (.int .i64 0)).blw (blw_box (.cells #[.int .i64 0, .bool false, .int .i64 0] 51))
    have z0 := g3.at (i := 0) (v := .int .i64 0) rfl
    have z1 := g3.at (i := 1) (v := .bool false) rfl
    have z2 := g3.at (i := 2) (v := .int .i64 0) rfl
    have W0 : Win G (G + 1) w2 ((((w2.setCell ⟨G, 0, none⟩ (.int .i64 0)).setCell ⟨G, 1, none⟩ (.bool false)).setCell ⟨G, 2, none⟩ (.int .i64 0)).alloc (.cells #[.int .i64 0, .bool false, .int .i64 0] 51)) := ((((Win.refl G (G + 1) w2).store _ (Nat.le_refl _) (Nat.lt_succ_self _)).store _ (Nat.le_refl _) (Nat.lt_succ_self _)).store _ (Nat.le_refl _) (Nat.lt_succ_self _)).allocB _
    have I0 := H2.out.win W0 (.inl (by omega))
    have V0 : Win lo hi w ((((w2.setCell ⟨G, 0, none⟩ (.int .i64 0)).setCell ⟨G, 1, none⟩ (.bool false)).setCell ⟨G, 2, none⟩ (.int .i64 0)).alloc (.cells #[.int .i64 0, .bool false, .int .i64 0] 51)) := ((((Win.of_blw hb02).storeUp _ hGw).storeUp _ hGw).storeUp _ hGw).allocB _
    have I1 := Lib.hid I0
    have V1 := Lib.hid V0
    clear g3 W0 I0 V0
    go_wp2
    exact bodyPost_ret (v := .tuple #[.agg #[.int .i64 0, .bool false, .int .i64 0], .iface 68 (.int .i64 7)]) (by simp [results, Try.results21, go_sem, z0, z1, z2]) rfl ⟨HS.out _ I1.out, V1.out⟩
  · have hsat := idx_sat _ L k hk hx
    have hpa : L[k].pw = a ∧ L[k].ps = b := by simpa [isPlace] using hsat
    have HFR : Hid (∀ w4, IsB w4 lo hi P W S g cap L → IsB ((((((w4.setCell ⟨g, k * 6, none⟩ (.int .i64 a)).setCell ⟨g, k * 6 + 1, none⟩ (.int .i64 b)).setCell ⟨g, k * 6 + 2, none⟩ (.bool false)).setCell ⟨g, k * 6 + 3, none⟩ (.int .i64 0)).setCell ⟨g, k * 6 + 4, none⟩ (.bool false)).setCell ⟨g, k * 6 + 5, none⟩ (.int .i64 0)) lo hi P W S g cap (L.set k L[k].free)) := fun w4 h4 => free_rows h4 hk a b hpa.1 hpa.2
    have HS : Hid (∀ w3, IsB w3 lo hi P W S g cap (L.set k L[k].free) → FreeSaid lo hi P W S g cap L a b (.returned (.tuple #[L[k].task, .nilIface])) w3) := fun w3 h3 => .inr ⟨k, hk, hx, .inr ⟨ht, rfl, h3⟩⟩
    have D3 : Hid (∀ w3, IsB w3 lo hi P W S g cap L → Calls Try.prog 39 #[.pointer (some ⟨P, 0, none⟩), .agg #[.int .i64 a, .int .i64 b]] w3 fun e w' => e = .returned (.pointer (some ⟨g, k * 6, none⟩)) ∧ Below w3.heap.size w3 w') := fun w3 h3 => (D2.out w3 h3).mono (by
      rintro e w' ⟨⟨k', _, hx', rfl⟩ | ⟨hx', _⟩, hb⟩
      · have : k' = k := by omega
        subst this
        exact ⟨rfl, hb⟩
      · omega)
    have HC : Hid (∀ w4, IsB w4 lo hi P W S g cap L → w4.cell? ⟨g, k * 6, none⟩ = some (.int .i64 a) ∧ w4.cell? ⟨g, k * 6 + 1, none⟩ = some (.int .i64 b) ∧ w4.cell? ⟨g, k * 6 + 2, none⟩ = some (.bool true) ∧ w4.cell? ⟨g, k * 6 + 3, none⟩ = some (.int .i64 L[k].job) ∧ w4.cell? ⟨g, k * 6 + 4, none⟩ = some (.bool L[k].fold) ∧ w4.cell? ⟨g, k * 6 + 5, none⟩ = some (.int .i64 L[k].index)) := fun w4 h4 => by
      have c0 := h4.cell hk (i := 0) (by omega) rfl
      have c1 := h4.cell hk (i := 1) (by omega) rfl
      have c2 := h4.cell hk (i := 2) (by omega) rfl
      rw [hpa.1] at c0
      rw [hpa.2] at c1
      rw [ht] at c2
      exact ⟨c0, c1, c2, h4.cell hk (i := 3) (by omega) rfl, h4.cell hk (i := 4) (by omega) rfl, h4.cell hk (i := 5) (by omega) rfl⟩
    unfold Sl.task at HS ⊢
    generalize L[k].free = s' at *
    clear hx ht hpa hsat D2
    generalize L[k].job = q3 at *
    generalize L[k].fold = q4 at *
    generalize L[k].index = q5 at *
    obtain ⟨w3, hw3⟩ : ∃ w3, w3 = w2.alloc (.cells #[.int .i64 q3, .bool q4, .int .i64 q5] 51) := ⟨_, rfl⟩
    obtain ⟨G3, hG3⟩ : ∃ G3, G3 = w2.heap.size := ⟨_, rfl⟩
    have hb3 : Below w2.heap.size w2 w3 := by rw [hw3]; exact blw_box _
    have R3 : Hid (Blk w3 G3 51 [.int .i64 q3, .bool q4, .int .i64 q5]) := by rw [hG3, hw3]; exact Blk.new w2 #[.int .i64 q3, .bool q4, .int .i64 q5] 51
    have R32 := Lib.hid (R2.out.blw hb3)
    have R30 := Lib.hid (R20.out.blw hb3)
    have H3 := Lib.hid (H2.out.blw hb3)
    have hb03 := blw_step hb02 hb3
    have HW3 := Lib.hid hw3
    have HG3 := Lib.hid hG3
    clear hw3
    go_wp2
    rw [← HW3.out, ← HG3.out]
    clear HW3 x0 x1 x2 y0 y1 y2 p0 p1 R2 R20 H2
    have p0 := R30.out.at (i := 0) (v := .int .i64 a) rfl
    have p1 := R30.out.at (i := 1) (v := .int .i64 b) rfl
    have n1' : ¬ G3 = G := by omega
    have n2' : ¬ G3 = G0 := by omega
    have n3' : ¬ G3 = g := by omega
    have hG3w : w.heap.size ≤ G3 := by omega
    have hiG : hi ≤ G := by omega
    clear hG3
    go_region_with (go_at_call 39; refine (D3.out _ ?_).mono ?_; first | exact H3.out | exact H3.out.blw (blw_drew _); rintro _ w4 ⟨rfl, hb4⟩; have hb34 : Below w3.heap.size w3 w4 := (by first | exact hb4 | exact blw_step (blw_drew _) hb4); have H4 := Lib.hid (H3.out.blw hb34); have R4 := Lib.hid (R3.out.blw hb34); have R42 := Lib.hid (R32.out.blw hb34); have R40 := Lib.hid (R30.out.blw hb34); have hb04 := blw_step hb03 hb34; obtain ⟨c0, c1, c2, c3, c4, c5⟩ := HC.out _ H4.out; have k0 := H4.out.ow.frozenAt (k * 6); have k1 := H4.out.ow.frozenAt (k * 6 + 1); have k2 := H4.out.ow.frozenAt (k * 6 + 2); have k3 := H4.out.ow.frozenAt (k * 6 + 3); have k4 := H4.out.ow.frozenAt (k * 6 + 4); have k5 := H4.out.ow.frozenAt (k * 6 + 5); have m0 := R40.out.at (i := 0) (v := .int .i64 a) rfl; have m1 := R40.out.at (i := 1) (v := .int .i64 b) rfl; have t0 := R4.out.at (i := 0) (v := .int .i64 q3) rfl; have t1 := R4.out.at (i := 1) (v := .bool q4) rfl; have t2 := R4.out.at (i := 2) (v := .int .i64 q5) rfl; have u0 := R42.out.at (i := 0) (v := .int .i64 0) rfl; have u1 := R42.out.at (i := 1) (v := .bool false) rfl; have u2 := R42.out.at (i := 2) (v := .int .i64 0) rfl; have v0 := R42.out.frozen 0; have v1 := R42.out.frozen 1; have v2 := R42.out.frozen 2)
    all_goals
      obtain ⟨w5, hw5⟩ : ∃ w5, w5 = (((((w4.setCell ⟨g, k * 6, none⟩ (.int .i64 a)).setCell ⟨g, k * 6 + 1, none⟩ (.int .i64 b)).setCell ⟨g, k * 6 + 2, none⟩ (.bool false)).setCell ⟨g, k * 6 + 3, none⟩ (.int .i64 0)).setCell ⟨g, k * 6 + 4, none⟩ (.bool false)).setCell ⟨g, k * 6 + 5, none⟩ (.int .i64 0) := ⟨_, rfl⟩
      have H5 := Lib.hid (HFR.out w4 H4.out)
      have R5 := Lib.hid ((((((R4.out.other (k * 6) (.int .i64 a) n3').other (k * 6 + 1) (.int .i64 b) n3').other (k * 6 + 2) (.bool false) n3').other (k * 6 + 3) (.int .i64 0) n3').other (k * 6 + 4) (.bool false) n3').other (k * 6 + 5) (.int .i64 0) n3')
      have R52 := Lib.hid ((((((R42.out.other (k * 6) (.int .i64 a) n4).other (k * 6 + 1) (.int .i64 b) n4).other (k * 6 + 2) (.bool false) n4).other (k * 6 + 3) (.int .i64 0) n4).other (k * 6 + 4) (.bool false) n4).other (k * 6 + 5) (.int .i64 0) n4)
      have V5 := Lib.hid (((((((Win.of_blw (lo := lo) (hi := hi) hb04).store (i := k * 6) (.int .i64 a) hgl hgh).store (i := k * 6 + 1) (.int .i64 b) hgl hgh).store (i := k * 6 + 2) (.bool false) hgl hgh).store (i := k * 6 + 3) (.int .i64 0) hgl hgh).store (i := k * 6 + 4) (.bool false) hgl hgh).store (i := k * 6 + 5) (.int .i64 0) hgl hgh)
      rw [← hw5] at H5 R5 R52 V5 ⊢
      clear hw5 c0 c1 c2 c3 c4 c5 k0 k1 k2 k3 k4 k5 m0 m1 t0 t1 t2 u0 u1 u2 v0 v1 v2 R4 R42 R40 H4 hb4 hb34 hb04 HC HFR D3 p0 p1
      have t0 := R5.out.at (i := 0) (v := .int .i64 q3) rfl
      have t1 := R5.out.at (i := 1) (v := .bool q4) rfl
      have t2 := R5.out.at (i := 2) (v := .int .i64 q5) rfl
      have u0 := R52.out.at (i := 0) (v := .int .i64 0) rfl
      have u1 := R52.out.at (i := 1) (v := .bool false) rfl
      have u2 := R52.out.at (i := 2) (v := .int .i64 0) rfl
      have v0 := R52.out.frozen 0
      have v1 := R52.out.frozen 1
      have v2 := R52.out.frozen 2
      have g6 := ((R52.out.set 0 (.int .i64 q3)).set 1 (.bool q4)).set 2 (.int .i64 q5)
      have z0 := g6.at (i := 0) (v := .int .i64 q3) rfl
      have z1 := g6.at (i := 1) (v := .bool q4) rfl
      have z2 := g6.at (i := 2) (v := .int .i64 q5) rfl
      have W6 : Win G (G + 1) w5 (((w5.setCell ⟨G, 0, none⟩ (.int .i64 q3)).setCell ⟨G, 1, none⟩ (.bool q4)).setCell ⟨G, 2, none⟩ (.int .i64 q5)) := (((Win.refl G (G + 1) w5).store _ (Nat.le_refl _) (Nat.lt_succ_self _)).store _ (Nat.le_refl _) (Nat.lt_succ_self _)).store _ (Nat.le_refl _) (Nat.lt_succ_self _)
      have I6 := Lib.hid (H5.out.win W6 (.inl hiG))
      have V6 : Hid (Win lo hi w (((w5.setCell ⟨G, 0, none⟩ (.int .i64 q3)).setCell ⟨G, 1, none⟩ (.bool q4)).setCell ⟨G, 2, none⟩ (.int .i64 q5))) := ((V5.out.storeUp _ hGw).storeUp _ hGw).storeUp _ hGw
      clear g6 W6 H5
      go_wp2
      refine bodyPost_ret (v := .tuple #[.agg #[.int .i64 q3, .bool q4, .int .i64 q5], .nilIface]) (by simp [results, Try.results21, go_sem, z0, z1, z2]) rfl ?_
      first
        | exact ⟨HS.out _ I6.out, V6.out⟩
        | exact ⟨HS.out _ (I6.out.blw (blw_drew _)), V6.out.trans (Win.of_blw (blw_drew _))⟩
        | exact ⟨HS.out _ ((I6.out.blw (blw_drew _)).blw (blw_drew _)), (V6.out.trans (Win.of_blw (blw_drew _))).trans (Win.of_blw (blw_drew _))⟩
end Go.Proofs.Ytilgiehcpmafgaa
