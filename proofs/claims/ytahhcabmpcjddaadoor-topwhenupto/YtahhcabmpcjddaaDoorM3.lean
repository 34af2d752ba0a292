/- Mapper: the pair of a look. -/
import Derived.Test.YtahhcabmpcjddaaDoorM1
namespace Go.Proofs.YtahhcabmpcjddaaDoor
open Go.ChangeShapes Go.WideShapes Go.ChangeAt Go.RowKit
set_option maxRecDepth 100000 in
set_option maxHeartbeats 1000000 in
theorem pairOf_any (r : Rl) (ai ak av : Option Addr) (ci ck cv : Nat) (kind : Int) (R : Rc) (ra : Option Addr) (rc : Nat) (w : World) (hR : IsTexts w (.slice ra R.words.length rc) (R.words.map bs)) (xk : IsEx w (.slice ak r.key.a.length ck) r.key) (xv : IsEx w (.slice av r.val.a.length cv) r.val) (hr : RlIn r) (hM : RcIn R 1000000) (E : EnvS w) :
    Calls Tryd.prog 39 #[r.value (.slice ai r.iff.a.length ci) (.slice ak r.key.a.length ck) (.slice av r.val.a.length cv), recV R ra rc, .int .i64 kind] w fun e w' => e = .returned (.agg #[.string (pairL r kind R).1, .int .i64 (pairL r kind R).2]) ∧ Below w.heap.size w w' := by
  have S := Lib.hid (fun w (h : IsEx w (.slice ak r.key.a.length ck) r.key) hR E => StrX_any R ra rc h hR (by have := fault_wt hr.key; omega) hr.key (by have := fault_len hr.key hM; omega) E)
  have I := Lib.hid (fun w (h : IsEx w (.slice av r.val.a.length cv) r.val) hR E => IntX_any R ra rc h hR (by have := fault_wt hr.val; omega) hr.val (by have := fault_far hr.val hM; omega) E)
  obtain ⟨w1, hw1⟩ : ∃ w1, w1 = (w.alloc (.cells #[.bool r.each, .int .i64 r.when, .int .i64 r.iff.k, .int .i64 r.iff.n, .string (bs r.iff.s), .slice ai r.iff.a.length ci, .string (bs r.s), .int .i64 r.key.k, .int .i64 r.key.n, .string (bs r.key.s), .slice ak r.key.a.length ck, .int .i64 r.val.k, .int .i64 r.val.n, .string (bs r.val.s), .slice av r.val.a.length cv] 50)).alloc (.cells #[.string (bs R.line), .string (bs R.it), .slice ra R.words.length rc] 82) := ⟨_, rfl⟩
  have hb1 : Below w.heap.size w w1 := by rw [hw1]; exact below_trans (below_box _) (below_box _)
  have hs1 : w1.heap.size = w.heap.size + 1 + 1 := by rw [hw1]; simp
  obtain ⟨w2, hw2⟩ : ∃ w2, w2 = w1.alloc (.cells #[.string ⟨#[]⟩, .int .i64 0] 61) := ⟨_, rfl⟩
  have hb2 : Below w1.heap.size w1 w2 := by rw [hw2]; exact below_box _
  have hbx := below_trans hb1 hb2
  have e0 := cell_below (a := ⟨w.heap.size, 7, none⟩) (v := .int .i64 r.key.k) (by rw [hw1]; simp) hb2
  have e1 := cell_below (a := ⟨w.heap.size, 8, none⟩) (v := .int .i64 r.key.n) (by rw [hw1]; simp) hb2
  have e2 := cell_below (a := ⟨w.heap.size, 9, none⟩) (v := .string (bs r.key.s)) (by rw [hw1]; simp) hb2
  have e3 := cell_below (a := ⟨w.heap.size, 10, none⟩) (v := .slice ak r.key.a.length ck) (by rw [hw1]; simp) hb2
  have v0 := cell_below (a := ⟨w.heap.size, 11, none⟩) (v := .int .i64 r.val.k) (by rw [hw1]; simp) hb2
  have v1 := cell_below (a := ⟨w.heap.size, 12, none⟩) (v := .int .i64 r.val.n) (by rw [hw1]; simp) hb2
  have v2 := cell_below (a := ⟨w.heap.size, 13, none⟩) (v := .string (bs r.val.s)) (by rw [hw1]; simp) hb2
  have v3 := cell_below (a := ⟨w.heap.size, 14, none⟩) (v := .slice av r.val.a.length cv) (by rw [hw1]; simp) hb2
  have r0 := cell_below (a := ⟨w.heap.size + 1, 0, none⟩) (v := .string (bs R.line)) (by rw [hw1]; simp) hb2
  have r1 := cell_below (a := ⟨w.heap.size + 1, 1, none⟩) (v := .string (bs R.it)) (by rw [hw1]; simp) hb2
  have r2 := cell_below (a := ⟨w.heap.size + 1, 2, none⟩) (v := .slice ra R.words.length rc) (by rw [hw1]; simp) hb2
  have hg : Blk w2 (w.heap.size + 1 + 1) 61 [.string ⟨#[]⟩, .int .i64 0] := by rw [hw2]; exact blk_new (cs := #[.string ⟨#[]⟩, .int .i64 0]) hs1.symm
  rw [hw1] at hw2
  have hXs : (r.key.str R).length ≤ 1000000000 := Nat.le_trans (str_len R r.key) (by have := fault_len hr.key hM; omega)
  rw [← bs_size] at hXs
  have HW2 := Lib.hid hw2
  have XK := Lib.hid (xk.lower hbx)
  have XV := Lib.hid (xv.lower hbx)
  have HR := Lib.hid (hR.below hbx)
  have HE := Lib.hid (E.lower hbx)
  clear hw2 hw1 hs1 hb1 hb2 xk xv hR E hr
  unfold Rl.value recV
  unfold Ex.val recV at S I
  simp only [pairL]
  have FI := Lib.hid (fun w => Pp.first_any kind (r.val.num R) w)
  generalize hX : bs (r.key.str R) = X at *
  have HX : Hid ((20 ≤ X.size → X.extract 0 20 = bs ((r.key.str R).take 20)) ∧ (X.size ≤ 20 → X.extract 0 X.size = bs ((r.key.str R).take 20))) := by
    subst hX
    refine ⟨fun _ => bs_take _ _, fun h => ?_⟩
    rw [bs_size] at h ⊢
    rw [bs_take, List.take_of_length_le h, List.take_of_length_le (Nat.le_refl _)]
  generalize r.val.num R = V at *
  generalize Pp.firstI kind V = fv at *
  go_enter Tryd.func39, Tryd.ntmps39
  go_wp2_with (go_at_call 56; refine Hid.out ?_)
  refine Lib.hid ?_
  rw [← HW2.out]
  refine (S.out _ XK.out HR.out HE.out).mono ?_
  rintro _ w3 ⟨rfl, hb3⟩
  replace v0 := cell_below v0 hb3
  replace v1 := cell_below v1 hb3
  replace v2 := cell_below v2 hb3
  replace v3 := cell_below v3 hb3
  replace r0 := cell_below r0 hb3
  replace r1 := cell_below r1 hb3
  replace r2 := cell_below r2 hb3
  have hg3 := hg.blw hb3
  have hb03 := below_trans hbx hb3
  have IV := Lib.hid (I.out w3 (XV.out.lower hb3) (HR.out.below hb3) (HE.out.lower hb3))
  clear e0 e1 e2 e3 hg hb3 hbx S I XK XV HR HE HW2
  have HMIN : ∃ (m : Nat), min (X.size : Int) 20 = (m : Int) ∧ m ≤ X.size ∧ X.extract 0 m = bs ((r.key.str R).take 20) := by
    by_cases h : X.size ≤ 20
    · exact ⟨X.size, by omega, Nat.le_refl _, HX.out.2 h⟩
    · exact ⟨20, by omega, by omega, HX.out.1 (by omega)⟩
  obtain ⟨m, hm, hmX, hmE⟩ := HMIN
  have HME := Lib.hid hmE
  clear hmE HX
  go_wp2_with (go_at_call 58; refine Hid.out ?_)
  refine Lib.hid ?_
  refine IV.out.mono ?_
  rintro _ w4 ⟨rfl, hb4⟩
  have hg4 := hg3.blw hb4
  have hb04 := below_trans hb03 hb4
  have q0 := hg4.at (i := 0) (v := .string ⟨#[]⟩) rfl
  have q1 := hg4.at (i := 1) (v := .int .i64 0) rfl
  have f0 := hg4.frozen 0
  have f1 := hg4.frozen 1
  have HG := Lib.hid hg4
  clear hb4 hg4 hg3 hb03 v0 v1 v2 v3 r0 r1 r2 IV
  go_wp2_with (go_at_call 57; refine (FI.out _).mono ?_; rintro _ w5 ⟨rfl, h5⟩; rw [h5]; clear h5 w5)
  (try simp only [Exit.inBlock, Exit.then])
  have g2 := (HG.out.set 0 (.string (X.extract 0 m))).set 1 (.int .i64 fv)
  have hp1 : Below w.heap.size w ((w4.setCell ⟨w.heap.size + 1 + 1, 0, none⟩ (.string (X.extract 0 m))).setCell ⟨w.heap.size + 1 + 1, 1, none⟩ (.int .i64 fv)) := (hb04.setCell (p := ⟨w.heap.size + 1 + 1, 0, none⟩) (by simp; omega) _).setCell (p := ⟨w.heap.size + 1 + 1, 1, none⟩) (by simp; omega) _
  refine bodyPost_ret (results_cell_row rfl _ _ (w.heap.size + 1 + 1) 61 #[.string (X.extract 0 m), .int .i64 fv] (0, 0) _ rfl g2 Tryd.underlying61 rfl (by kernel_rfl)) rfl ?_
  exact ⟨by rw [← HME.out], hp1⟩
end Go.Proofs.YtahhcabmpcjddaaDoor
