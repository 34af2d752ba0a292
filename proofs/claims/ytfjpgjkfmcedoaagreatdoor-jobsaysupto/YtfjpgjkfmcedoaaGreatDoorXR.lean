/- Contract of job.ruleText: a rule's line. -/
import Derived.Test.YtfjpgjkfmcedoaaGreatDoorXT2
import Derived.Test.YtfjpgjkfmcedoaaGreatDoorJb
namespace Go.Proofs.YtfjpgjkfmcedoaaGreatDoor
open Go.ChangeShapes Go.WideShapes Go.ChangeAt Go.RowKit
/-- What stands ahead of a rule's key. -/
def ruleHd (r : Rl) : List UInt8 := (if r.each then [101, 97, 99, 104, 32] else []) ++ (if r.when = 1 then [115, 97, 109, 101, 32] ++ r.iff.txt ++ [32] ++ quoteL r.s ++ [32] else if r.when = 2 then [111, 116, 104, 101, 114, 32] ++ r.iff.txt ++ [32] ++ quoteL r.s ++ [32] else [])
/-- A rule's line. -/
def ruleL (r : Rl) : List UInt8 := ruleHd r ++ [107, 101, 121, 32] ++ r.key.txt ++ [32, 118, 97, 108, 32] ++ r.val.txt ++ [10]
set_option maxRecDepth 100000 in
set_option maxHeartbeats 1000000 in
theorem ruleText_any (r : Rl) (si sk sv : Value) (w : World) (xi : IsEx w si r.iff) (xk : IsEx w sk r.key) (xv : IsEx w sv r.val) (hw : r.wt ≤ 1100000) (E : EnvT w) (hf : r.iff.fit ∧ r.key.fit ∧ r.val.fit) :
    Calls Tryz.prog 19 #[r.value si sk sv] w fun e w' => e = .returned (.string (bs (ruleL r))) ∧ Below w.heap.size w w' := by
  have hmix : Tryz.prog.follows .mixedOrders = true := by kernel_rfl
  obtain ⟨ai, ci, rfl⟩ := xi.slice
  obtain ⟨ak, ck, rfl⟩ := xk.slice
  obtain ⟨av, cv, rfl⟩ := xv.slice
  unfold Rl.wt at hw
  obtain ⟨w1, hw1⟩ : ∃ w1, w1 = w.alloc (.cells #[.bool r.each, .int .i64 r.when, .int .i64 r.iff.k, .int .i64 r.iff.n, .string (bs r.iff.s), .slice ai r.iff.a.length ci, .string (bs r.s), .int .i64 r.key.k, .int .i64 r.key.n, .string (bs r.key.s), .slice ak r.key.a.length ck, .int .i64 r.val.k, .int .i64 r.val.n, .string (bs r.val.s), .slice av r.val.a.length cv] 46) := ⟨_, rfl⟩
  have hb1 : Below w.heap.size w w1 := by rw [hw1]; exact below_box _
  have k0 : w1.cell? ⟨w.heap.size, 0, none⟩ = some (.bool r.each) := by rw [hw1]; simp
  have k1 : w1.cell? ⟨w.heap.size, 1, none⟩ = some (.int .i64 r.when) := by rw [hw1]; simp
  have k2 : w1.cell? ⟨w.heap.size, 2, none⟩ = some (.int .i64 r.iff.k) := by rw [hw1]; simp
  have k3 : w1.cell? ⟨w.heap.size, 3, none⟩ = some (.int .i64 r.iff.n) := by rw [hw1]; simp
  have k4 : w1.cell? ⟨w.heap.size, 4, none⟩ = some (.string (bs r.iff.s)) := by rw [hw1]; simp
  have k5 : w1.cell? ⟨w.heap.size, 5, none⟩ = some (.slice ai r.iff.a.length ci) := by rw [hw1]; simp
  have k6 : w1.cell? ⟨w.heap.size, 6, none⟩ = some (.string (bs r.s)) := by rw [hw1]; simp
  have k7 : w1.cell? ⟨w.heap.size, 7, none⟩ = some (.int .i64 r.key.k) := by rw [hw1]; simp
  have k8 : w1.cell? ⟨w.heap.size, 8, none⟩ = some (.int .i64 r.key.n) := by rw [hw1]; simp
  have k9 : w1.cell? ⟨w.heap.size, 9, none⟩ = some (.string (bs r.key.s)) := by rw [hw1]; simp
  have k10 : w1.cell? ⟨w.heap.size, 10, none⟩ = some (.slice ak r.key.a.length ck) := by rw [hw1]; simp
  have k11 : w1.cell? ⟨w.heap.size, 11, none⟩ = some (.int .i64 r.val.k) := by rw [hw1]; simp
  have k12 : w1.cell? ⟨w.heap.size, 12, none⟩ = some (.int .i64 r.val.n) := by rw [hw1]; simp
  have k13 : w1.cell? ⟨w.heap.size, 13, none⟩ = some (.string (bs r.val.s)) := by rw [hw1]; simp
  have k14 : w1.cell? ⟨w.heap.size, 14, none⟩ = some (.slice av r.val.a.length cv) := by rw [hw1]; simp
  have HW1 := Lib.hid hw1
  clear hw1
  unfold Rl.value
  have DK : Hid (∀ W, Below w.heap.size w W → ∀ d os, Calls Tryz.prog 37 #[r.key.val (.slice ak r.key.a.length ck)] (Sort.grow (redrawn W d) os) fun e w'' => e = .returned (.string (bs r.key.txt)) ∧ ∃ p : Regrown, w'' = Sort.grow (redrawn W p.d) p.os) := fun W hW d os => Calls.regrown_of (exprText_any E xk hf.2.1 (by omega) _ (below_trans hW (below_regrown _ _ _)))
  have DV : Hid (∀ W, Below w.heap.size w W → ∀ d os, Calls Tryz.prog 37 #[r.val.val (.slice av r.val.a.length cv)] (Sort.grow (redrawn W d) os) fun e w'' => e = .returned (.string (bs r.val.txt)) ∧ ∃ p : Regrown, w'' = Sort.grow (redrawn W p.d) p.os) := fun W hW d os => Calls.regrown_of (exprText_any E xv hf.2.2 (by omega) _ (below_trans hW (below_regrown _ _ _)))
  have DI : Hid (∀ W, Below w.heap.size w W → ∀ d os, Calls Tryz.prog 37 #[r.iff.val (.slice ai r.iff.a.length ci)] (Sort.grow (redrawn W d) os) fun e w'' => e = .returned (.string (bs r.iff.txt)) ∧ ∃ p : Regrown, w'' = Sort.grow (redrawn W p.d) p.os) := fun W hW d os => Calls.regrown_of (exprText_any E xi hf.1 (by omega) _ (below_trans hW (below_regrown _ _ _)))
  have DQ : Hid (∀ W d os, Calls Tryz.prog 38 #[.string (bs r.s)] (Sort.grow (redrawn W d) os) fun e w'' => e = .returned (.string (bs (quoteL r.s))) ∧ ∃ p : Regrown, w'' = Sort.grow (redrawn W p.d) p.os) := fun W d os => Calls.regrown_of (quote_any r.s _ (by omega))
  have qK : (bs r.key.txt).size ≤ 49000000 := by rw [bs_size]; have := txt_len r.key hf.2.1; have := cnt_wt r.key; omega
  have qV : (bs r.val.txt).size ≤ 49000000 := by rw [bs_size]; have := txt_len r.val hf.2.2; have := cnt_wt r.val; omega
  have qI : (bs r.iff.txt).size ≤ 49000000 := by rw [bs_size]; have := txt_len r.iff hf.1; have := cnt_wt r.iff; omega
  have qQ : (bs (quoteL r.s)).size ≤ 49000000 := by rw [bs_size]; have := quoL_len r.s; simp only [quoteL, List.length_cons, List.length_append, List.length_nil]; omega
  have HE : Hid ((if r.each then ⟨#[101, 97, 99, 104, 32]⟩ else ⟨#[]⟩) ++ (if r.when = 1 then ⟨#[115, 97, 109, 101, 32]⟩ ++ bs r.iff.txt ++ ⟨#[32]⟩ ++ bs (quoteL r.s) ++ ⟨#[32]⟩ else if r.when = 2 then ⟨#[111, 116, 104, 101, 114, 32]⟩ ++ bs r.iff.txt ++ ⟨#[32]⟩ ++ bs (quoteL r.s) ++ ⟨#[32]⟩ else ⟨#[]⟩) ++ ⟨#[107, 101, 121, 32]⟩ ++ bs r.key.txt ++ ⟨#[32, 118, 97, 108, 32]⟩ ++ bs r.val.txt ++ ⟨#[10]⟩ = bs (ruleL r)) := by
    show _ = _
    unfold ruleL ruleHd
    simp only [← bs_append]
    congr 6
    · split <;> rfl
    · split
      · simp only [← bs_append]; rfl
      · split
        · simp only [← bs_append]; rfl
        · rfl
  unfold Ex.val at DK DV DI
  clear xi xk xv hf hw E
  generalize bs (ruleL r) = OUT at *
  generalize bs (quoteL r.s) = QT at *
  generalize bs r.key.txt = KT at *
  generalize bs r.val.txt = VT at *
  generalize bs r.iff.txt = IT at *
  generalize bs r.s = rs at *
  generalize r.key.k = kk at *
  generalize r.key.n = kn at *
  generalize bs r.key.s = ks at *
  generalize r.key.a.length = kl at *
  generalize r.val.k = vk at *
  generalize r.val.n = vn at *
  generalize bs r.val.s = vs at *
  generalize r.val.a.length = vl at *
  generalize r.iff.k = ik at *
  generalize r.iff.n = yn at *
  generalize bs r.iff.s = yis at *
  generalize r.iff.a.length = yl at *
  generalize r.each = re at *
  generalize r.when = rw' at *
  cases re
  · by_cases h1 : rw' = 1
    · subst h1
      go_enter Tryz.func19, Tryz.ntmps19
      go_wp2
      rw [← HW1.out]
      have p0 : ¬ 9223372036854775807 < 5 + IT.size := by omega
      have p1 : ¬ 9223372036854775807 < 5 + IT.size + 1 := by omega
      have p2 : ¬ 9223372036854775807 < 5 + IT.size + 1 + QT.size := by omega
      have p3 : ¬ 9223372036854775807 < 5 + IT.size + 1 + QT.size + 1 := by omega
      have j2 := cell_regrown k2
      have j3 := cell_regrown k3
      have j4 := cell_regrown k4
      have j5 := cell_regrown k5
      have j6 := cell_regrown k6
      have DI1 := Lib.hid (DI.out w1 hb1)
      have DQ1 := Lib.hid (DQ.out w1)
      refine wp_region_quiet_below hmix (by kernel_rfl) ?_
      repeat (quiet_step (first | (go_at_call 38; exact DQ1.out _ _) | (go_at_call 37; exact DI1.out _ _)))
      refine wpQuiet_nil ?_
      intro _ hw'
      obtain ⟨⟨dq, osq⟩, hw''⟩ := hw'
      subst hw''
      have hb2 : Below w.heap.size w (Sort.grow (redrawn w1 dq) osq) := below_trans hb1 (below_regrown w1 dq osq)
      replace k7 := cell_regrown k7 (d := dq) (os := osq)
      replace k8 := cell_regrown k8 (d := dq) (os := osq)
      replace k9 := cell_regrown k9 (d := dq) (os := osq)
      replace k10 := cell_regrown k10 (d := dq) (os := osq)
      replace k11 := cell_regrown k11 (d := dq) (os := osq)
      replace k12 := cell_regrown k12 (d := dq) (os := osq)
      replace k13 := cell_regrown k13 (d := dq) (os := osq)
      replace k14 := cell_regrown k14 (d := dq) (os := osq)
      clear j2 j3 j4 j5 j6 k2 k3 k4 k5 k6 k0 k1
      generalize Sort.grow (redrawn w1 dq) osq = w2 at *
      go_wp2
      have m0 : ¬ 9223372036854775807 < 5 + IT.size + 1 + QT.size + 1 + 4 := by omega
      have m1 : ¬ 9223372036854775807 < 5 + IT.size + 1 + QT.size + 1 + 4 + KT.size := by omega
      have m2 : ¬ 9223372036854775807 < 5 + IT.size + 1 + QT.size + 1 + 4 + KT.size + 5 := by omega
      have m3 : ¬ 9223372036854775807 < 5 + IT.size + 1 + QT.size + 1 + 4 + KT.size + 5 + VT.size := by omega
      have m4 : ¬ 9223372036854775807 < 5 + IT.size + 1 + QT.size + 1 + 4 + KT.size + 5 + VT.size + 1 := by omega
      have j7 := cell_regrown k7
      have j8 := cell_regrown k8
      have j9 := cell_regrown k9
      have j10 := cell_regrown k10
      have j11 := cell_regrown k11
      have j12 := cell_regrown k12
      have j13 := cell_regrown k13
      have j14 := cell_regrown k14
      have DK1 := Lib.hid (DK.out w2 hb2)
      have DV1 := Lib.hid (DV.out w2 hb2)
      refine wp_region_quiet_below hmix (by kernel_rfl) ?_
      repeat (quiet_step (first | (go_at_call_of 37 (Value.agg #[Value.int IntKind.i64 vk, Value.int IntKind.i64 vn, Value.string vs, Value.slice av vl cv]); exact DV1.out _ _) | (go_at_call 37; exact DK1.out _ _)))
      refine wpQuiet_nil ?_
      intro _ hw'
      obtain ⟨⟨dq, osq⟩, hw''⟩ := hw'
      subst hw''
      have hbb : Below w.heap.size w (Sort.grow (redrawn w2 dq) osq) := below_trans hb2 (below_regrown w2 dq osq)
      generalize Sort.grow (redrawn w2 dq) osq = w9 at *
      go_wp2
      go_ret
      exact ⟨by rw [← HE.out]; simp, hbb⟩
    · by_cases h2 : rw' = 2
      · subst h2
        go_enter Tryz.func19, Tryz.ntmps19
        go_wp2
        rw [← HW1.out]
        have p0 : ¬ 9223372036854775807 < 6 + IT.size := by omega
        have p1 : ¬ 9223372036854775807 < 6 + IT.size + 1 := by omega
        have p2 : ¬ 9223372036854775807 < 6 + IT.size + 1 + QT.size := by omega
        have p3 : ¬ 9223372036854775807 < 6 + IT.size + 1 + QT.size + 1 := by omega
        have j2 := cell_regrown k2
        have j3 := cell_regrown k3
        have j4 := cell_regrown k4
        have j5 := cell_regrown k5
        have j6 := cell_regrown k6
        have DI1 := Lib.hid (DI.out w1 hb1)
        have DQ1 := Lib.hid (DQ.out w1)
        refine wp_region_quiet_below hmix (by kernel_rfl) ?_
        repeat (quiet_step (first | (go_at_call 38; exact DQ1.out _ _) | (go_at_call 37; exact DI1.out _ _)))
        refine wpQuiet_nil ?_
        intro _ hw'
        obtain ⟨⟨dq, osq⟩, hw''⟩ := hw'
        subst hw''
        have hb2 : Below w.heap.size w (Sort.grow (redrawn w1 dq) osq) := below_trans hb1 (below_regrown w1 dq osq)
        replace k7 := cell_regrown k7 (d := dq) (os := osq)
        replace k8 := cell_regrown k8 (d := dq) (os := osq)
        replace k9 := cell_regrown k9 (d := dq) (os := osq)
        replace k10 := cell_regrown k10 (d := dq) (os := osq)
        replace k11 := cell_regrown k11 (d := dq) (os := osq)
        replace k12 := cell_regrown k12 (d := dq) (os := osq)
        replace k13 := cell_regrown k13 (d := dq) (os := osq)
        replace k14 := cell_regrown k14 (d := dq) (os := osq)
        clear j2 j3 j4 j5 j6 k2 k3 k4 k5 k6 k0 k1
        generalize Sort.grow (redrawn w1 dq) osq = w2 at *
        go_wp2
        have m0 : ¬ 9223372036854775807 < 6 + IT.size + 1 + QT.size + 1 + 4 := by omega
        have m1 : ¬ 9223372036854775807 < 6 + IT.size + 1 + QT.size + 1 + 4 + KT.size := by omega
        have m2 : ¬ 9223372036854775807 < 6 + IT.size + 1 + QT.size + 1 + 4 + KT.size + 5 := by omega
        have m3 : ¬ 9223372036854775807 < 6 + IT.size + 1 + QT.size + 1 + 4 + KT.size + 5 + VT.size := by omega
        have m4 : ¬ 9223372036854775807 < 6 + IT.size + 1 + QT.size + 1 + 4 + KT.size + 5 + VT.size + 1 := by omega
        have j7 := cell_regrown k7
        have j8 := cell_regrown k8
        have j9 := cell_regrown k9
        have j10 := cell_regrown k10
        have j11 := cell_regrown k11
        have j12 := cell_regrown k12
        have j13 := cell_regrown k13
        have j14 := cell_regrown k14
        have DK1 := Lib.hid (DK.out w2 hb2)
        have DV1 := Lib.hid (DV.out w2 hb2)
        refine wp_region_quiet_below hmix (by kernel_rfl) ?_
        repeat (quiet_step (first | (go_at_call_of 37 (Value.agg #[Value.int IntKind.i64 vk, Value.int IntKind.i64 vn, Value.string vs, Value.slice av vl cv]); exact DV1.out _ _) | (go_at_call 37; exact DK1.out _ _)))
        refine wpQuiet_nil ?_
        intro _ hw'
        obtain ⟨⟨dq, osq⟩, hw''⟩ := hw'
        subst hw''
        have hbb : Below w.heap.size w (Sort.grow (redrawn w2 dq) osq) := below_trans hb2 (below_regrown w2 dq osq)
        generalize Sort.grow (redrawn w2 dq) osq = w9 at *
        go_wp2
        go_ret
        exact ⟨by rw [← HE.out]; simp, hbb⟩
      · go_enter Tryz.func19, Tryz.ntmps19
        go_wp2
        rw [← HW1.out]
        have m0 : ¬ 9223372036854775807 < 4 := by omega
        have m1 : ¬ 9223372036854775807 < 4 + KT.size := by omega
        have m2 : ¬ 9223372036854775807 < 4 + KT.size + 5 := by omega
        have m3 : ¬ 9223372036854775807 < 4 + KT.size + 5 + VT.size := by omega
        have m4 : ¬ 9223372036854775807 < 4 + KT.size + 5 + VT.size + 1 := by omega
        have j7 := cell_regrown k7
        have j8 := cell_regrown k8
        have j9 := cell_regrown k9
        have j10 := cell_regrown k10
        have j11 := cell_regrown k11
        have j12 := cell_regrown k12
        have j13 := cell_regrown k13
        have j14 := cell_regrown k14
        have DK1 := Lib.hid (DK.out w1 hb1)
        have DV1 := Lib.hid (DV.out w1 hb1)
        refine wp_region_quiet_below hmix (by kernel_rfl) ?_
        repeat (quiet_step (first | (go_at_call_of 37 (Value.agg #[Value.int IntKind.i64 vk, Value.int IntKind.i64 vn, Value.string vs, Value.slice av vl cv]); exact DV1.out _ _) | (go_at_call 37; exact DK1.out _ _)))
        refine wpQuiet_nil ?_
        intro _ hw'
        obtain ⟨⟨dq, osq⟩, hw''⟩ := hw'
        subst hw''
        have hbb : Below w.heap.size w (Sort.grow (redrawn w1 dq) osq) := below_trans hb1 (below_regrown w1 dq osq)
        generalize Sort.grow (redrawn w1 dq) osq = w9 at *
        go_wp2
        go_ret
        exact ⟨by rw [← HE.out]; simp [h1, h2, app_none], hbb⟩
  · by_cases h1 : rw' = 1
    · subst h1
      go_enter Tryz.func19, Tryz.ntmps19
      go_wp2
      rw [← HW1.out]
      have p0 : ¬ 9223372036854775807 < 5 + IT.size := by omega
      have p1 : ¬ 9223372036854775807 < 5 + IT.size + 1 := by omega
      have p2 : ¬ 9223372036854775807 < 5 + IT.size + 1 + QT.size := by omega
      have p3 : ¬ 9223372036854775807 < 5 + IT.size + 1 + QT.size + 1 := by omega
      have p4 : ¬ 9223372036854775807 < 5 + (5 + IT.size + 1 + QT.size + 1) := by omega
      have j2 := cell_regrown k2
      have j3 := cell_regrown k3
      have j4 := cell_regrown k4
      have j5 := cell_regrown k5
      have j6 := cell_regrown k6
      have DI1 := Lib.hid (DI.out w1 hb1)
      have DQ1 := Lib.hid (DQ.out w1)
      refine wp_region_quiet_below hmix (by kernel_rfl) ?_
      repeat (quiet_step (first | (go_at_call 38; exact DQ1.out _ _) | (go_at_call 37; exact DI1.out _ _)))
      refine wpQuiet_nil ?_
      intro _ hw'
      obtain ⟨⟨dq, osq⟩, hw''⟩ := hw'
      subst hw''
      have hb2 : Below w.heap.size w (Sort.grow (redrawn w1 dq) osq) := below_trans hb1 (below_regrown w1 dq osq)
      replace k7 := cell_regrown k7 (d := dq) (os := osq)
      replace k8 := cell_regrown k8 (d := dq) (os := osq)
      replace k9 := cell_regrown k9 (d := dq) (os := osq)
      replace k10 := cell_regrown k10 (d := dq) (os := osq)
      replace k11 := cell_regrown k11 (d := dq) (os := osq)
      replace k12 := cell_regrown k12 (d := dq) (os := osq)
      replace k13 := cell_regrown k13 (d := dq) (os := osq)
      replace k14 := cell_regrown k14 (d := dq) (os := osq)
      clear j2 j3 j4 j5 j6 k2 k3 k4 k5 k6 k0 k1
      generalize Sort.grow (redrawn w1 dq) osq = w2 at *
      go_wp2
      have m0 : ¬ 9223372036854775807 < 5 + (5 + IT.size + 1 + QT.size + 1) + 4 := by omega
      have m1 : ¬ 9223372036854775807 < 5 + (5 + IT.size + 1 + QT.size + 1) + 4 + KT.size := by omega
      have m2 : ¬ 9223372036854775807 < 5 + (5 + IT.size + 1 + QT.size + 1) + 4 + KT.size + 5 := by omega
      have m3 : ¬ 9223372036854775807 < 5 + (5 + IT.size + 1 + QT.size + 1) + 4 + KT.size + 5 + VT.size := by omega
      have m4 : ¬ 9223372036854775807 < 5 + (5 + IT.size + 1 + QT.size + 1) + 4 + KT.size + 5 + VT.size + 1 := by omega
      have j7 := cell_regrown k7
      have j8 := cell_regrown k8
      have j9 := cell_regrown k9
      have j10 := cell_regrown k10
      have j11 := cell_regrown k11
      have j12 := cell_regrown k12
      have j13 := cell_regrown k13
      have j14 := cell_regrown k14
      have DK1 := Lib.hid (DK.out w2 hb2)
      have DV1 := Lib.hid (DV.out w2 hb2)
      refine wp_region_quiet_below hmix (by kernel_rfl) ?_
      repeat (quiet_step (first | (go_at_call_of 37 (Value.agg #[Value.int IntKind.i64 vk, Value.int IntKind.i64 vn, Value.string vs, Value.slice av vl cv]); exact DV1.out _ _) | (go_at_call 37; exact DK1.out _ _)))
      refine wpQuiet_nil ?_
      intro _ hw'
      obtain ⟨⟨dq, osq⟩, hw''⟩ := hw'
      subst hw''
      have hbb : Below w.heap.size w (Sort.grow (redrawn w2 dq) osq) := below_trans hb2 (below_regrown w2 dq osq)
      generalize Sort.grow (redrawn w2 dq) osq = w9 at *
      go_wp2
      go_ret
      exact ⟨by rw [← HE.out]; simp; rfl, hbb⟩
    · by_cases h2 : rw' = 2
      · subst h2
        go_enter Tryz.func19, Tryz.ntmps19
        go_wp2
        rw [← HW1.out]
        have p0 : ¬ 9223372036854775807 < 6 + IT.size := by omega
        have p1 : ¬ 9223372036854775807 < 6 + IT.size + 1 := by omega
        have p2 : ¬ 9223372036854775807 < 6 + IT.size + 1 + QT.size := by omega
        have p3 : ¬ 9223372036854775807 < 6 + IT.size + 1 + QT.size + 1 := by omega
        have p4 : ¬ 9223372036854775807 < 5 + (6 + IT.size + 1 + QT.size + 1) := by omega
        have j2 := cell_regrown k2
        have j3 := cell_regrown k3
        have j4 := cell_regrown k4
        have j5 := cell_regrown k5
        have j6 := cell_regrown k6
        have DI1 := Lib.hid (DI.out w1 hb1)
        have DQ1 := Lib.hid (DQ.out w1)
        refine wp_region_quiet_below hmix (by kernel_rfl) ?_
        repeat (quiet_step (first | (go_at_call 38; exact DQ1.out _ _) | (go_at_call 37; exact DI1.out _ _)))
        refine wpQuiet_nil ?_
        intro _ hw'
        obtain ⟨⟨dq, osq⟩, hw''⟩ := hw'
        subst hw''
        have hb2 : Below w.heap.size w (Sort.grow (redrawn w1 dq) osq) := below_trans hb1 (below_regrown w1 dq osq)
        replace k7 := cell_regrown k7 (d := dq) (os := osq)
        replace k8 := cell_regrown k8 (d := dq) (os := osq)
        replace k9 := cell_regrown k9 (d := dq) (os := osq)
        replace k10 := cell_regrown k10 (d := dq) (os := osq)
        replace k11 := cell_regrown k11 (d := dq) (os := osq)
        replace k12 := cell_regrown k12 (d := dq) (os := osq)
        replace k13 := cell_regrown k13 (d := dq) (os := osq)
        replace k14 := cell_regrown k14 (d := dq) (os := osq)
        clear j2 j3 j4 j5 j6 k2 k3 k4 k5 k6 k0 k1
        generalize Sort.grow (redrawn w1 dq) osq = w2 at *
        go_wp2
        have m0 : ¬ 9223372036854775807 < 5 + (6 + IT.size + 1 + QT.size + 1) + 4 := by omega
        have m1 : ¬ 9223372036854775807 < 5 + (6 + IT.size + 1 + QT.size + 1) + 4 + KT.size := by omega
        have m2 : ¬ 9223372036854775807 < 5 + (6 + IT.size + 1 + QT.size + 1) + 4 + KT.size + 5 := by omega
        have m3 : ¬ 9223372036854775807 < 5 + (6 + IT.size + 1 + QT.size + 1) + 4 + KT.size + 5 + VT.size := by omega
        have m4 : ¬ 9223372036854775807 < 5 + (6 + IT.size + 1 + QT.size + 1) + 4 + KT.size + 5 + VT.size + 1 := by omega
        have j7 := cell_regrown k7
        have j8 := cell_regrown k8
        have j9 := cell_regrown k9
        have j10 := cell_regrown k10
        have j11 := cell_regrown k11
        have j12 := cell_regrown k12
        have j13 := cell_regrown k13
        have j14 := cell_regrown k14
        have DK1 := Lib.hid (DK.out w2 hb2)
        have DV1 := Lib.hid (DV.out w2 hb2)
        refine wp_region_quiet_below hmix (by kernel_rfl) ?_
        repeat (quiet_step (first | (go_at_call_of 37 (Value.agg #[Value.int IntKind.i64 vk, Value.int IntKind.i64 vn, Value.string vs, Value.slice av vl cv]); exact DV1.out _ _) | (go_at_call 37; exact DK1.out _ _)))
        refine wpQuiet_nil ?_
        intro _ hw'
        obtain ⟨⟨dq, osq⟩, hw''⟩ := hw'
        subst hw''
        have hbb : Below w.heap.size w (Sort.grow (redrawn w2 dq) osq) := below_trans hb2 (below_regrown w2 dq osq)
        generalize Sort.grow (redrawn w2 dq) osq = w9 at *
        go_wp2
        go_ret
        exact ⟨by rw [← HE.out]; simp; rfl, hbb⟩
      · go_enter Tryz.func19, Tryz.ntmps19
        go_wp2
        rw [← HW1.out]
        have m0 : ¬ 9223372036854775807 < 5 + 4 := by omega
        have m1 : ¬ 9223372036854775807 < 5 + 4 + KT.size := by omega
        have m2 : ¬ 9223372036854775807 < 5 + 4 + KT.size + 5 := by omega
        have m3 : ¬ 9223372036854775807 < 5 + 4 + KT.size + 5 + VT.size := by omega
        have m4 : ¬ 9223372036854775807 < 5 + 4 + KT.size + 5 + VT.size + 1 := by omega
        have j7 := cell_regrown k7
        have j8 := cell_regrown k8
        have j9 := cell_regrown k9
        have j10 := cell_regrown k10
        have j11 := cell_regrown k11
        have j12 := cell_regrown k12
        have j13 := cell_regrown k13
        have j14 := cell_regrown k14
        have DK1 := Lib.hid (DK.out w1 hb1)
        have DV1 := Lib.hid (DV.out w1 hb1)
        refine wp_region_quiet_below hmix (by kernel_rfl) ?_
        repeat (quiet_step (first | (go_at_call_of 37 (Value.agg #[Value.int IntKind.i64 vk, Value.int IntKind.i64 vn, Value.string vs, Value.slice av vl cv]); exact DV1.out _ _) | (go_at_call 37; exact DK1.out _ _)))
        refine wpQuiet_nil ?_
        intro _ hw'
        obtain ⟨⟨dq, osq⟩, hw''⟩ := hw'
        subst hw''
        have hbb : Below w.heap.size w (Sort.grow (redrawn w1 dq) osq) := below_trans hb1 (below_regrown w1 dq osq)
        generalize Sort.grow (redrawn w1 dq) osq = w9 at *
        go_wp2
        go_ret
        exact ⟨by rw [← HE.out]; simp [h1, h2, app_none]; rfl, hbb⟩
end Go.Proofs.YtfjpgjkfmcedoaaGreatDoor
