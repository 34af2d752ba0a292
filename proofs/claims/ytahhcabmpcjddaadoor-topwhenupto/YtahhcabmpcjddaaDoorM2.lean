/- Mapper: what holds; the pair of a look. -/
import Derived.Test.YtahhcabmpcjddaaDoorM1
namespace Go.Proofs.YtahhcabmpcjddaaDoor
open Go.ChangeShapes Go.WideShapes Go.ChangeAt Go.RowKit
set_option maxRecDepth 100000 in
set_option maxHeartbeats 1000000 in
theorem holds_any (r : Rl) (ai ak av : Option Addr) (ci ck cv : Nat) (R : Rc) (ra : Option Addr) (rc : Nat) (w : World) (hR : IsTexts w (.slice ra R.words.length rc) (R.words.map bs)) (xi : IsEx w (.slice ai r.iff.a.length ci) r.iff) (hr : RlIn r) (hM : RcIn R 1000000) (E : EnvS w) :
    Calls Tryd.prog 38 #[r.value (.slice ai r.iff.a.length ci) (.slice ak r.key.a.length ck) (.slice av r.val.a.length cv), recV R ra rc] w fun e w' => e = .returned (.bool (holdsB r R)) ∧ Below w.heap.size w w' := by
  have hmix : Tryd.prog.follows .mixedOrders = true := by kernel_rfl
  have S := Lib.hid (fun w (h : IsEx w (.slice ai r.iff.a.length ci) r.iff) (hf : faultE r.iff true true = 0) hR E => StrX_any R ra rc h hR (by have := fault_wt hf; omega) hf (by have := fault_len hf hM; omega) E)
  obtain ⟨w2, hw2⟩ : ∃ w2, w2 = (w.alloc (.cells #[.bool r.each, .int .i64 r.when, .int .i64 r.iff.k, .int .i64 r.iff.n, .string (bs r.iff.s), .slice ai r.iff.a.length ci, .string (bs r.s), .int .i64 r.key.k, .int .i64 r.key.n, .string (bs r.key.s), .slice ak r.key.a.length ck, .int .i64 r.val.k, .int .i64 r.val.n, .string (bs r.val.s), .slice av r.val.a.length cv] 50)).alloc (.cells #[.string (bs R.line), .string (bs R.it), .slice ra R.words.length rc] 82) := ⟨_, rfl⟩
  have hbx : Below w.heap.size w w2 := by rw [hw2]; exact below_trans (below_box _) (below_box _)
  have e2 : w2.cell? ⟨w.heap.size, 2, none⟩ = some (.int .i64 r.iff.k) := by rw [hw2]; simp
  have e3 : w2.cell? ⟨w.heap.size, 3, none⟩ = some (.int .i64 r.iff.n) := by rw [hw2]; simp
  have e4 : w2.cell? ⟨w.heap.size, 4, none⟩ = some (.string (bs r.iff.s)) := by rw [hw2]; simp
  have e5 : w2.cell? ⟨w.heap.size, 5, none⟩ = some (.slice ai r.iff.a.length ci) := by rw [hw2]; simp
  have e6 : w2.cell? ⟨w.heap.size, 6, none⟩ = some (.string (bs r.s)) := by rw [hw2]; simp
  have r0 : w2.cell? ⟨w.heap.size + 1, 0, none⟩ = some (.string (bs R.line)) := by rw [hw2]; simp
  have r1 : w2.cell? ⟨w.heap.size + 1, 1, none⟩ = some (.string (bs R.it)) := by rw [hw2]; simp
  have r2 : w2.cell? ⟨w.heap.size + 1, 2, none⟩ = some (.slice ra R.words.length rc) := by rw [hw2]; simp
  have HW2 := Lib.hid hw2
  have HB := Lib.hid hbx
  have XI := Lib.hid (xi.lower hbx)
  have HR := Lib.hid (hR.below hbx)
  have HE := Lib.hid (E.lower hbx)
  clear hw2 hbx xi hR E
  unfold Rl.value recV
  rcases hr.when with h0 | ⟨h12, hf⟩
  · have HV : Hid (holdsB r R = true) := by
      show _ = _
      unfold holdsB
      rw [h0]; rfl
    rw [HV.out, h0]
    clear S XI HE e2 e3 e4 e5 e6 r0 r1 r2
    go_enter Tryd.func38, Tryd.ntmps38
    go_wp2
    go_ret
    exact ⟨rfl, below_trans (below_box _) (below_box _)⟩
  · replace e2 := cell_regrown e2
    replace e3 := cell_regrown e3
    replace e4 := cell_regrown e4
    replace e5 := cell_regrown e5
    replace e6 := cell_regrown e6
    replace r0 := cell_regrown r0
    replace r1 := cell_regrown r1
    replace r2 := cell_regrown r2
    have D1 : Hid (∀ d os, Calls Tryd.prog 56 #[r.iff.val (.slice ai r.iff.a.length ci), recV R ra rc] (Sort.grow (redrawn w2 d) os) fun e w'' => e = .returned (.string (bs (r.iff.str R))) ∧ ∃ p : Regrown, w'' = Sort.grow (redrawn w2 p.d) p.os) := fun d os => Calls.regrown_of (S.out _ (XI.out.lower (below_regrown _ _ _)) hf (HR.out.below (below_regrown _ _ _)) (HE.out.lower (below_regrown _ _ _)))
    unfold Ex.val recV at D1
    have hq : ∀ a b : List UInt8, ((bs a).toList == (bs b).toList) = decide (a = b) := fun a b => by
      rw [bs_toList, bs_toList]
      by_cases h : a = b
      · simp [h]
      · rw [decide_eq_false h, beq_eq_false_iff_ne]; exact h
    rcases h12 with h0 | h0
    · have HV : Hid (holdsB r R = ((bs (r.iff.str R)).toList == (bs r.s).toList)) := by
        show _ = _
        unfold holdsB
        rw [h0, if_pos rfl, hq]
      rw [HV.out]
      rw [h0] at HW2 ⊢
      clear S XI HR HE HV hq h0 hf hr
      generalize bs (r.iff.str R) = X at *
      generalize r.iff.k = xk at *
      generalize r.iff.n = xn at *
      generalize bs r.iff.s = xs at *
      generalize bs r.s = ss at *
      go_enter Tryd.func38, Tryd.ntmps38
      go_wp2
      rw [← HW2.out]
      refine wp_region_quiet_below hmix (by kernel_rfl) ?_
      repeat (quiet_step (first | (go_at_call 56; exact D1.out _ _)))
      refine wpQuiet_nil ?_
      intro _ hw'
      obtain ⟨⟨dq, osq⟩, hw''⟩ := hw'
      subst hw''
      have hbb : Below w.heap.size w (Sort.grow (redrawn w2 dq) osq) := below_trans HB.out (below_regrown w2 dq osq)
      generalize Sort.grow (redrawn w2 dq) osq = w3 at *
      go_wp2
      go_ret
      exact ⟨rfl, hbb⟩
    · have HV : Hid (holdsB r R = !((bs (r.iff.str R)).toList == (bs r.s).toList)) := by
        show _ = _
        unfold holdsB
        rw [h0, if_neg (by decide), if_pos rfl, hq]
      rw [HV.out]
      rw [h0] at HW2 ⊢
      clear S XI HR HE HV hq h0 hf hr
      generalize bs (r.iff.str R) = X at *
      generalize r.iff.k = xk at *
      generalize r.iff.n = xn at *
      generalize bs r.iff.s = xs at *
      generalize bs r.s = ss at *
      go_enter Tryd.func38, Tryd.ntmps38
      go_wp2
      rw [← HW2.out]
      refine wp_region_quiet_below hmix (by kernel_rfl) ?_
      repeat (quiet_step (first | (go_at_call 56; exact D1.out _ _)))
      refine wpQuiet_nil ?_
      intro _ hw'
      obtain ⟨⟨dq, osq⟩, hw''⟩ := hw'
      subst hw''
      have hbb : Below w.heap.size w (Sort.grow (redrawn w2 dq) osq) := below_trans HB.out (below_regrown w2 dq osq)
      generalize Sort.grow (redrawn w2 dq) osq = w3 at *
      go_wp2
      go_ret
      exact ⟨rfl, hbb⟩
end Go.Proofs.YtahhcabmpcjddaaDoor
