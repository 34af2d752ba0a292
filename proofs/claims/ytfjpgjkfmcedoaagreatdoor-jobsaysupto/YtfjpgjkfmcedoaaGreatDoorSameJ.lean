/- Contract of the document's SameJob, at one job as it lies twice. -/
import Derived.Test.YtfjpgjkfmcedoaaGreatDoorG18
namespace Go.Proofs.YtfjpgjkfmcedoaaGreatDoor
open Go.ChangeShapes Go.WideShapes Go.ChangeAt Go.RowKit
namespace SameJ
theorem row_new (w : World) (cs : Array Value) (t : TypeId) : (w.alloc (.cells cs t)).heap[w.heap.size]? = some (.cells cs t (0, 0)) := heap_alloc_new _ _
theorem row_below {w w' : World} {g : Nat} {cs : Array Value} {t : TypeId} (h : w.heap[g]? = some (.cells cs t (0, 0))) (hb : Below w.heap.size w w') : w'.heap[g]? = some (.cells cs t (0, 0)) := by
  rw [hb.block g ?_]
  · exact h
  · rcases Nat.lt_or_ge g w.heap.size with hl | hl
    · exact hl
    · rw [Array.getElem?_eq_none hl] at h; cases h
theorem row_at {w : World} {g : Nat} {cs : Array Value} {t : TypeId} (h : w.heap[g]? = some (.cells cs t (0, 0))) {i : Nat} {v : Value} (hv : cs[i]? = some v) : w.cell? ⟨g, i, none⟩ = some v := by
  rw [cell_of_row _ _ _ _ _ _ h]; exact hv
end SameJ
open SameJ
set_option maxRecDepth 100000 in
set_option maxHeartbeats 4000000 in
theorem sameJob_any (j : Jb) (rv ru : Value) (w : World) (h : IsRules w rv j.rules) (h2 : IsRules w ru j.rules) (hw : rulesWt j.rules ≤ 100000000) :
    Calls Tryz.prog 13 #[j.value rv, j.value ru] w fun v w' => v = .returned (.bool true) ∧ Below w.heap.size w w' := by
  obtain ⟨l, fo, ea', sl⟩ := j
  simp only [Jb.value] at *
  obtain ⟨a, cap, b, off, AI, AK, AV, rfl, ha, hc⟩ := h
  obtain ⟨a', cap', b', off', BI, BK, BV, rfl, ha', hc'⟩ := h2
  have hl := rules_len l
  have HA := Lib.hid ha
  have HC := Lib.hid hc
  have HA' := Lib.hid ha'
  have HC' := Lib.hid hc'
  clear ha hc ha' hc'
  obtain ⟨n, hn⟩ : ∃ n, n = l.length := ⟨_, rfl⟩
  rw [← hn] at hl ⊢
  have HN := Lib.hid hn
  clear hn
  go_enter Tryz.func13, Tryz.ntmps13
  go_wp2
  go_loopw [5] (fun iv wr => ∃ i : Nat, i ≤ n ∧ iv = .int .i64 i ∧ Below w.heap.size w wr ∧ wr.cell? ⟨w.heap.size, 0, none⟩ = some (.slice a n cap) ∧ wr.cell? ⟨w.heap.size + 1, 0, none⟩ = some (.slice a' n cap')) (fun iv _ => n - (intOf iv).toNat)
  case atStart => exact ⟨0, Nat.zero_le _, rfl, below_trans (below_box _) (below_box _), by simp, by simp⟩
  case round =>
    obtain ⟨i, hi, rfl, hbr, cb, cb'⟩ := hrel
    by_cases hlt : i < n
    · obtain ⟨x, hx⟩ : ∃ x, l[i]? = some x := ⟨l[i]'(by have := HN.out; omega), by simp⟩
      have ea := HA.out (by have := HN.out; omega)
      have ea2 := HA'.out (by have := HN.out; omega)
      subst ea ea2
      obtain ⟨⟨c0, c1, c2, c3, c4, c5, c6, c7, c8, c9, c10, c11, c12, c13, c14⟩, xi, xk, xv⟩ := HC.out i x hx
      obtain ⟨⟨d0, d1, d2, d3, d4, d5, d6, d7, d8, d9, d10, d11, d12, d13, d14⟩, yi, yk, yv⟩ := HC'.out i x hx
      obtain ⟨ai, ci, ei⟩ := xi.slice
      obtain ⟨ak, ck, ek⟩ := xk.slice
      obtain ⟨av, cv, ev⟩ := xv.slice
      obtain ⟨bi, ci', ei'⟩ := yi.slice
      obtain ⟨bk, ck', ek'⟩ := yk.slice
      obtain ⟨bv, cv', ev'⟩ := yv.slice
      rw [ei] at c5 xi
      rw [ek] at c10 xk
      rw [ev] at c14 xv
      rw [ei'] at d5 yi
      rw [ek'] at d10 yk
      rw [ev'] at d14 yv
      replace c0 := cell_below c0 hbr
      replace c1 := cell_below c1 hbr
      replace c2 := cell_below c2 hbr
      replace c3 := cell_below c3 hbr
      replace c4 := cell_below c4 hbr
      replace c5 := cell_below c5 hbr
      replace c6 := cell_below c6 hbr
      replace c7 := cell_below c7 hbr
      replace c8 := cell_below c8 hbr
      replace c9 := cell_below c9 hbr
      replace c10 := cell_below c10 hbr
      replace c11 := cell_below c11 hbr
      replace c12 := cell_below c12 hbr
      replace c13 := cell_below c13 hbr
      replace c14 := cell_below c14 hbr
      have hxw := rule_wt hx
      unfold Rl.wt at hxw
      replace d0 := cell_below (cell_below d0 hbr) (below_box (w := wr) (.cells #[.bool x.each, .int .i64 x.when, .int .i64 x.iff.k, .int .i64 x.iff.n, .string (bs x.iff.s), .slice ai x.iff.a.length ci, .string (bs x.s), .int .i64 x.key.k, .int .i64 x.key.n, .string (bs x.key.s), .slice ak x.key.a.length ck, .int .i64 x.val.k, .int .i64 x.val.n, .string (bs x.val.s), .slice av x.val.a.length cv] 46))
      replace d1 := cell_below (cell_below d1 hbr) (below_box (w := wr) (.cells #[.bool x.each, .int .i64 x.when, .int .i64 x.iff.k, .int .i64 x.iff.n, .string (bs x.iff.s), .slice ai x.iff.a.length ci, .string (bs x.s), .int .i64 x.key.k, .int .i64 x.key.n, .string (bs x.key.s), .slice ak x.key.a.length ck, .int .i64 x.val.k, .int .i64 x.val.n, .string (bs x.val.s), .slice av x.val.a.length cv] 46))
      replace d2 := cell_below (cell_below d2 hbr) (below_box (w := wr) (.cells #[.bool x.each, .int .i64 x.when, .int .i64 x.iff.k, .int .i64 x.iff.n, .string (bs x.iff.s), .slice ai x.iff.a.length ci, .string (bs x.s), .int .i64 x.key.k, .int .i64 x.key.n, .string (bs x.key.s), .slice ak x.key.a.length ck, .int .i64 x.val.k, .int .i64 x.val.n, .string (bs x.val.s), .slice av x.val.a.length cv] 46))
      replace d3 := cell_below (cell_below d3 hbr) (below_box (w := wr) (.cells #[.bool x.each, .int .i64 x.when, .int .i64 x.iff.k, .int .i64 x.iff.n, .string (bs x.iff.s), .slice ai x.iff.a.length ci, .string (bs x.s), .int .i64 x.key.k, .int .i64 x.key.n, .string (bs x.key.s), .slice ak x.key.a.length ck, .int .i64 x.val.k, .int .i64 x.val.n, .string (bs x.val.s), .slice av x.val.a.length cv] 46))
      replace d4 := cell_below (cell_below d4 hbr) (below_box (w := wr) (.cells #[.bool x.each, .int .i64 x.when, .int .i64 x.iff.k, .int .i64 x.iff.n, .string (bs x.iff.s), .slice ai x.iff.a.length ci, .string (bs x.s), .int .i64 x.key.k, .int .i64 x.key.n, .string (bs x.key.s), .slice ak x.key.a.length ck, .int .i64 x.val.k, .int .i64 x.val.n, .string (bs x.val.s), .slice av x.val.a.length cv] 46))
      replace d5 := cell_below (cell_below d5 hbr) (below_box (w := wr) (.cells #[.bool x.each, .int .i64 x.when, .int .i64 x.iff.k, .int .i64 x.iff.n, .string (bs x.iff.s), .slice ai x.iff.a.length ci, .string (bs x.s), .int .i64 x.key.k, .int .i64 x.key.n, .string (bs x.key.s), .slice ak x.key.a.length ck, .int .i64 x.val.k, .int .i64 x.val.n, .string (bs x.val.s), .slice av x.val.a.length cv] 46))
      replace d6 := cell_below (cell_below d6 hbr) (below_box (w := wr) (.cells #[.bool x.each, .int .i64 x.when, .int .i64 x.iff.k, .int .i64 x.iff.n, .string (bs x.iff.s), .slice ai x.iff.a.length ci, .string (bs x.s), .int .i64 x.key.k, .int .i64 x.key.n, .string (bs x.key.s), .slice ak x.key.a.length ck, .int .i64 x.val.k, .int .i64 x.val.n, .string (bs x.val.s), .slice av x.val.a.length cv] 46))
      replace d7 := cell_below (cell_below d7 hbr) (below_box (w := wr) (.cells #[.bool x.each, .int .i64 x.when, .int .i64 x.iff.k, .int .i64 x.iff.n, .string (bs x.iff.s), .slice ai x.iff.a.length ci, .string (bs x.s), .int .i64 x.key.k, .int .i64 x.key.n, .string (bs x.key.s), .slice ak x.key.a.length ck, .int .i64 x.val.k, .int .i64 x.val.n, .string (bs x.val.s), .slice av x.val.a.length cv] 46))
      replace d8 := cell_below (cell_below d8 hbr) (below_box (w := wr) (.cells #[.bool x.each, .int .i64 x.when, .int .i64 x.iff.k, .int .i64 x.iff.n, .string (bs x.iff.s), .slice ai x.iff.a.length ci, .string (bs x.s), .int .i64 x.key.k, .int .i64 x.key.n, .string (bs x.key.s), .slice ak x.key.a.length ck, .int .i64 x.val.k, .int .i64 x.val.n, .string (bs x.val.s), .slice av x.val.a.length cv] 46))
      replace d9 := cell_below (cell_below d9 hbr) (below_box (w := wr) (.cells #[.bool x.each, .int .i64 x.when, .int .i64 x.iff.k, .int .i64 x.iff.n, .string (bs x.iff.s), .slice ai x.iff.a.length ci, .string (bs x.s), .int .i64 x.key.k, .int .i64 x.key.n, .string (bs x.key.s), .slice ak x.key.a.length ck, .int .i64 x.val.k, .int .i64 x.val.n, .string (bs x.val.s), .slice av x.val.a.length cv] 46))
      replace d10 := cell_below (cell_below d10 hbr) (below_box (w := wr) (.cells #[.bool x.each, .int .i64 x.when, .int .i64 x.iff.k, .int .i64 x.iff.n, .string (bs x.iff.s), .slice ai x.iff.a.length ci, .string (bs x.s), .int .i64 x.key.k, .int .i64 x.key.n, .string (bs x.key.s), .slice ak x.key.a.length ck, .int .i64 x.val.k, .int .i64 x.val.n, .string (bs x.val.s), .slice av x.val.a.length cv] 46))
      replace d11 := cell_below (cell_below d11 hbr) (below_box (w := wr) (.cells #[.bool x.each, .int .i64 x.when, .int .i64 x.iff.k, .int .i64 x.iff.n, .string (bs x.iff.s), .slice ai x.iff.a.length ci, .string (bs x.s), .int .i64 x.key.k, .int .i64 x.key.n, .string (bs x.key.s), .slice ak x.key.a.length ck, .int .i64 x.val.k, .int .i64 x.val.n, .string (bs x.val.s), .slice av x.val.a.length cv] 46))
      replace d12 := cell_below (cell_below d12 hbr) (below_box (w := wr) (.cells #[.bool x.each, .int .i64 x.when, .int .i64 x.iff.k, .int .i64 x.iff.n, .string (bs x.iff.s), .slice ai x.iff.a.length ci, .string (bs x.s), .int .i64 x.key.k, .int .i64 x.key.n, .string (bs x.key.s), .slice ak x.key.a.length ck, .int .i64 x.val.k, .int .i64 x.val.n, .string (bs x.val.s), .slice av x.val.a.length cv] 46))
      replace d13 := cell_below (cell_below d13 hbr) (below_box (w := wr) (.cells #[.bool x.each, .int .i64 x.when, .int .i64 x.iff.k, .int .i64 x.iff.n, .string (bs x.iff.s), .slice ai x.iff.a.length ci, .string (bs x.s), .int .i64 x.key.k, .int .i64 x.key.n, .string (bs x.key.s), .slice ak x.key.a.length ck, .int .i64 x.val.k, .int .i64 x.val.n, .string (bs x.val.s), .slice av x.val.a.length cv] 46))
      replace d14 := cell_below (cell_below d14 hbr) (below_box (w := wr) (.cells #[.bool x.each, .int .i64 x.when, .int .i64 x.iff.k, .int .i64 x.iff.n, .string (bs x.iff.s), .slice ai x.iff.a.length ci, .string (bs x.s), .int .i64 x.key.k, .int .i64 x.key.n, .string (bs x.key.s), .slice ak x.key.a.length ck, .int .i64 x.val.k, .int .i64 x.val.n, .string (bs x.val.s), .slice av x.val.a.length cv] 46))
      have cbb := cell_below cb' (below_box (w := wr) (.cells #[.bool x.each, .int .i64 x.when, .int .i64 x.iff.k, .int .i64 x.iff.n, .string (bs x.iff.s), .slice ai x.iff.a.length ci, .string (bs x.s), .int .i64 x.key.k, .int .i64 x.key.n, .string (bs x.key.s), .slice ak x.key.a.length ck, .int .i64 x.val.k, .int .i64 x.val.n, .string (bs x.val.s), .slice av x.val.a.length cv] 46))
      obtain ⟨w5, hw5⟩ : ∃ w5, w5 = (wr.alloc (.cells #[.bool x.each, .int .i64 x.when, .int .i64 x.iff.k, .int .i64 x.iff.n, .string (bs x.iff.s), .slice ai x.iff.a.length ci, .string (bs x.s), .int .i64 x.key.k, .int .i64 x.key.n, .string (bs x.key.s), .slice ak x.key.a.length ck, .int .i64 x.val.k, .int .i64 x.val.n, .string (bs x.val.s), .slice av x.val.a.length cv] 46)).alloc (.cells #[.bool x.each, .int .i64 x.when, .int .i64 x.iff.k, .int .i64 x.iff.n, .string (bs x.iff.s), .slice bi x.iff.a.length ci', .string (bs x.s), .int .i64 x.key.k, .int .i64 x.key.n, .string (bs x.key.s), .slice bk x.key.a.length ck', .int .i64 x.val.k, .int .i64 x.val.n, .string (bs x.val.s), .slice bv x.val.a.length cv'] 46) := ⟨_, rfl⟩
      have b5 : Below wr.heap.size wr w5 := by rw [hw5]; exact below_trans (below_box _) (below_box _)
      have r1 : w5.heap[wr.heap.size]? = some (.cells #[.bool x.each, .int .i64 x.when, .int .i64 x.iff.k, .int .i64 x.iff.n, .string (bs x.iff.s), .slice ai x.iff.a.length ci, .string (bs x.s), .int .i64 x.key.k, .int .i64 x.key.n, .string (bs x.key.s), .slice ak x.key.a.length ck, .int .i64 x.val.k, .int .i64 x.val.n, .string (bs x.val.s), .slice av x.val.a.length cv] 46 (0, 0)) := by rw [hw5]; exact row_below (row_new _ _ _) (below_box _)
      have r2 : w5.heap[wr.heap.size + 1]? = some (.cells #[.bool x.each, .int .i64 x.when, .int .i64 x.iff.k, .int .i64 x.iff.n, .string (bs x.iff.s), .slice bi x.iff.a.length ci', .string (bs x.s), .int .i64 x.key.k, .int .i64 x.key.n, .string (bs x.key.s), .slice bk x.key.a.length ck', .int .i64 x.val.k, .int .i64 x.val.n, .string (bs x.val.s), .slice bv x.val.a.length cv'] 46 (0, 0)) := by
        have h := row_new (wr.alloc (.cells #[.bool x.each, .int .i64 x.when, .int .i64 x.iff.k, .int .i64 x.iff.n, .string (bs x.iff.s), .slice ai x.iff.a.length ci, .string (bs x.s), .int .i64 x.key.k, .int .i64 x.key.n, .string (bs x.key.s), .slice ak x.key.a.length ck, .int .i64 x.val.k, .int .i64 x.val.n, .string (bs x.val.s), .slice av x.val.a.length cv] 46)) #[.bool x.each, .int .i64 x.when, .int .i64 x.iff.k, .int .i64 x.iff.n, .string (bs x.iff.s), .slice bi x.iff.a.length ci', .string (bs x.s), .int .i64 x.key.k, .int .i64 x.key.n, .string (bs x.key.s), .slice bk x.key.a.length ck', .int .i64 x.val.k, .int .i64 x.val.n, .string (bs x.val.s), .slice bv x.val.a.length cv'] 46
        rw [show (wr.alloc (.cells #[.bool x.each, .int .i64 x.when, .int .i64 x.iff.k, .int .i64 x.iff.n, .string (bs x.iff.s), .slice ai x.iff.a.length ci, .string (bs x.s), .int .i64 x.key.k, .int .i64 x.key.n, .string (bs x.key.s), .slice ak x.key.a.length ck, .int .i64 x.val.k, .int .i64 x.val.n, .string (bs x.val.s), .slice av x.val.a.length cv] 46)).heap.size = wr.heap.size + 1 by simp] at h
        rw [hw5]
        exact h
      have hb05 := below_trans hbr b5
      have SI := Lib.hid (sameExpr_any (xi.lower hb05) (by omega) _ w5 (yi.lower hb05) (Below.refl _ _))
      have SK := Lib.hid (fun w6 (hb : Below w5.heap.size w5 w6) => sameExpr_any (xk.lower hb05) (by omega) _ w6 ((yk.lower hb05).lower hb) hb)
      have SV := Lib.hid (fun w6 (hb : Below w5.heap.size w5 w6) => sameExpr_any (xv.lower hb05) (by omega) _ w6 ((yv.lower hb05).lower hb) hb)
      unfold Ex.val at SI SK SV
      have HW5 := Lib.hid hw5
      have RR1 := Lib.hid r1
      have RR2 := Lib.hid r2
      clear HC HC' hx ei ek ev ei' ek' ev' hw5 r1 r2 xi xk xv yi yk yv
      go_wp2_with (go_at_call 30; refine Hid.out ?_)
      refine Lib.hid ?_
      rw [← HW5.out]
      refine SI.out.mono ?_
      rintro _ w6 ⟨rfl, hb6⟩
      have q1 := Lib.hid (row_below RR1.out hb6)
      have q2 := Lib.hid (row_below RR2.out hb6)
      have cb6 := cell_below (cell_below cb b5) hb6
      have cb6' := cell_below (cell_below cb' b5) hb6
      clear cb cb' cbb c0 c1 c2 c3 c4 c5 c6 c7 c8 c9 c10 c11 c12 c13 c14 d0 d1 d2 d3 d4 d5 d6 d7 d8 d9 d10 d11 d12 d13 d14 SI RR1 RR2
      have f7 := row_at q1.out (i := 7) (v := .int .i64 x.key.k) rfl
      have g7 := row_at q2.out (i := 7) (v := .int .i64 x.key.k) rfl
      have f8 := row_at q1.out (i := 8) (v := .int .i64 x.key.n) rfl
      have g8 := row_at q2.out (i := 8) (v := .int .i64 x.key.n) rfl
      have f9 := row_at q1.out (i := 9) (v := .string (bs x.key.s)) rfl
      have g9 := row_at q2.out (i := 9) (v := .string (bs x.key.s)) rfl
      have f10 := row_at q1.out (i := 10) (v := .slice ak x.key.a.length ck) rfl
      have g10 := row_at q2.out (i := 10) (v := .slice bk x.key.a.length ck') rfl
      go_wp2_with (go_at_call 30; refine Hid.out ?_)
      refine Lib.hid ?_
      refine (SK.out _ hb6).mono ?_
      rintro _ w7 ⟨rfl, hb7⟩
      have hb57 := below_trans hb6 hb7
      have q3 := Lib.hid (row_below q1.out hb7)
      have q4 := Lib.hid (row_below q2.out hb7)
      have cb7 := cell_below cb6 hb7
      have cb7' := cell_below cb6' hb7
      clear cb6 cb6' f7 f8 f9 f10 g7 g8 g9 g10 q1 q2 SK
      have f11 := row_at q3.out (i := 11) (v := .int .i64 x.val.k) rfl
      have g11 := row_at q4.out (i := 11) (v := .int .i64 x.val.k) rfl
      have f12 := row_at q3.out (i := 12) (v := .int .i64 x.val.n) rfl
      have g12 := row_at q4.out (i := 12) (v := .int .i64 x.val.n) rfl
      have f13 := row_at q3.out (i := 13) (v := .string (bs x.val.s)) rfl
      have g13 := row_at q4.out (i := 13) (v := .string (bs x.val.s)) rfl
      have f14 := row_at q3.out (i := 14) (v := .slice av x.val.a.length cv) rfl
      have g14 := row_at q4.out (i := 14) (v := .slice bv x.val.a.length cv') rfl
      go_wp2_with (go_at_call 30; refine Hid.out ?_)
      refine Lib.hid ?_
      refine (SV.out _ hb57).mono ?_
      rintro _ w8 ⟨rfl, hb8⟩
      have cb8 := cell_below cb7 hb8
      have cb8' := cell_below cb7' hb8
      have hb08 : Below w.heap.size w w8 := below_trans hb05 (below_trans hb57 hb8)
      have q5 := Lib.hid (row_below q3.out hb8)
      have q6 := Lib.hid (row_below q4.out hb8)
      clear cb7 cb7' f11 f12 f13 f14 g11 g12 g13 g14 q3 q4 SV
      have f0 := row_at q5.out (i := 0) (v := .bool x.each) rfl
      have g0 := row_at q6.out (i := 0) (v := .bool x.each) rfl
      have f1 := row_at q5.out (i := 1) (v := .int .i64 x.when) rfl
      have g1 := row_at q6.out (i := 1) (v := .int .i64 x.when) rfl
      have f6 := row_at q5.out (i := 6) (v := .string (bs x.s)) rfl
      have g6 := row_at q6.out (i := 6) (v := .string (bs x.s)) rfl
      clear q5 q6
      go_wp2
      go_roundw
      case rel => exact ⟨i + 1, by omega, by go_num, hb08, cb8, cb8'⟩
      case measure => simp [intOf]; omega
    · go_wp2
      go_ret
      exact ⟨rfl, hbr⟩
end Go.Proofs.YtfjpgjkfmcedoaaGreatDoor
