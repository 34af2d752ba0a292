/- Put together of OpenT, M2, M3, M4, N8a, PpSumK, PpMrgD, N9, PpGrpsO. -/
import Derived.Test.YtahhcabmpcjddaaDoorG1
import Derived.Test.YtahhcabmpcjddaaDoorTxt
import Derived.Test.YtahhcabmpcjddaaDoorM1
import Derived.Deep.Cut
import Derived.Deep.LoopGhost
import Derived.Test.YtahhcabmpcjddaaDoorN6
import Derived.Test.YtahhcabmpcjddaaDoorPpBase
import Derived.Laws.BitsAllLaws
import Derived.Test.YtahhcabmpcjddaaDoorPpSort
import Derived.Test.YtahhcabmpcjddaaDoorPpGrps
/- A list of texts, as it was handed in, opened: what it holds. -/
namespace Go.Proofs.YtahhcabmpcjddaaDoor
open Go.ChangeShapes Go.WideShapes Go.ChangeAt Go.RowKit Go.Deep
namespace OpenT
open OpenE
theorem many_le {H : Type} (l : List (DataW H)) : l.length ≤ Rows.uptoBulkAll l := by
  induction l with
  | nil => simp
  | cons d l ih => have := one_le d; simp only [List.length_cons, Rows.uptoBulkAll]; omega
theorem cells1t : Tryd.prog.cellsOf 25 = 1 := by kernel_rfl
set_option maxRecDepth 100000 in
theorem texts {H : Type} {enc : TypeId × Value → H} {W : World} {fuel : Nat} {sv : Value} {x : DataW H × List MemPlace} (h : DataW.trod enc Tryd.prog W 0 (fun _ => true) true fuel 25 [sv] = some x) :
    ∃ l : List (List UInt8), l.length ≤ Rows.uptoBulk x.1 ∧ IsTexts W sv (l.map bs) := by
  rcases DataW.trod_slice Tryd.underlying25 h with ⟨h0, rfl⟩ | ⟨a, len, cap, elems, rest, n, hfu, hcs, rfl, hb, hl, hm, hlen, hel, _, _⟩
  · simp only [List.cons.injEq, and_true] at h0
    subst h0
    exact ⟨[], by simp, ⟨none, 0, rfl, fun i hi => absurd hi (by simp)⟩⟩
  · simp only [List.cons.injEq, and_true] at hcs
    subst hcs
    have each : ∀ i, i < len → ∃ s : ByteArray, W.cell? (a.add (i * 1)) = some (.string s) := by
      intro i hi
      have key := hel i hi
      rw [List.getElem?_eq_getElem (by omega)] at key
      obtain ⟨cs', h1, h2⟩ := Option.bind_eq_some_iff.1 key
      rw [cells1s] at h1
      obtain ⟨_, hcl, hcell⟩ := World.cells?_some h1
      obtain ⟨s, e0, _, _⟩ := DataW.trod_string Tryd.underlying9 h2
      subst e0
      have c0 := hcell 0 (by omega)
      refine ⟨s, ?_⟩
      simpa [Addr.add] using c0
    haveI : Inhabited ByteArray := ⟨ByteArray.empty⟩
    obtain ⟨q, hq⟩ := choose_lt each
    have hspot : 0 < len → a.spot = none := fun hpos => by
      have h1 := World.cell?_spot (hq 0 hpos)
      simpa [Addr.add] using h1
    obtain ⟨b, off, spot⟩ := a
    refine ⟨(List.range len).map fun i => (q i).data.toList, ?_, ⟨some ⟨b, off, spot⟩, cap, by simp, fun i hi => ?_⟩⟩
    · have h1 := many_le (elems.map (·.1))
      simp only [List.length_map, hlen, List.length_range, Rows.uptoBulk] at h1 ⊢
      omega
    · have hi' : i < len := by simpa using hi
      have hs := hspot (by omega)
      simp only at hs
      subst hs
      have c0 := hq i hi'
      rw [none_add] at c0
      exact ⟨b, off, rfl, by simpa [bs_of] using c0⟩
set_option maxRecDepth 100000 in
theorem lines {H : Type} {enc : TypeId × Value → H} {W : World} {base : Nat} {d : DataW H} {p : List MemPlace} {v : Value} (hv : Value.okWide Tryd.prog W .any base 25 v) (h : DataW.Trod enc Tryd.prog W 0 (fun _ => true) true 25 v d p) :
    ∃ l : List (List UInt8), IsTexts W v (l.map bs) ∧ l.length ≤ Rows.uptoBulk d := by
  obtain ⟨a0, len0, cap0, rfl⟩ := okWide_slice Tryd.underlying25 hv
  obtain ⟨fuel, hf⟩ := h
  obtain ⟨l, h1, h2⟩ := texts (x := (d, p)) (by simpa [Value.cells] using hf)
  exact ⟨l, h2, h1⟩
end OpenT
end Go.Proofs.YtahhcabmpcjddaaDoor
/- Mapper: what holds; the pair of a look. -/
namespace Go.Proofs.YtahhcabmpcjddaaDoor
open Go.ChangeShapes Go.WideShapes Go.ChangeAt Go.RowKit
set_option maxRecDepth 100000 in
set_option maxHeartbeats 1000000 in
theorem holds_any (r : Rl) (ai ak av : Option Addr) (ci ck cv : Nat) (R : Rc) (ra : Option Addr) (rc : Nat) (w : World) (hR : IsTexts w (.slice ra R.words.length rc) (R.words.map bs)) (xi : IsEx w (.slice ai r.iff.a.length ci) r.iff) (hr : RlIn r) (hM : RcIn R 1000000) (E : EnvS w) :
    Calls Tryd.prog 38 #[r.value (.slice ai r.iff.a.length ci) (.slice ak r.key.a.length ck) (.slice av r.val.a.length cv), recV R ra rc] w fun e w' => e = .returned (.bool (holdsB r R)) ∧ Below w.heap.size w w' := by
  have hmix : Tryd.prog.follows .mixedOrders = true := by kernel_rfl
  have S := Lib.hid (fun w (h : IsEx w (.slice ai r.iff.a.length ci) r.iff) (hf : faultE r.iff true true = 0) hR E => StrX_any R ra rc h hR (by have := fault_wt hf; omega) hf (by have := fault_len hf hM; omega) E)
  obtain ⟨w2, hw2⟩ : ∃ w2, w2 = (w.alloc (.cells #[.bool r.each, .int .i64 r.when, .int .i64 r.iff.k, .int .i64 r.iff.n, .string (bs r.iff.s), .slice ai r.iff.a.length ci, .string (bs r.s), .int .i64 r.key.k, .int .i64 r.key.n, .string (bs r.key.s), .slice ak r.key.a.length ck, .int .i64 r.val.k, .int .i64 r.val.n, .string (bs r.val.s), .slice av r.val.a.length cv] 50)).alloc (.cells #[.string (bs R.line), .string (bs R.it), .slice ra R.words.length rc] 82) := ⟨_, rfl⟩
  have hbx : Below w.heap.size w w2 := by rw [hw2]; exact below_trans (below_box _) (below_box _)
  have e2 : w2.cell? ⟨w.heap.size, 2, none⟩ = some (.int .i64 r.iff.k) := by rw [hw2]; simp
  have e3 : w2.cell? ⟨w.heap.size, 3, none⟩ = some (.int .i64 r.iff.n) := by rw [hw2]; simp
  have e4 : w2.cell? ⟨w.heap.size, 4, none⟩ = some (.string (bs r.iff.s)) := by rw [hw2]; simp
  have e5 : w2.cell? ⟨w.heap.size, 5, none⟩ = some (.slice ai r.iff.a.length ci) := by rw [hw2]; simp
  have e6 : w2.cell? ⟨w.heap.size, 6, none⟩ = some (.string (bs r.s)) := by rw [hw2]; simp
  have r0 : w2.cell? ⟨w.heap.size + 1, 0, none⟩ = some (.string (bs R.line)) := by rw [hw2]; simp
  have r1 : w2.cell? ⟨w.heap.size + 1, 1, none⟩ = some (.string (bs R.it)) := by rw [hw2]; simp
  have r2 : w2.cell? ⟨w.heap.size + 1, 2, none⟩ = some (.slice ra R.words.length rc) := by rw [hw2]; simp
  have HW2 := Lib.hid hw2
  have HB := Lib.hid hbx
  have XI := Lib.hid (xi.lower hbx)
  have HR := Lib.hid (hR.below hbx)
  have HE := Lib.hid (E.lower hbx)
  clear hw2 hbx xi hR E
  unfold Rl.value recV
  rcases hr.when with h0 | ⟨h12, hf⟩
  · have HV : Hid (holdsB r R = true) := by
      show _ = _
      unfold holdsB
      rw [h0]; rfl
    rw [HV.out, h0]
    clear S XI HE e2 e3 e4 e5 e6 r0 r1 r2
    go_enter Tryd.func38, Tryd.ntmps38
    go_wp2
    go_ret
    exact ⟨rfl, below_trans (below_box _) (below_box _)⟩
  · replace e2 := cell_regrown e2
    replace e3 := cell_regrown e3
    replace e4 := cell_regrown e4
    replace e5 := cell_regrown e5
    replace e6 := cell_regrown e6
    replace r0 := cell_regrown r0
    replace r1 := cell_regrown r1
    replace r2 := cell_regrown r2
    have D1 : Hid (∀ d os, Calls Tryd.prog 56 #[r.iff.val (.slice ai r.iff.a.length ci), recV R ra rc] (Sort.grow (redrawn w2 d) os) fun e w'' => e = .returned (.string (bs (r.iff.str R))) ∧ ∃ p : Regrown, w'' = Sort.grow (redrawn w2 p.d) p.os) := fun d os => Calls.regrown_of (S.out _ (XI.out.lower (below_regrown _ _ _)) hf (HR.out.below (below_regrown _ _ _)) (HE.out.lower (below_regrown _ _ _)))
    unfold Ex.val recV at D1
    have hq : ∀ a b : List UInt8, ((bs a).toList == (bs b).toList) = decide (a = b) := fun a b => by
      rw [bs_toList, bs_toList]
      by_cases h : a = b
      · simp [h]
      · rw [decide_eq_false h, beq_eq_false_iff_ne]; exact h
    rcases h12 with h0 | h0
    · have HV : Hid (holdsB r R = ((bs (r.iff.str R)).toList == (bs r.s).toList)) := by
        show _ = _
        unfold holdsB
        rw [h0, if_pos rfl, hq]
      rw [HV.out]
      rw [h0] at HW2 ⊢
      clear S XI HR HE HV hq h0 hf hr
      generalize bs (r.iff.str R) = X at *
      generalize r.iff.k = xk at *
      generalize r.iff.n = xn at *
      generalize bs r.iff.s = xs at *
      generalize bs r.s = ss at *
      go_enter Tryd.func38, Tryd.ntmps38
      go_wp2
      rw [← HW2.out]
      refine wp_region_quiet_below hmix (by kernel_rfl) ?_
      repeat (quiet_step (first | (go_at_call 56; exact D1.out _ _)))
      refine wpQuiet_nil ?_
      intro _ hw'
      obtain ⟨⟨dq, osq⟩, hw''⟩ := hw'
      subst hw''
      have hbb : Below w.heap.size w (Sort.grow (redrawn w2 dq) osq) := below_trans HB.out (below_regrown w2 dq osq)
      generalize Sort.grow (redrawn w2 dq) osq = w3 at *
      go_wp2
      go_ret
      exact ⟨rfl, hbb⟩
    · have HV : Hid (holdsB r R = !((bs (r.iff.str R)).toList == (bs r.s).toList)) := by
        show _ = _
        unfold holdsB
        rw [h0, if_neg (by decide), if_pos rfl, hq]
      rw [HV.out]
      rw [h0] at HW2 ⊢
      clear S XI HR HE HV hq h0 hf hr
      generalize bs (r.iff.str R) = X at *
      generalize r.iff.k = xk at *
      generalize r.iff.n = xn at *
      generalize bs r.iff.s = xs at *
      generalize bs r.s = ss at *
      go_enter Tryd.func38, Tryd.ntmps38
      go_wp2
      rw [← HW2.out]
      refine wp_region_quiet_below hmix (by kernel_rfl) ?_
      repeat (quiet_step (first | (go_at_call 56; exact D1.out _ _)))
      refine wpQuiet_nil ?_
      intro _ hw'
      obtain ⟨⟨dq, osq⟩, hw''⟩ := hw'
      subst hw''
      have hbb : Below w.heap.size w (Sort.grow (redrawn w2 dq) osq) := below_trans HB.out (below_regrown w2 dq osq)
      generalize Sort.grow (redrawn w2 dq) osq = w3 at *
      go_wp2
      go_ret
      exact ⟨rfl, hbb⟩
end Go.Proofs.YtahhcabmpcjddaaDoor
/- Mapper: the pair of a look. -/
namespace Go.Proofs.YtahhcabmpcjddaaDoor
open Go.ChangeShapes Go.WideShapes Go.ChangeAt Go.RowKit
set_option maxRecDepth 100000 in
set_option maxHeartbeats 1000000 in
theorem pairOf_any (r : Rl) (ai ak av : Option Addr) (ci ck cv : Nat) (kind : Int) (R : Rc) (ra : Option Addr) (rc : Nat) (w : World) (hR : IsTexts w (.slice ra R.words.length rc) (R.words.map bs)) (xk : IsEx w (.slice ak r.key.a.length ck) r.key) (xv : IsEx w (.slice av r.val.a.length cv) r.val) (hr : RlIn r) (hM : RcIn R 1000000) (E : EnvS w) :
    Calls Tryd.prog 39 #[r.value (.slice ai r.iff.a.length ci) (.slice ak r.key.a.length ck) (.slice av r.val.a.length cv), recV R ra rc, .int .i64 kind] w fun e w' => e = .returned (.agg #[.string (pairL r kind R).1, .int .i64 (pairL r kind R).2]) ∧ Below w.heap.size w w' := by
  have S := Lib.hid (fun w (h : IsEx w (.slice ak r.key.a.length ck) r.key) hR E => StrX_any R ra rc h hR (by have := fault_wt hr.key; omega) hr.key (by have := fault_len hr.key hM; omega) E)
  have I := Lib.hid (fun w (h : IsEx w (.slice av r.val.a.length cv) r.val) hR E => IntX_any R ra rc h hR (by have := fault_wt hr.val; omega) hr.val (by have := fault_far hr.val hM; omega) E)
  obtain ⟨w1, hw1⟩ : ∃ w1, w1 = (w.alloc (.cells #[.bool r.each, .int .i64 r.when, .int .i64 r.iff.k, .int .i64 r.iff.n, .string (bs r.iff.s), .slice ai r.iff.a.length ci, .string (bs r.s), .int .i64 r.key.k, .int .i64 r.key.n, .string (bs r.key.s), .slice ak r.key.a.length ck, .int .i64 r.val.k, .int .i64 r.val.n, .string (bs r.val.s), .slice av r.val.a.length cv] 50)).alloc (.cells #[.string (bs R.line), .string (bs R.it), .slice ra R.words.length rc] 82) := ⟨_, rfl⟩
  have hb1 : Below w.heap.size w w1 := by rw [hw1]; exact below_trans (below_box _) (below_box _)
  have hs1 : w1.heap.size = w.heap.size + 1 + 1 := by rw [hw1]; simp
  obtain ⟨w2, hw2⟩ : ∃ w2, w2 = w1.alloc (.cells #[.string ⟨#[]⟩, .int .i64 0] 61) := ⟨_, rfl⟩
  have hb2 : Below w1.heap.size w1 w2 := by rw [hw2]; exact below_box _
  have hbx := below_trans hb1 hb2
  have e0 := cell_below (a := ⟨w.heap.size, 7, none⟩) (v := .int .i64 r.key.k) (by rw [hw1]; simp) hb2
  have e1 := cell_below (a := ⟨w.heap.size, 8, none⟩) (v := .int .i64 r.key.n) (by rw [hw1]; simp) hb2
  have e2 := cell_below (a := ⟨w.heap.size, 9, none⟩) (v := .string (bs r.key.s)) (by rw [hw1]; simp) hb2
  have e3 := cell_below (a := ⟨w.heap.size, 10, none⟩) (v := .slice ak r.key.a.length ck) (by rw [hw1]; simp) hb2
  have v0 := cell_below (a := ⟨w.heap.size, 11, none⟩) (v := .int .i64 r.val.k) (by rw [hw1]; simp) hb2
  have v1 := cell_below (a := ⟨w.heap.size, 12, none⟩) (v := .int .i64 r.val.n) (by rw [hw1]; simp) hb2
  have v2 := cell_below (a := ⟨w.heap.size, 13, none⟩) (v := .string (bs r.val.s)) (by rw [hw1]; simp) hb2
  have v3 := cell_below (a := ⟨w.heap.size, 14, none⟩) (v := .slice av r.val.a.length cv) (by rw [hw1]; simp) hb2
  have r0 := cell_below (a := ⟨w.heap.size + 1, 0, none⟩) (v := .string (bs R.line)) (by rw [hw1]; simp) hb2
  have r1 := cell_below (a := ⟨w.heap.size + 1, 1, none⟩) (v := .string (bs R.it)) (by rw [hw1]; simp) hb2
  have r2 := cell_below (a := ⟨w.heap.size + 1, 2, none⟩) (v := .slice ra R.words.length rc) (by rw [hw1]; simp) hb2
  have hg : Blk w2 (w.heap.size + 1 + 1) 61 [.string ⟨#[]⟩, .int .i64 0] := by rw [hw2]; exact blk_new (cs := #[.string ⟨#[]⟩, .int .i64 0]) hs1.symm
  rw [hw1] at hw2
  have hXs : (r.key.str R).length ≤ 1000000000 := Nat.le_trans (str_len R r.key) (by have := fault_len hr.key hM; omega)
  rw [← bs_size] at hXs
  have HW2 := Lib.hid hw2
  have XK := Lib.hid (xk.lower hbx)
  have XV := Lib.hid (xv.lower hbx)
  have HR := Lib.hid (hR.below hbx)
  have HE := Lib.hid (E.lower hbx)
  clear hw2 hw1 hs1 hb1 hb2 xk xv hR E hr
  unfold Rl.value recV
  unfold Ex.val recV at S I
  simp only [pairL]
  have FI := Lib.hid (fun w => Pp.first_any kind (r.val.num R) w)
  generalize hX : bs (r.key.str R) = X at *
  have HX : Hid ((20 ≤ X.size → X.extract 0 20 = bs ((r.key.str R).take 20)) ∧ (X.size ≤ 20 → X.extract 0 X.size = bs ((r.key.str R).take 20))) := by
    subst hX
    refine ⟨fun _ => bs_take _ _, fun h => ?_⟩
    rw [bs_size] at h ⊢
    rw [bs_take, List.take_of_length_le h, List.take_of_length_le (Nat.le_refl _)]
  generalize r.val.num R = V at *
  generalize Pp.firstI kind V = fv at *
  go_enter Tryd.func39, Tryd.ntmps39
  go_wp2_with (go_at_call 56; refine Hid.out ?_)
  refine Lib.hid ?_
  rw [← HW2.out]
  refine (S.out _ XK.out HR.out HE.out).mono ?_
  rintro _ w3 ⟨rfl, hb3⟩
  replace v0 := cell_below v0 hb3
  replace v1 := cell_below v1 hb3
  replace v2 := cell_below v2 hb3
  replace v3 := cell_below v3 hb3
  replace r0 := cell_below r0 hb3
  replace r1 := cell_below r1 hb3
  replace r2 := cell_below r2 hb3
  have hg3 := hg.blw hb3
  have hb03 := below_trans hbx hb3
  have IV := Lib.hid (I.out w3 (XV.out.lower hb3) (HR.out.below hb3) (HE.out.lower hb3))
  clear e0 e1 e2 e3 hg hb3 hbx S I XK XV HR HE HW2
  have HMIN : ∃ (m : Nat), min (X.size : Int) 20 = (m : Int) ∧ m ≤ X.size ∧ X.extract 0 m = bs ((r.key.str R).take 20) := by
    by_cases h : X.size ≤ 20
    · exact ⟨X.size, by omega, Nat.le_refl _, HX.out.2 h⟩
    · exact ⟨20, by omega, by omega, HX.out.1 (by omega)⟩
  obtain ⟨m, hm, hmX, hmE⟩ := HMIN
  have HME := Lib.hid hmE
  clear hmE HX
  go_wp2_with (go_at_call 58; refine Hid.out ?_)
  refine Lib.hid ?_
  refine IV.out.mono ?_
  rintro _ w4 ⟨rfl, hb4⟩
  have hg4 := hg3.blw hb4
  have hb04 := below_trans hb03 hb4
  have q0 := hg4.at (i := 0) (v := .string ⟨#[]⟩) rfl
  have q1 := hg4.at (i := 1) (v := .int .i64 0) rfl
  have f0 := hg4.frozen 0
  have f1 := hg4.frozen 1
  have HG := Lib.hid hg4
  clear hb4 hg4 hg3 hb03 v0 v1 v2 v3 r0 r1 r2 IV
  go_wp2_with (go_at_call 57; refine (FI.out _).mono ?_; rintro _ w5 ⟨rfl, h5⟩; rw [h5]; clear h5 w5)
  (try simp only [Exit.inBlock, Exit.then])
  have g2 := (HG.out.set 0 (.string (X.extract 0 m))).set 1 (.int .i64 fv)
  have hp1 : Below w.heap.size w ((w4.setCell ⟨w.heap.size + 1 + 1, 0, none⟩ (.string (X.extract 0 m))).setCell ⟨w.heap.size + 1 + 1, 1, none⟩ (.int .i64 fv)) := (hb04.setCell (p := ⟨w.heap.size + 1 + 1, 0, none⟩) (by simp; omega) _).setCell (p := ⟨w.heap.size + 1 + 1, 1, none⟩) (by simp; omega) _
  refine bodyPost_ret (results_cell_row rfl _ _ (w.heap.size + 1 + 1) 61 #[.string (X.extract 0 m), .int .i64 fv] (0, 0) _ rfl g2 Tryd.underlying61 rfl (by kernel_rfl)) rfl ?_
  exact ⟨by rw [← HME.out], hp1⟩
end Go.Proofs.YtahhcabmpcjddaaDoor
/- Mapper: Pairs. -/
namespace Go.Proofs.YtahhcabmpcjddaaDoor
open Go.ChangeShapes Go.WideShapes Go.ChangeAt Go.RowKit
def ruleCells (r : Rl) (ai ak av : Option Addr) (ci ck cv : Nat) : List Value := [.bool r.each, .int .i64 r.when, .int .i64 r.iff.k, .int .i64 r.iff.n, .string (bs r.iff.s), .slice ai r.iff.a.length ci, .string (bs r.s), .int .i64 r.key.k, .int .i64 r.key.n, .string (bs r.key.s), .slice ak r.key.a.length ck, .int .i64 r.val.k, .int .i64 r.val.n, .string (bs r.val.s), .slice av r.val.a.length cv]
theorem ruleAt {w : World} {B : Nat} {r : Rl} {ai ak av : Option Addr} {ci ck cv : Nat} (h : Blk w B 50 (ruleCells r ai ak av ci ck cv)) : w.cell? ⟨B, 0, none⟩ = some (.bool r.each) ∧ w.cell? ⟨B, 1, none⟩ = some (.int .i64 r.when) ∧ w.cell? ⟨B, 2, none⟩ = some (.int .i64 r.iff.k) ∧ w.cell? ⟨B, 3, none⟩ = some (.int .i64 r.iff.n) ∧ w.cell? ⟨B, 4, none⟩ = some (.string (bs r.iff.s)) ∧ w.cell? ⟨B, 5, none⟩ = some (.slice ai r.iff.a.length ci) ∧ w.cell? ⟨B, 6, none⟩ = some (.string (bs r.s)) ∧ w.cell? ⟨B, 7, none⟩ = some (.int .i64 r.key.k) ∧ w.cell? ⟨B, 8, none⟩ = some (.int .i64 r.key.n) ∧ w.cell? ⟨B, 9, none⟩ = some (.string (bs r.key.s)) ∧ w.cell? ⟨B, 10, none⟩ = some (.slice ak r.key.a.length ck) ∧ w.cell? ⟨B, 11, none⟩ = some (.int .i64 r.val.k) ∧ w.cell? ⟨B, 12, none⟩ = some (.int .i64 r.val.n) ∧ w.cell? ⟨B, 13, none⟩ = some (.string (bs r.val.s)) ∧ w.cell? ⟨B, 14, none⟩ = some (.slice av r.val.a.length cv) :=
  ⟨h.at rfl, h.at rfl, h.at rfl, h.at rfl, h.at rfl, h.at rfl, h.at rfl, h.at rfl, h.at rfl, h.at rfl, h.at rfl, h.at rfl, h.at rfl, h.at rfl, h.at rfl⟩
/-- What Pairs has made by now, beside what it goes over. -/
structure Mk (w0 wr : World) (lv : Value) (acc : List (ByteArray × Int)) : Prop where
  row : wr.ownsRow w0.heap.size 61 2 lv acc.length (Pp.cellsP acc)
  bel : Below w0.heap.size w0 wr
structure Mi (w0 wr : World) (B : Nat) (cs : List Value) (u wv : Value) (L : List Rc) (lv : Value) (acc : List (ByteArray × Int)) : Prop where
  md : Mk w0 wr lv acc
  rule : Blk wr B 50 cs
  recs : wr.ownsRow w0.heap.size 82 3 u L.length (cellsR wv L)
theorem Mk.below {w0 wr w' : World} {lv : Value} {acc : List (ByteArray × Int)} (h : Mk w0 wr lv acc) (hb : Below wr.heap.size wr w') : Mk w0 w' lv acc := ⟨ow_below h.row hb, below_trans h.bel hb⟩
theorem Mi.below {w0 wr w' : World} {B : Nat} {cs : List Value} {u wv lv : Value} {L : List Rc} {acc : List (ByteArray × Int)} (h : Mi w0 wr B cs u wv L lv acc) (hb : Below wr.heap.size wr w') : Mi w0 w' B cs u wv L lv acc := ⟨h.md.below hb, h.rule.blw hb, ow_below h.recs hb⟩
theorem ruleP_take (r : Rl) (kind : Int) (L : List Rc) (k : Nat) (x : Rc) (hx : L[k]? = some x) : ((L.take (k + 1)).filter (holdsB r)).map (pairL r kind) = ((L.take k).filter (holdsB r)).map (pairL r kind) ++ (if holdsB r x = true then [pairL r kind x] else []) := by
  rw [take_snoc hx, List.filter_append, List.map_append]
  congr 1
  cases h : holdsB r x <;> simp [h]
theorem pairInfo2 : (Tryd.prog.info? 61).map (fun i => (i.zero, i.size, i.bytes)) = some (some (.agg #[.string ⟨#[]⟩, .int .i64 0]), 2, 24) := by kernel_rfl
set_option maxRecDepth 100000 in
set_option maxHeartbeats 2000000 in
theorem pairs_any (j : Jb) (rv : Value) (line : List UInt8) (w : World) (h : IsRules w rv j.rules) (hw : rulesWt j.rules ≤ 1000000000) (hf : jobFault j = 0) (hl : line.length ≤ 100000) (E : EnvS w) :
    Calls Tryd.prog 19 #[j.value rv, .string (bs line)] w fun e w' => ∃ u, e = .returned u ∧ w'.ownsRow w.heap.size 61 2 u (rulesP j.rules j.fold line).length (Pp.cellsP (rulesP j.rules j.fold line)) ∧ Below w.heap.size w w' := by
  have CK := Lib.hid (fun w h E => jobCheck_any j rv w h hw E)
  rw [hf] at CK
  obtain ⟨nw, hnw⟩ : ∃ nw, nw = (wordsL line).length := ⟨_, rfl⟩
  have OF := Lib.hid (fun w E => of_any line nw hnw w E (by omega))
  have HNW := Lib.hid hnw
  clear hnw
  obtain ⟨hl1, hl4, -, -, -, -, hrf⟩ := jobFault_parts hf
  have HRF := Lib.hid (rulesFault_all hrf)
  clear hf hrf
  obtain ⟨ip, hp0, hp1, hp2, hp3⟩ := info_parts pairInfo2
  obtain ⟨l, fo, ea', sl⟩ := j
  simp only [Jb.value] at *
  have H := Lib.hid h
  obtain ⟨a, cap, b, off, AI, AK, AV, rfl, ha, hc⟩ := h
  have HA := Lib.hid ha
  have HC := Lib.hid hc
  have HE := Lib.hid E
  clear ha hc E
  obtain ⟨n, hn⟩ : ∃ n, n = l.length := ⟨_, rfl⟩
  rw [← hn] at H CK hl1 hl4 ⊢
  have HN := Lib.hid hn
  clear hn
  unfold errV at CK
  simp only [if_pos] at CK
  go_enter Tryd.func19, Tryd.ntmps19
  go_wp2_with (go_at_call 12; refine Hid.out ?_)
  refine Lib.hid ?_
  refine (CK.out _ (H.out.lower (below_box _)) (HE.out.lower (below_box _))).mono ?_
  rintro _ w1 ⟨rfl, hb1⟩
  have JB := Lib.hid ((blk_new (w := w) (cs := #[.slice a n cap, .int .i64 fo, .bool ea', .int .i64 sl]) (t := 24) rfl).blw hb1)
  have hb01 := below_trans (below_box _) hb1
  clear CK hb1
  go_wp2_with (go_at_call 36; refine Hid.out ?_)
  refine Lib.hid ?_
  refine (OF.out w1 (HE.out.lower hb01).toEnv0).mono ?_
  rintro _ w2 ⟨ra, rc, rfl, HT, hb2, -⟩
  obtain ⟨w3, hw3⟩ : ∃ w3, w3 = w2.alloc (.cells #[.string (bs line), .string ⟨#[]⟩, .slice ra nw rc] 82) := ⟨_, rfl⟩
  have hb23 : Below w2.heap.size w2 w3 := by rw [hw3]; exact below_box _
  have hb13 := below_trans hb2 hb23
  have hb03 := below_trans hb01 hb13
  obtain ⟨G, hG⟩ : ∃ G, G = w2.heap.size := ⟨_, rfl⟩
  have RB : Hid (Blk w3 G 82 [.string (bs line), .string ⟨#[]⟩, .slice ra nw rc]) := by
    show Blk _ _ _ _
    rw [hw3]
    exact blk_new (cs := #[.string (bs line), .string ⟨#[]⟩, .slice ra nw rc]) hG
  have HT3 : Hid (IsTexts w3 (.slice ra nw rc) ((wordsL line).map bs)) := IsTexts.below HT.out hb23
  have JB3 := Lib.hid (JB.out.blw hb13)
  have HW3 := Lib.hid hw3
  have HGG := Lib.hid hG
  have HB03 := Lib.hid hb03
  have k0 := JB3.out.at (i := 0) (v := .slice a n cap) rfl
  clear hw3 hG hb23 hb13 hb2 hb01 HT JB hb03 OF
  go_upto_region 5 with fail
  rw [← HW3.out, ← HGG.out]
  clear HW3 HGG
  go_wp2
  clear k0
  have M0 : Hid (Mk w3 w3 (.slice none 0 0) (rulesP (l.take 0) fo line)) := ⟨World.ownsRow_nil _ _ _ _, Below.refl _ _⟩
  go_loopg [5, 19] n (fun gg lv iv wr => ∃ i : Nat, gg = n - i ∧ i ≤ n ∧ iv = .int .i64 i ∧ Hid (Mk w3 wr lv (rulesP (l.take i) fo line)))
  case atStart => exact ⟨0, rfl, Nat.zero_le _, rfl, M0⟩
  case round =>
    clear M0
    obtain ⟨i, hgi, hi, rfl, HM⟩ := hrel
    have HGI := Lib.hid hgi
    clear hgi
    have hb3r := HM.out.bel
    by_cases hlt : i < n
    · obtain ⟨r, hr⟩ : ∃ r, l[i]? = some r := ⟨l[i]'(by have := HN.out; omega), by simp⟩
      have hbw := below_trans HB03.out hb3r
      have ea := HA.out (by have := HN.out; omega)
      subst ea
      obtain ⟨⟨c0, c1, c2, c3, c4, c5, c6, c7, c8, c9, c10, c11, c12, c13, c14⟩, xi, xk, xv⟩ := HC.out i r hr
      obtain ⟨ai, ci, ei⟩ := xi.slice
      obtain ⟨ak, ck, ek⟩ := xk.slice
      obtain ⟨av, cv, ev⟩ := xv.slice
      rw [ei] at c5 xi
      rw [ek] at c10 xk
      rw [ev] at c14 xv
      replace c0 := cell_below c0 hbw
      replace c1 := cell_below c1 hbw
      replace c2 := cell_below c2 hbw
      replace c3 := cell_below c3 hbw
      replace c4 := cell_below c4 hbw
      replace c5 := cell_below c5 hbw
      replace c6 := cell_below c6 hbw
      replace c7 := cell_below c7 hbw
      replace c8 := cell_below c8 hbw
      replace c9 := cell_below c9 hbw
      replace c10 := cell_below c10 hbw
      replace c11 := cell_below c11 hbw
      replace c12 := cell_below c12 hbw
      replace c13 := cell_below c13 hbw
      replace c14 := cell_below c14 hbw
      have XI := Lib.hid xi
      have XK := Lib.hid xk
      have XV := Lib.hid xv
      have HR := Lib.hid (rlIn_of (HRF.out r (List.mem_of_getElem? hr)))
      have HRR := Lib.hid hr
      clear xi xk xv ei ek ev hr hbw
      obtain ⟨w4, hw4⟩ : ∃ w4, w4 = wr.alloc (.cells #[.bool r.each, .int .i64 r.when, .int .i64 r.iff.k, .int .i64 r.iff.n, .string (bs r.iff.s), .slice ai r.iff.a.length ci, .string (bs r.s), .int .i64 r.key.k, .int .i64 r.key.n, .string (bs r.key.s), .slice ak r.key.a.length ck, .int .i64 r.val.k, .int .i64 r.val.n, .string (bs r.val.s), .slice av r.val.a.length cv] 50) := ⟨_, rfl⟩
      obtain ⟨B, hB⟩ : ∃ B, B = wr.heap.size := ⟨_, rfl⟩
      have RU : Hid (Blk w4 B 50 (ruleCells r ai ak av ci ck cv)) := by
        show Blk _ _ _ _
        rw [hw4]
        exact blk_new hB
      have hbr4 : Below wr.heap.size wr w4 := by rw [hw4]; exact below_box _
      have HM4 := Lib.hid (HM.out.below hbr4)
      have hb04 := below_trans HB03.out HM4.out.bel
      have HT4 : Hid (IsTexts w4 (.slice ra nw rc) ((wordsL line).map bs)) := IsTexts.below HT3.out HM4.out.bel
      have LK : Hid (Calls Tryd.prog 37 #[.agg #[.bool r.each, .int .i64 r.when, .int .i64 r.iff.k, .int .i64 r.iff.n, .string (bs r.iff.s), .slice ai r.iff.a.length ci, .string (bs r.s), .int .i64 r.key.k, .int .i64 r.key.n, .string (bs r.key.s), .slice ak r.key.a.length ck, .int .i64 r.val.k, .int .i64 r.val.n, .string (bs r.val.s), .slice av r.val.a.length cv], .agg #[.string (bs line), .string ⟨#[]⟩, .slice ra nw rc]] w4 fun e w' => ∃ u, e = .returned u ∧ w'.ownsRow w4.heap.size 82 3 u (looksL r.each (ofL line)).length (cellsR (.slice ra nw rc) (looksL r.each (ofL line))) ∧ Below w4.heap.size w4 w') := by
        have h := looks_any r ai ak av ci ck cv (ofL line) ra rc w4 (by
          have := HT4.out
          rw [HNW.out] at this
          exact this) (by have := words_len line; show (wordsL line).length ≤ _; omega)
        rw [show (ofL line).words.length = nw from HNW.out.symm] at h
        unfold Rl.value recV at h
        rw [show (ofL line).words.length = nw from HNW.out.symm] at h
        exact h
      have HLL : Hid (∀ x ∈ looksL r.each (ofL line), RcIn x 1000000 ∧ x.words = wordsL line ∧ x.line = line) := fun x hx => rcIn_look (rcIn_of line 1000000 (by omega)) hx
      have HRP : Hid (rulesP (l.take (i + 1)) fo line = rulesP (l.take i) fo line ++ ((looksL r.each (ofL line)).filter (holdsB r)).map (pairL r fo)) := by
        show _ = _
        rw [take_snoc HRR.out, rulesP_append, rulesP_one]
        rfl
      have HLN : (looksL r.each (ofL line)).length ≤ 100001 := by have h1 := looks_len r.each (ofL line); have h2 : (ofL line).words.length ≤ line.length := words_len line; omega
      have HAL : (rulesP (l.take i) fo line).length ≤ 400004 := by
        have h1 := rulesP_len (l.take i) fo line
        have h2 : (l.take i).length ≤ 4 := by rw [List.length_take]; omega
        have h3 := Nat.mul_le_mul h2 (show line.length + 1 ≤ 100001 by omega)
        omega
      generalize looksL r.each (ofL line) = L at *
      generalize rulesP (l.take i) fo line = acc at *
      have HLN2 := Lib.hid HLN
      have HAL2 := Lib.hid HAL
      have HW4 := Lib.hid hw4
      have HBB := Lib.hid hB
      have HB04 := Lib.hid hb04
      obtain ⟨g0, g1, g2⟩ : w4.cell? ⟨G, 0, none⟩ = some (.string (bs line)) ∧ w4.cell? ⟨G, 1, none⟩ = some (.string ⟨#[]⟩) ∧ w4.cell? ⟨G, 2, none⟩ = some (.slice ra nw rc) := by
        have h := RB.out.blw HM4.out.bel
        exact ⟨h.at rfl, h.at rfl, h.at rfl⟩
      obtain ⟨q0, q1, q2, q3, q4, q5, q6, q7, q8, q9, q10, q11, q12, q13, q14⟩ := ruleAt RU.out
      clear hw4 hB hbr4 hb3r HLN HAL hb04 HM
      go_upto_region 8 with fail
      rw [← HW4.out, ← HBB.out]
      clear HW4 c0 c1 c2 c3 c4 c5 c6 c7 c8 c9 c10 c11 c12 c13 c14
      go_wp2_with (go_at_call 37; refine Hid.out ?_)
      refine Lib.hid ?_
      refine LK.out.mono ?_
      rintro _ w5 ⟨u, rfl, hrec, hb45⟩
      obtain ⟨m, hm⟩ : ∃ m, m = L.length := ⟨_, rfl⟩
      rw [← hm] at hrec
      obtain ⟨uo, uc, eu, -⟩ := isRecs_of hm hrec
      rw [← hm] at eu
      subst eu
      have I5 : Hid (Mi w3 w5 B (ruleCells r ai ak av ci ck cv) (.slice uo m uc) (.slice ra nw rc) L u5 (acc ++ ((L.take 0).filter (holdsB r)).map (pairL r fo))) := by
        refine ⟨?_, RU.out.blw hb45, by rw [← hm]; exact ow_low hrec HM4.out.bel.size⟩
        simp only [List.take_zero, List.filter_nil, List.map_nil, List.append_nil]
        exact HM4.out.below hb45
      have hmle : m ≤ 100001 := by rw [hm]; exact HLN2.out
      have HMM := Lib.hid hm
      clear LK RU HM4 HT4 hrec hb45 hm g0 g1 g2 q0 q1 q2 q3 q4 q5 q6 q7 q8 q9 q10 q11 q12 q13 q14
      dsimp only
      go_wp2
      go_loopg [5, 27] m (fun gg lv kv wq => ∃ k : Nat, gg = m - k ∧ k ≤ m ∧ kv = .int .i64 k ∧ Hid (Mi w3 wq B (ruleCells r ai ak av ci ck cv) (.slice uo m uc) (.slice ra nw rc) L lv (acc ++ ((L.take k).filter (holdsB r)).map (pairL r fo))))
      case atStart => exact ⟨0, rfl, Nat.zero_le _, rfl, I5⟩
      case round =>
        clear I5
        obtain ⟨k, hgk, hk, rfl, HI⟩ := hrel
        have HGK := Lib.hid hgk
        clear hgk
        by_cases hkm : k < m
        · have HKM := Lib.hid hkm
          obtain ⟨x, hx⟩ : ∃ x, L[k]? = some x := ⟨L[k]'(by have := HMM.out; omega), by simp⟩
          obtain ⟨rcx, hwx, -⟩ := HLL.out x (List.mem_of_getElem? hx)
          obtain ⟨a', cap', ev', hcell⟩ := isRecs_of rfl HI.out.recs
          simp only [Value.slice.injEq] at ev'
          obtain ⟨rfl, -, rfl⟩ := ev'
          obtain ⟨rb, roff, eu, s0, s1, s2⟩ := hcell k x hx
          subst eu
          obtain ⟨w6, hw6⟩ : ∃ w6, w6 = wr.alloc (.cells #[.string (bs x.line), .string (bs x.it), .slice ra nw rc] 82) := ⟨_, rfl⟩
          obtain ⟨C, hC⟩ : ∃ C, C = wr.heap.size := ⟨_, rfl⟩
          have hbr6 : Below wr.heap.size wr w6 := by rw [hw6]; exact below_box _
          have RC : Hid (Blk w6 C 82 [.string (bs x.line), .string (bs x.it), .slice ra nw rc]) := by
            show Blk _ _ _ _
            rw [hw6]
            exact blk_new hC
          have I6 := Lib.hid (HI.out.below hbr6)
          have hb06 := below_trans HB03.out I6.out.md.bel
          have hwl : x.words.length = nw := by rw [hwx]; exact HNW.out.symm
          have HT6 : ∀ w', Below w6.heap.size w6 w' → IsTexts w' (.slice ra x.words.length rc) (x.words.map bs) := fun w' hb' => by
            rw [hwl, hwx]
            exact IsTexts.below HT3.out (below_trans I6.out.md.bel hb')
          have HO : Hid (Calls Tryd.prog 38 #[.agg #[.bool r.each, .int .i64 r.when, .int .i64 r.iff.k, .int .i64 r.iff.n, .string (bs r.iff.s), .slice ai r.iff.a.length ci, .string (bs r.s), .int .i64 r.key.k, .int .i64 r.key.n, .string (bs r.key.s), .slice ak r.key.a.length ck, .int .i64 r.val.k, .int .i64 r.val.n, .string (bs r.val.s), .slice av r.val.a.length cv], .agg #[.string (bs x.line), .string (bs x.it), .slice ra nw rc]] w6 fun e w' => e = .returned (.bool (holdsB r x)) ∧ Below w6.heap.size w6 w') := by
            have h := holds_any r ai ak av ci ck cv x ra rc w6 (HT6 _ (Below.refl _ _)) (XI.out.lower hb06) HR.out rcx (HE.out.lower hb06)
            unfold Rl.value recV at h
            rw [hwl] at h
            exact h
          have PO : Hid (∀ w', Below w6.heap.size w6 w' → Calls Tryd.prog 39 #[.agg #[.bool r.each, .int .i64 r.when, .int .i64 r.iff.k, .int .i64 r.iff.n, .string (bs r.iff.s), .slice ai r.iff.a.length ci, .string (bs r.s), .int .i64 r.key.k, .int .i64 r.key.n, .string (bs r.key.s), .slice ak r.key.a.length ck, .int .i64 r.val.k, .int .i64 r.val.n, .string (bs r.val.s), .slice av r.val.a.length cv], .agg #[.string (bs x.line), .string (bs x.it), .slice ra nw rc], .int .i64 fo] w' fun e w'' => e = .returned (.agg #[.string (pairL r fo x).1, .int .i64 (pairL r fo x).2]) ∧ Below w'.heap.size w' w'') := fun w' hb' => by
            have h := pairOf_any r ai ak av ci ck cv fo x ra rc w' (HT6 _ hb') (XK.out.lower (below_trans hb06 hb')) (XV.out.lower (below_trans hb06 hb')) HR.out rcx (HE.out.lower (below_trans hb06 hb'))
            unfold Rl.value recV at h
            rw [hwl] at h
            exact h
          have HTK := Lib.hid (ruleP_take r fo L k x hx)
          have HAK : (acc ++ ((L.take k).filter (holdsB r)).map (pairL r fo)).length ≤ 500005 := by
            rw [List.length_append, List.length_map]
            have h1 := List.length_filter_le (holdsB r) (L.take k)
            have h2 := List.length_take_le' k L
            have h3 := HLN2.out
            have h4 := HAL2.out
            omega
          have HAA : Hid (acc ++ ((L.take (k + 1)).filter (holdsB r)).map (pairL r fo) = (acc ++ ((L.take k).filter (holdsB r)).map (pairL r fo)) ++ (if holdsB r x = true then [pairL r fo x] else [])) := by
            show _ = _
            rw [HTK.out, List.append_assoc]
          generalize acc ++ ((L.take k).filter (holdsB r)).map (pairL r fo) = ack at *
          generalize pairL r fo x = pp at *
          generalize holdsB r x = hb at *
          generalize bs x.line = xl at *
          generalize bs x.it = xt at *
          obtain ⟨q0, q1, q2, q3, q4, q5, q6, q7, q8, q9, q10, q11, q12, q13, q14⟩ := ruleAt I6.out.rule
          obtain ⟨z0, z1, z2⟩ : w6.cell? ⟨C, 0, none⟩ = some (.string xl) ∧ w6.cell? ⟨C, 1, none⟩ = some (.string xt) ∧ w6.cell? ⟨C, 2, none⟩ = some (.slice ra nw rc) := ⟨RC.out.at rfl, RC.out.at rfl, RC.out.at rfl⟩
          have HW6 := Lib.hid hw6
          have HCC := Lib.hid hC
          clear hw6 hC hbr6 hb06 HT6 hwl rcx hwx hx hcell HTK HI
          go_upto_region 11 with fail
          rw [← HW6.out, ← HCC.out]
          clear HW6 HCC s0 s1 s2
          go_wp2_with (go_at_call 38; refine Hid.out ?_)
          refine Lib.hid ?_
          refine HO.out.mono ?_
          rintro _ w7 ⟨rfl, hb67⟩
          have I7 := Lib.hid (I6.out.below hb67)
          have RC7 := Lib.hid (RC.out.blw hb67)
          have PO7 := Lib.hid (PO.out w7 hb67)
          clear HO PO RC I6 hb67 q0 q1 q2 q3 q4 q5 q6 q7 q8 q9 q10 q11 q12 q13 q14 z0 z1 z2
          cases hb with
          | false =>
            have HAA2 : Hid (acc ++ ((L.take (k + 1)).filter (holdsB r)).map (pairL r fo) = ack) := by
              show _ = _
              rw [HAA.out]; simp
            clear HAA
            go_wp2
            go_roundg (m - (k + 1))
            case measure => have := HGK.out; have := HKM.out; omega
            case rel => exact ⟨k + 1, rfl, HKM.out, by have := HLN2.out; have := HMM.out; have := HKM.out; go_num, by rw [HAA2.out]; exact I7.out⟩
          | true =>
            have HAA2 : Hid (acc ++ ((L.take (k + 1)).filter (holdsB r)).map (pairL r fo) = ack ++ [pp]) := by
              show _ = _
              rw [HAA.out]; simp
            clear HAA
            obtain ⟨pk, pv⟩ := pp
            obtain ⟨q0, q1, q2, q3, q4, q5, q6, q7, q8, q9, q10, q11, q12, q13, q14⟩ := ruleAt I7.out.rule
            obtain ⟨z0, z1, z2⟩ : w7.cell? ⟨C, 0, none⟩ = some (.string xl) ∧ w7.cell? ⟨C, 1, none⟩ = some (.string xt) ∧ w7.cell? ⟨C, 2, none⟩ = some (.slice ra nw rc) := ⟨RC7.out.at rfl, RC7.out.at rfl, RC7.out.at rfl⟩
            have kf := (JB3.out.blw I7.out.md.bel).at (i := 1) (v := .int .i64 fo) rfl
            go_wp2_with (go_at_call 39; refine Hid.out ?_)
            refine Lib.hid ?_
            refine PO7.out.mono ?_
            rintro _ w8 ⟨rfl, hb78⟩
            have I8 := Lib.hid (I7.out.below hb78)
            clear PO7 RC7 I7 hb78 q0 q1 q2 q3 q4 q5 q6 q7 q8 q9 q10 q11 q12 q13 q14 z0 z1 z2 kf
            dsimp only
            go_wp2_with (at_builtin; refine Hid.out ?_)
            refine Lib.hid ?_
            refine wpList_append_own _ rfl (.tmp 34) (.tmp 40) 43 rfl w3.heap.size 61 ip (.agg #[.string ⟨#[]⟩, .int .i64 0]) 2 24 Tryd.underlying43 hp0 hp1 hp2 hp3 rfl (by decide) _ ack.length (Pp.cellsP ack) rfl (I8.out.md.row.alloc _) ⟨w8.heap.size, 0, none⟩ 1 1 [.string pk, .int .i64 pv] rfl rfl ?c1 ?c5 ?c2 ?c3 ?c4 ?_
            case c1 => exact lit_cells rfl (show 2 ≤ maxLen by decide)
            case c5 => intro u hu; simp at hu; rcases hu with rfl | rfl <;> rfl
            case c2 => unfold maxLen; omega
            case c3 => omega
            case c4 => have := I8.out.md.bel.size; simp; omega
            intro v2 w9 hown9 hg9 _
            have I9 : Hid (Mi w3 w9 B (ruleCells r ai ak av ci ck cv) (.slice (some ⟨rb, roff, none⟩) m uc) (.slice ra nw rc) L v2 (ack ++ [(pk, pv)])) := by
              refine ⟨⟨?_, ?_⟩, ?_, ?_⟩
              · rw [List.length_append, Pp.cellsP_append]
                exact hown9
              · have hs := I8.out.md.bel.size
                exact (I8.out.md.bel.alloc (by omega) _).grown hg9 (by simp; omega) (fun q hq => (I8.out.md.row.lt q hq).1)
              · exact blk_ow (I8.out.rule.blw (below_box _)) (I8.out.md.row.alloc _) (by decide) hg9
              · exact ow_grown (I8.out.recs.alloc _) (I8.out.md.row.alloc _) (by decide) hg9
            clear hown9 hg9 I8
            go_wp2
            go_roundg (m - (k + 1))
            case measure => have := HGK.out; have := HKM.out; omega
            case rel => exact ⟨k + 1, rfl, HKM.out, by have := HLN2.out; have := HMM.out; have := HKM.out; go_num, by rw [HAA2.out]; exact I9.out⟩
        · have HMD : Hid (Mk w3 wr u5 (rulesP (l.take (i + 1)) fo line)) := by
            have h := HI.out.md
            rw [List.take_of_length_le (by have := HMM.out; omega), ← HRP.out] at h
            exact h
          clear HI
          go_wp2
          go_roundg (n - (i + 1))
          case measure => have := HGI.out; omega
          case rel => exact ⟨i + 1, rfl, by omega, by go_num, HMD⟩
    · go_wp2
      have HFIN : Hid (l.take i = l) := List.take_of_length_le (by have := HN.out; omega)
      rw [HFIN.out] at HM
      have HL1 := Lib.hid (ow_low HM.out.row HB03.out.size)
      have HL2 := Lib.hid (below_trans HB03.out HM.out.bel)
      go_ret
      exact ⟨_, rfl, HL1.out, HL2.out⟩
end Go.Proofs.YtahhcabmpcjddaaDoor
/- Mapper: what a job makes of lines; a run that may go on; what Step does. -/
namespace Go.Proofs.YtahhcabmpcjddaaDoor
open Go.ChangeShapes Go.WideShapes Go.ChangeAt Go.RowKit
/-- What a job makes of lines. -/
def madeOf (j : Jb) (lines : List (List UInt8)) : List (ByteArray × Int) := lines.flatMap fun l => rulesP j.rules j.fold l
theorem madeOf_append (j : Jb) (a b : List (List UInt8)) : madeOf j (a ++ b) = madeOf j a ++ madeOf j b := by simp [madeOf]
theorem madeOf_len (j : Jb) (lines : List (List UInt8)) (h4 : j.rules.length ≤ 4) (hl : ∀ x ∈ lines, x.length ≤ 1000) : (madeOf j lines).length ≤ lines.length * 4004 := by
  induction lines with
  | nil => simp [madeOf]
  | cons x l ih =>
    have h1 := rulesP_len j.rules j.fold x
    have h2 := hl x (by simp)
    have h3 := Nat.mul_le_mul h4 (show x.length + 1 ≤ 1001 by omega)
    have h5 := ih fun y hy => hl y (by simp [hy])
    have e : madeOf j (x :: l) = rulesP j.rules j.fold x ++ madeOf j l := by simp [madeOf]
    rw [e, List.length_append, List.length_cons, Nat.succ_mul]
    omega
/-- A run that may go on. -/
structure MRin (w : World) (R : Nat) (j : Jb) (lines : List (List UInt8)) : Prop where
  fault : jobFault j = 0
  wt : rulesWt j.rules ≤ 1000000000
  many : lines.length ≤ 60
  long : ∀ x ∈ lines, x.length ≤ 1000
  env : ∀ w', Below R w w' → EnvS w'
/-- What Step does. -/
def StepDoes : Prop := ∀ (R done : Nat) (n : Int) (j : Jb) (rv lv mv : Value) (lines : List (List UInt8)) (w : World),
    IsMR w R j rv lv lines done mv (madeOf j (lines.take done)) → MRin w R j lines → done ≤ lines.length → -9223372036854775808 ≤ n → n ≤ 9223372036854775807 →
    Calls Tryd.prog 14 #[.pointer (some ⟨R, 0, none⟩), .int .i64 n] w fun e w' => ∃ (d' : Nat) (mv' : Value), d' = done + min n.toNat (lines.length - done) ∧ e = .returned (.bool (decide (d' = lines.length))) ∧ IsMR w' R j rv lv lines d' mv' (madeOf j (lines.take d')) ∧ FrM w w' R mv.ownBlock ∧ (mv'.ownBlock = mv.ownBlock ∨ ∀ b, mv'.ownBlock = some b → w.heap.size ≤ b)
/-- All lines at once. -/
theorem step_all (S : StepDoes) (R : Nat) (n : Int) (j : Jb) (rv lv : Value) (lines : List (List UInt8)) (w : World) (h : IsMR w R j rv lv lines 0 (.slice none 0 0) []) (hi : MRin w R j lines) (hn : 60 ≤ n) (hn1 : n ≤ 9223372036854775807) :
    Calls Tryd.prog 14 #[.pointer (some ⟨R, 0, none⟩), .int .i64 n] w fun e w' => e = .returned (.bool true) ∧ ∃ mv', IsMR w' R j rv lv lines lines.length mv' (madeOf j lines) ∧ FrM w w' R none ∧ ∀ b, mv'.ownBlock = some b → w.heap.size ≤ b := by
  refine (S R 0 n j rv lv (.slice none 0 0) lines w h hi (Nat.zero_le _) (by omega) hn1).mono ?_
  rintro e w' ⟨d', mv', hd, rfl, hr, hF, ho⟩
  have hm := hi.many
  have e : d' = lines.length := by rw [hd]; omega
  subst e
  rw [List.take_length] at hr
  refine ⟨by simp, mv', hr, hF, fun b hb => ?_⟩
  rcases ho with h1 | h1
  · rw [h1] at hb; cases hb
  · exact h1 b hb
end Go.Proofs.YtahhcabmpcjddaaDoor
/- Contracts of pair.Sum and pair.Slice. -/
namespace Go.Proofs.YtahhcabmpcjddaaDoor.Pp
open Go.ChangeShapes Go.WideShapes Go.ChangeAt Go.RowKit
theorem snocB (s : ByteArray) (k : Nat) (h : k < s.size) : s.data.toList.take (k + 1) = s.data.toList.take k ++ [s[k]] := by
  rw [List.take_succ_eq_append_getElem (by simpa using h)]; rfl
def stp (h : Int) (c : UInt8) : Int := bits BinOp.xor IntKind.u32 h ((c.toNat : Int) % 4294967296) * 16777619 % 4294967296
def ksum (l : List UInt8) : Int := l.foldl stp 2166136261
theorem ksum_snoc (l : List UInt8) (c : UInt8) : ksum (l ++ [c]) = bits BinOp.xor IntKind.u32 (ksum l) ((c.toNat : Int) % 4294967296) * 16777619 % 4294967296 := by
  unfold ksum; rw [List.foldl_append]; rfl
theorem stp_bd (h : Int) (c : UInt8) : 0 ≤ stp h c ∧ stp h c < 4294967296 := by
  unfold stp; omega
theorem ksum_bd (l : List UInt8) : 0 ≤ ksum l ∧ ksum l < 4294967296 := by
  unfold ksum
  rcases List.eq_nil_or_concat l with rfl | ⟨l, c, rfl⟩
  · simp
  · rw [List.concat_eq_append, List.foldl_append]; exact stp_bd _ _
theorem ret_int {k : IntKind} {a b : Int} (h : a = b) : Ending.returned (.int k a) = .returned (.int k b) := by rw [h]

set_option maxHeartbeats 400000 in
theorem sum_any (s : ByteArray) (w : World) (hs : s.size ≤ maxLen) :
    Calls Tryd.prog 44 #[.string s] w fun e w' => e = .returned (.int .u32 (ksum s.data.toList)) ∧ w' = w := by
  unfold maxLen at hs
  go_enter Tryd.func44, Tryd.ntmps44
  go_wp2
  go_loop [3, 4, 7] (fun h _ j => ∃ k : Nat, k ≤ s.size ∧ j = .int .i64 k ∧ h = .int .u32 (ksum (s.data.toList.take k))) (fun _ _ i => s.size - (intOf i).toNat)
  case atStart => exact ⟨0, Nat.zero_le _, rfl, rfl⟩
  case round =>
    obtain ⟨k, hk, rfl, rfl⟩ := hrel
    by_cases hlt : k < s.size
    · have HS : Hid (ksum (s.data.toList.take (k + 1)) = bits BinOp.xor IntKind.u32 (ksum (s.data.toList.take k)) ((s[k].toNat : Int) % 4294967296) * 16777619 % 4294967296) := by
        rw [snocB s k hlt]; exact ksum_snoc _ _
      go_wp2
      go_round
      case rel => exact ⟨k + 1, by omega, by go_num, by rw [HS.out]⟩
      case measure => simp [intOf]; omega
    · go_wp2
      go_ret
      exact ⟨ret_int (by rw [List.take_of_length_le (by simp; omega)]), rfl⟩
set_option maxHeartbeats 400000 in
theorem slice_any (s : ByteArray) (n : Int) (w : World) (hs : s.size ≤ maxLen) (h1 : 1 ≤ n) (h2 : n ≤ 1000) :
    Calls Tryd.prog 24 #[.string s, .int .i64 n] w fun e w' => e = .returned (.int .i64 (ksum s.data.toList % n)) ∧ w' = w := by
  have hb := ksum_bd s.data.toList
  have hm := Int.emod_nonneg (ksum s.data.toList) (show n ≠ 0 by omega)
  have hm2 := Int.emod_lt_of_pos (ksum s.data.toList) (show 0 < n by omega)
  go_enter Tryd.func24, Tryd.ntmps24
  go_wp2_with (go_at_call 44; refine (sum_any _ _ hs).mono ?_; rintro e w' ⟨rfl, rfl⟩)
  go_ret
  exact ⟨rfl, rfl⟩
end Go.Proofs.YtahhcabmpcjddaaDoor.Pp
/- Contracts of order.Merge. Written by tpl/mk_mrg.py. -/
namespace Go.Proofs.YtahhcabmpcjddaaDoor.Pp
open Go.ChangeShapes Go.WideShapes Go.ChangeAt Go.RowKit
open Stable
/-- A slice value of slices of pairs. -/
def IsLists (w : World) (v : Value) (ls : List (List (ByteArray × Int))) : Prop :=
  ∃ a cap, v = .slice a ls.length cap ∧ ∀ i (h : i < ls.length), ∃ b off u, a = some ⟨b, off, none⟩ ∧ w.cell? ⟨b, off + i, none⟩ = some u ∧ IsPairs w u ls[i]
def lsAt (ls : List (List (ByteArray × Int))) (k : Nat) : List (ByteArray × Int) := ls[k]?.getD []
def flatT (ls : List (List (ByteArray × Int))) (k : Nat) : List (ByteArray × Int) := (ls.take k).flatten
theorem isLists_at {w : World} {ao : Option Addr} {n cap : Nat} {ls : List (List (ByteArray × Int))} (h : IsLists w (.slice ao n cap) ls) (k : Nat) (hk : k < ls.length) : ∃ b off u, ao = some ⟨b, off, none⟩ ∧ w.cell? ⟨b, off + k, none⟩ = some u ∧ IsPairs w u (lsAt ls k) := by
  obtain ⟨a, c, e, hc⟩ := h
  injection e with e1
  obtain ⟨b, off, u, ea, c0, hu⟩ := hc k hk
  refine ⟨b, off, u, e1.trans ea, c0, ?_⟩
  unfold lsAt
  rw [List.getElem?_eq_getElem hk]
  exact hu
theorem flatT_succ (ls : List (List (ByteArray × Int))) (k : Nat) (h : k < ls.length) : flatT ls (k + 1) = flatT ls k ++ lsAt ls k := by
  unfold flatT lsAt
  rw [List.take_succ_eq_append_getElem h, List.flatten_append, List.getElem?_eq_getElem h]
  simp
theorem flatT_le (ls : List (List (ByteArray × Int))) (k : Nat) : (flatT ls k).length ≤ ls.flatten.length := by
  have h : ls.flatten = flatT ls k ++ (ls.drop k).flatten := by unfold flatT; rw [← List.flatten_append, List.take_append_drop]
  rw [h, List.length_append]
  omega
set_option maxRecDepth 100000 in
set_option maxHeartbeats 1000000 in
theorem merge_any (v : Value) (ls : List (List (ByteArray × Int))) (w : World) (h : IsLists w v ls) (hl : ls.length ≤ 1000000) (hs : ls.flatten.length ≤ 1000000) :
    Calls Tryd.prog 30 #[v] w fun e w' => ∃ u Z, e = .returned u ∧ Sorted Z ∧ SE ls.flatten Z ∧ Z.length = ls.flatten.length ∧ IsPairs w' u Z ∧ Below w.heap.size w w' := by
  have H := Lib.hid h
  have HSZ := Lib.hid hs
  obtain ⟨ao, cap, hv, _⟩ := h
  obtain ⟨n, hn⟩ : ∃ n, n = ls.length := ⟨_, rfl⟩
  subst hv
  rw [← hn] at H hl ⊢
  have HN := Lib.hid hn
  clear hn hs
  go_enter Tryd.func30, Tryd.ntmps30
  go_wp2_with fail
  go_loopw [3, 8] (fun av kv wr => ∃ (k : Nat), kv = .int .i64 k ∧ k ≤ n ∧ Below w.heap.size w wr ∧ Hid (wr.ownsRow w.heap.size 61 2 av (flatT ls k).length (cellsP (flatT ls k)))) (fun _ kv _ => n - (intOf kv).toNat)
  case atStart => exact ⟨0, by go_num, Nat.zero_le _, Below.refl _ _, owns_nil _ _⟩
  case round =>
    obtain ⟨k, rfl, hkn, hb, HO⟩ := hrel
    by_cases hlt : k < n
    · obtain ⟨b, off, u, ea, c0, hu⟩ := isLists_at H.out k (by have := HN.out; omega)
      subst ea
      have k0 := (hb.cell (block_lt c0)).trans c0
      have HU := Lib.hid (isPairs_below hu hb)
      obtain ⟨au, cu, eu, _⟩ := hu
      generalize (lsAt ls k).length = nu at eu
      subst eu
      clear c0
      go_wp2_with (at_builtin; refine Hid.out ?_)
      refine Lib.hid ?_
      refine wpList_append_pairs (w0 := w) rfl (.tmp 12) (.tmp 13) rfl _ (flatT ls k) rfl HO.out _ (lsAt ls k) rfl HU.out (by have h1 := flatT_le ls (k + 1); rw [flatT_succ ls k (by have := HN.out; omega), List.length_append] at h1; have := HSZ.out; omega) hb ?_
      intro v2 w2 hown2 hb2
      rw [← flatT_succ ls k (by have := HN.out; omega)] at hown2
      have HO2 := Lib.hid hown2
      clear hown2 k0 HU HO hb
      go_wp2
      go_roundw
      case rel => exact ⟨k + 1, by go_num, by omega, hb2, HO2⟩
      case measure => simp [intOf]; omega
    · have hk : flatT ls k = ls.flatten := by unfold flatT; rw [List.take_of_length_le (by have := HN.out; omega)]
      rw [hk] at HO
      have C1 := Lib.hid (sort_any _ ls.flatten wr (owns_isPairs HO.out) HSZ.out)
      clear HO hk
      go_wp2_with (go_at_call 21; refine Hid.out ?_)
      refine Lib.hid ?_
      refine C1.out.mono ?_
      rintro _ w2 ⟨u, Z, rfl, z1, z2, z3, z4, hb2⟩
      have HB := hb.trans (hb2.mono hb.size)
      have HZ := Lib.hid z3
      clear C1 hb2 z3
      go_wp2
      go_ret
      exact ⟨u, Z, rfl, z1, z2, HZ.out, z4, HB⟩
end Go.Proofs.YtahhcabmpcjddaaDoor.Pp
/- Mapper: a list of lists, each of its own; a run's slices, plain. -/
namespace Go.Proofs.YtahhcabmpcjddaaDoor
open Go.ChangeShapes Go.WideShapes Go.ChangeAt Go.RowKit
/-- In which slice a key lies. -/
def sliceN (many : Int) (k : List UInt8) : Nat := (Pp.ksum k % many).toNat
theorem sliceN_lt {many : Int} (h : 1 ≤ many) (k : List UInt8) : (sliceN many k : Int) = Pp.ksum k % many ∧ sliceN many k < many.toNat := by
  have h1 := Int.emod_nonneg (Pp.ksum k) (show many ≠ 0 by omega)
  have h2 := Int.emod_lt_of_pos (Pp.ksum k) (show 0 < many by omega)
  unfold sliceN
  omega
/-- The pairs of a slice. -/
def inSlice (many : Int) (k : Nat) (l : List (ByteArray × Int)) : List (ByteArray × Int) := l.filter fun p => decide (sliceN many (Pp.Stable.key p) = k)
theorem inSlice_snoc (many : Int) (k : Nat) (l : List (ByteArray × Int)) (p : ByteArray × Int) : inSlice many k (l ++ [p]) = if sliceN many (Pp.Stable.key p) = k then inSlice many k l ++ [p] else inSlice many k l := by
  unfold inSlice
  rw [List.filter_append]
  by_cases h : sliceN many (Pp.Stable.key p) = k
  · rw [if_pos h, List.filter_cons_of_pos (by simp [h])]; rfl
  · rw [if_neg h, List.filter_cons_of_neg (by simp [h])]; simp
/-- Lists, each of its own: the row of them, where each lies; nothing else of what was there has turned. -/
structure SL (w wr : World) (g : Nat) (vs : List Value) (ls : List (List (ByteArray × Int))) : Prop where
  lst : Blk wr g 43 vs
  low : g < w.heap.size
  len : vs.length = ls.length
  each : ∀ (k : Nat) (v : Value) (l : List (ByteArray × Int)), vs[k]? = some v → ls[k]? = some l → wr.ownsRow w.heap.size 61 2 v l.length (Pp.cellsP l)
  apart : ∀ (i j : Nat) (vi vj : Value), i ≠ j → vs[i]? = some vi → vs[j]? = some vj → ∀ g, vi.ownBlock = some g → vj.ownBlock ≠ some g
  only : Only g w wr
theorem SL.below {w wr w' : World} {g : Nat} {vs : List Value} {ls : List (List (ByteArray × Int))} (h : SL w wr g vs ls) (hb : Below wr.heap.size wr w') : SL w w' g vs ls :=
  ⟨h.lst.blw hb, h.low, h.len, fun k v l hv hl => ow_below (h.each k v l hv hl) hb, h.apart, h.only.trans (Only.of_below hb)⟩
theorem only_cell {g : Nat} {w w' : World} {a : Addr} {v : Value} (h : Only g w w') (hc : w.cell? a = some v) (hne : a.block ≠ g) : w'.cell? a = some v := by
  rw [World.cell?_of_block (h.block a.block (World.block_lt_of_cell? w a hc) (fun e => hne (Option.some.inj e)))]
  exact hc
/-- One of them has grown, and stands there anew. -/
theorem SL.put {w wr w' : World} {g i : Nat} {vs : List Value} {ls : List (List (ByteArray × Int))} {v v' : Value} {l l' : List (ByteArray × Int)} (h : SL w wr g vs ls) (hv : vs[i]? = some v) (hl : ls[i]? = some l)
    (ho : w'.ownsRow w.heap.size 61 2 v' l'.length (Pp.cellsP l')) (hg : wr.grownBy w' v.ownBlock) (hat : v'.ownBlock = v.ownBlock ∨ v'.ownBlock = none ∨ ∃ b, v'.ownBlock = some b ∧ wr.heap.size ≤ b) :
    SL w (w'.setCell ⟨g, i, none⟩ v') g (vs.set i v') (ls.set i l') := by
  have hr := h.each i v l hv hl
  have hgw := h.lst.lt
  have lst' : Blk w' g 43 vs := blk_ow h.lst hr (by decide) hg
  have old : ∀ (k : Nat) (u : Value), vs[k]? = some u → ∀ b, u.ownBlock = some b → w.heap.size ≤ b ∧ b < wr.heap.size := fun k u hu b hb => by
    obtain ⟨m, hm⟩ : ∃ m, ls[k]? = some m := ⟨ls[k]'(by rw [← h.len]; exact (List.getElem?_eq_some_iff.1 hu).1), by simp⟩
    exact (h.each k u m hu hm).lt b hb
  refine ⟨lst'.set i v', h.low, by simp [h.len], fun k u m hu hm => ?_, fun a b va vb hab hva hvb q hq => ?_, ?_⟩
  · by_cases e : k = i
    · subst e
      have hk := (List.getElem?_eq_some_iff.1 hv).1
      have hk2 := (List.getElem?_eq_some_iff.1 hl).1
      rw [List.getElem?_set, if_pos rfl, if_pos hk, Option.some.injEq] at hu
      rw [List.getElem?_set, if_pos rfl, if_pos hk2, Option.some.injEq] at hm
      subst hu hm
      exact ow_other ho lst' (by decide)
    · rw [List.getElem?_set, if_neg (fun h => e h.symm)] at hu hm
      have r := h.each k u m hu hm
      have r' : w'.ownsRow w.heap.size 61 2 u m.length (Pp.cellsP m) := r.kept hg (by
        cases hub : u.ownBlock with
        | none => exact .inl rfl
        | some b =>
          right
          intro e2
          exact h.apart k i u v e hu hv b hub e2.symm)
      exact ow_other r' lst' (by decide)
  · rw [List.getElem?_set] at hva hvb
    have newOld : ∀ (k : Nat) (u : Value), k ≠ i → vs[k]? = some u → ∀ q, v'.ownBlock = some q → u.ownBlock ≠ some q := fun k u hk hu q hq e => by
      rcases hat with h1 | h1 | ⟨b, h1, h2⟩
      · rw [h1] at hq
        exact h.apart i k v u (fun e => hk e.symm) hv hu q hq e
      · rw [h1] at hq; cases hq
      · rw [h1] at hq
        injection hq with hq
        have := (old k u hu q e).2
        omega
    by_cases ea : i = a
    · rw [if_pos ea] at hva
      split at hva
      · rw [Option.some.injEq] at hva
        subst hva
        rw [if_neg (by omega)] at hvb
        exact newOld b vb (by omega) hvb q hq
      · cases hva
    · rw [if_neg ea] at hva
      by_cases eb : i = b
      · rw [if_pos eb] at hvb
        split at hvb
        · rw [Option.some.injEq] at hvb
          subst hvb
          intro e
          exact newOld a va (by omega) hva q e hq
        · cases hvb
      · rw [if_neg eb] at hvb
        exact h.apart a b va vb hab hva hvb q hq
  · have b1 : Only g w w' := ⟨hg.os.trans h.only.os, hg.tape.trans h.only.tape, hg.output.trans h.only.output, Nat.le_trans h.only.size hg.size, fun k hk hne => (hg.block k (Nat.lt_of_lt_of_le hk h.only.size) (fun e => by have := (hr.lt k e.symm).1; omega)).trans (h.only.block k hk hne)⟩
    exact b1.setCell i v'
theorem SL.isLists {w wr : World} {g n cap : Nat} {vs : List Value} {ls : List (List (ByteArray × Int))} (h : SL w wr g vs ls) (hn : n = ls.length) : Pp.IsLists wr (.slice (some ⟨g, 0, none⟩) n cap) ls := by
  subst hn
  refine ⟨some ⟨g, 0, none⟩, cap, rfl, fun i hi => ?_⟩
  have hv : vs[i]? = some (vs[i]'(by rw [h.len]; exact hi)) := by simp
  refine ⟨g, 0, _, rfl, ?_, Pp.owns_isPairs (h.each i _ ls[i] hv (by simp))⟩
  rw [Nat.zero_add]
  exact h.lst.at hv
end Go.Proofs.YtahhcabmpcjddaaDoor
/- Contract of fold.Groups, its row its own. -/
namespace Go.Proofs.YtahhcabmpcjddaaDoor.Pp
open Go.ChangeShapes Go.WideShapes Go.ChangeAt Go.RowKit
open Grp
set_option maxRecDepth 100000 in
set_option maxHeartbeats 2000000 in
theorem groups_own (kind : Int) (v : Value) (l : List (ByteArray × Int)) (w : World) (h : IsPairs w v l) (hl : l.length ≤ 1000000) :
    Calls Tryd.prog 23 #[.int .i64 kind, v] w fun e w' => ∃ u, e = .returned u ∧ w'.ownsRow w.heap.size 61 2 u (grp kind l).length (cellsP (grp kind l)) ∧ Below w.heap.size w w' := by
  obtain ⟨ao, cap0, rfl, hc0⟩ := h
  have HC := Lib.hid hc0
  clear hc0
  obtain ⟨n, hn⟩ : ∃ n, n = l.length := ⟨_, rfl⟩
  rw [← hn] at hl ⊢
  have HN := Lib.hid hn
  clear hn
  go_enter Tryd.func23, Tryd.ntmps23
  go_wp2_with fail
  go_loopw [5, 11] (fun gv kv wr => ∃ (k : Nat), kv = .int .i64 k ∧ k ≤ n ∧ Below w.heap.size w wr ∧ Hid (wr.ownsRow w.heap.size 61 2 gv (grp kind (l.take k)).length (cellsP (grp kind (l.take k))))) (fun _ kv _ => n - (intOf kv).toNat)
  case atStart => exact ⟨0, by go_num, Nat.zero_le _, Below.refl _ _, owns_nil _ _⟩
  case round =>
    obtain ⟨k, rfl, hkn, hb, HO⟩ := hrel
    by_cases hlt : k < n
    · have hlt' : k < l.length := by have := HN.out; omega
      obtain ⟨b, off, ea, c0, c1⟩ := HC.out k hlt'
      subst ea
      have HG : Hid (grp kind (l.take (k + 1)) = Grp.step kind (grp kind (l.take k)) l[k]) := by
        show _ = _
        rw [List.take_succ_eq_append_getElem hlt', grp_snoc]
      have hgl : (grp kind (l.take k)).length ≤ k := by
        have h1 := grp_len kind (l.take k)
        have h2 := List.length_take_le k l
        omega
      replace c0 := (hb.cell (block_lt c0)).trans c0
      replace c1 := (hb.cell (block_lt c1)).trans c1
      generalize l[k] = p at c0 c1 HG
      obtain ⟨G, hG⟩ : ∃ G, G = grp kind (l.take k) := ⟨_, rfl⟩
      rw [← hG] at HO HG hgl
      clear hG
      obtain ⟨G2, hG2⟩ : ∃ G2, G2 = grp kind (l.take (k + 1)) := ⟨_, rfl⟩
      rw [← hG2] at HG
      have HG2 := Lib.hid hG2
      clear hG2
      obtain ⟨ps, pv⟩ := p
      rcases List.eq_nil_or_concat G with hG0 | ⟨A, q, hGA⟩
      · subst hG0
        obtain ⟨ga, gc, hgv⟩ : ∃ a c, u5 = .slice a 0 c := by
          rcases owns_row HO.out with ⟨h1, _⟩ | ⟨g, cap, h1, _, _⟩
          · exact ⟨_, _, h1⟩
          · exact ⟨_, _, h1⟩
        subst hgv
        go_wp2
        go_quiet (fail)
        go_wp2_with (at_builtin; refine Hid.out ?_)
        refine Lib.hid ?_
        refine wpList_append_pairs (w0 := w) rfl (.tmp 30) (.tmp 32) rfl _ [] rfl ((owns_drewN (HO.out.alloc _) _).alloc _) (.slice (some ⟨wr.heap.size + 1, 0, none⟩) 1 1) [(ps, pv)] rfl (isPairs_one ps pv _ _ (by simp)) (by simp) (blw_step hb (blw_step (blw_step (blw_box _) (blw_drewN _ _)) (blw_box _))) ?_
        intro v2 w2 hown2 hb2
        have HO2 := Lib.hid hown2
        clear c0 c1 HC HO hown2
        go_wp2
        go_roundw
        case rel => exact ⟨k + 1, by go_num, by omega, hb2, by rw [← HG2.out, HG.out]; exact HO2.out⟩
        case measure => simp [intOf]; omega
      · rw [List.concat_eq_append] at hGA
        subst hGA
        obtain ⟨g, gc, hgv, hbg, hrow⟩ : ∃ g c, u5 = .slice (some ⟨g, 0, none⟩) (A.length + 1) c ∧ w.heap.size ≤ g ∧ Row g (A ++ [q]) wr := by
          rcases owns_row HO.out with ⟨_, h2⟩ | ⟨g, cap, h1, h2, h3⟩
          · simp at h2
          · exact ⟨g, cap, by simpa using h1, h2, h3⟩
        subst hgv
        obtain ⟨q0, q1⟩ := hrow.at A.length (by simp)
        simp only [List.getElem_append_right (Nat.le_refl _), Nat.sub_self, List.getElem_singleton] at q0 q1
        have hgsz := hrow.lt
        have fz := hrow.frozen (A.length * 2 + 1)
        obtain ⟨qs, qv⟩ := q
        simp only at q0 q1
        simp only [List.length_append, List.length_cons, List.length_nil] at hgl
        obtain ⟨m, hm⟩ : ∃ m, m = A.length := ⟨_, rfl⟩
        rw [← hm] at q0 q1 fz hgl
        have HM := Lib.hid hm
        have HO' : Hid (wr.ownsRow w.heap.size 61 2 (.slice (some ⟨g, 0, none⟩) (m + 1) gc) (A ++ [(qs, qv)]).length (cellsP (A ++ [(qs, qv)]))) := by rw [hm]; exact HO.out
        rw [← hm]
        clear hm HO hrow
        have hd0 : decide ((m : Int) < 0) = false := decide_eq_false (by omega)
        by_cases hk : qs = ps
        · subst hk
          have T2 := two_any kind qv pv
          have HG3 : Hid (G2 = A ++ [(qs, two kind qv pv)]) := by
            show _ = _
            rw [HG.out, step_same kind A (qs, qv) (qs, pv) rfl]
          clear HG
          generalize two kind qv pv = x at *
          have HT2 := Lib.hid T2
          clear T2
          go_wp2
          go_quiet (fail)
          go_wp2
          obtain ⟨w1, hw1⟩ : ∃ w1, w1 = (wr.alloc (.cells #[.string qs, .int .i64 pv] 61)).drewN nq := ⟨_, rfl⟩
          have p1 : w1.cell? ⟨wr.heap.size, 1, none⟩ = some (.int .i64 pv) := by rw [hw1]; simp
          have hb1 : Below wr.heap.size wr w1 := by rw [hw1]; exact blw_step (blw_box _) (blw_drewN _ _)
          have HO1 : Hid (w1.ownsRow w.heap.size 61 2 (.slice (some ⟨g, 0, none⟩) (m + 1) gc) (A ++ [(qs, qv)]).length (cellsP (A ++ [(qs, qv)]))) := by rw [hw1]; exact owns_drewN (HO'.out.alloc _) _
          rw [← hw1]
          clear hw1 c0 c1 HC HO'
          replace q1 := (hb1.cell (p := ⟨g, m * 2 + 1, none⟩) hgsz).trans q1
          replace fz := (hb1.frozen (p := ⟨g, m * 2 + 1, none⟩) hgsz).trans fz
          go_region_with (go_at_call 43; refine (HT2.out _).mono ?_; rintro _ _ ⟨rfl, rfl⟩)
          all_goals
            have HO2 : Hid ((w1.setCell ⟨g, m * 2 + 1, none⟩ (.int .i64 x)).drew.ownsRow w.heap.size 61 2 (.slice (some ⟨g, 0, none⟩) (m + 1) gc) (A ++ [(qs, x)]).length (cellsP (A ++ [(qs, x)]))) := by
              have h1 := owns_val HO1.out x
              rw [← HM.out] at h1
              exact ⟨h1.1, h1.2⟩
            have hb2 : Below w.heap.size w (w1.setCell ⟨g, m * 2 + 1, none⟩ (.int .i64 x)).drew := blw_drew ((blw_step hb hb1).setCell hbg _)
            clear q1 fz p1 HO1
            generalize (w1.setCell ⟨g, m * 2 + 1, none⟩ (.int .i64 x)).drew = w2 at *
            go_wp2
            go_roundw
            case rel => exact ⟨k + 1, by go_num, by omega, hb2, by rw [← HG2.out, HG3.out]; exact HO2.out⟩
            case measure => simp [intOf]; omega
        · have hE := neq_list hk
          have HG3 : Hid (G2 = A ++ [(qs, qv)] ++ [(ps, pv)]) := by
            show _ = _
            rw [HG.out, step_other kind A (qs, qv) (ps, pv) hk]
          clear HG
          go_wp2
          go_quiet (fail)
          go_wp2_with (at_builtin; refine Hid.out ?_)
          refine Lib.hid ?_
          refine wpList_append_pairs (w0 := w) rfl (.tmp 30) (.tmp 32) rfl _ (A ++ [(qs, qv)]) rfl ((owns_drewN (HO'.out.alloc _) _).alloc _) (.slice (some ⟨wr.heap.size + 1, 0, none⟩) 1 1) [(ps, pv)] rfl (isPairs_one ps pv _ _ (by simp)) (by have := HM.out; simp; omega) (blw_step hb (blw_step (blw_step (blw_box _) (blw_drewN _ _)) (blw_box _))) ?_
          intro v2 w2 hown2 hb2
          have HO2 := Lib.hid hown2
          clear c0 c1 HC HO' hown2 q0 q1 fz hE hk hgsz hbg
          go_wp2
          go_roundw
          case rel => exact ⟨k + 1, by go_num, by omega, hb2, by rw [← HG2.out, HG3.out]; exact HO2.out⟩
          case measure => simp [intOf]; omega
    · have hfin : Hid (wr.ownsRow w.heap.size 61 2 u5 (grp kind l).length (cellsP (grp kind l))) := by
        have h1 := HO.out
        rw [List.take_of_length_le (by have := HN.out; omega)] at h1
        exact h1
      clear HC HO
      go_wp2
      go_ret
      exact ⟨_, rfl, hfin.out, hb⟩
end Go.Proofs.YtahhcabmpcjddaaDoor.Pp
