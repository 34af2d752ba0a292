/- Put together of JbC, XJ. -/
import Derived.Test.YtfjpgjkfmcedoaaGreatDoorJb
import Derived.Test.YtfjpgjkfmcedoaaGreatDoorG6
/- Contracts of checkRule, job.Check and LightJob. Written by tpl/mk_jbc.py. -/
namespace Go.Proofs.YtfjpgjkfmcedoaaGreatDoor
open Go.ChangeShapes Go.WideShapes Go.ChangeAt Go.RowKit
set_option maxRecDepth 100000 in
set_option maxHeartbeats 1000000 in
theorem checkRule_any (r : Rl) (si sk sv : Value) (w : World) (xi : IsEx w si r.iff) (xk : IsEx w sk r.key) (xv : IsEx w sv r.val) (hw : r.wt ≤ 1000000000) (E : EnvS w) :
    Calls Tryz.prog 17 #[r.value si sk sv] w fun v w' => v = .returned (errV (ruleFault r)) ∧ Below w.heap.size w w' := by
  obtain ⟨ai, ci, rfl⟩ := xi.slice
  obtain ⟨ak, ck, rfl⟩ := xk.slice
  obtain ⟨av, cv, rfl⟩ := xv.slice
  have hw2 := hw
  unfold Rl.wt at hw2
  have CW := Lib.hid (fun w (x1 : IsEx w (.slice ai r.iff.a.length ci) r.iff) (x2 : IsEx w (.slice ak r.key.a.length ck) r.key) (x3 : IsEx w (.slice av r.val.a.length cv) r.val) E => checkWhen_any r _ _ _ w x1 x2 x3 hw E)
  have CK := Lib.hid (fun w (h : IsEx w (.slice ak r.key.a.length ck) r.key) E => check_any h (by omega) true r.each E)
  have CV := Lib.hid (fun w (h : IsEx w (.slice av r.val.a.length cv) r.val) E => check_any h (by omega) false r.each E)
  have XI := Lib.hid xi
  have XK := Lib.hid xk
  have XV := Lib.hid xv
  have HE := Lib.hid E
  clear xi xk xv E hw hw2
  unfold Rl.value at CW ⊢
  unfold Ex.val at CK CV
  obtain ⟨R, hR⟩ : ∃ R : Nat, R = ruleFault r := ⟨_, rfl⟩
  rw [← hR]
  unfold ruleFault at hR
  have HR := Lib.hid hR
  clear hR
  generalize whenFault r = f1 at *
  generalize faultE r.key true r.each = f2 at *
  generalize faultE r.val false r.each = f3 at *
  go_enter Tryz.func17, Tryz.ntmps17
  go_wp2_with (go_at_call 34; refine Hid.out ?_)
  refine Lib.hid ?_
  refine (CW.out _ (XI.out.lower (below_box _)) (XK.out.lower (below_box _)) (XV.out.lower (below_box _)) (HE.out.lower (below_box _))).mono ?_
  rintro _ w2 ⟨rfl, hb2⟩
  have k0 := cell_below (a := ⟨w.heap.size, 0, none⟩) (v := .bool r.each) (by simp) hb2
  have k7 := cell_below (a := ⟨w.heap.size, 7, none⟩) (v := .int .i64 r.key.k) (by simp) hb2
  have k8 := cell_below (a := ⟨w.heap.size, 8, none⟩) (v := .int .i64 r.key.n) (by simp) hb2
  have k9 := cell_below (a := ⟨w.heap.size, 9, none⟩) (v := .string (bs r.key.s)) (by simp) hb2
  have k10 := cell_below (a := ⟨w.heap.size, 10, none⟩) (v := .slice ak r.key.a.length ck) (by simp) hb2
  have k11 := cell_below (a := ⟨w.heap.size, 11, none⟩) (v := .int .i64 r.val.k) (by simp) hb2
  have k12 := cell_below (a := ⟨w.heap.size, 12, none⟩) (v := .int .i64 r.val.n) (by simp) hb2
  have k13 := cell_below (a := ⟨w.heap.size, 13, none⟩) (v := .string (bs r.val.s)) (by simp) hb2
  have k14 := cell_below (a := ⟨w.heap.size, 14, none⟩) (v := .slice av r.val.a.length cv) (by simp) hb2
  have hb := below_trans (below_box _) hb2
  clear hb2
  rcases (errV_cases f1).symm with ⟨h0, hv⟩ | ⟨h0, hv⟩
  · rw [hv]
    go_wp2
    go_ret
    exact ⟨by rw [HR.out, if_pos h0, hv]; rfl, hb⟩
  rw [hv]
  have HR1 : Hid (R = if f2 ≠ 0 then f2 else f3) := by
    show R = _
    have h1 := HR.out
    rw [if_neg (by simpa using h0)] at h1
    exact h1
  clear HR h0 hv
  go_wp2_with (go_at_call 35; refine Hid.out ?_)
  refine Lib.hid ?_
  refine (CK.out _ (XK.out.lower hb) (HE.out.lower hb)).mono ?_
  rintro _ w3 ⟨rfl, hb3⟩
  replace k0 := cell_below k0 hb3
  replace k11 := cell_below k11 hb3
  replace k12 := cell_below k12 hb3
  replace k13 := cell_below k13 hb3
  replace k14 := cell_below k14 hb3
  replace hb := below_trans hb hb3
  clear hb3 k7 k8 k9 k10
  rcases (errV_cases f2).symm with ⟨h0, hv⟩ | ⟨h0, hv⟩
  · rw [hv]
    go_wp2
    go_ret
    exact ⟨by rw [HR1.out, if_pos h0, hv]; rfl, hb⟩
  rw [hv]
  have HR2 : Hid (R = f3) := by
    show R = _
    have h1 := HR1.out
    rw [if_neg (by simpa using h0)] at h1
    exact h1
  clear HR1 h0 hv
  go_wp2_with (go_at_call 35; refine Hid.out ?_)
  refine Lib.hid ?_
  refine (CV.out _ (XV.out.lower hb) (HE.out.lower hb)).mono ?_
  rintro _ w4 ⟨rfl, hb4⟩
  go_wp2
  go_ret
  exact ⟨by rw [HR2.out]; rfl, below_trans hb hb4⟩
theorem rulesFault_at {l : List Rl} : ∀ {i : Nat} {x : Rl}, l[i]? = some x → rulesFault (l.take i) = 0 → rulesFault (l.take (i + 1)) = ruleFault x ∧ (ruleFault x ≠ 0 → rulesFault l = ruleFault x) := by
  induction l with
  | nil => intro i x hx; simp at hx
  | cons y l ih =>
    intro i x hx h0
    cases i with
    | zero =>
      simp at hx
      subst hx
      simp only [List.take_succ_cons, List.take_zero, rulesFault]
      refine ⟨?_, fun h => if_pos h⟩
      by_cases h : ruleFault y = 0
      · simp [h]
      · simp [h]
    | succ i =>
      simp only [List.getElem?_cons_succ] at hx
      simp only [List.take_succ_cons, rulesFault] at h0 ⊢
      by_cases h : ruleFault y ≠ 0
      · rw [if_pos h] at h0; exact absurd h0 h
      · rw [if_neg h] at h0 ⊢
        rw [if_neg h]
        exact ih hx h0

set_option maxRecDepth 100000 in
set_option maxHeartbeats 2000000 in
theorem jobCheck_any (j : Jb) (rv : Value) (w : World) (h : IsRules w rv j.rules) (hw : rulesWt j.rules ≤ 1000000000) (E : EnvS w) :
    Calls Tryz.prog 8 #[j.value rv] w fun v w' => v = .returned (errV (jobFault j)) ∧ Below w.heap.size w w' := by
  obtain ⟨l, fo, ea', sl⟩ := j
  simp only [Jb.value] at *
  obtain ⟨a, cap, b, off, AI, AK, AV, rfl, ha, hc⟩ := h
  have hl := rules_len l
  have HA := Lib.hid ha
  have HC := Lib.hid hc
  have HE := Lib.hid E
  clear ha hc E
  obtain ⟨R, hR⟩ : ∃ R : Nat, R = jobFault ⟨l, fo, ea', sl⟩ := ⟨_, rfl⟩
  rw [← hR]
  simp only [jobFault] at hR
  have HR := Lib.hid hR
  clear hR
  by_cases h1 : l.length < 1
  · go_enter Tryz.func8, Tryz.ntmps8
    go_wp2
    go_ret
    exact ⟨by rw [HR.out, if_pos (.inl h1)]; rfl, below_box _⟩
  by_cases h2 : 4 < l.length
  · go_enter Tryz.func8, Tryz.ntmps8
    go_wp2
    go_ret
    exact ⟨by rw [HR.out, if_pos (.inr h2)]; rfl, below_box _⟩
  by_cases h3 : fo < 1
  · go_enter Tryz.func8, Tryz.ntmps8
    go_wp2
    go_ret
    exact ⟨by rw [HR.out, if_neg (by omega), if_pos (.inl h3)]; rfl, below_box _⟩
  by_cases h4 : 4 < fo
  · go_enter Tryz.func8, Tryz.ntmps8
    go_wp2
    go_ret
    exact ⟨by rw [HR.out, if_neg (by omega), if_pos (.inr h4)]; rfl, below_box _⟩
  by_cases h5 : sl < 1
  · go_enter Tryz.func8, Tryz.ntmps8
    go_wp2
    go_ret
    exact ⟨by rw [HR.out, if_neg (by omega), if_neg (by omega), if_pos (.inl h5)]; rfl, below_box _⟩
  by_cases h6 : 4 < sl
  · go_enter Tryz.func8, Tryz.ntmps8
    go_wp2
    go_ret
    exact ⟨by rw [HR.out, if_neg (by omega), if_neg (by omega), if_pos (.inr h6)]; rfl, below_box _⟩
  have HR2 : Hid (R = rulesFault l) := by
    show R = _
    have h0 := HR.out
    rw [if_neg (by omega), if_neg (by omega), if_neg (by omega)] at h0
    exact h0
  clear HR
  have hb0 : Hid (Below w.heap.size w w) := Below.refl _ _
  go_enter Tryz.func8, Tryz.ntmps8
  go_wp2
  go_loopw [35] (fun iv wr => ∃ i : Nat, i ≤ l.length ∧ iv = .int .i64 i ∧ Hid (rulesFault (l.take i) = 0) ∧ Below w.heap.size w wr) (fun iv _ => l.length - (intOf iv).toNat)
  case atStart => exact ⟨0, Nat.zero_le _, rfl, (show rulesFault _ = 0 from rfl), below_box _⟩
  case round =>
    obtain ⟨i, hi, rfl, hz, hbr⟩ := hrel
    by_cases hlt : i < l.length
    · skip
      obtain ⟨x, hx⟩ : ∃ x, l[i]? = some x := ⟨l[i]'(by omega), by simp⟩
      have ea := HA.out (by omega)
      subst ea
      have hbw := below_trans hb0.out hbr
      obtain ⟨⟨c0, c1, c2, c3, c4, c5, c6, c7, c8, c9, c10, c11, c12, c13, c14⟩, xi, xk, xv⟩ := HC.out i x hx
      obtain ⟨ai, ci, ei⟩ := xi.slice
      obtain ⟨ak, ck, ek⟩ := xk.slice
      obtain ⟨av, cv, ev⟩ := xv.slice
      rw [ei] at c5 xi
      rw [ek] at c10 xk
      rw [ev] at c14 xv
      replace c0 := cell_below c0 hbw
      replace c1 := cell_below c1 hbw
      replace c2 := cell_below c2 hbw
      replace c3 := cell_below c3 hbw
      replace c4 := cell_below c4 hbw
      replace c5 := cell_below c5 hbw
      replace c6 := cell_below c6 hbw
      replace c7 := cell_below c7 hbw
      replace c8 := cell_below c8 hbw
      replace c9 := cell_below c9 hbw
      replace c10 := cell_below c10 hbw
      replace c11 := cell_below c11 hbw
      replace c12 := cell_below c12 hbw
      replace c13 := cell_below c13 hbw
      replace c14 := cell_below c14 hbw
      have XI := Lib.hid (xi.lower hbw)
      have XK := Lib.hid (xk.lower hbw)
      have XV := Lib.hid (xv.lower hbw)
      clear xi xk xv ei ek ev
      have hxw := rule_wt hx
      have hal := below_box (w := wr) (.cells #[.bool x.each, .int .i64 x.when, .int .i64 x.iff.k, .int .i64 x.iff.n, .string (bs x.iff.s), .slice ai x.iff.a.length ci, .string (bs x.s), .int .i64 x.key.k, .int .i64 x.key.n, .string (bs x.key.s), .slice ak x.key.a.length ck, .int .i64 x.val.k, .int .i64 x.val.n, .string (bs x.val.s), .slice av x.val.a.length cv] 46)
      have I := Lib.hid (checkRule_any x _ _ _ _ (XI.out.lower hal) (XK.out.lower hal) (XV.out.lower hal) (by omega) (HE.out.lower (below_trans hbw hal)))
      have HN := Lib.hid (rulesFault_at hx hz.out)
      have HAL := Lib.hid hal
      clear hx hal XI XK XV
      unfold Rl.value at I
      generalize ruleFault x = f at *
      go_wp2_with (go_at_call 17; refine Hid.out ?_)
      refine Lib.hid ?_
      refine I.out.mono ?_
      rintro _ w2 ⟨rfl, hb2⟩
      have hb3 := below_trans hbr (below_trans HAL.out hb2)
      clear I hb2 HAL c0 c1 c2 c3 c4 c5 c6 c7 c8 c9 c10 c11 c12 c13 c14
      rcases (errV_cases f).symm with ⟨h0, hv⟩ | ⟨h0, hv⟩
      · rw [hv]
        go_wp2
        go_ret
        exact ⟨by rw [HR2.out, HN.out.2 h0, hv]; rfl, hb3⟩
      rw [hv]
      have hz2 : Hid (rulesFault (l.take (i + 1)) = 0) := HN.out.1.trans h0
      clear HN h0 hv
      go_wp2
      go_roundw
      case rel => exact ⟨i + 1, by omega, by go_num, hz2, hb3⟩
      case measure => simp [intOf]; omega
    · have hz3 : Hid (rulesFault l = 0) := by
        have h0 := hz.out
        rw [List.take_of_length_le (by omega)] at h0
        exact h0
      go_wp2
      go_ret
      exact ⟨by rw [HR2.out, hz3.out]; rfl, hbr⟩
end Go.Proofs.YtfjpgjkfmcedoaaGreatDoor
/- Contract of job.Text: a job's text. -/
namespace Go.Proofs.YtfjpgjkfmcedoaaGreatDoor
open Go.ChangeShapes Go.WideShapes Go.ChangeAt Go.RowKit
/-- The rules' lines; a job's text. -/
def rulesL (l : List Rl) : List UInt8 := (l.map ruleL).flatten
def jobL (j : Jb) : List UInt8 := headL j ++ rulesL j.rules
def Rl.fit (r : Rl) : Prop := r.iff.fit ∧ r.key.fit ∧ r.val.fit
theorem rulesL_take {l : List Rl} {i : Nat} {x : Rl} (hx : l[i]? = some x) : rulesL (l.take (i + 1)) = rulesL (l.take i) ++ ruleL x := by
  unfold rulesL
  rw [take_snoc hx]; simp
theorem rulesWt_take {l : List Rl} {i : Nat} {x : Rl} (hx : l[i]? = some x) : rulesWt (l.take (i + 1)) = rulesWt (l.take i) + x.wt := by
  unfold rulesWt
  rw [take_snoc hx]; simp
theorem rulesWt_le (l : List Rl) (i : Nat) : rulesWt (l.take i) ≤ rulesWt l := by
  unfold rulesWt
  conv => rhs; rw [← List.take_append_drop i l, List.map_append, List.sum_append]
  omega
theorem ruleL_len (r : Rl) (hf : r.fit) : (ruleL r).length ≤ 44 * r.wt := by
  have a := txt_len r.iff hf.1
  have b := txt_len r.key hf.2.1
  have c := txt_len r.val hf.2.2
  have a2 := cnt_wt r.iff
  have b2 := cnt_wt r.key
  have c2 := cnt_wt r.val
  have q := quoL_len r.s
  have h1 : (ruleHd r).length ≤ 15 + 44 * r.iff.wt + 2 * r.s.length := by
    unfold ruleHd quoteL
    split <;> split <;> (try split) <;> simp only [List.length_append, List.length_cons, List.length_nil] <;> omega
  unfold ruleL Rl.wt
  simp only [List.length_append, List.length_cons, List.length_nil]; omega
theorem headL_len (j : Jb) (h0 : -9223372036854775808 ≤ j.slices) (h1 : j.slices ≤ 9223372036854775807) : (headL j).length ≤ 60 := by
  have a := foldL_len j.fold.toNat
  have b := Lib.itoa_length_le j.slices h0 h1
  unfold headL
  split <;> simp only [List.length_append, List.length_cons, List.length_nil] <;> omega
/-- What job.Text answers: a text, a fault. -/
def textJ (j : Jb) : List UInt8 × Nat := if jobFault j ≠ 0 then ([], jobFault j) else if 800 < (jobL j).length then ([], 2) else (jobL j, 0)
theorem fault_in {j : Jb} (h : jobFault j = 0) : 1 ≤ j.fold ∧ j.fold ≤ 4 ∧ 1 ≤ j.slices ∧ j.slices ≤ 4 := by
  unfold jobFault at h
  split at h
  · omega
  · split at h
    · omega
    · split at h
      · omega
      · omega
set_option maxRecDepth 100000 in
set_option maxHeartbeats 2000000 in
theorem jobText_any (j : Jb) (rv : Value) (w : World) (h : IsRules w rv j.rules) (hw : rulesWt j.rules ≤ 1100000) (E : EnvJ w) (hf : ∀ (i : Nat) x, j.rules[i]? = some x → x.fit) :
    Calls Tryz.prog 9 #[j.value rv] w fun v w' => v = .returned (.tuple #[.string (bs (textJ j).1), errV (textJ j).2]) ∧ Below w.heap.size w w' := by
  have hlen := rules_len j.rules
  obtain ⟨a, cap, hrv⟩ := h.slice
  subst hrv
  have CK := Lib.hid (fun w h E => jobCheck_any j (.slice a j.rules.length cap) w h (by omega) E)
  have HT := Lib.hid (fun w E h1 h2 h3 h4 => headText_any j a j.rules.length cap w E h1 h2 h3 h4)
  have HI := Lib.hid h
  have HE := Lib.hid E
  have HF := Lib.hid hf
  clear h E hf
  obtain ⟨R, hR⟩ : ∃ R, R = textJ j := ⟨_, rfl⟩
  rw [← hR]
  have HR := Lib.hid hR
  clear hR
  unfold Jb.value at CK HT ⊢
  obtain ⟨w1, hw1⟩ : ∃ w1, w1 = w.alloc (.cells #[.slice a j.rules.length cap, .int .i64 j.fold, .bool j.early, .int .i64 j.slices] 24) := ⟨_, rfl⟩
  have hb1 : Below w.heap.size w w1 := by rw [hw1]; exact below_box _
  have k0 : w1.cell? ⟨w.heap.size, 0, none⟩ = some (.slice a j.rules.length cap) := by rw [hw1]; simp
  have k1 : w1.cell? ⟨w.heap.size, 1, none⟩ = some (.int .i64 j.fold) := by rw [hw1]; simp
  have k2 : w1.cell? ⟨w.heap.size, 2, none⟩ = some (.bool j.early) := by rw [hw1]; simp
  have k3 : w1.cell? ⟨w.heap.size, 3, none⟩ = some (.int .i64 j.slices) := by rw [hw1]; simp
  have HW1 := Lib.hid hw1
  clear hw1
  go_enter Tryz.func9, Tryz.ntmps9
  go_wp2_with (go_at_call 8; refine Hid.out ?_)
  rw [← HW1.out]
  refine Lib.hid ?_
  refine (CK.out _ (HI.out.lower hb1) (HE.out.lower hb1).toEnvT.toEnvS).mono ?_
  rintro _ w2 ⟨rfl, hb2⟩
  replace k0 := cell_below k0 hb2
  replace k1 := cell_below k1 hb2
  replace k2 := cell_below k2 hb2
  replace k3 := cell_below k3 hb2
  have hb02 := below_trans hb1 hb2
  rcases (errV_cases (jobFault j)).symm with ⟨h0, hv⟩ | ⟨h0, hv⟩
  · have HV := Lib.hid hv
    rw [hv]
    clear hv
    go_wp2
    go_ret2
    exact ⟨by rw [HR.out, textJ, if_pos h0, HV.out]; rfl, hb02⟩
  rw [hv]
  clear hv
  have H0 := Lib.hid h0
  have hq := fault_in h0
  clear h0
  go_wp2_with (go_at_call 18; refine Hid.out ?_)
  refine Lib.hid ?_
  refine (HT.out _ (HE.out.lower hb02) hq.1 hq.2.1 hq.2.2.1 hq.2.2.2).mono ?_
  rintro _ w3 ⟨rfl, hb3⟩
  replace k0 := cell_below k0 hb3
  have hb03 := below_trans hb02 hb3
  have hhl := headL_len j (by omega) (by omega)
  obtain ⟨H, hH⟩ : ∃ H, H = headL j := ⟨_, rfl⟩
  rw [← hH] at hhl ⊢
  have HH := Lib.hid hH
  clear hH
  obtain ⟨l, fo, er, sl⟩ := j
  simp only at *
  obtain ⟨a', cap', b, off, AI, AK, AV, hsl, ha, hc⟩ := HI.out
  have hsl2 : a = a' ∧ cap = cap' := by simpa using hsl
  obtain ⟨rfl, rfl⟩ := hsl2
  have HA := Lib.hid ha
  have HC := Lib.hid hc
  have HB0 : Hid (Below w.heap.size w w) := Below.refl _ _
  clear ha hc hsl HI CK HT
  go_wp2
  go_loopw [5, 18] (fun tv iv wr => ∃ (i : Nat) (T : List UInt8), i ≤ l.length ∧ iv = .int .i64 i ∧ tv = .string (bs T) ∧ Hid (T = H ++ rulesL (l.take i)) ∧ T.length ≤ 60 + 44 * rulesWt (l.take i) ∧ Below w.heap.size w wr) (fun _ iv _ => l.length - (intOf iv).toNat)
  case atStart => exact ⟨0, H, Nat.zero_le _, rfl, rfl, (by simp [rulesL] : _ = _), by omega, hb03⟩
  case round =>
    obtain ⟨i, T, hi, rfl, rfl, hT, hTl, hbr⟩ := hrel
    have hwl := rulesWt_le l i
    by_cases hlt : i < l.length
    · skip
      obtain ⟨x, hx⟩ : ∃ x, l[i]? = some x := ⟨l[i]'(by omega), by simp⟩
      have ea := HA.out (by omega)
      subst ea
      have hbw := below_trans HB0.out hbr
      obtain ⟨⟨c0, c1, c2, c3, c4, c5, c6, c7, c8, c9, c10, c11, c12, c13, c14⟩, xi, xk, xv⟩ := HC.out i x hx
      obtain ⟨ai, ci, ei⟩ := xi.slice
      obtain ⟨ak, ck, ek⟩ := xk.slice
      obtain ⟨av, cv, ev⟩ := xv.slice
      rw [ei] at c5 xi
      rw [ek] at c10 xk
      rw [ev] at c14 xv
      replace c0 := cell_below c0 hbw
      replace c1 := cell_below c1 hbw
      replace c2 := cell_below c2 hbw
      replace c3 := cell_below c3 hbw
      replace c4 := cell_below c4 hbw
      replace c5 := cell_below c5 hbw
      replace c6 := cell_below c6 hbw
      replace c7 := cell_below c7 hbw
      replace c8 := cell_below c8 hbw
      replace c9 := cell_below c9 hbw
      replace c10 := cell_below c10 hbw
      replace c11 := cell_below c11 hbw
      replace c12 := cell_below c12 hbw
      replace c13 := cell_below c13 hbw
      replace c14 := cell_below c14 hbw
      have XI := Lib.hid (xi.lower hbw)
      have XK := Lib.hid (xk.lower hbw)
      have XV := Lib.hid (xv.lower hbw)
      clear xi xk xv ei ek ev
      have hxw := rule_wt hx
      have hfx := HF.out i x hx
      have hal := below_box (w := wr) (.cells #[.bool x.each, .int .i64 x.when, .int .i64 x.iff.k, .int .i64 x.iff.n, .string (bs x.iff.s), .slice ai x.iff.a.length ci, .string (bs x.s), .int .i64 x.key.k, .int .i64 x.key.n, .string (bs x.key.s), .slice ak x.key.a.length ck, .int .i64 x.val.k, .int .i64 x.val.n, .string (bs x.val.s), .slice av x.val.a.length cv] 46)
      have I := Lib.hid (ruleText_any x _ _ _ _ (XI.out.lower hal) (XK.out.lower hal) (XV.out.lower hal) (by omega) (HE.out.lower (below_trans hbw hal)).toEnvT hfx)
      have hxl := ruleL_len x hfx
      have hwt := rulesWt_take hx
      have HT2 : Hid (T ++ ruleL x = H ++ rulesL (l.take (i + 1))) := by
        show _ = _
        rw [rulesL_take hx, hT.out]; simp
      have HAL := Lib.hid hal
      clear hx hal XI XK XV HA HC HF
      unfold Rl.value at I
      generalize ruleL x = Z at *
      have z1 := bs_size Z
      have z2 := bs_size T
      have n5 : ¬ 9223372036854775807 < (bs T).size + (bs Z).size := by omega
      have hTZ : (T ++ Z).length ≤ 60 + 44 * rulesWt (l.take (i + 1)) := by simp only [List.length_append]; omega
      have HTZ := Lib.hid hTZ
      have HJ : Hid (bs T ++ bs Z = bs (T ++ Z)) := bs_append T Z
      clear hTZ z1 z2 hwt hxl hwl hTl
      go_wp2_with (go_at_call 19; refine Hid.out ?_)
      refine Lib.hid ?_
      refine I.out.mono ?_
      rintro _ w9 ⟨rfl, hb9⟩
      have hb09 := below_trans hbr (below_trans HAL.out hb9)
      go_wp2
      go_roundw
      case rel => exact ⟨i + 1, T ++ Z, by omega, by go_num, by rw [← HJ.out], HT2, HTZ.out, hb09⟩
      case measure => simp [intOf]; omega
    · have z2 := bs_size T
      have HTA : Hid (T = jobL ⟨l, fo, er, sl⟩) := by
        show _ = _
        have := hT.out
        rw [List.take_of_length_le (by omega), HH.out] at this
        exact this
      have hTm : T.length ≤ 60000000 := by omega
      by_cases h8 : 800 < (bs T).size
      · go_wp2
        go_ret2
        exact ⟨by rw [HR.out, textJ, if_neg (by simp [H0.out]), if_pos (by rw [← HTA.out]; omega)]; rfl, hbr⟩
      · go_wp2
        go_ret2
        exact ⟨by rw [HR.out, textJ, if_neg (by simp [H0.out]), if_neg (by rw [← HTA.out]; omega), ← HTA.out]; rfl, hbr⟩
end Go.Proofs.YtfjpgjkfmcedoaaGreatDoor
