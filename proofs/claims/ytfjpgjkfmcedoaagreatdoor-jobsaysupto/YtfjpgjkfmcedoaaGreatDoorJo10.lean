/- The walk of the law JobSays. Written by tpl/mk_jo10.py. -/
import Derived.Test.YtfjpgjkfmcedoaaGreatDoorJo9
import Derived.Test.YtfjpgjkfmcedoaaGreatDoorSameJ
import Derived.Test.YtfjpgjkfmcedoaaGreatDoorRdP
import Derived.Test.YtfjpgjkfmcedoaaGreatDoorG17
import Derived.Test.YtfjpgjkfmcedoaaGreatDoorG18
namespace Go.Proofs.YtfjpgjkfmcedoaaGreatDoor
open Go.ChangeShapes Go.WideShapes Go.ChangeAt Go.RowKit
open SameJ
/-- The text that the closed fact reads, and the job whose text it is. -/
def textC : List UInt8 := [99, 111, 117, 110, 116, 32, 49, 10, 101, 97, 99, 104, 32, 107, 101, 121, 32, 105, 116, 32, 118, 97, 108, 32, 110, 117, 109, 32, 49, 10]
def jobC0 : Jb := ⟨[⟨true, 0, .mk 0 0 [] [], [], .mk 1 0 [] [], .mk 7 1 [] []⟩], 4, false, 1⟩
theorem textC_is : textJ jobC0 = (textC, 0) := by kernel_rfl
set_option maxRecDepth 100000 in
set_option maxHeartbeats 4000000 in
theorem jobs_any (w : World) (E : EnvR w) :
    Calls Tryz.prog 4 #[] w fun e w' => e = .returned (.bool true) ∧ Below w.heap.size w w' := by
  have HE := Lib.hid E
  have ht0 : bs textC = ⟨#[99, 111, 117, 110, 116, 32, 49, 10, 101, 97, 99, 104, 32, 107, 101, 121, 32, 105, 116, 32, 118, 97, 108, 32, 110, 117, 109, 32, 49, 10]⟩ := rfl
  have P1 := Lib.hid (parse_any textC w E (by decide))
  have hlt : textC.length = 30 := rfl
  rw [ht0] at P1
  have SM : Hid (∀ w, Calls Tryz.prog 7 #[.nilIface, .int .i64 0] w fun e w' => e = .returned (.bool true) ∧ w' = w) := fun w => same_any 0 w
  clear E
  go_enter Tryz.func4, Tryz.ntmps4
  go_wp2_with (go_at_call 11; refine Hid.out ?_)
  refine Lib.hid ?_
  refine P1.out.mono ?_
  rintro _ w2 ⟨⟨j0, rv0, rfl, hI0, _, _, _, _, hU0⟩ | ⟨_, hno⟩, hb2⟩
  · obtain rfl : j0 = jobC0 := hU0 jobC0 textC_is
    obtain ⟨a0, cap0, hrv0⟩ := hI0.slice
    subst hrv0
    have ev0 : Jb.value jobC0 (.slice a0 jobC0.rules.length cap0) = .agg #[.slice a0 1 cap0, .int .i64 4, .bool false, .int .i64 1] := rfl
    have TX : Hid (∀ w', Below w2.heap.size w2 w' → Calls Tryz.prog 9 #[.agg #[.slice a0 1 cap0, .int .i64 4, .bool false, .int .i64 1]] w' fun v w'' => v = .returned (.tuple #[.string ⟨#[99, 111, 117, 110, 116, 32, 49, 10, 101, 97, 99, 104, 32, 107, 101, 121, 32, 105, 116, 32, 118, 97, 108, 32, 110, 117, 109, 32, 49, 10]⟩, .nilIface]) ∧ Below w'.heap.size w' w'') := by
      intro w' hb
      have h := jobText_any jobC0 (.slice a0 jobC0.rules.length cap0) w' (hI0.lower hb) (by decide +kernel) (HE.out.lower (below_trans hb2 hb)).toEnvJ (by
        intro i x hx
        have e : i = 0 ∧ x = ⟨true, 0, .mk 0 0 [] [], [], .mk 1 0 [] [], .mk 7 1 [] []⟩ := by
          cases i with
          | zero => exact ⟨rfl, (Option.some.inj hx).symm⟩
          | succ i => simp [jobC0] at hx
        rw [e.2]
        exact ⟨⟨⟨by omega, by omega⟩, trivial⟩, ⟨⟨by omega, by omega⟩, trivial⟩, ⟨by omega, by omega⟩, trivial⟩)
      rw [textC_is] at h
      exact h
    rw [ev0]
    clear hI0 hU0 ev0 P1 HE
    obtain ⟨w3, hw3⟩ : ∃ w3, w3 = w2.alloc (.cells #[.slice a0 1 cap0, .int .i64 4, .bool false, .int .i64 1] 24) := ⟨_, rfl⟩
    obtain ⟨X, hX⟩ : ∃ X, X = w2.heap.size := ⟨_, rfl⟩
    have hb3 : Below w2.heap.size w2 w3 := by rw [hw3]; exact below_box _
    have R3 : Hid (w3.heap[X]? = some (.cells #[.slice a0 1 cap0, .int .i64 4, .bool false, .int .i64 1] 24 (0, 0))) := by show _ = _; rw [hw3, hX]; exact row_new _ _ _
    have TX3 := Lib.hid (TX.out w3 hb3)
    have HW3 := Lib.hid hw3
    have HX := Lib.hid hX
    have hb03 := Lib.hid (below_trans hb2 hb3)
    clear hw3 hX TX hb2 hb3
    go_upto_region 3 with fail
    rw [← HW3.out, ← HX.out]
    clear HW3 HX
    have k0 := row_at R3.out (i := 0) (v := .slice a0 1 cap0) rfl
    have k1 := row_at R3.out (i := 1) (v := .int .i64 4) rfl
    have k2 := row_at R3.out (i := 2) (v := .bool false) rfl
    have k3 := row_at R3.out (i := 3) (v := .int .i64 1) rfl
    go_wp2_with (go_at_call 9; refine Hid.out ?_)
    refine Lib.hid ?_
    refine TX3.out.mono ?_
    rintro _ w4 ⟨rfl, hb4⟩
    have R4 := Lib.hid (row_below R3.out hb4)
    clear k0 k1 k2 k3
    have k0 := row_at R4.out (i := 0) (v := .slice a0 1 cap0) rfl
    have k1 := row_at R4.out (i := 1) (v := .int .i64 4) rfl
    have hb04 := Lib.hid (below_trans hb03.out hb4)
    clear hb4
    go_wp2_with (go_at_call 7; refine Hid.out ?_)
    refine Lib.hid ?_
    refine (SM.out _).mono ?_
    rintro _ w5 ⟨rfl, hw5⟩
    rw [hw5]
    clear hw5 w5
    go_wp2_with (go_at_call 7; refine Hid.out ?_)
    refine Lib.hid ?_
    refine (SM.out _).mono ?_
    rintro _ w5 ⟨rfl, hw5⟩
    rw [hw5]
    clear hw5 w5
    go_wp2
    go_ret
    exact ⟨rfl, hb04.out⟩
  · exact absurd textC_is (hno jobC0)
theorem textJ_pos {j : Jb} (h : jobFault j ≠ 0) : textJ j = ([], jobFault j) := by unfold textJ; rw [if_pos h]
theorem textJ_zero {j : Jb} (h : jobFault j = 0) : textJ j = (if 800 < (jobL j).length then [] else jobL j, if 800 < (jobL j).length then 2 else 0) := by
  unfold textJ
  rw [if_neg (by simpa using h)]
  split <;> rfl
set_option maxRecDepth 1000000 in
set_option maxHeartbeats 8000000 in
theorem jobSays_walk (j : Jb) (rv : Value) (s : List UInt8) (w : World) (E : EnvR w) (h : IsRules w rv j.rules) (hw : rulesWt j.rules ≤ 1100000) (hf : ∀ (i : Nat) x, j.rules[i]? = some x → x.fit) (hs : s.length ≤ 1048576) :
    Calls Tryz.prog 3 #[j.value rv, .string (bs s)] w fun e w' => e = .returned (.bool true) ∧ Below w.heap.size w w' := by
  have HE := Lib.hid E
  have HI := Lib.hid h
  have HF := Lib.hid hf
  have HSZ := Lib.hid (bs_size s)
  have HWT := Lib.hid hw
  obtain ⟨a, cap, hrv⟩ := h.slice
  subst hrv
  have HV : Hid (∀ n, n = j.rules.length → j.value (.slice a n cap) = .agg #[.slice a n cap, .int .i64 j.fold, .bool j.early, .int .i64 j.slices]) := fun n _ => rfl
  clear h hf E hw
  obtain ⟨n, hn⟩ : ∃ n, n = j.rules.length := ⟨_, rfl⟩
  rw [← hn] at HI ⊢
  have HN := Lib.hid hn
  have HVN : Hid (j.value (.slice a n cap) = .agg #[.slice a n cap, .int .i64 j.fold, .bool j.early, .int .i64 j.slices]) := HV.out n hn
  clear hn HV
  obtain ⟨w1, hw1⟩ : ∃ w1, w1 = w.alloc (.cells #[.slice a n cap, .int .i64 j.fold, .bool j.early, .int .i64 j.slices] 24) := ⟨_, rfl⟩
  have hb1 : Below w.heap.size w w1 := by rw [hw1]; exact below_box _
  obtain ⟨X, hX⟩ : ∃ X, X = w.heap.size := ⟨_, rfl⟩
  have R1 : Hid (w1.heap[X]? = some (.cells #[.slice a n cap, .int .i64 j.fold, .bool j.early, .int .i64 j.slices] 24 (0, 0))) := by show _ = _; rw [hw1, hX]; exact row_new _ _ _
  have HW1 := Lib.hid hw1
  have HX := Lib.hid hX
  have HB1 := Lib.hid hb1
  have JS1 := Lib.hid (jobs_any w1 (HE.out.lower hb1))
  -- what each call answers, in whichever world
  have LJ : Hid (∀ w', Below w.heap.size w w' → Calls Tryz.prog 5 #[.agg #[.slice a n cap, .int .i64 j.fold, .bool j.early, .int .i64 j.slices]] w' fun v w'' => ∃ g : Bool, v = .returned (.bool g) ∧ Below w'.heap.size w' w'') := by
    intro w' hb
    rw [← HVN.out]
    exact lightJob_any j _ w' (HI.out.lower hb) (by have := HWT.out; omega)
  have JF : Hid (∀ w', Below w.heap.size w w' → Calls Tryz.prog 6 #[.agg #[.slice a n cap, .int .i64 j.fold, .bool j.early, .int .i64 j.slices]] w' fun v w'' => v = .returned (.int .i64 ((jobFault j : Nat) : Int)) ∧ Below w'.heap.size w' w'') := by
    intro w' hb
    rw [← HVN.out]
    exact rJobFault_any j _ w' (HI.out.lower hb) (by have := HWT.out; omega)
  have JC : Hid (∀ w', Below w.heap.size w w' → Calls Tryz.prog 8 #[.agg #[.slice a n cap, .int .i64 j.fold, .bool j.early, .int .i64 j.slices]] w' fun v w'' => v = .returned (errV (jobFault j)) ∧ Below w'.heap.size w' w'') := by
    intro w' hb
    rw [← HVN.out]
    exact jobCheck_any j _ w' (HI.out.lower hb) (by have := HWT.out; omega) (HE.out.lower hb).toEnvJ.toEnvT.toEnvS
  have TX : Hid (∀ w', Below w.heap.size w w' → Calls Tryz.prog 9 #[.agg #[.slice a n cap, .int .i64 j.fold, .bool j.early, .int .i64 j.slices]] w' fun v w'' => v = .returned (.tuple #[.string (bs (textJ j).1), errV (textJ j).2]) ∧ Below w'.heap.size w' w'') := by
    intro w' hb
    rw [← HVN.out]
    exact jobText_any j _ w' (HI.out.lower hb) HWT.out (HE.out.lower hb).toEnvJ HF.out
  have RT : Hid (jobFault j = 0 → ∀ w', Below w.heap.size w w' → Calls Tryz.prog 10 #[.agg #[.slice a n cap, .int .i64 j.fold, .bool j.early, .int .i64 j.slices]] w' fun v w'' => v = .returned (.tuple #[.string (bs (textJ j).1), .int .i64 ((textJ j).2 : Nat)]) ∧ Below w'.heap.size w' w'') := by
    intro h0 w' hb
    rw [← HVN.out, textJ_zero h0]
    have h := rjobText_any j _ w' (HI.out.lower hb) h0 HWT.out HF.out
    refine h.mono ?_
    rintro _ w'' ⟨rfl, hb2⟩
    refine ⟨?_, hb2⟩
    split <;> rfl
  have PS : Hid (s.length ≤ 1000 → ∀ w', Below w.heap.size w w' → Calls Tryz.prog 11 #[.string (bs s)] w' (JobSaid s w')) := fun hl w' hb => parse_any s w' (HE.out.lower hb) hl
  have RO : Hid (s.length ≤ 1000 → ∀ w', Calls Tryz.prog 12 #[.string (bs s)] w' (JobOfSaid s w')) := fun hl w' => rjobOf_any s w' (by omega)
  have SM : Hid (∀ (f : Nat) w, Calls Tryz.prog 7 #[errV f, .int .i64 f] w fun e w' => e = .returned (.bool true) ∧ w' = w) := fun f w => same_any f w
  rw [HVN.out]
  clear hw1 hX hb1 HI
  go_enter Tryz.func3, Tryz.ntmps3
  go_upto_region 1 with fail
  rw [← HW1.out, ← HX.out]
  clear HW1
  go_wp2_with (go_at_call 4; refine Hid.out ?_)
  refine Lib.hid ?_
  refine JS1.out.mono ?_
  rintro _ w2 ⟨rfl, hb2⟩
  have HB2 := Lib.hid (below_trans HB1.out hb2)
  have R2 := Lib.hid (row_below R1.out hb2)
  clear hb2 JS1
  have k0 := row_at R2.out (i := 0) (v := .slice a n cap) rfl
  have k1 := row_at R2.out (i := 1) (v := .int .i64 j.fold) rfl
  have k2 := row_at R2.out (i := 2) (v := .bool j.early) rfl
  have k3 := row_at R2.out (i := 3) (v := .int .i64 j.slices) rfl
  go_wp2_with (go_at_call 5; refine Hid.out ?_)
  refine Lib.hid ?_
  refine (LJ.out _ HB2.out).mono ?_
  rintro _ w3 ⟨g, rfl, hb3⟩
  have HB3 := Lib.hid (below_trans HB2.out hb3)
  have R3 := Lib.hid (row_below R2.out hb3)
  clear hb3 LJ k0 k1 k2 k3
  cases g with
  | false =>
    go_wp2
    go_ret
    exact ⟨rfl, HB3.out⟩
  | true =>
  cases gs : decide ((1000 : Int) < (bs s).size) with
  | true =>
    go_wp2
    go_ret
    exact ⟨rfl, HB3.out⟩
  | false =>
  have hs1 : s.length ≤ 1000 := by have := of_decide_eq_false gs; have := HSZ.out; omega
  have PS2 := Lib.hid (PS.out hs1)
  have RO2 := Lib.hid (RO.out hs1)
  have HSL := Lib.hid hs1
  clear PS RO hs1 hs
  have k0 := row_at R3.out (i := 0) (v := .slice a n cap) rfl
  have k1 := row_at R3.out (i := 1) (v := .int .i64 j.fold) rfl
  have k2 := row_at R3.out (i := 2) (v := .bool j.early) rfl
  have k3 := row_at R3.out (i := 3) (v := .int .i64 j.slices) rfl
  obtain ⟨f, hfd⟩ : ∃ f, f = jobFault j := ⟨_, rfl⟩
  rw [← hfd] at JF JC RT
  have HFD := Lib.hid hfd
  clear hfd
  go_wp2_with (go_at_call 6; refine Hid.out ?_)
  clear gs
  refine Lib.hid ?_
  refine (JF.out _ HB3.out).mono ?_
  rintro _ w4 ⟨rfl, hb4⟩
  have HB4 := Lib.hid (below_trans HB3.out hb4)
  have R4 := Lib.hid (row_below R3.out hb4)
  clear hb4 JF k0 k1 k2 k3
  have k0 := row_at R4.out (i := 0) (v := .slice a n cap) rfl
  have k1 := row_at R4.out (i := 1) (v := .int .i64 j.fold) rfl
  have k2 := row_at R4.out (i := 2) (v := .bool j.early) rfl
  have k3 := row_at R4.out (i := 3) (v := .int .i64 j.slices) rfl
  obtain ⟨EV, hEV⟩ : ∃ v, v = errV f := ⟨_, rfl⟩
  have SF : Hid (∀ w, Calls Tryz.prog 7 #[EV, .int .i64 (f : Int)] w fun e w' => e = .returned (.bool true) ∧ w' = w) := by rw [hEV]; exact fun w => SM.out f w
  rw [← hEV] at JC
  have HEV := Lib.hid hEV
  clear hEV
  go_wp2_with (go_at_call 8; refine Hid.out ?_)
  refine Lib.hid ?_
  refine (JC.out _ HB4.out).mono ?_
  rintro _ w5 ⟨rfl, hb5⟩
  have HB5 := Lib.hid (below_trans HB4.out hb5)
  have R5 := Lib.hid (row_below R4.out hb5)
  clear hb5 JC k0 k1 k2 k3
  go_wp2_with (go_at_call 7; refine Hid.out ?_)
  refine Lib.hid ?_
  refine (SF.out _).mono ?_
  rintro _ w6 ⟨rfl, h6⟩
  rw [h6]
  clear h6 w6
  have k0 := row_at R5.out (i := 0) (v := .slice a n cap) rfl
  have k1 := row_at R5.out (i := 1) (v := .int .i64 j.fold) rfl
  have k2 := row_at R5.out (i := 2) (v := .bool j.early) rfl
  have k3 := row_at R5.out (i := 3) (v := .int .i64 j.slices) rfl
  obtain ⟨T1, hT1⟩ : ∃ t, t = (textJ j).1 := ⟨_, rfl⟩
  obtain ⟨T2, hT2⟩ : ∃ t, t = (textJ j).2 := ⟨_, rfl⟩
  obtain ⟨ET, hET⟩ : ∃ v, v = errV T2 := ⟨_, rfl⟩
  rw [← hT1, ← hT2, ← hET] at TX
  rw [← hT1, ← hT2] at RT
  have ST : Hid (∀ w, Calls Tryz.prog 7 #[ET, .int .i64 (T2 : Int)] w fun e w' => e = .returned (.bool true) ∧ w' = w) := by rw [hET]; exact fun w => SM.out T2 w
  have HT1 := Lib.hid hT1
  have HT2 := Lib.hid hT2
  have HET := Lib.hid hET
  clear hT1 hT2 hET
  go_wp2_with (go_at_call 9; refine Hid.out ?_)
  refine Lib.hid ?_
  refine (TX.out _ HB5.out).mono ?_
  rintro _ w7 ⟨rfl, hb7⟩
  have HB7 := Lib.hid (below_trans HB5.out hb7)
  have R7 := Lib.hid (row_below R5.out hb7)
  clear hb7 TX k0 k1 k2 k3
  by_cases hfp : 0 < f
  · have hf1 : (0 : Int) < (f : Int) := by omega
    have htj := textJ_pos (j := j) (by rw [← HFD.out]; omega)
    rw [← HFD.out] at htj
    have e1 : T1 = [] := by rw [HT1.out, htj]
    have e2 : ET = EV := by rw [HET.out, HT2.out, htj, HEV.out]
    subst e1 e2
    have hem : (bs []).toList = [] := by rw [bs_toList]
    have hem2 : (bs []).toList.isEmpty = true := by rw [bs_toList]; rfl
    clear hfp htj HT1 HET HEV ST RT
    go_wp2_with (go_at_call 7; refine Hid.out ?_)
    refine Lib.hid ?_
    refine (SF.out _).mono ?_
    rintro _ w6 ⟨rfl, h6⟩
    rw [h6]
    clear h6 w6
    have hf2 : bs ([] : List UInt8) = ⟨#[]⟩ := rfl
    go_upto_region 14 with fail
    (try clear hem hem2 hf2 hf1)
    (try clear he1)
    go_wp2_with (go_at_call 11; refine Hid.out ?_)
    refine Lib.hid ?_
    refine (PS2.out _ HB7.out).mono ?_
    rintro _ w8 ⟨hx8, hb8⟩
    rcases hx8 with ⟨j1, rv1, rfl, hI1, _, hT1, hwt1, _, _⟩ | ⟨rfl, hno⟩
    · obtain ⟨a1, c1, hrv1⟩ := hI1.slice
      subst hrv1
      obtain ⟨n1, hn1⟩ : ∃ n, n = j1.rules.length := ⟨_, rfl⟩
      rw [← hn1] at hI1 ⊢
      have HI1 := Lib.hid hI1
      unfold Jb.value
      have HJ1 := Lib.hid hT1
      have HW1' := Lib.hid hwt1
      have HN1 := Lib.hid hn1
      clear hI1 hT1 hwt1 hn1
      obtain ⟨f1, hf1⟩ : ∃ f, f = j1.fold := ⟨_, rfl⟩
      obtain ⟨y1, hy1⟩ : ∃ f, f = j1.early := ⟨_, rfl⟩
      obtain ⟨s1, hs1⟩ : ∃ f, f = j1.slices := ⟨_, rfl⟩
      rw [← hf1, ← hy1, ← hs1]
      have HF1 := Lib.hid hf1
      have HY1 := Lib.hid hy1
      have HS1 := Lib.hid hs1
      clear hf1 hy1 hs1
      obtain ⟨X1, hX1⟩ : ∃ X, X = w8.heap.size := ⟨_, rfl⟩
      obtain ⟨w9, hw9⟩ : ∃ w9, w9 = w8.alloc (.cells #[.slice a1 n1 c1, .int .i64 f1, .bool y1, .int .i64 s1] 24) := ⟨_, rfl⟩
      have hb9 : Below w8.heap.size w8 w9 := by rw [hw9]; exact below_box _
      have Q9 : Hid (w9.heap[X1]? = some (.cells #[.slice a1 n1 c1, .int .i64 f1, .bool y1, .int .i64 s1] 24 (0, 0))) := by show _ = _; rw [hw9, hX1]; exact row_new _ _ _
      have HI9 := Lib.hid (HI1.out.lower hb9)
      have HB9 := Lib.hid (below_trans HB7.out (below_trans hb8 hb9))
      have HW9 := Lib.hid hw9
      have HX1 := Lib.hid hX1
      clear hw9 hX1 hb8 hb9 HI1
      go_upto_region 15 with fail
      rw [← HW9.out, ← HX1.out]
      clear HW9 HX1
      go_wp2_with (go_at_call 12; refine Hid.out ?_)
      refine Lib.hid ?_
      refine (RO2.out _).mono ?_
      rintro _ w10 ⟨hx10, hb10⟩
      rcases hx10 with ⟨j2, rv2, rfl, hI2, _, hT2, _, _, hU2⟩ | ⟨_, hno⟩
      · obtain rfl : j2 = j1 := hU2 j1 HJ1.out
        obtain ⟨a2, c2, hrv2⟩ := hI2.slice
        subst hrv2
        rw [← HN1.out] at hI2 ⊢
        unfold Jb.value
        rw [← HF1.out, ← HY1.out, ← HS1.out]
        obtain ⟨X2, hX2⟩ : ∃ X, X = w10.heap.size := ⟨_, rfl⟩
        obtain ⟨w11, hw11⟩ : ∃ w11, w11 = w10.alloc (.cells #[.slice a2 n1 c2, .int .i64 f1, .bool y1, .int .i64 s1] 24) := ⟨_, rfl⟩
        have hb11 : Below w10.heap.size w10 w11 := by rw [hw11]; exact below_box _
        have Q11 : Hid (w11.heap[X2]? = some (.cells #[.slice a2 n1 c2, .int .i64 f1, .bool y1, .int .i64 s1] 24 (0, 0))) := by show _ = _; rw [hw11, hX2]; exact row_new _ _ _
        have Q11b := Lib.hid (row_below Q9.out (below_trans hb10 hb11))
        have SJ : Hid (Calls Tryz.prog 13 #[.agg #[.slice a1 n1 c1, .int .i64 f1, .bool y1, .int .i64 s1], .agg #[.slice a2 n1 c2, .int .i64 f1, .bool y1, .int .i64 s1]] w11 fun v w' => v = .returned (.bool true) ∧ Below w11.heap.size w11 w') := by
          have h := sameJob_any j2 (.slice a1 n1 c1) (.slice a2 n1 c2) w11 (HI9.out.lower (below_trans hb10 hb11)) (hI2.lower hb11) (by have := HW1'.out; have := HSL.out; omega)
          unfold Jb.value at h
          rw [← HF1.out, ← HY1.out, ← HS1.out] at h
          exact h
        have HB11 := Lib.hid (below_trans HB9.out (below_trans hb10 hb11))
        have SN : Hid (∀ w, Calls Tryz.prog 7 #[.nilIface, .int .i64 0] w fun e w' => e = .returned (.bool true) ∧ w' = w) := fun w => SM.out 0 w
        have HW11 := Lib.hid hw11
        have HX2 := Lib.hid hX2
        clear hw11 hX2 hb10 hb11 hI2 hT2 hU2
        go_upto_region 16 with fail
        rw [← HW11.out, ← HX2.out]
        clear HW11 HX2
        have p0 := row_at Q11b.out (i := 0) (v := .slice a1 n1 c1) rfl
        have p1 := row_at Q11b.out (i := 1) (v := .int .i64 f1) rfl
        have p2 := row_at Q11b.out (i := 2) (v := .bool y1) rfl
        have p3 := row_at Q11b.out (i := 3) (v := .int .i64 s1) rfl
        have q0 := row_at Q11.out (i := 0) (v := .slice a2 n1 c2) rfl
        have q1 := row_at Q11.out (i := 1) (v := .int .i64 f1) rfl
        have q2 := row_at Q11.out (i := 2) (v := .bool y1) rfl
        have q3 := row_at Q11.out (i := 3) (v := .int .i64 s1) rfl
        go_wp2_with (go_at_call 7; refine Hid.out ?_)
        refine Lib.hid ?_
        refine (SN.out _).mono ?_
        rintro _ w12 ⟨rfl, h12⟩
        rw [h12]
        clear h12 w12
        go_wp2_with (go_at_call 13; refine Hid.out ?_)
        refine Lib.hid ?_
        refine SJ.out.mono ?_
        rintro _ w13 ⟨rfl, hb13⟩
        have HB13 := Lib.hid (below_trans HB11.out hb13)
        clear hb13 p0 p1 p2 p3 q0 q1 q2 q3
        go_wp2
        go_ret
        exact ⟨rfl, HB13.out⟩
      · exact absurd HJ1.out (hno j1)
    · obtain ⟨X1, hX1⟩ : ∃ X, X = w8.heap.size := ⟨_, rfl⟩
      have HNO := Lib.hid hno
      unfold zeroJ
      obtain ⟨w9, hw9⟩ : ∃ w9, w9 = w8.alloc (.cells #[.slice none 0 0, .int .i64 0, .bool false, .int .i64 0] 24) := ⟨_, rfl⟩
      have hb9 : Below w8.heap.size w8 w9 := by rw [hw9]; exact below_box _
      have Q9 : Hid (w9.heap[X1]? = some (.cells #[.slice none 0 0, .int .i64 0, .bool false, .int .i64 0] 24 (0, 0))) := by show _ = _; rw [hw9, hX1]; exact row_new _ _ _
      have HB9 := Lib.hid (below_trans HB7.out (below_trans hb8 hb9))
      obtain ⟨er, her⟩ : ∃ e : Int, e = (if 800 < s.length then 2 else 4) := ⟨_, rfl⟩
      have SN : Hid (∀ w, Calls Tryz.prog 7 #[.iface 50 (.int .i64 er), .int .i64 er] w fun e w' => e = .returned (.bool true) ∧ w' = w) := by
        intro w
        rw [her]
        split
        · exact SM.out 2 w
        · exact SM.out 4 w
      rw [← her]
      have HER := Lib.hid her
      have HW9 := Lib.hid hw9
      have HX1 := Lib.hid hX1
      clear hw9 hX1 hb8 hb9 her hno
      go_upto_region 15 with fail
      rw [← HW9.out, ← HX1.out]
      clear HW9 HX1
      go_wp2_with (go_at_call 12; refine Hid.out ?_)
      refine Lib.hid ?_
      refine (RO2.out _).mono ?_
      rintro _ w10 ⟨hx10, hb10⟩
      rcases hx10 with ⟨j2, rv2, _, _, _, hT2, _, _, _⟩ | ⟨rfl, _⟩
      · exact absurd hT2 (HNO.out j2)
      · unfold zeroJ
        rw [← HER.out]
        obtain ⟨X2, hX2⟩ : ∃ X, X = w10.heap.size := ⟨_, rfl⟩
        obtain ⟨w11, hw11⟩ : ∃ w11, w11 = w10.alloc (.cells #[.slice none 0 0, .int .i64 0, .bool false, .int .i64 0] 24) := ⟨_, rfl⟩
        have hb11 : Below w10.heap.size w10 w11 := by rw [hw11]; exact below_box _
        have Q11 : Hid (w11.heap[X2]? = some (.cells #[.slice none 0 0, .int .i64 0, .bool false, .int .i64 0] 24 (0, 0))) := by show _ = _; rw [hw11, hX2]; exact row_new _ _ _
        have Q11b := Lib.hid (row_below Q9.out (below_trans hb10 hb11))
        have hnil : IsRules w11 (.slice none 0 0) [] := ⟨none, 0, 0, 0, fun _ => undef, fun _ => undef, fun _ => undef, rfl, fun h => absurd h (by simp), fun i x hx => by simp at hx⟩
        have SJ : Hid (Calls Tryz.prog 13 #[.agg #[.slice none 0 0, .int .i64 0, .bool false, .int .i64 0], .agg #[.slice none 0 0, .int .i64 0, .bool false, .int .i64 0]] w11 fun v w' => v = .returned (.bool true) ∧ Below w11.heap.size w11 w') := sameJob_any ⟨[], 0, false, 0⟩ (.slice none 0 0) (.slice none 0 0) w11 hnil hnil (by simp [rulesWt])
        have HB11 := Lib.hid (below_trans HB9.out (below_trans hb10 hb11))
        have HW11 := Lib.hid hw11
        have HX2 := Lib.hid hX2
        clear hw11 hX2 hb10 hb11 hnil
        go_upto_region 16 with fail
        rw [← HW11.out, ← HX2.out]
        clear HW11 HX2
        have p0 := row_at Q11b.out (i := 0) (v := .slice none 0 0) rfl
        have p1 := row_at Q11b.out (i := 1) (v := .int .i64 0) rfl
        have p2 := row_at Q11b.out (i := 2) (v := .bool false) rfl
        have p3 := row_at Q11b.out (i := 3) (v := .int .i64 0) rfl
        have q0 := row_at Q11.out (i := 0) (v := .slice none 0 0) rfl
        have q1 := row_at Q11.out (i := 1) (v := .int .i64 0) rfl
        have q2 := row_at Q11.out (i := 2) (v := .bool false) rfl
        have q3 := row_at Q11.out (i := 3) (v := .int .i64 0) rfl
        go_wp2_with (go_at_call 7; refine Hid.out ?_)
        refine Lib.hid ?_
        refine (SN.out _).mono ?_
        rintro _ w12 ⟨rfl, h12⟩
        rw [h12]
        clear h12 w12
        go_wp2_with (go_at_call 13; refine Hid.out ?_)
        refine Lib.hid ?_
        refine SJ.out.mono ?_
        rintro _ w13 ⟨rfl, hb13⟩
        have HB13 := Lib.hid (below_trans HB11.out hb13)
        clear hb13 p0 p1 p2 p3 q0 q1 q2 q3
        go_wp2
        go_ret
        exact ⟨rfl, HB13.out⟩
  · have hf1 : ¬ (0 : Int) < (f : Int) := by omega
    have hf0 : f = 0 := by omega
    have RT2 := Lib.hid (RT.out hf0)
    have k0 := row_at R7.out (i := 0) (v := .slice a n cap) rfl
    have k1 := row_at R7.out (i := 1) (v := .int .i64 j.fold) rfl
    have k2 := row_at R7.out (i := 2) (v := .bool j.early) rfl
    have k3 := row_at R7.out (i := 3) (v := .int .i64 j.slices) rfl
    clear hfp hf0 RT
    go_wp2_with (go_at_call 10; refine Hid.out ?_)
    refine Lib.hid ?_
    refine (RT2.out _ HB7.out).mono ?_
    rintro _ w8 ⟨rfl, hb8⟩
    have HB8 := Lib.hid (below_trans HB7.out hb8)
    clear hb8 RT2 k0 k1 k2 k3 hf1
    have he1 : ((bs T1).toList == (bs T1).toList) = true := by simp
    go_wp2_with (go_at_call 7; refine Hid.out ?_)
    refine Lib.hid ?_
    refine (ST.out _).mono ?_
    rintro _ w6 ⟨rfl, h6⟩
    rw [h6]
    clear h6 w6
    generalize w8 = w7 at *
    clear HB7
    have HB7 := HB8
    go_upto_region 14 with fail
    (try clear hem hem2 hf2 hf1)
    (try clear he1)
    go_wp2_with (go_at_call 11; refine Hid.out ?_)
    refine Lib.hid ?_
    refine (PS2.out _ HB7.out).mono ?_
    rintro _ w8 ⟨hx8, hb8⟩
    rcases hx8 with ⟨j1, rv1, rfl, hI1, _, hT1, hwt1, _, _⟩ | ⟨rfl, hno⟩
    · obtain ⟨a1, c1, hrv1⟩ := hI1.slice
      subst hrv1
      obtain ⟨n1, hn1⟩ : ∃ n, n = j1.rules.length := ⟨_, rfl⟩
      rw [← hn1] at hI1 ⊢
      have HI1 := Lib.hid hI1
      unfold Jb.value
      have HJ1 := Lib.hid hT1
      have HW1' := Lib.hid hwt1
      have HN1 := Lib.hid hn1
      clear hI1 hT1 hwt1 hn1
      obtain ⟨f1, hf1⟩ : ∃ f, f = j1.fold := ⟨_, rfl⟩
      obtain ⟨y1, hy1⟩ : ∃ f, f = j1.early := ⟨_, rfl⟩
      obtain ⟨s1, hs1⟩ : ∃ f, f = j1.slices := ⟨_, rfl⟩
      rw [← hf1, ← hy1, ← hs1]
      have HF1 := Lib.hid hf1
      have HY1 := Lib.hid hy1
      have HS1 := Lib.hid hs1
      clear hf1 hy1 hs1
      obtain ⟨X1, hX1⟩ : ∃ X, X = w8.heap.size := ⟨_, rfl⟩
      obtain ⟨w9, hw9⟩ : ∃ w9, w9 = w8.alloc (.cells #[.slice a1 n1 c1, .int .i64 f1, .bool y1, .int .i64 s1] 24) := ⟨_, rfl⟩
      have hb9 : Below w8.heap.size w8 w9 := by rw [hw9]; exact below_box _
      have Q9 : Hid (w9.heap[X1]? = some (.cells #[.slice a1 n1 c1, .int .i64 f1, .bool y1, .int .i64 s1] 24 (0, 0))) := by show _ = _; rw [hw9, hX1]; exact row_new _ _ _
      have HI9 := Lib.hid (HI1.out.lower hb9)
      have HB9 := Lib.hid (below_trans HB7.out (below_trans hb8 hb9))
      have HW9 := Lib.hid hw9
      have HX1 := Lib.hid hX1
      clear hw9 hX1 hb8 hb9 HI1
      go_upto_region 15 with fail
      rw [← HW9.out, ← HX1.out]
      clear HW9 HX1
      go_wp2_with (go_at_call 12; refine Hid.out ?_)
      refine Lib.hid ?_
      refine (RO2.out _).mono ?_
      rintro _ w10 ⟨hx10, hb10⟩
      rcases hx10 with ⟨j2, rv2, rfl, hI2, _, hT2, _, _, hU2⟩ | ⟨_, hno⟩
      · obtain rfl : j2 = j1 := hU2 j1 HJ1.out
        obtain ⟨a2, c2, hrv2⟩ := hI2.slice
        subst hrv2
        rw [← HN1.out] at hI2 ⊢
        unfold Jb.value
        rw [← HF1.out, ← HY1.out, ← HS1.out]
        obtain ⟨X2, hX2⟩ : ∃ X, X = w10.heap.size := ⟨_, rfl⟩
        obtain ⟨w11, hw11⟩ : ∃ w11, w11 = w10.alloc (.cells #[.slice a2 n1 c2, .int .i64 f1, .bool y1, .int .i64 s1] 24) := ⟨_, rfl⟩
        have hb11 : Below w10.heap.size w10 w11 := by rw [hw11]; exact below_box _
        have Q11 : Hid (w11.heap[X2]? = some (.cells #[.slice a2 n1 c2, .int .i64 f1, .bool y1, .int .i64 s1] 24 (0, 0))) := by show _ = _; rw [hw11, hX2]; exact row_new _ _ _
        have Q11b := Lib.hid (row_below Q9.out (below_trans hb10 hb11))
        have SJ : Hid (Calls Tryz.prog 13 #[.agg #[.slice a1 n1 c1, .int .i64 f1, .bool y1, .int .i64 s1], .agg #[.slice a2 n1 c2, .int .i64 f1, .bool y1, .int .i64 s1]] w11 fun v w' => v = .returned (.bool true) ∧ Below w11.heap.size w11 w') := by
          have h := sameJob_any j2 (.slice a1 n1 c1) (.slice a2 n1 c2) w11 (HI9.out.lower (below_trans hb10 hb11)) (hI2.lower hb11) (by have := HW1'.out; have := HSL.out; omega)
          unfold Jb.value at h
          rw [← HF1.out, ← HY1.out, ← HS1.out] at h
          exact h
        have HB11 := Lib.hid (below_trans HB9.out (below_trans hb10 hb11))
        have SN : Hid (∀ w, Calls Tryz.prog 7 #[.nilIface, .int .i64 0] w fun e w' => e = .returned (.bool true) ∧ w' = w) := fun w => SM.out 0 w
        have HW11 := Lib.hid hw11
        have HX2 := Lib.hid hX2
        clear hw11 hX2 hb10 hb11 hI2 hT2 hU2
        go_upto_region 16 with fail
        rw [← HW11.out, ← HX2.out]
        clear HW11 HX2
        have p0 := row_at Q11b.out (i := 0) (v := .slice a1 n1 c1) rfl
        have p1 := row_at Q11b.out (i := 1) (v := .int .i64 f1) rfl
        have p2 := row_at Q11b.out (i := 2) (v := .bool y1) rfl
        have p3 := row_at Q11b.out (i := 3) (v := .int .i64 s1) rfl
        have q0 := row_at Q11.out (i := 0) (v := .slice a2 n1 c2) rfl
        have q1 := row_at Q11.out (i := 1) (v := .int .i64 f1) rfl
        have q2 := row_at Q11.out (i := 2) (v := .bool y1) rfl
        have q3 := row_at Q11.out (i := 3) (v := .int .i64 s1) rfl
        go_wp2_with (go_at_call 7; refine Hid.out ?_)
        refine Lib.hid ?_
        refine (SN.out _).mono ?_
        rintro _ w12 ⟨rfl, h12⟩
        rw [h12]
        clear h12 w12
        go_wp2_with (go_at_call 13; refine Hid.out ?_)
        refine Lib.hid ?_
        refine SJ.out.mono ?_
        rintro _ w13 ⟨rfl, hb13⟩
        have HB13 := Lib.hid (below_trans HB11.out hb13)
        clear hb13 p0 p1 p2 p3 q0 q1 q2 q3
        go_wp2
        go_ret
        exact ⟨rfl, HB13.out⟩
      · exact absurd HJ1.out (hno j1)
    · obtain ⟨X1, hX1⟩ : ∃ X, X = w8.heap.size := ⟨_, rfl⟩
      have HNO := Lib.hid hno
      unfold zeroJ
      obtain ⟨w9, hw9⟩ : ∃ w9, w9 = w8.alloc (.cells #[.slice none 0 0, .int .i64 0, .bool false, .int .i64 0] 24) := ⟨_, rfl⟩
      have hb9 : Below w8.heap.size w8 w9 := by rw [hw9]; exact below_box _
      have Q9 : Hid (w9.heap[X1]? = some (.cells #[.slice none 0 0, .int .i64 0, .bool false, .int .i64 0] 24 (0, 0))) := by show _ = _; rw [hw9, hX1]; exact row_new _ _ _
      have HB9 := Lib.hid (below_trans HB7.out (below_trans hb8 hb9))
      obtain ⟨er, her⟩ : ∃ e : Int, e = (if 800 < s.length then 2 else 4) := ⟨_, rfl⟩
      have SN : Hid (∀ w, Calls Tryz.prog 7 #[.iface 50 (.int .i64 er), .int .i64 er] w fun e w' => e = .returned (.bool true) ∧ w' = w) := by
        intro w
        rw [her]
        split
        · exact SM.out 2 w
        · exact SM.out 4 w
      rw [← her]
      have HER := Lib.hid her
      have HW9 := Lib.hid hw9
      have HX1 := Lib.hid hX1
      clear hw9 hX1 hb8 hb9 her hno
      go_upto_region 15 with fail
      rw [← HW9.out, ← HX1.out]
      clear HW9 HX1
      go_wp2_with (go_at_call 12; refine Hid.out ?_)
      refine Lib.hid ?_
      refine (RO2.out _).mono ?_
      rintro _ w10 ⟨hx10, hb10⟩
      rcases hx10 with ⟨j2, rv2, _, _, _, hT2, _, _, _⟩ | ⟨rfl, _⟩
      · exact absurd hT2 (HNO.out j2)
      · unfold zeroJ
        rw [← HER.out]
        obtain ⟨X2, hX2⟩ : ∃ X, X = w10.heap.size := ⟨_, rfl⟩
        obtain ⟨w11, hw11⟩ : ∃ w11, w11 = w10.alloc (.cells #[.slice none 0 0, .int .i64 0, .bool false, .int .i64 0] 24) := ⟨_, rfl⟩
        have hb11 : Below w10.heap.size w10 w11 := by rw [hw11]; exact below_box _
        have Q11 : Hid (w11.heap[X2]? = some (.cells #[.slice none 0 0, .int .i64 0, .bool false, .int .i64 0] 24 (0, 0))) := by show _ = _; rw [hw11, hX2]; exact row_new _ _ _
        have Q11b := Lib.hid (row_below Q9.out (below_trans hb10 hb11))
        have hnil : IsRules w11 (.slice none 0 0) [] := ⟨none, 0, 0, 0, fun _ => undef, fun _ => undef, fun _ => undef, rfl, fun h => absurd h (by simp), fun i x hx => by simp at hx⟩
        have SJ : Hid (Calls Tryz.prog 13 #[.agg #[.slice none 0 0, .int .i64 0, .bool false, .int .i64 0], .agg #[.slice none 0 0, .int .i64 0, .bool false, .int .i64 0]] w11 fun v w' => v = .returned (.bool true) ∧ Below w11.heap.size w11 w') := sameJob_any ⟨[], 0, false, 0⟩ (.slice none 0 0) (.slice none 0 0) w11 hnil hnil (by simp [rulesWt])
        have HB11 := Lib.hid (below_trans HB9.out (below_trans hb10 hb11))
        have HW11 := Lib.hid hw11
        have HX2 := Lib.hid hX2
        clear hw11 hX2 hb10 hb11 hnil
        go_upto_region 16 with fail
        rw [← HW11.out, ← HX2.out]
        clear HW11 HX2
        have p0 := row_at Q11b.out (i := 0) (v := .slice none 0 0) rfl
        have p1 := row_at Q11b.out (i := 1) (v := .int .i64 0) rfl
        have p2 := row_at Q11b.out (i := 2) (v := .bool false) rfl
        have p3 := row_at Q11b.out (i := 3) (v := .int .i64 0) rfl
        have q0 := row_at Q11.out (i := 0) (v := .slice none 0 0) rfl
        have q1 := row_at Q11.out (i := 1) (v := .int .i64 0) rfl
        have q2 := row_at Q11.out (i := 2) (v := .bool false) rfl
        have q3 := row_at Q11.out (i := 3) (v := .int .i64 0) rfl
        go_wp2_with (go_at_call 7; refine Hid.out ?_)
        refine Lib.hid ?_
        refine (SN.out _).mono ?_
        rintro _ w12 ⟨rfl, h12⟩
        rw [h12]
        clear h12 w12
        go_wp2_with (go_at_call 13; refine Hid.out ?_)
        refine Lib.hid ?_
        refine SJ.out.mono ?_
        rintro _ w13 ⟨rfl, hb13⟩
        have HB13 := Lib.hid (below_trans HB11.out hb13)
        clear hb13 p0 p1 p2 p3 q0 q1 q2 q3
        go_wp2
        go_ret
        exact ⟨rfl, HB13.out⟩
end Go.Proofs.YtfjpgjkfmcedoaaGreatDoor
