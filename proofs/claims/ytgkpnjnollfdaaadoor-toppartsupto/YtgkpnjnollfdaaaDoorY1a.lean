/- Mapper: the walk of TopParts. -/
import Derived.Test.YtgkpnjnollfdaaaDoorG1
namespace Go.Proofs.YtgkpnjnollfdaaaDoor
open Go.ChangeShapes Go.WideShapes Go.ChangeAt Go.RowKit
set_option maxRecDepth 1000000 in
set_option maxHeartbeats 8000000 in
theorem topParts_walk_a (SD : StepDoes) (j : Jb) (a : Option Addr) (cap : Nat) (la : Option Addr) (lc : Nat) (lines : List (List UInt8)) (at' : Int) (w : World) (E : EnvS w) (h : IsRules w (.slice a j.rules.length cap) j.rules) (hw : rulesWt j.rules ≤ 1000000000) (hlc : lines.length ≤ lc) (hv : IsTexts w (.slice la lines.length lc) (lines.map bs)) (hll : lines.length ≤ 1000000000) (hca : lines = [] ∧ la = none) :
    Calls Tryd.prog 4 #[j.value (.slice a j.rules.length cap), .slice la lines.length lc, .int .i64 at'] w fun e w' => e = .returned (.bool true) ∧ Below w.heap.size w w' := by
  have HCA := Lib.hid hca
  clear hca
  have LJ := Lib.hid (fun w h => lightJob_any j (.slice a j.rules.length cap) w h hw)
  have CK := Lib.hid (fun w h E => jobCheck_any j (.slice a j.rules.length cap) w h hw E)
  have LT := Lib.hid (fun w' (hb : Below w.heap.size w w') => lightTexts_any (.slice la lines.length lc) (lines.map bs) 60 120 w' (IsTexts.below hv hb) (by unfold maxLen; rw [List.length_map]; omega))
  have HV := Lib.hid (fun w' (hb : Below w.heap.size w w') => IsTexts.below hv hb)
  have HE := Lib.hid (fun w' (hb : Below w.heap.size w w') => E.lower hb)
  have H := Lib.hid (fun w' (hb : Below w.heap.size w w') => h.lower hb)
  have HLC := Lib.hid hlc
  have HSD := Lib.hid SD
  clear SD
  obtain ⟨f, hf⟩ : ∃ f, f = jobFault j := ⟨_, rfl⟩
  rw [← hf] at CK
  have HF := Lib.hid hf
  obtain ⟨l, fo, ea, sl⟩ := j
  simp only [Jb.value] at *
  rw [List.length_map] at LT
  obtain ⟨ln, hln⟩ : ∃ ln, ln = lines.length := ⟨_, rfl⟩
  rw [← hln] at LT HV HLC ⊢
  have HLN := Lib.hid hln
  obtain ⟨rn, hrn⟩ : ∃ rn, rn = l.length := ⟨_, rfl⟩
  rw [← hrn] at LJ CK H ⊢
  have HRN := Lib.hid hrn
  clear hrn hln hf h E hv hlc
  obtain ⟨w0, hw0⟩ : ∃ w0, w0 = w.alloc (.cells #[.slice a rn cap, .int .i64 fo, .bool ea, .int .i64 sl] 37) := ⟨_, rfl⟩
  have hs0 : w0.heap.size = w.heap.size + 1 := by rw [hw0]; simp
  have hb0 : Below w.heap.size w w0 := by rw [hw0]; exact below_box _
  have JB0 : Blk w0 w.heap.size 37 [.slice a rn cap, .int .i64 fo, .bool ea, .int .i64 sl] := by rw [hw0]; exact blk_new rfl
  obtain ⟨w1, hw1⟩ : ∃ w1, w1 = w0.alloc (.cells #[.bool false, .int .i64 0, .int .i64 0, .int .i64 0, .string ⟨#[]⟩, .slice none 0 0, .string ⟨#[]⟩, .int .i64 2, .int .i64 0, .string ⟨#[]⟩, .slice none 0 0, .int .i64 9, .int .i64 0, .string ⟨#[]⟩, .slice none 0 0] 43) := ⟨_, rfl⟩
  have hB : Blk w1 (w.heap.size + 1) 43 [.bool false, .int .i64 0, .int .i64 0, .int .i64 0, .string ⟨#[]⟩, .slice none 0 0, .string ⟨#[]⟩, .int .i64 2, .int .i64 0, .string ⟨#[]⟩, .slice none 0 0, .int .i64 9, .int .i64 0, .string ⟨#[]⟩, .slice none 0 0] := by rw [hw1]; exact blk_new hs0.symm
  obtain ⟨w2, hw2⟩ : ∃ w2, w2 = w1.alloc (.cells #[.slice (some ⟨w.heap.size + 1, 0, none⟩) 1 1, .int .i64 1, .bool false, .int .i64 1] 37) := ⟨_, rfl⟩
  have hs1 : w1.heap.size = w.heap.size + 2 := by rw [hw1]; simp [hs0]
  have hb1 : Below w0.heap.size w0 w1 := by rw [hw1]; exact below_box _
  have hb12 : Below w1.heap.size w1 w2 := by rw [hw2]; exact below_box _
  have hb02 := below_trans hb1 hb12
  have hb2 := below_trans hb0 hb02
  have hR : IsRules w2 (.slice (some ⟨w.heap.size + 1, 0, none⟩) 1 1) litJb.rules := by
    have hB2 := hB.blw hb12
    refine ⟨_, 1, w.heap.size + 1, 0, fun _ => .slice none 0 0, fun _ => .slice none 0 0, fun _ => .slice none 0 0, rfl, fun _ => rfl, fun i x hx => ?_⟩
    have hk : i = 0 ∧ litRl = x := by
      cases i with
      | zero => simpa [litJb] using hx
      | succ i => simp [litJb] at hx
    obtain ⟨rfl, rfl⟩ := hk
    refine ⟨⟨hB2.at rfl, hB2.at rfl, hB2.at rfl, hB2.at rfl, hB2.at rfl, hB2.at rfl, hB2.at rfl, hB2.at rfl, hB2.at rfl, hB2.at rfl, hB2.at rfl, hB2.at rfl, hB2.at rfl, hB2.at rfl, hB2.at rfl⟩, nilEx _ _, nilEx _ _, nilEx _ _⟩
  have JP : Blk w2 (w.heap.size + 2) 37 [.slice (some ⟨w.heap.size + 1, 0, none⟩) 1 1, .int .i64 1, .bool false, .int .i64 1] := by rw [hw2]; exact blk_new hs1.symm
  have P := Lib.hid (pairs_any litJb _ [97, 32, 98] w2 hR litJb_wt litJb_fault (by decide) (HE.out w2 hb2))
  rw [litJb_pairs] at P
  have k0 := JP.at (i := 0) (v := .slice (some ⟨w.heap.size + 1, 0, none⟩) 1 1) rfl
  have k1 := JP.at (i := 1) (v := .int .i64 1) rfl
  have k2 := JP.at (i := 2) (v := .bool false) rfl
  have k3 := JP.at (i := 3) (v := .int .i64 1) rfl
  have JB2 := Lib.hid (JB0.blw hb02)
  rw [hw1, hw0] at hw2
  have HW2 := Lib.hid hw2
  have HB2 := Lib.hid hb2
  clear hw1 hw2 hw0 hB hs0 hs1 hb0 hb1 hb12 hb02 hb2 hR JP JB0
  go_enter Tryd.func4, Tryd.ntmps4
  go_upto_region 2 with fail
  rw [← HW2.out]
  clear HW2
  go_wp2_with (go_at_call 14; refine Hid.out ?_)
  refine Lib.hid ?_
  refine P.out.mono ?_
  clear P
  rintro _ w3 ⟨u, rfl, hrow, hb3⟩
  obtain ⟨ua, uc, rfl, -⟩ := Pp.owns_isPairs hrow
  have hb03 := below_trans HB2.out hb3
  have JB3 := Lib.hid (JB2.out.blw hb3)
  clear k0 k1 k2 k3 JB2 HB2 hrow hb3
  have k0 := JB3.out.at (i := 0) (v := .slice a rn cap) rfl
  have k1 := JB3.out.at (i := 1) (v := .int .i64 fo) rfl
  have k2 := JB3.out.at (i := 2) (v := .bool ea) rfl
  have k3 := JB3.out.at (i := 3) (v := .int .i64 sl) rfl
  go_wp2_with (go_at_call 15; refine Hid.out ?_)
  refine Lib.hid ?_
  refine (LJ.out w3 (H.out _ hb03)).mono ?_
  rintro _ w4 ⟨g, rfl, hb4⟩
  have hb04 := below_trans hb03 hb4
  have JB4 := Lib.hid (JB3.out.blw hb4)
  clear k0 k1 k2 k3 JB3 hb03 hb4 LJ
  cases g with
  | false =>
    go_wp2
    go_ret
    exact ⟨rfl, hb04⟩
  | true =>
  have LT2 := Lib.hid (LT.out w4 hb04)
  obtain ⟨lt, hlt⟩ : ∃ lt, lt = (decide ((ln : Int) ≤ 60) && lightT (lines.map bs) 120) := ⟨_, rfl⟩
  rw [← hlt] at LT2
  have HLT := Lib.hid hlt
  clear hlt LT
  go_wp2_with (go_at_call 16; refine Hid.out ?_)
  refine Lib.hid ?_
  refine LT2.out.mono ?_
  rintro _ w5 ⟨rfl, h5⟩
  rw [h5]
  clear h5 w5 LT2
  cases lt with
  | false =>
    go_wp2
    go_ret
    exact ⟨rfl, hb04⟩
  | true =>
  have h60 : ln ≤ 60 := by
    have h := HLT.out.symm
    rw [Bool.and_eq_true, decide_eq_true_eq] at h
    omega
  have HLO : Hid (∀ x ∈ lines, x.length ≤ 120) := fun x hx => by
    have h := HLT.out.symm
    rw [Bool.and_eq_true] at h
    have h2 := h.2
    unfold lightT at h2
    rw [List.all_eq_true] at h2
    have := of_decide_eq_true (h2 (bs x) (List.mem_map.2 ⟨x, hx, rfl⟩))
    rw [bs_size] at this
    omega
  have k0 := JB4.out.at (i := 0) (v := .slice a rn cap) rfl
  have k1 := JB4.out.at (i := 1) (v := .int .i64 fo) rfl
  have k2 := JB4.out.at (i := 2) (v := .bool ea) rfl
  have k3 := JB4.out.at (i := 3) (v := .int .i64 sl) rfl
  go_wp2_with (go_at_call 17; refine Hid.out ?_)
  refine Lib.hid ?_
  refine (CK.out w4 (H.out _ hb04) (HE.out _ hb04)).mono ?_
  rintro _ w5 ⟨rfl, hb5⟩
  have hb05 := below_trans hb04 hb5
  have JB5 := Lib.hid (JB4.out.blw hb5)
  clear k0 k1 k2 k3 JB4 hb04 hb5 CK HLT
  rcases (errV_cases f).symm with ⟨h0, hvv⟩ | ⟨h0, hvv⟩
  · rw [hvv]
    go_wp2
    go_ret
    exact ⟨rfl, hb05⟩
  rw [hvv]
  have HJF : Hid (jobFault ⟨l, fo, false, sl⟩ = 0) := by show _ = _; rw [show jobFault ⟨l, fo, false, sl⟩ = jobFault ⟨l, fo, ea, sl⟩ from rfl, ← HF.out]; exact h0
  obtain ⟨-, hr4, hk1, hk4, hs1, hs4, -⟩ := jobFault_parts HJF.out
  simp only at hr4 hk1 hk4 hs1 hs4
  obtain ⟨ns, rfl⟩ : ∃ ns : Nat, sl = (ns : Int) := ⟨sl.toNat, by omega⟩
  have hn1 : 1 ≤ ns := by omega
  have hn4 : ns ≤ 4 := by omega
  obtain ⟨w6, hw6⟩ : ∃ w6, w6 = w5.setCell ⟨w.heap.size, 2, none⟩ (.bool false) := ⟨_, rfl⟩
  have JB6 : Hid (Blk w6 w.heap.size 37 [.slice a rn cap, .int .i64 fo, .bool false, .int .i64 (ns : Int)]) := by rw [hw6]; exact JB5.out.set 2 (.bool false)
  have hb06 : Below w.heap.size w w6 := by rw [hw6]; exact hb05.setCell (p := ⟨w.heap.size, 2, none⟩) (Nat.le_refl _) _
  have HW6 := Lib.hid hw6
  have k2 := JB5.out.at (i := 2) (v := .bool ea) rfl
  have f2 := JB5.out.frozen 2
  clear hvv h0 HF hr4 hk1 hk4 hs1 hs4 JB5 hw6 hb05
  go_upto_region 8 with fail
  rw [← HW6.out]
  clear k2 f2 HW6
  have k0 := JB6.out.at (i := 0) (v := .slice a rn cap) rfl
  have k1 := JB6.out.at (i := 1) (v := .int .i64 fo) rfl
  have k2 := JB6.out.at (i := 2) (v := .bool false) rfl
  have k3 := JB6.out.at (i := 3) (v := .int .i64 (ns : Int)) rfl
  have HWT : Hid (rulesWt l ≤ 1000000) := by
    have h1 := job_small HJF.out
    show _ ≤ _
    simp only at h1
    omega
  have NW : Hid (∀ (A : List (List UInt8)) (v : Value) (w' : World), Below w6.heap.size w6 w' → IsTexts w' v (A.map bs) → A.length ≤ 60 → Calls Tryd.prog 18 #[.agg #[.slice a rn cap, .int .i64 fo, .bool false, .int .i64 (ns : Int)], v] w' fun e w'' => ∃ B R rv lv, e = .returned (.tuple #[.pointer (some ⟨R, 0, none⟩), .nilIface]) ∧ Hid (w'.heap.size ≤ B) ∧ Hid (IsMR w'' R ⟨l, fo, false, (ns : Int)⟩ rv lv A 0 (.slice none 0 0) []) ∧ Hid (MRheld B w'' R ⟨l, fo, false, (ns : Int)⟩ rv lv A) ∧ Below w'.heap.size w' w'') := fun A v w' hb hT hA => by
    refine (new_ok2 ⟨l, fo, false, (ns : Int)⟩ (.slice a rn cap) v A w' (H.out _ (hb06.trans (hb.mono hb06.size))) HWT.out HJF.out hT hA (HE.out _ (hb06.trans (hb.mono hb06.size)))).mono ?_
    rintro e w'' ⟨R, rv, lv, h1, h2, h3, h4⟩
    exact ⟨_, R, rv, lv, h1, Nat.le_refl _, h2, h3, h4⟩
  have HB06 := Lib.hid hb06
  have HS6 : Hid (w.heap.size ≤ w6.heap.size) := hb06.size
  have MI : Hid (∀ (A : List (List UInt8)) (R : Nat) (w' : World), Below w6.heap.size w6 w' → w6.heap.size ≤ R → A.length ≤ 60 → (∀ x ∈ A, x ∈ lines) → MRin w' R ⟨l, fo, false, (ns : Int)⟩ A) := fun A R w' hb hR hA hx =>
    ⟨HJF.out, by have := HWT.out; simp only; omega, hA, fun x h => by have := HLO.out x (hx x h); omega, fun w'' hb'' => HE.out w'' ((HB06.out.trans (hb.mono HS6.out)).trans (hb''.mono (Nat.le_trans HS6.out hR)))⟩
  have ML : Hid (∀ A : List (List UInt8), A.length ≤ 60 → (∀ x ∈ A, x ∈ lines) → (madeOf ⟨l, fo, false, (ns : Int)⟩ A).length ≤ 240240) := fun A hA hx => by
    have h1 := madeOf_len ⟨l, fo, false, (ns : Int)⟩ A (jobFault_parts HJF.out).2.1 (fun x h => by have := HLO.out x (hx x h); omega)
    have h2 := Nat.mul_le_mul_right 4004 hA
    omega
  clear hb06
  rcases Nat.eq_zero_or_pos ln with hz | hp
  · have hlc0 : ln ≤ lc := HLC.out
    subst hz
    have hle : lines = [] := List.eq_nil_of_length_eq_zero HLN.out.symm
    obtain ⟨A, hA⟩ : ∃ A : List (List UInt8), A = [] := ⟨_, rfl⟩
    obtain ⟨B, hB⟩ : ∃ B : List (List UInt8), B = [] := ⟨_, rfl⟩
    have HA60 : Hid (A.length ≤ 60) := by show _ ≤ _; rw [hA]; simp
    have HB60 : Hid (B.length ≤ 60) := by show _ ≤ _; rw [hB]; simp
    have HAB : Hid (lines = A ++ B) := by show _ = _; rw [hle, hA, hB]; rfl
    cases la with
    | none =>
      have TA : Hid (∀ w', Below w6.heap.size w6 w' → IsTexts w' (.slice none 0 lc) (A.map bs)) := fun w' _ => by rw [hA]; exact isTexts_nil w' _ _
      have TB : Hid (∀ (w' : World) (v : Value), Below w6.heap.size w6 w' → (∃ x c, v = .slice x 0 c) → IsTexts w' v (B.map bs)) := fun w' v _ h => by obtain ⟨x, c, rfl⟩ := h; rw [hB]; exact isTexts_nil w' _ _
      clear hA hB hle
      go_upto_region 10 with fail
      go_region_with (go_at_call 18; refine (NW.out _ _ _ (by first | exact Below.refl _ _ | exact Pp.blw_drew (Below.refl _ w6)) (TA.out _ (by first | exact Below.refl _ _ | exact Pp.blw_drew (Below.refl _ w6))) HA60.out).mono ?_; rintro _ w7 ⟨B1, R1, rv1, lv1, rfl, hB1, hA, hhA, hb7⟩; have hb67 : Below w6.heap.size w6 w7 := (by first | exact hb7 | exact below_trans (Pp.blw_drew (Below.refl _ w6)) hb7); have hB1' : Hid (w6.heap.size ≤ B1) := hB1.out; clear hb7 hB1 k0 k1 k2 k3)
      (try simp only [Exit.then])
      obtain ⟨k0, k1, k2, k3⟩ : w7.cell? ⟨w.heap.size, 0, none⟩ = some (.slice a rn cap) ∧ w7.cell? ⟨w.heap.size, 1, none⟩ = some (.int .i64 fo) ∧ w7.cell? ⟨w.heap.size, 2, none⟩ = some (.bool false) ∧ w7.cell? ⟨w.heap.size, 3, none⟩ = some (.int .i64 (ns : Int)) := by
        have h := JB6.out.blw hb67
        exact ⟨h.at rfl, h.at rfl, h.at rfl, h.at rfl⟩
      go_upto_region 11 with fail
      go_region_with (go_at_call 18; refine (NW.out _ _ _ (by first | exact hb67 | exact Pp.blw_drew hb67) (TB.out _ _ (by first | exact hb67 | exact Pp.blw_drew hb67) (by first | rfl | exact ⟨_, _, rfl⟩ | (rw [if_neg hck]))) HB60.out).mono ?_; rintro _ w8 ⟨B2, R2, rv2, lv2, rfl, hB2, hB, hhB, hb8⟩; have hb78 : Below w7.heap.size w7 w8 := (by first | exact hb8 | exact below_trans (Pp.blw_drew (Below.refl _ w7)) hb8); have hB2' : Hid (w7.heap.size ≤ B2) := hB2.out; clear hb8 hB2 k0 k1 k2 k3)
      (try simp only [Exit.then])
      have hb68 := below_trans hb67 hb78
      obtain ⟨k0, k1, k2, k3⟩ : w8.cell? ⟨w.heap.size, 0, none⟩ = some (.slice a rn cap) ∧ w8.cell? ⟨w.heap.size, 1, none⟩ = some (.int .i64 fo) ∧ w8.cell? ⟨w.heap.size, 2, none⟩ = some (.bool false) ∧ w8.cell? ⟨w.heap.size, 3, none⟩ = some (.int .i64 (ns : Int)) := by
        have h := JB6.out.blw hb68
        exact ⟨h.at rfl, h.at rfl, h.at rfl, h.at rfl⟩
      have hA8 := Lib.hid (hA.out.stay hhA.out hb78)
      have HR12 : Hid (R1 < B2) := Nat.lt_of_lt_of_le hA.out.blk.lt hB2'.out
      have HR1 : Hid (w6.heap.size ≤ R1) := Nat.le_trans hB1'.out hhA.out.low
      have HR2 : Hid (B2 ≤ R2) := hhB.out.low
      clear hA hhA
      go_upto_region 12 with fail
      go_wp2_with (go_at_call 18; refine Hid.out ?_)
      refine Lib.hid ?_
      refine (NW.out lines _ w8 hb68 (HV.out w8 (HB06.out.trans (hb68.mono HS6.out))) (by have h1 := HAB.out; have h2 := HLN.out; omega)).mono ?_
      rintro _ w9 ⟨B3, R3, rv3, lv3, rfl, hB3, hC, hhC, hb89⟩
      have hb69 := below_trans hb68 hb89
      have hA9 := Lib.hid (hA8.out.1.stay hA8.out.2 hb89)
      have hB9 := Lib.hid (hB.out.stay hhB.out hb89)
      have HR23 : Hid (R2 < B3) := Nat.lt_of_lt_of_le hB.out.blk.lt hB3.out
      have HR3 : Hid (B3 ≤ R3) := hhC.out.low
      have HXA : Hid (∀ x ∈ A, x ∈ lines) := fun x hx => by rw [HAB.out]; exact List.mem_append_left _ hx
      have HXB : Hid (∀ x ∈ B, x ∈ lines) := fun x hx => by rw [HAB.out]; exact List.mem_append_right _ hx
      have SA := Lib.hid (step_all HSD.out R1 60 ⟨l, fo, false, (ns : Int)⟩ rv1 lv1 A w9 hA9.out.1 (MI.out A R1 w9 hb69 HR1.out HA60.out HXA.out) (by decide) (by decide))
      clear k0 k1 k2 k3 hA8 hB hhB hB3 NW hb67 hb78 hb89 hb68
      dsimp only
      go_upto_region 15 with fail
      go_wp2_with (go_at_call 19; refine Hid.out ?_)
      refine Lib.hid ?_
      refine SA.out.mono ?_
      clear SA
      rintro _ w10 ⟨rfl, mvA, hA10, hFA, hoA⟩
      have hb610 : Below w6.heap.size w6 w10 := hb69.trans (hFA.below hb69.size HR1.out (fun b hb => by cases hb))
      have hB10 := Lib.hid (hB9.out.1.hop hB9.out.2 hFA (.inl HR12.out) (fun g hg => by cases hg))
      have hC10 := Lib.hid (hC.out.hop hhC.out hFA (.inl (by have := HR12.out; have := HR23.out; have := HR2.out; omega)) (fun g hg => by cases hg))
      have hhA10 := Lib.hid (hA9.out.2.keeps (keeps_frm hFA (Nat.le_of_lt hA9.out.1.blk.lt) (.inr (Nat.le_refl _))))
      have HOA : Hid (∀ g, mvA.ownBlock = some g → R3 < g) := fun g hg => by
        have h1 := hoA g hg
        have h2 := hC.out.blk.lt
        omega
      have HA10 := Lib.hid hA10
      have SB := Lib.hid (step_all HSD.out R2 60 ⟨l, fo, false, (ns : Int)⟩ rv2 lv2 B w10 hB10.out.1 (MI.out B R2 w10 hb610 (by have := HR1.out; have := HR12.out; have := HR2.out; omega) HB60.out HXB.out) (by decide) (by decide))
      clear hA9 hB9 hC hhC hA10 hFA hoA hb69
      go_wp2_with (go_at_call 19; refine Hid.out ?_)
      refine Lib.hid ?_
      refine SB.out.mono ?_
      clear SB
      rintro _ w11 ⟨rfl, mvB, hB11, hFB, hoB⟩
      have hb611 : Below w6.heap.size w6 w11 := hb610.trans (hFB.below hb610.size (by have := HR1.out; have := HR12.out; have := HR2.out; omega) (fun b hb => by cases hb))
      have hA11 := Lib.hid (HA10.out.hop hhA10.out hFB (.inr (by have := HR12.out; have := HR2.out; omega)) (fun g hg => by have := HOA.out g hg; have := HR23.out; have := HR3.out; omega))
      have hC11 := Lib.hid (hC10.out.1.hop hC10.out.2 hFB (.inl HR23.out) (fun g hg => by cases hg))
      have hhB11 := Lib.hid (hB10.out.2.keeps (keeps_frm hFB (Nat.le_of_lt hB10.out.1.blk.lt) (.inr (Nat.le_refl _))))
      have HOB : Hid (∀ g, mvB.ownBlock = some g → R3 < g) := fun g hg => by
        have h1 := hoB g hg
        have h2 := hC10.out.1.blk.lt
        omega
      have HB11 := Lib.hid hB11
      have SC := Lib.hid (step_all HSD.out R3 60 ⟨l, fo, false, (ns : Int)⟩ rv3 lv3 lines w11 hC11.out.1 (MI.out lines R3 w11 hb611 (by have := HR1.out; have := HR12.out; have := HR2.out; have := HR23.out; have := HR3.out; omega) (by have := HLN.out; omega) (fun x hx => hx)) (by decide) (by decide))
      clear hB10 hC10 hB11 hFB hoB hb610 HA10 hhA10
      go_wp2_with (go_at_call 19; refine Hid.out ?_)
      refine Lib.hid ?_
      refine SC.out.mono ?_
      clear SC
      rintro _ w12 ⟨rfl, mvC, hC12, hFC, hoC⟩
      have hb612 : Below w6.heap.size w6 w12 := hb611.trans (hFC.below hb611.size (by have := HR1.out; have := HR12.out; have := HR2.out; have := HR23.out; have := HR3.out; omega) (fun b hb => by cases hb))
      have hA12 := Lib.hid (hA11.out.1.hop hA11.out.2 hFC (.inr (by have := HR12.out; have := HR2.out; have := HR23.out; have := HR3.out; omega)) (fun g hg => by have := HOA.out g hg; omega)).1
      have hB12 := Lib.hid (HB11.out.hop hhB11.out hFC (.inr (by have := HR23.out; have := HR3.out; omega)) (fun g hg => by have := HOB.out g hg; omega)).1
      have HK1 : Hid (∀ (A : List (List UInt8)) (p : ByteArray × Int), p ∈ madeOf ⟨l, fo, false, (ns : Int)⟩ A → p.1.size ≤ 1000) := fun A p hp => by have := made_key hp; omega
      have LA := Lib.hid (ML.out A HA60.out HXA.out)
      have LB := Lib.hid (ML.out B HB60.out HXB.out)
      have LC := Lib.hid (ML.out lines (by have := HLN.out; omega) (fun x hx => hx))
      have XA := Lib.hid (slices_any R1 A.length l fo false ns rv1 lv1 mvA A _ w12 hA12.out hn1 hn4 (by have := LA.out; omega) (HK1.out A))
      have HC12 := Lib.hid hC12
      clear hA11 hC11 HB11 hhB11 hC12 hFC hoC hb611 HOA HOB MI ML HSD
      go_wp2_with (go_at_call 20; refine Hid.out ?_)
      refine Lib.hid ?_
      refine XA.out.mono ?_
      clear XA
      rintro _ w13 ⟨xv, rfl, hxv, hb1213⟩
      have hb613 := hb612.trans (hb1213.mono hb612.size)
      have XB := Lib.hid (slices_any R2 B.length l fo false ns rv2 lv2 mvB B _ w13 (hB12.out.blw hb1213) hn1 hn4 (by have := LB.out; omega) (HK1.out B))
      have HXV := Lib.hid hxv
      obtain ⟨xa, xc, rfl, -⟩ := hxv
      have hsx : (slicesOf fo false ns (madeOf ⟨l, fo, false, (ns : Int)⟩ A)).length = ns := by simp [slicesOf]
      rw [hsx] at HXV ⊢
      have HC13 := Lib.hid (HC12.out.blw hb1213)
      clear hA12 hB12 HC12 hb612 hsx hb1213
      go_wp2_with (go_at_call 20; refine Hid.out ?_)
      refine Lib.hid ?_
      refine XB.out.mono ?_
      clear XB
      rintro _ w14 ⟨yv, rfl, hyv, hb1314⟩
      have hb614 := hb613.trans (hb1314.mono hb613.size)
      have XC := Lib.hid (slices_any R3 lines.length l fo false ns rv3 lv3 mvC lines _ w14 (HC13.out.blw hb1314) hn1 hn4 (by have := LC.out; omega) (HK1.out lines))
      have HXV4 := Lib.hid (lists_below HXV.out hb1314)
      have HYV := Lib.hid hyv
      obtain ⟨ya, yc, rfl, -⟩ := hyv
      have hsy : (slicesOf fo false ns (madeOf ⟨l, fo, false, (ns : Int)⟩ B)).length = ns := by simp [slicesOf]
      rw [hsy] at HYV ⊢
      clear HC13 hb613 hsy hb1314 HXV
      go_wp2_with (go_at_call 20; refine Hid.out ?_)
      refine Lib.hid ?_
      refine XC.out.mono ?_
      clear XC
      rintro _ w15 ⟨zv, rfl, hzv, hb1415⟩
      have hb615 := hb614.trans (hb1415.mono hb614.size)
      have HXV5 := Lib.hid (lists_below HXV4.out hb1415)
      have HYV5 := Lib.hid (lists_below HYV.out hb1415)
      have HZV5 := Lib.hid hzv
      obtain ⟨za, zc, rfl, -⟩ := hzv
      have hsz : (slicesOf fo false ns (madeOf ⟨l, fo, false, (ns : Int)⟩ lines)).length = ns := by simp [slicesOf]
      rw [hsz] at HZV5 ⊢
      clear HYV HXV4 hb614 hsz hb1415
      have HB15 := Lib.hid hb615
      clear hb615
      have EXY : Hid (madeOf ⟨l, fo, false, (ns : Int)⟩ lines = madeOf ⟨l, fo, false, (ns : Int)⟩ A ++ madeOf ⟨l, fo, false, (ns : Int)⟩ B) := by show _ = _; rw [← madeOf_append, ← HAB.out]
      dsimp only
      go_wp2
      go_loopg [18] ns (fun gg iv wr => ∃ i : Nat, gg = ns - i ∧ i ≤ ns ∧ iv = .int .i64 i ∧ Below w15.heap.size w15 wr)
      case atStart => exact ⟨0, rfl, Nat.zero_le _, rfl, Below.refl _ _⟩
      case round =>
        obtain ⟨i, hgi, hi, rfl, hbr⟩ := hrel
        have HGI := Lib.hid hgi
        clear hgi
        by_cases hlt : i < ns
        · have HLT := Lib.hid hlt
          obtain ⟨xb, xoff, u1, rfl, x0, hx⟩ := slice_at (lists_below HXV5.out hbr) i hlt
          obtain ⟨yb, yoff, u2, rfl, y0, hy⟩ := slice_at (lists_below HYV5.out hbr) i hlt
          obtain ⟨zb, zoff, u3, rfl, z0, hz⟩ := slice_at (lists_below HZV5.out hbr) i hlt
          have hM := merge_slices (ns : Int) i (madeOf ⟨l, fo, false, (ns : Int)⟩ A) (madeOf ⟨l, fo, false, (ns : Int)⟩ B)
          rw [← EXY.out] at hM
          have l1 := inSlice_len (ns : Int) i (madeOf ⟨l, fo, false, (ns : Int)⟩ A)
          have l2 := inSlice_len (ns : Int) i (madeOf ⟨l, fo, false, (ns : Int)⟩ B)
          have l3 := inSlice_len (ns : Int) i (madeOf ⟨l, fo, false, (ns : Int)⟩ lines)
          have hl1 := LA.out
          have hl2 := LB.out
          have hl3 := LC.out
          generalize inSlice (ns : Int) i (Pp.Tot.srt (madeOf ⟨l, fo, false, (ns : Int)⟩ A)) = L1 at hx hM l1
          generalize inSlice (ns : Int) i (Pp.Tot.srt (madeOf ⟨l, fo, false, (ns : Int)⟩ B)) = L2 at hy hM l2
          generalize inSlice (ns : Int) i (Pp.Tot.srt (madeOf ⟨l, fo, false, (ns : Int)⟩ lines)) = L3 at hz hM l3
          have MG : Hid (∀ w2, Below (wr.alloc (.cells #[u1, u2] 22)).heap.size (wr.alloc (.cells #[u1, u2] 22)) w2 → Calls Tryd.prog 13 #[.slice (some ⟨wr.heap.size, 0, none⟩) 2 2] w2 fun e w'' => ∃ ma mc, e = .returned (.slice ma L3.length mc) ∧ Pp.IsPairs w'' (.slice ma L3.length mc) L3 ∧ Below wr.heap.size wr w'') := fun w2 hb => merge_two hb hx hy (by omega) (by omega) (fun Z h1 h2 => hM Z h1 h2)
          have SP : Hid (∀ w' v, Below wr.heap.size wr w' → Pp.IsPairs w' v L3 → Calls Tryd.prog 12 #[v, u3] w' fun e w'' => e = .returned (.bool true) ∧ Below w'.heap.size w' w'') := fun w' v hb hv => by
            refine (Pp.samePairs_any v u3 L3 L3 w' hv (Pp.isPairs_below hz hb) (by unfold maxLen; omega)).mono ?_
            rintro e w'' ⟨rfl, nd, hd⟩
            exact ⟨by rw [decide_eq_true rfl], by rw [hd]; exact below_drewN _ _⟩
          have Z0 : Hid (∀ w', Below wr.heap.size wr w' → w'.cell? ⟨zb, zoff + i, none⟩ = some u3) := fun w' hb => cell_below z0 hb
          obtain ⟨a1, c1, e1, -⟩ := id hx
          obtain ⟨a2, c2, e2, -⟩ := id hy
          obtain ⟨a3, c3, e3, -⟩ := id hz
          generalize L1.length = n1 at e1
          generalize L2.length = n2 at e2
          generalize L3.length = n3 at MG e3
          subst e1 e2 e3
          have z2 : (wr.alloc (.cells #[.slice a1 n1 c1, .slice a2 n2 c2] 22)).cell? ⟨zb, zoff + i, none⟩ = some (.slice a3 n3 c3) := Z0.out _ (below_box _)
          clear hx hy hz hM l1 l2 l3 hl1 hl2 hl3 HXV5 HYV5 HZV5
          go_upto_region 24 with fail
          go_region_with (first | (go_at_call 13; refine (MG.out _ (by first | exact Below.refl _ _ | exact Pp.blw_drew (Below.refl _ _))).mono ?_; rintro _ w16 ⟨ma, mc, rfl, hmp, hb16⟩; have HB16 : Hid (Below wr.heap.size wr w16) := hb16; have HMP := Lib.hid hmp; have z1 := Z0.out w16 HB16.out; clear hb16 hmp x0 y0) | (go_at_call 12; refine (SP.out _ _ HB16.out HMP.out).mono ?_; rintro _ w17 ⟨rfl, hb17⟩; have HB17 : Hid (Below w15.heap.size w15 w17) := below_trans hbr (below_trans HB16.out hb17); clear hb17))
          all_goals
            (try simp only [Exit.then])
            go_wp2
            go_roundg (ns - (i + 1))
            case measure => have := HGI.out; have := HLT.out; omega
            case rel => exact ⟨i + 1, rfl, HLT.out, by have := HLT.out; go_num, HB17.out⟩
        · have hbw : Below w6.heap.size w6 wr := HB15.out.trans (hbr.mono HB15.out.size)
          have k3 := (JB6.out.blw hbw).at (i := 3) (v := .int .i64 (ns : Int)) rfl
          go_wp2
          go_ret
          exact ⟨rfl, HB06.out.trans (hbw.mono HS6.out)⟩
    | some ad => exact absurd HCA.out.2 (by simp)
  · exact absurd HCA.out.1 (fun h => by have h2 := HLN.out; rw [h] at h2; simp at h2; omega)
end Go.Proofs.YtgkpnjnollfdaaaDoor
