/- Contract of package slices' merge in place at pairs: the middle behind the border. Written by tpl/mk_sym.py. -/
import Derived.Test.YtmgpacenooncjaaGreatDoorPpSymR
namespace Go.Proofs.YtmgpacenooncjaaGreatDoor.Pp
open Go.ChangeShapes Go.WideShapes Go.ChangeAt Go.RowKit
open Stable
set_option maxRecDepth 100000 in
set_option maxHeartbeats 16000000 in
theorem symMid2_any (g n cap : Nat) (P X Y Q : List (ByteArray × Int)) (w : World) (hr : Row g (P ++ X ++ Y ++ Q) w) (hn : n = (P ++ X ++ Y ++ Q).length) (hN : n ≤ 1000000) (a m b mid : Nat) (ha : a = P.length) (hm : m = a + X.length) (hb : b = m + Y.length) (hX2 : 2 ≤ X.length) (hY2 : 2 ≤ Y.length) (hX : Sorted X) (hY : Sorted Y) (hmid : mid = (a + b) / 2) (hcase : m ≤ mid) (IH : SymOK g n cap (b - a)) :
    Calls Tryz.prog 117 #[.slice (some ⟨g, 0, none⟩) n cap, .int .i64 a, .int .i64 m, .int .i64 b, .func (.func 80) #[] #[]] w fun e w' => e = .returned (.tuple #[]) ∧ (∃ Z, Sorted Z ∧ SE (X ++ Y) Z ∧ Z.length = X.length + Y.length ∧ Row g (P ++ Z ++ Q) w') ∧ Only g w w' := by
  have hmix : Tryz.prog.follows .mixedOrders = true := by kernel_rfl
  have hlen : n = P.length + X.length + Y.length + Q.length := by rw [hn]; simp; omega
  have hbn : b ≤ n := by omega
  have hmb : m + 2 ≤ b := by omega
  have ham : a + 2 ≤ m := by omega
  have hma : (((m : Int) - (a : Int)) == 1) = false := by simp; omega
  have hbm : (((b : Int) - (m : Int)) == 1) = false := by simp; omega
  have emid : ((a : Int) + (b : Int)) / 2 = (mid : Int) := by omega
  have hm1 : 2 * mid ≤ a + b := by omega
  have hm2 : a + b ≤ 2 * mid + 1 := by omega
  have HA := Lib.hid ha
  have HM := Lib.hid hm
  have HB := Lib.hid hb
  have HL := Lib.hid hn
  clear hn ha hm hb hlen hX2 hY2 hmid
  obtain ⟨nn, hnn⟩ : ∃ nn, nn = mid + m := ⟨_, rfl⟩
  have enn : (mid : Int) + (m : Int) = (nn : Int) := by omega
  obtain ⟨p, hp⟩ : ∃ p, p + 1 = nn := ⟨nn - 1, by omega⟩
  have ep : (nn : Int) - 1 = (p : Int) := by omega
  have hnn2 : nn ≤ 2000000 := by omega
  have HP : Hid (p + 1 = mid + m) := by show _ = _; omega
  have HNN := Lib.hid hnn
  have HMO := Lib.hid (mid_mono rfl HA.out HM.out HB.out hX hY (Nat.le_refl a) (Nat.le_refl m) (by omega) (by omega) (Q := Q) (p := p) (lo := a) (hi := m))
  have hpn : p < n + a := by omega
  have hpm : m + m ≤ p + 1 := by omega
  have tc : decide (mid < m) = false := by simp; omega
  clear hp hnn 
  go_enter Tryz.func117, Tryz.ntmps117
  go_wp2_with fail
  clear hma hbm emid enn ep 
  go_loopw [20, 21] (fun sv rv wr => ∃ (s r : Nat), sv = .int .i64 s ∧ rv = .int .i64 r ∧ a ≤ s ∧ s ≤ r ∧ r ≤ m ∧ Only g w wr ∧ Row g (P ++ X ++ Y ++ Q) wr ∧ Hid (Srch (fun c => bl (key (pr (P ++ X ++ Y ++ Q) (p - c))) (key (pr (P ++ X ++ Y ++ Q) c))) a m s r)) (fun sv rv _ => (intOf rv).toNat - (intOf sv).toNat)
  case atStart => exact ⟨a, m, rfl, rfl, Nat.le_refl _, by omega, Nat.le_refl _, Only.refl _ _, hr, Srch.start _ (by omega)⟩
  case round =>
    obtain ⟨s, r, rfl, rfl, hls, hsr, hrh, ho, hrow, HS⟩ := hrel
    clear hr
    by_cases hlt : s < r
    · obtain ⟨h, hh⟩ : ∃ h, h = (s + r) / 2 := ⟨_, rfl⟩
      have hh1 : s ≤ h := by omega
      have hh2 : h < r := by omega
      have eh : ((s : Int) + (r : Int)) / 2 = (h : Int) := by omega
      have hhn : h < n := by omega
      have hpc : p - h < n := by omega
      have e1 : IntKind.i64.wrap ((p : Int) - (h : Int)) = ((p - h : Nat) : Int) := by rw [wrap_small _ (by omega) (by omega)]; omega
      clear hh
      have hlx := HL.out
      obtain ⟨px, hpx⟩ : ∃ q, q = pr (P ++ X ++ Y ++ Q) (p - h) := ⟨_, rfl⟩
      obtain ⟨pa, hpa⟩ : ∃ q, q = pr (P ++ X ++ Y ++ Q) h := ⟨_, rfl⟩
      obtain ⟨c0, c1⟩ := hrow.pr (p - h) (by omega)
      obtain ⟨c2, c3⟩ := hrow.pr h (by omega)
      rw [← hpx] at c0 c1
      rw [← hpa] at c2 c3
      have k0 := cell_regrown c0
      have k1 := cell_regrown c1
      have k2 := cell_regrown c2
      have k3 := cell_regrown c3
      have K := Lib.hid (cmp_regrown px pa wr)
      have hcl := cmpN_lt px pa
      have HPX := Lib.hid hpx
      have HPA := Lib.hid hpa
      clear c0 c1 c2 c3 hlx hpx hpa
      cases hc : bl (key px) (key pa) with
      | false =>
        have hcm : decide (cmpN px pa < 0) = false := by
          rw [hc] at hcl
          rw [decide_eq_false_iff_not]
          exact fun h => by have := hcl.1 h; cases this
        have HS2 := Lib.hid (Srch.right HS.out HMO.out hh1 hh2 (by rw [← HPX.out, ← HPA.out, hc]))
        generalize cmpN px pa = cn at *
        clear hcl
        go_wp2
        refine wp_region_quiet_below hmix (by kernel_rfl) ?_
        repeat (first | go_big_quiet_step ((go_at_call 80; exact K.out _ _)) | quiet_step ((go_at_call 80; exact K.out _ _)))
        refine wpQuiet_nil ?_
        intro _ hw2
        obtain ⟨⟨dq2, osq2⟩, hw2'⟩ := hw2
        subst hw2'
        have HO := ho.trans (Only.of_below (below_regrown wr dq2 osq2))
        have HR := hrow.below (below_regrown wr dq2 osq2)
        generalize Sort.grow (redrawn wr dq2) osq2 = w3 at *
        clear k0 k1 k2 k3 K hrow
        go_wp2
        go_roundw
        case rel => exact ⟨h + 1, r, by go_num, rfl, by omega, by omega, hrh, HO, HR, HS2⟩
        case measure => simp [intOf]; omega
      | true =>
        have hcm : decide (cmpN px pa < 0) = true := by rw [decide_eq_true_eq]; exact hcl.2 hc
        have HS2 := Lib.hid (Srch.left HS.out HMO.out hh1 hh2 (by rw [← HPX.out, ← HPA.out, hc]))
        generalize cmpN px pa = cn at *
        clear hcl
        go_wp2
        refine wp_region_quiet_below hmix (by kernel_rfl) ?_
        repeat (first | go_big_quiet_step ((go_at_call 80; exact K.out _ _)) | quiet_step ((go_at_call 80; exact K.out _ _)))
        refine wpQuiet_nil ?_
        intro _ hw2
        obtain ⟨⟨dq2, osq2⟩, hw2'⟩ := hw2
        subst hw2'
        have HO := ho.trans (Only.of_below (below_regrown wr dq2 osq2))
        have HR := hrow.below (below_regrown wr dq2 osq2)
        generalize Sort.grow (redrawn wr dq2) osq2 = w3 at *
        clear k0 k1 k2 k3 K hrow
        go_wp2
        go_roundw
        case rel => exact ⟨s, h, rfl, rfl, hls, hh1, by omega, HO, HR, HS2⟩
        case measure => simp [intOf]; omega
    · have hji : r = s := by omega
      subst hji
      have hp1 := HP.out
      obtain ⟨X1, X2, Y1, Y2, hF⟩ := mid_fact (mid := mid) rfl HA.out HM.out HB.out hX hY HP.out (by omega) (by omega) (by omega) (by omega) (.inl rfl) (.inl rfl) HS.out
      have HF := Lib.hid hF
      obtain ⟨e, he⟩ : ∃ e, e + r = nn := ⟨nn - r, by have := HNN.out; omega⟩
      have ee : (nn : Int) - (r : Int) = (e : Int) := by omega
      have hn1 := HNN.out
      have hemid : e + r = mid + m := by omega
      have hme1 : mid ≤ e := by omega
      have heb : e ≤ b := by omega
      have HE := Lib.hid hemid
      clear HS hF hlt hp1 HP hn1 he
      by_cases hA : r < m
      · by_cases hf : a < r
        · by_cases hg : e < b
          · have t1 : decide (r < m) = true := by simp; omega
            have t2 : decide (m < e) = true := by simp; omega
            have t3 : decide (a < r) = true := by simp; omega
            have t4 : decide (r < mid) = true := by simp; omega
            have t5 : decide (mid < e) = true := by simp; omega
            have t6 : decide (e < b) = true := by simp; omega
            have C1 := Lib.hid (rotate_any g n cap (.func (.func 80) #[] #[]) (P ++ X1) X2 Y1 (Y2 ++ Q) wr (by have h := hrow; rw [HF.out.1, HF.out.2.1] at h; simpa using h) (by have h := HL.out; rw [HF.out.1, HF.out.2.1] at h; rw [h]; simp) hN r m e (by have := HA.out; have := HF.out.2.2.1; simp; omega) (by have := HA.out; have := HF.out.2.2.1; have := HF.out.2.2.2.1; simp; omega) (by have := HA.out; have := HF.out.2.2.1; have := HF.out.2.2.2.1; have := HF.out.2.2.2.2.1; simp; omega) (by have := HF.out.2.2.2.1; omega) (by have := HF.out.2.2.2.2.1; omega))
            clear hrow
            go_wp2_with (go_at_call 130; refine Hid.out ?_)
            refine Lib.hid ?_
            refine C1.out.mono ?_
            rintro _ w1 ⟨rfl, hr1, ho1⟩
            have HO1 := ho.trans ho1
            have HR1 : Row g (P ++ (X1 ++ Y1) ++ (X2 ++ Y2) ++ Q) w1 := by simpa using hr1
            clear C1 hr1 ho1 ho
            have C2 := Lib.hid (IH P X1 Y1 (X2 ++ Y2 ++ Q) w1 (by simpa using HR1) (by have h := HL.out; rw [HF.out.1, HF.out.2.1] at h; rw [h]; simp; omega) a r mid HA.out (by have := HF.out.2.2.1; omega) (by have := HF.out.2.2.2.2.1; omega) (by have := HF.out.2.2.1; omega) (by have := HF.out.2.2.2.2.1; omega) (by omega) (by have h := hX; rw [HF.out.1] at h; exact (sorted_append.1 h).1) (by have h := hY; rw [HF.out.2.1] at h; exact (sorted_append.1 h).1))
            clear HR1
            go_wp2_with (go_at_call 117; refine Hid.out ?_)
            refine Lib.hid ?_
            refine C2.out.mono ?_
            rintro _ w2 ⟨rfl, ⟨Z1, z1, z2, z3, hr2⟩, ho2⟩
            have HO2 := HO1.trans ho2
            have HZ1 := Lib.hid (And.intro z1 (And.intro z2 z3))
            have HR2 : Row g (P ++ Z1 ++ (X2 ++ Y2) ++ Q) w2 := by simpa using hr2
            clear C2 hr2 ho2 HO1 z1 z2 z3
            have C3 := Lib.hid (IH (P ++ Z1) X2 Y2 Q w2 (by simpa using HR2) (by have h := HL.out; rw [HF.out.1, HF.out.2.1] at h; rw [h]; have := HZ1.out.2.2; simp; omega) mid e b (by have := HA.out; have := HF.out.2.2.1; have := HF.out.2.2.2.2.1; have := HZ1.out.2.2; simp; omega) (by have := HF.out.2.2.2.1; omega) (by have := HF.out.2.2.2.2.2.1; omega) (by have := HF.out.2.2.2.1; omega) (by have := HF.out.2.2.2.2.2.1; omega) (by omega) (by have h := hX; rw [HF.out.1] at h; exact (sorted_append.1 h).2.1) (by have h := hY; rw [HF.out.2.1] at h; exact (sorted_append.1 h).2.1))
            clear HR2
            go_wp2_with (go_at_call 117; refine Hid.out ?_)
            refine Lib.hid ?_
            refine C3.out.mono ?_
            rintro _ w3 ⟨rfl, ⟨Z2, z1, z2, z3, hr3⟩, ho3⟩
            have HO3 := HO2.trans ho3
            have HZ2 := Lib.hid (And.intro z1 (And.intro z2 z3))
            have HR3 : Row g (P ++ (Z1 ++ Z2) ++ Q) w3 := by simpa using hr3
            clear C3 hr3 ho3 HO2 z1 z2 z3
            have HFIN : Hid (∃ Z, Sorted Z ∧ SE (X ++ Y) Z ∧ Z.length = X.length + Y.length ∧ Row g (P ++ Z ++ Q) w3) := by
              have hme := mid_end (X1 := X1) (X2 := X2) (Y1 := Y1) (Y2 := Y2) (by rw [← HF.out.1]; exact hX) (by rw [← HF.out.2.1]; exact hY) HF.out.2.2.2.2.2.2.1 HF.out.2.2.2.2.2.2.2 HZ1.out.1 HZ1.out.2.1 HZ2.out.1 HZ2.out.2.1
              refine ⟨Z1 ++ Z2, hme.1, by rw [HF.out.1, HF.out.2.1]; exact hme.2, ?_, HR3⟩
              have h1 := HZ1.out.2.2
              have h2 := HZ2.out.2.2
              rw [HF.out.1, HF.out.2.1]
              simp
              omega
            clear HR3
            go_wp2
            go_end0
            exact ⟨rfl, HFIN.out, HO3⟩
          · have t1 : decide (r < m) = true := by simp; omega
            have t2 : decide (m < e) = true := by simp; omega
            have t3 : decide (a < r) = true := by simp; omega
            have t4 : decide (r < mid) = true := by simp; omega
            have t5 : decide (mid < e) = true := by simp; omega
            have t6 : decide (e < b) = false := by simp; omega
            have C1 := Lib.hid (rotate_any g n cap (.func (.func 80) #[] #[]) (P ++ X1) X2 Y1 (Y2 ++ Q) wr (by have h := hrow; rw [HF.out.1, HF.out.2.1] at h; simpa using h) (by have h := HL.out; rw [HF.out.1, HF.out.2.1] at h; rw [h]; simp) hN r m e (by have := HA.out; have := HF.out.2.2.1; simp; omega) (by have := HA.out; have := HF.out.2.2.1; have := HF.out.2.2.2.1; simp; omega) (by have := HA.out; have := HF.out.2.2.1; have := HF.out.2.2.2.1; have := HF.out.2.2.2.2.1; simp; omega) (by have := HF.out.2.2.2.1; omega) (by have := HF.out.2.2.2.2.1; omega))
            clear hrow
            go_wp2_with (go_at_call 130; refine Hid.out ?_)
            refine Lib.hid ?_
            refine C1.out.mono ?_
            rintro _ w1 ⟨rfl, hr1, ho1⟩
            have HO1 := ho.trans ho1
            have HR1 : Row g (P ++ (X1 ++ Y1) ++ (X2 ++ Y2) ++ Q) w1 := by simpa using hr1
            clear C1 hr1 ho1 ho
            have C2 := Lib.hid (IH P X1 Y1 (X2 ++ Y2 ++ Q) w1 (by simpa using HR1) (by have h := HL.out; rw [HF.out.1, HF.out.2.1] at h; rw [h]; simp; omega) a r mid HA.out (by have := HF.out.2.2.1; omega) (by have := HF.out.2.2.2.2.1; omega) (by have := HF.out.2.2.1; omega) (by have := HF.out.2.2.2.2.1; omega) (by omega) (by have h := hX; rw [HF.out.1] at h; exact (sorted_append.1 h).1) (by have h := hY; rw [HF.out.2.1] at h; exact (sorted_append.1 h).1))
            clear HR1
            go_wp2_with (go_at_call 117; refine Hid.out ?_)
            refine Lib.hid ?_
            refine C2.out.mono ?_
            rintro _ w2 ⟨rfl, ⟨Z1, z1, z2, z3, hr2⟩, ho2⟩
            have HO2 := HO1.trans ho2
            have HZ1 := Lib.hid (And.intro z1 (And.intro z2 z3))
            have HR2 : Row g (P ++ Z1 ++ (X2 ++ Y2) ++ Q) w2 := by simpa using hr2
            clear C2 hr2 ho2 HO1 z1 z2 z3
            obtain ⟨Z2, hZ2⟩ : ∃ Z, Z = X2 ++ Y2 := ⟨_, rfl⟩
            have HZ2 : Hid (Sorted Z2 ∧ SE (X2 ++ Y2) Z2 ∧ Z2.length = X2.length + Y2.length) := by
              have hz : Y2 = [] := List.eq_nil_of_length_eq_zero (by have := HF.out.2.2.2.2.2.1; omega)
              refine ⟨?_, by rw [hZ2]; exact SE.refl _, by rw [hZ2]; simp⟩
              have h := hX
              rw [HF.out.1] at h
              rw [hZ2, hz]
              simpa using (sorted_append.1 h).2.1
            have HO3 := HO2
            have HR3 : Row g (P ++ (Z1 ++ Z2) ++ Q) w2 := by rw [hZ2]; simpa using HR2
            clear HO2 HR2 hZ2
            have HFIN : Hid (∃ Z, Sorted Z ∧ SE (X ++ Y) Z ∧ Z.length = X.length + Y.length ∧ Row g (P ++ Z ++ Q) w2) := by
              have hme := mid_end (X1 := X1) (X2 := X2) (Y1 := Y1) (Y2 := Y2) (by rw [← HF.out.1]; exact hX) (by rw [← HF.out.2.1]; exact hY) HF.out.2.2.2.2.2.2.1 HF.out.2.2.2.2.2.2.2 HZ1.out.1 HZ1.out.2.1 HZ2.out.1 HZ2.out.2.1
              refine ⟨Z1 ++ Z2, hme.1, by rw [HF.out.1, HF.out.2.1]; exact hme.2, ?_, HR3⟩
              have h1 := HZ1.out.2.2
              have h2 := HZ2.out.2.2
              rw [HF.out.1, HF.out.2.1]
              simp
              omega
            clear HR3
            go_wp2
            go_end0
            exact ⟨rfl, HFIN.out, HO3⟩
        · by_cases hg : e < b
          · have t1 : decide (r < m) = true := by simp; omega
            have t2 : decide (m < e) = true := by simp; omega
            have t3 : decide (a < r) = false := by simp; omega
            have t5 : decide (mid < e) = true := by simp; omega
            have t6 : decide (e < b) = true := by simp; omega
            have C1 := Lib.hid (rotate_any g n cap (.func (.func 80) #[] #[]) (P ++ X1) X2 Y1 (Y2 ++ Q) wr (by have h := hrow; rw [HF.out.1, HF.out.2.1] at h; simpa using h) (by have h := HL.out; rw [HF.out.1, HF.out.2.1] at h; rw [h]; simp) hN r m e (by have := HA.out; have := HF.out.2.2.1; simp; omega) (by have := HA.out; have := HF.out.2.2.1; have := HF.out.2.2.2.1; simp; omega) (by have := HA.out; have := HF.out.2.2.1; have := HF.out.2.2.2.1; have := HF.out.2.2.2.2.1; simp; omega) (by have := HF.out.2.2.2.1; omega) (by have := HF.out.2.2.2.2.1; omega))
            clear hrow
            go_wp2_with (go_at_call 130; refine Hid.out ?_)
            refine Lib.hid ?_
            refine C1.out.mono ?_
            rintro _ w1 ⟨rfl, hr1, ho1⟩
            have HO1 := ho.trans ho1
            have HR1 : Row g (P ++ (X1 ++ Y1) ++ (X2 ++ Y2) ++ Q) w1 := by simpa using hr1
            clear C1 hr1 ho1 ho
            obtain ⟨Z1, hZ1⟩ : ∃ Z, Z = X1 ++ Y1 := ⟨_, rfl⟩
            have HZ1 : Hid (Sorted Z1 ∧ SE (X1 ++ Y1) Z1 ∧ Z1.length = X1.length + Y1.length) := by
              have hz : X1 = [] := List.eq_nil_of_length_eq_zero (by have := HF.out.2.2.1; omega)
              refine ⟨?_, by rw [hZ1]; exact SE.refl _, by rw [hZ1]; simp⟩
              have h := hY
              rw [HF.out.2.1] at h
              rw [hZ1, hz]
              simpa using (sorted_append.1 h).1
            have HO2 := HO1
            have HR2 : Row g (P ++ Z1 ++ (X2 ++ Y2) ++ Q) w1 := by rw [hZ1]; exact HR1
            clear HO1 HR1 hZ1
            have C3 := Lib.hid (IH (P ++ Z1) X2 Y2 Q w1 (by simpa using HR2) (by have h := HL.out; rw [HF.out.1, HF.out.2.1] at h; rw [h]; have := HZ1.out.2.2; simp; omega) mid e b (by have := HA.out; have := HF.out.2.2.1; have := HF.out.2.2.2.2.1; have := HZ1.out.2.2; simp; omega) (by have := HF.out.2.2.2.1; omega) (by have := HF.out.2.2.2.2.2.1; omega) (by have := HF.out.2.2.2.1; omega) (by have := HF.out.2.2.2.2.2.1; omega) (by omega) (by have h := hX; rw [HF.out.1] at h; exact (sorted_append.1 h).2.1) (by have h := hY; rw [HF.out.2.1] at h; exact (sorted_append.1 h).2.1))
            clear HR2
            go_wp2_with (go_at_call 117; refine Hid.out ?_)
            refine Lib.hid ?_
            refine C3.out.mono ?_
            rintro _ w3 ⟨rfl, ⟨Z2, z1, z2, z3, hr3⟩, ho3⟩
            have HO3 := HO2.trans ho3
            have HZ2 := Lib.hid (And.intro z1 (And.intro z2 z3))
            have HR3 : Row g (P ++ (Z1 ++ Z2) ++ Q) w3 := by simpa using hr3
            clear C3 hr3 ho3 HO2 z1 z2 z3
            have HFIN : Hid (∃ Z, Sorted Z ∧ SE (X ++ Y) Z ∧ Z.length = X.length + Y.length ∧ Row g (P ++ Z ++ Q) w3) := by
              have hme := mid_end (X1 := X1) (X2 := X2) (Y1 := Y1) (Y2 := Y2) (by rw [← HF.out.1]; exact hX) (by rw [← HF.out.2.1]; exact hY) HF.out.2.2.2.2.2.2.1 HF.out.2.2.2.2.2.2.2 HZ1.out.1 HZ1.out.2.1 HZ2.out.1 HZ2.out.2.1
              refine ⟨Z1 ++ Z2, hme.1, by rw [HF.out.1, HF.out.2.1]; exact hme.2, ?_, HR3⟩
              have h1 := HZ1.out.2.2
              have h2 := HZ2.out.2.2
              rw [HF.out.1, HF.out.2.1]
              simp
              omega
            clear HR3
            go_wp2
            go_end0
            exact ⟨rfl, HFIN.out, HO3⟩
          · have t1 : decide (r < m) = true := by simp; omega
            have t2 : decide (m < e) = true := by simp; omega
            have t3 : decide (a < r) = false := by simp; omega
            have t5 : decide (mid < e) = true := by simp; omega
            have t6 : decide (e < b) = false := by simp; omega
            have C1 := Lib.hid (rotate_any g n cap (.func (.func 80) #[] #[]) (P ++ X1) X2 Y1 (Y2 ++ Q) wr (by have h := hrow; rw [HF.out.1, HF.out.2.1] at h; simpa using h) (by have h := HL.out; rw [HF.out.1, HF.out.2.1] at h; rw [h]; simp) hN r m e (by have := HA.out; have := HF.out.2.2.1; simp; omega) (by have := HA.out; have := HF.out.2.2.1; have := HF.out.2.2.2.1; simp; omega) (by have := HA.out; have := HF.out.2.2.1; have := HF.out.2.2.2.1; have := HF.out.2.2.2.2.1; simp; omega) (by have := HF.out.2.2.2.1; omega) (by have := HF.out.2.2.2.2.1; omega))
            clear hrow
            go_wp2_with (go_at_call 130; refine Hid.out ?_)
            refine Lib.hid ?_
            refine C1.out.mono ?_
            rintro _ w1 ⟨rfl, hr1, ho1⟩
            have HO1 := ho.trans ho1
            have HR1 : Row g (P ++ (X1 ++ Y1) ++ (X2 ++ Y2) ++ Q) w1 := by simpa using hr1
            clear C1 hr1 ho1 ho
            obtain ⟨Z1, hZ1⟩ : ∃ Z, Z = X1 ++ Y1 := ⟨_, rfl⟩
            have HZ1 : Hid (Sorted Z1 ∧ SE (X1 ++ Y1) Z1 ∧ Z1.length = X1.length + Y1.length) := by
              have hz : X1 = [] := List.eq_nil_of_length_eq_zero (by have := HF.out.2.2.1; omega)
              refine ⟨?_, by rw [hZ1]; exact SE.refl _, by rw [hZ1]; simp⟩
              have h := hY
              rw [HF.out.2.1] at h
              rw [hZ1, hz]
              simpa using (sorted_append.1 h).1
            have HO2 := HO1
            have HR2 : Row g (P ++ Z1 ++ (X2 ++ Y2) ++ Q) w1 := by rw [hZ1]; exact HR1
            clear HO1 HR1 hZ1
            obtain ⟨Z2, hZ2⟩ : ∃ Z, Z = X2 ++ Y2 := ⟨_, rfl⟩
            have HZ2 : Hid (Sorted Z2 ∧ SE (X2 ++ Y2) Z2 ∧ Z2.length = X2.length + Y2.length) := by
              have hz : Y2 = [] := List.eq_nil_of_length_eq_zero (by have := HF.out.2.2.2.2.2.1; omega)
              refine ⟨?_, by rw [hZ2]; exact SE.refl _, by rw [hZ2]; simp⟩
              have h := hX
              rw [HF.out.1] at h
              rw [hZ2, hz]
              simpa using (sorted_append.1 h).2.1
            have HO3 := HO2
            have HR3 : Row g (P ++ (Z1 ++ Z2) ++ Q) w1 := by rw [hZ2]; simpa using HR2
            clear HO2 HR2 hZ2
            have HFIN : Hid (∃ Z, Sorted Z ∧ SE (X ++ Y) Z ∧ Z.length = X.length + Y.length ∧ Row g (P ++ Z ++ Q) w1) := by
              have hme := mid_end (X1 := X1) (X2 := X2) (Y1 := Y1) (Y2 := Y2) (by rw [← HF.out.1]; exact hX) (by rw [← HF.out.2.1]; exact hY) HF.out.2.2.2.2.2.2.1 HF.out.2.2.2.2.2.2.2 HZ1.out.1 HZ1.out.2.1 HZ2.out.1 HZ2.out.2.1
              refine ⟨Z1 ++ Z2, hme.1, by rw [HF.out.1, HF.out.2.1]; exact hme.2, ?_, HR3⟩
              have h1 := HZ1.out.2.2
              have h2 := HZ2.out.2.2
              rw [HF.out.1, HF.out.2.1]
              simp
              omega
            clear HR3
            go_wp2
            go_end0
            exact ⟨rfl, HFIN.out, HO3⟩
      · by_cases hf : r < mid
        · have t1 : decide (r < m) = false := by simp; omega
          have t3 : decide (a < r) = true := by simp; omega
          have t4 : decide (r < mid) = true := by simp; omega
          have t5 : decide (mid < e) = false := by simp; omega
          have hz : X2 = [] := List.eq_nil_of_length_eq_zero (by have := HF.out.2.2.2.1; omega)
          have HR1 : Row g (P ++ (X1 ++ Y1) ++ (X2 ++ Y2) ++ Q) wr := by have h := hrow; rw [HF.out.1, HF.out.2.1, hz] at h; rw [hz]; simpa using h
          have HO1 := ho
          clear hrow ho hz
          have C2 := Lib.hid (IH P X1 Y1 (X2 ++ Y2 ++ Q) wr (by simpa using HR1) (by have h := HL.out; rw [HF.out.1, HF.out.2.1] at h; rw [h]; simp; omega) a r mid HA.out (by have := HF.out.2.2.1; omega) (by have := HF.out.2.2.2.2.1; omega) (by have := HF.out.2.2.1; omega) (by have := HF.out.2.2.2.2.1; omega) (by omega) (by have h := hX; rw [HF.out.1] at h; exact (sorted_append.1 h).1) (by have h := hY; rw [HF.out.2.1] at h; exact (sorted_append.1 h).1))
          clear HR1
          go_wp2_with (go_at_call 117; refine Hid.out ?_)
          refine Lib.hid ?_
          refine C2.out.mono ?_
          rintro _ w2 ⟨rfl, ⟨Z1, z1, z2, z3, hr2⟩, ho2⟩
          have HO2 := HO1.trans ho2
          have HZ1 := Lib.hid (And.intro z1 (And.intro z2 z3))
          have HR2 : Row g (P ++ Z1 ++ (X2 ++ Y2) ++ Q) w2 := by simpa using hr2
          clear C2 hr2 ho2 HO1 z1 z2 z3
          obtain ⟨Z2, hZ2⟩ : ∃ Z, Z = X2 ++ Y2 := ⟨_, rfl⟩
          have HZ2 : Hid (Sorted Z2 ∧ SE (X2 ++ Y2) Z2 ∧ Z2.length = X2.length + Y2.length) := by
            have hz : X2 = [] := List.eq_nil_of_length_eq_zero (by have := HF.out.2.2.2.1; omega)
            refine ⟨?_, by rw [hZ2]; exact SE.refl _, by rw [hZ2]; simp⟩
            have h := hY
            rw [HF.out.2.1] at h
            rw [hZ2, hz]
            simpa using (sorted_append.1 h).2.1
          have HO3 := HO2
          have HR3 : Row g (P ++ (Z1 ++ Z2) ++ Q) w2 := by rw [hZ2]; simpa using HR2
          clear HO2 HR2 hZ2
          have HFIN : Hid (∃ Z, Sorted Z ∧ SE (X ++ Y) Z ∧ Z.length = X.length + Y.length ∧ Row g (P ++ Z ++ Q) w2) := by
            have hme := mid_end (X1 := X1) (X2 := X2) (Y1 := Y1) (Y2 := Y2) (by rw [← HF.out.1]; exact hX) (by rw [← HF.out.2.1]; exact hY) HF.out.2.2.2.2.2.2.1 HF.out.2.2.2.2.2.2.2 HZ1.out.1 HZ1.out.2.1 HZ2.out.1 HZ2.out.2.1
            refine ⟨Z1 ++ Z2, hme.1, by rw [HF.out.1, HF.out.2.1]; exact hme.2, ?_, HR3⟩
            have h1 := HZ1.out.2.2
            have h2 := HZ2.out.2.2
            rw [HF.out.1, HF.out.2.1]
            simp
            omega
          clear HR3
          go_wp2
          go_end0
          exact ⟨rfl, HFIN.out, HO3⟩
        · have t1 : decide (r < m) = false := by simp; omega
          have t3 : decide (a < r) = true := by simp; omega
          have t4 : decide (r < mid) = false := by simp; omega
          have t5 : decide (mid < e) = false := by simp; omega
          have hz : X2 = [] := List.eq_nil_of_length_eq_zero (by have := HF.out.2.2.2.1; omega)
          have HR1 : Row g (P ++ (X1 ++ Y1) ++ (X2 ++ Y2) ++ Q) wr := by have h := hrow; rw [HF.out.1, HF.out.2.1, hz] at h; rw [hz]; simpa using h
          have HO1 := ho
          clear hrow ho hz
          obtain ⟨Z1, hZ1⟩ : ∃ Z, Z = X1 ++ Y1 := ⟨_, rfl⟩
          have HZ1 : Hid (Sorted Z1 ∧ SE (X1 ++ Y1) Z1 ∧ Z1.length = X1.length + Y1.length) := by
            have hz : Y1 = [] := List.eq_nil_of_length_eq_zero (by have := HF.out.2.2.2.2.1; omega)
            refine ⟨?_, by rw [hZ1]; exact SE.refl _, by rw [hZ1]; simp⟩
            have h := hX
            rw [HF.out.1] at h
            rw [hZ1, hz]
            simpa using (sorted_append.1 h).1
          have HO2 := HO1
          have HR2 : Row g (P ++ Z1 ++ (X2 ++ Y2) ++ Q) wr := by rw [hZ1]; exact HR1
          clear HO1 HR1 hZ1
          obtain ⟨Z2, hZ2⟩ : ∃ Z, Z = X2 ++ Y2 := ⟨_, rfl⟩
          have HZ2 : Hid (Sorted Z2 ∧ SE (X2 ++ Y2) Z2 ∧ Z2.length = X2.length + Y2.length) := by
            have hz : X2 = [] := List.eq_nil_of_length_eq_zero (by have := HF.out.2.2.2.1; omega)
            refine ⟨?_, by rw [hZ2]; exact SE.refl _, by rw [hZ2]; simp⟩
            have h := hY
            rw [HF.out.2.1] at h
            rw [hZ2, hz]
            simpa using (sorted_append.1 h).2.1
          have HO3 := HO2
          have HR3 : Row g (P ++ (Z1 ++ Z2) ++ Q) wr := by rw [hZ2]; simpa using HR2
          clear HO2 HR2 hZ2
          have HFIN : Hid (∃ Z, Sorted Z ∧ SE (X ++ Y) Z ∧ Z.length = X.length + Y.length ∧ Row g (P ++ Z ++ Q) wr) := by
            have hme := mid_end (X1 := X1) (X2 := X2) (Y1 := Y1) (Y2 := Y2) (by rw [← HF.out.1]; exact hX) (by rw [← HF.out.2.1]; exact hY) HF.out.2.2.2.2.2.2.1 HF.out.2.2.2.2.2.2.2 HZ1.out.1 HZ1.out.2.1 HZ2.out.1 HZ2.out.2.1
            refine ⟨Z1 ++ Z2, hme.1, by rw [HF.out.1, HF.out.2.1]; exact hme.2, ?_, HR3⟩
            have h1 := HZ1.out.2.2
            have h2 := HZ2.out.2.2
            rw [HF.out.1, HF.out.2.1]
            simp
            omega
          clear HR3
          go_wp2
          go_end0
          exact ⟨rfl, HFIN.out, HO3⟩
end Go.Proofs.YtmgpacenooncjaaGreatDoor.Pp
