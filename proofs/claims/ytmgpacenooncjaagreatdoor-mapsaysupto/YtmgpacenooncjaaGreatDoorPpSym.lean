/- Contract of package slices' merge in place at pairs. -/
import Derived.Test.YtmgpacenooncjaaGreatDoorPpSymP
import Derived.Outline
namespace Go.Proofs.YtmgpacenooncjaaGreatDoor.Pp
open Go.ChangeShapes Go.WideShapes Go.ChangeAt Go.RowKit
open Stable
set_option maxRecDepth 100000 in
set_option maxHeartbeats 4000000 in
theorem symLeft_any (g n cap : Nat) (P Y Q : List (ByteArray × Int)) (x : ByteArray × Int) (w : World) (hr : Row g (P ++ [x] ++ Y ++ Q) w) (hn : n = (P ++ [x] ++ Y ++ Q).length) (hN : n ≤ 1000000) (a m b : Nat) (ha : a = P.length) (hm : m = a + 1) (hb : b = m + Y.length) (hs : Sorted Y) :
    Calls Tryz.prog 117 #[.slice (some ⟨g, 0, none⟩) n cap, .int .i64 a, .int .i64 m, .int .i64 b, .func (.func 80) #[] #[]] w fun e w' => e = .returned (.tuple #[]) ∧ (∃ Z, Sorted Z ∧ SE ([x] ++ Y) Z ∧ Z.length = Y.length + 1 ∧ Row g (P ++ Z ++ Q) w') ∧ Only g w w' := by
  have hmix : Tryz.prog.follows .mixedOrders = true := by kernel_rfl
  have hlen : n = P.length + 1 + Y.length + Q.length := by rw [hn]; simp; omega
  have hbn : b ≤ n := by omega
  have hmb : m ≤ b := by omega
  have ham : a < m := by omega
  have han : a < n := by omega
  have hma : (m : Int) - (a : Int) = 1 := by omega
  have HA := Lib.hid ha
  have HM := Lib.hid hm
  have HB := Lib.hid hb
  have HL := Lib.hid hn
  clear hn ha hm hb hlen
  go_enter Tryz.func117, Tryz.ntmps117
  go_wp2_with fail
  clear hma
  go_loopw [10, 11] (fun iv jv wr => ∃ (i j : Nat), iv = .int .i64 i ∧ jv = .int .i64 j ∧ m ≤ i ∧ i ≤ j ∧ j ≤ b ∧ Only g w wr ∧ Row g (P ++ [x] ++ Y ++ Q) wr ∧ Hid (Srch (fun k => !bl (key (pr (P ++ [x] ++ Y ++ Q) k)) (key (pr (P ++ [x] ++ Y ++ Q) a))) m b i j)) (fun iv jv _ => (intOf jv).toNat - (intOf iv).toNat)
  case atStart => exact ⟨m, b, rfl, rfl, Nat.le_refl _, hmb, Nat.le_refl _, Only.refl _ _, hr, Srch.start _ hmb⟩
  case round =>
    obtain ⟨i, j, rfl, rfl, hmi, hij, hjb, ho, hrow, HS⟩ := hrel
    clear hr
    by_cases hlt : i < j
    · obtain ⟨h, hh⟩ : ∃ h, h = (i + j) / 2 := ⟨_, rfl⟩
      have hh1 : i ≤ h := by omega
      have hh2 : h < j := by omega
      have eh : ((i : Int) + (j : Int)) / 2 = (h : Int) := by omega
      have hhn : h < n := by omega
      clear hh
      have hlx := HL.out
      obtain ⟨px, hpx⟩ : ∃ p, p = pr (P ++ [x] ++ Y ++ Q) h := ⟨_, rfl⟩
      obtain ⟨pa, hpa⟩ : ∃ p, p = pr (P ++ [x] ++ Y ++ Q) a := ⟨_, rfl⟩
      obtain ⟨c0, c1⟩ := hrow.pr h (by omega)
      obtain ⟨c2, c3⟩ := hrow.pr a (by omega)
      rw [← hpx] at c0 c1
      rw [← hpa] at c2 c3
      have k0 := cell_regrown c0
      have k1 := cell_regrown c1
      have k2 := cell_regrown c2
      have k3 := cell_regrown c3
      have K := Lib.hid (cmp_regrown px pa wr)
      have hcl := cmpN_lt px pa
      have HMO := Lib.hid (left_mono rfl HA.out HM.out HB.out hs (Q := Q) (x := x))
      have HPX := Lib.hid hpx
      have HPA := Lib.hid hpa
      clear c0 c1 c2 c3 hlx hpx hpa
      cases hc : bl (key px) (key pa) with
      | true =>
        have hcm : decide (cmpN px pa < 0) = true := by rw [decide_eq_true_eq]; exact hcl.2 hc
        have HS2 := Lib.hid (Srch.right HS.out HMO.out hh1 hh2 (by rw [← HPX.out, ← HPA.out, hc]; rfl))
        generalize cmpN px pa = cn at *
        clear hcl
        go_wp2
        refine wp_region_quiet_below hmix (by kernel_rfl) ?_
        repeat (first | go_big_quiet_step ((go_at_call 80; exact K.out _ _)) | quiet_step ((go_at_call 80; exact K.out _ _)))
        refine wpQuiet_nil ?_
        intro _ hw2
        obtain ⟨⟨dq2, osq2⟩, hw2'⟩ := hw2
        subst hw2'
        have HO := ho.trans (Only.of_below (below_regrown wr dq2 osq2))
        have HR := hrow.below (below_regrown wr dq2 osq2)
        generalize Sort.grow (redrawn wr dq2) osq2 = w3 at *
        clear k0 k1 k2 k3 K hrow
        go_wp2
        go_roundw
        case rel => exact ⟨h + 1, j, by go_num, rfl, by omega, by omega, hjb, HO, HR, HS2⟩
        case measure => simp [intOf]; omega
      | false =>
        have hcm : decide (cmpN px pa < 0) = false := by
          rw [hc] at hcl
          rw [decide_eq_false_iff_not]
          exact fun h => by have := hcl.1 h; cases this
        have HS2 := Lib.hid (Srch.left HS.out HMO.out hh1 hh2 (by rw [← HPX.out, ← HPA.out, hc]; rfl))
        generalize cmpN px pa = cn at *
        clear hcl
        go_wp2
        refine wp_region_quiet_below hmix (by kernel_rfl) ?_
        repeat (first | go_big_quiet_step ((go_at_call 80; exact K.out _ _)) | quiet_step ((go_at_call 80; exact K.out _ _)))
        refine wpQuiet_nil ?_
        intro _ hw2
        obtain ⟨⟨dq2, osq2⟩, hw2'⟩ := hw2
        subst hw2'
        have HO := ho.trans (Only.of_below (below_regrown wr dq2 osq2))
        have HR := hrow.below (below_regrown wr dq2 osq2)
        generalize Sort.grow (redrawn wr dq2) osq2 = w3 at *
        clear k0 k1 k2 k3 K hrow
        go_wp2
        go_roundw
        case rel => exact ⟨i, h, rfl, rfl, hmi, hh1, by omega, HO, HR, HS2⟩
        case measure => simp [intOf]; omega
    · have hji : j = i := by omega
      subst hji
      obtain ⟨Y1, Y2, hY, hi, hZ, hE⟩ := left_fact rfl HA.out HM.out HB.out hs HS.out
      have HY := Lib.hid hY
      have HI := Lib.hid hi
      have HZ := Lib.hid (And.intro hZ hE)
      have HR0 : Row g (P ++ ([] ++ x :: Y1) ++ Y2 ++ Q) wr := by rw [hY] at hrow; simpa using hrow
      clear hrow HS hY hi hZ hE hlt
      go_wp2_with fail
      go_loopw [13] (fun kv wr2 => ∃ (k : Nat) (Ya Yb : List (ByteArray × Int)), kv = .int .i64 k ∧ k + 1 ≤ j ∧ Only g w wr2 ∧ Row g (P ++ (Ya ++ x :: Yb) ++ Y2 ++ Q) wr2 ∧ Hid (Y1 = Ya ++ Yb ∧ k = a + Ya.length)) (fun kv _ => j - (intOf kv).toNat)
      case atStart => exact ⟨a, [], Y1, rfl, by omega, ho, HR0, ⟨rfl, rfl⟩⟩
      case round =>
        obtain ⟨k, Ya, Yb, rfl, hkj, ho2, hrow2, HD⟩ := hrel
        clear HR0 ho
        by_cases hk : k + 1 < j
        · obtain ⟨y, Yc, rfl⟩ : ∃ y Yc, Yb = y :: Yc := by
            cases Yb with
            | nil => have h1 := HD.out; have h2 := HI.out; have h3 := HM.out; rw [h1.1] at h2; simp at h2; omega
            | cons y Yc => exact ⟨y, Yc, rfl⟩
          have e : P ++ (Ya ++ x :: y :: Yc) ++ Y2 ++ Q = (P ++ Ya) ++ x :: ([] ++ y :: (Yc ++ Y2 ++ Q)) := by simp
          rw [e] at hrow2
          obtain ⟨⟨x0, x1, y0, y1⟩, hw, _⟩ := hrow2.two k (k + 1) (by have := HD.out; have := HA.out; simp; omega) (by have := HD.out; have := HA.out; simp; omega)
          have e1 : IntKind.i64.wrap ((k : Int) + 1) = ((k + 1 : Nat) : Int) := by rw [wrap_small _ (by omega) (by omega)]; rfl
          have fz := hrow2.frozen
          have h1n : k < n := by omega
          have h2n : k + 1 < n := by omega
          have hfin : Hid (Row g (P ++ (Ya ++ [y] ++ x :: Yc) ++ Y2 ++ Q) ((((wr.setCell ⟨g, k * 2, none⟩ (.string y.1)).setCell ⟨g, k * 2 + 1, none⟩ (.int .i64 y.2)).setCell ⟨g, (k + 1) * 2, none⟩ (.string x.1)).setCell ⟨g, (k + 1) * 2 + 1, none⟩ (.int .i64 x.2))) := by
            show Row _ _ _
            have e3 : P ++ (Ya ++ [y] ++ x :: Yc) ++ Y2 ++ Q = (P ++ Ya) ++ y :: ([] ++ x :: (Yc ++ Y2 ++ Q)) := by simp
            rw [e3]; exact hw
          have hon : Hid (Only g w ((((wr.setCell ⟨g, k * 2, none⟩ (.string y.1)).setCell ⟨g, k * 2 + 1, none⟩ (.int .i64 y.2)).setCell ⟨g, (k + 1) * 2, none⟩ (.string x.1)).setCell ⟨g, (k + 1) * 2 + 1, none⟩ (.int .i64 x.2))) := (((ho2.setCell _ _).setCell _ _).setCell _ _).setCell _ _
          clear hw hrow2
          go_wp2
          go_region
          have HO2 := hon.out.drew
          have HF2 : Row g (P ++ (Ya ++ [y] ++ x :: Yc) ++ Y2 ++ Q) _ := hfin.out.keep (w' := ((((wr.setCell ⟨g, k * 2, none⟩ (.string y.1)).setCell ⟨g, k * 2 + 1, none⟩ (.int .i64 y.2)).setCell ⟨g, (k + 1) * 2, none⟩ (.string x.1)).setCell ⟨g, (k + 1) * 2 + 1, none⟩ (.int .i64 x.2)).drew) rfl
          clear x0 x1 y0 y1 fz e1 hfin hon
          generalize ((((wr.setCell ⟨g, k * 2, none⟩ (.string y.1)).setCell ⟨g, k * 2 + 1, none⟩ (.int .i64 y.2)).setCell ⟨g, (k + 1) * 2, none⟩ (.string x.1)).setCell ⟨g, (k + 1) * 2 + 1, none⟩ (.int .i64 x.2)).drew = w2 at *
          go_wp2
          go_roundw
          case rel => exact ⟨k + 1, Ya ++ [y], Yc, by go_num, by omega, HO2, HF2, ⟨by rw [HD.out.1]; simp, by have := HD.out.2; simp; omega⟩⟩
          case measure => simp [intOf]; omega
        · have hYb : Yb = [] := by
            have h1 := HD.out; have h2 := HI.out; have h3 := HM.out; rw [h1.1] at h2; simp at h2
            exact List.eq_nil_of_length_eq_zero (by omega)
          subst hYb
          have hfin : Hid (∃ Z, Sorted Z ∧ SE ([x] ++ Y) Z ∧ Z.length = Y.length + 1 ∧ Row g (P ++ Z ++ Q) wr) := by
            refine ⟨Y1 ++ x :: Y2, HZ.out.1, HZ.out.2, by rw [HY.out]; simp; omega, ?_⟩
            rw [HD.out.1]; simpa using hrow2
          clear hrow2
          go_wp2
          (try simp only [Exit.inBlock, Exit.then])
          refine bodyPost_ret (results_none rfl _ _ _) rfl ?_
          exact ⟨rfl, hfin.out, ho2⟩
end Go.Proofs.YtmgpacenooncjaaGreatDoor.Pp
