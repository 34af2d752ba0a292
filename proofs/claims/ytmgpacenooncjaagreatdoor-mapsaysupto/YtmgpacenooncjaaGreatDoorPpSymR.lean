/- Contract of package slices' merge in place at pairs: one at the right. -/
import Derived.Test.YtmgpacenooncjaaGreatDoorPpSym
namespace Go.Proofs.YtmgpacenooncjaaGreatDoor.Pp
open Go.ChangeShapes Go.WideShapes Go.ChangeAt Go.RowKit
open Stable
set_option maxRecDepth 100000 in
set_option maxHeartbeats 4000000 in
theorem symRight_any (g n cap : Nat) (P X Q : List (ByteArray × Int)) (y : ByteArray × Int) (w : World) (hr : Row g (P ++ X ++ [y] ++ Q) w) (hn : n = (P ++ X ++ [y] ++ Q).length) (hN : n ≤ 1000000) (a m b : Nat) (ha : a = P.length) (hm : m = a + X.length) (hb : b = m + 1) (hs : Sorted X) (hX : 2 ≤ X.length) :
    Calls Tryz.prog 117 #[.slice (some ⟨g, 0, none⟩) n cap, .int .i64 a, .int .i64 m, .int .i64 b, .func (.func 80) #[] #[]] w fun e w' => e = .returned (.tuple #[]) ∧ (∃ Z, Sorted Z ∧ SE (X ++ [y]) Z ∧ Z.length = X.length + 1 ∧ Row g (P ++ Z ++ Q) w') ∧ Only g w w' := by
  have hmix : Tryz.prog.follows .mixedOrders = true := by kernel_rfl
  have hlen : n = P.length + X.length + 1 + Q.length := by rw [hn]; simp; omega
  have hbn : b ≤ n := by omega
  have hmb : m < b := by omega
  have ham : a + 2 ≤ m := by omega
  have hmn : m < n := by omega
  have hma : (((m : Int) - (a : Int)) == 1) = false := by simp; omega
  have hmb2 : (b : Int) - (m : Int) = 1 := by omega
  have HA := Lib.hid ha
  have HM := Lib.hid hm
  have HB := Lib.hid hb
  have HL := Lib.hid hn
  clear hn ha hm hb hlen
  go_enter Tryz.func117, Tryz.ntmps117
  go_wp2_with fail
  clear hma hmb2
  go_loopw [14, 15] (fun iv jv wr => ∃ (i j : Nat), iv = .int .i64 i ∧ jv = .int .i64 j ∧ a ≤ i ∧ i ≤ j ∧ j ≤ m ∧ Only g w wr ∧ Row g (P ++ X ++ [y] ++ Q) wr ∧ Hid (Srch (fun k => bl (key (pr (P ++ X ++ [y] ++ Q) m)) (key (pr (P ++ X ++ [y] ++ Q) k))) a m i j)) (fun iv jv _ => (intOf jv).toNat - (intOf iv).toNat)
  case atStart => exact ⟨a, m, rfl, rfl, Nat.le_refl _, by omega, Nat.le_refl _, Only.refl _ _, hr, Srch.start _ (by omega)⟩
  case round =>
    obtain ⟨i, j, rfl, rfl, hmi, hij, hjb, ho, hrow, HS⟩ := hrel
    clear hr
    by_cases hlt : i < j
    · obtain ⟨h, hh⟩ : ∃ h, h = (i + j) / 2 := ⟨_, rfl⟩
      have hh1 : i ≤ h := by omega
      have hh2 : h < j := by omega
      have eh : ((i : Int) + (j : Int)) / 2 = (h : Int) := by omega
      have hhn : h < n := by omega
      clear hh
      have hlx := HL.out
      obtain ⟨px, hpx⟩ : ∃ p, p = pr (P ++ X ++ [y] ++ Q) m := ⟨_, rfl⟩
      obtain ⟨pa, hpa⟩ : ∃ p, p = pr (P ++ X ++ [y] ++ Q) h := ⟨_, rfl⟩
      obtain ⟨c0, c1⟩ := hrow.pr m (by omega)
      obtain ⟨c2, c3⟩ := hrow.pr h (by omega)
      rw [← hpx] at c0 c1
      rw [← hpa] at c2 c3
      have k0 := cell_regrown c0
      have k1 := cell_regrown c1
      have k2 := cell_regrown c2
      have k3 := cell_regrown c3
      have K := Lib.hid (cmp_regrown px pa wr)
      have hcl := cmpN_lt px pa
      have HMO := Lib.hid (right_mono rfl HA.out HM.out hs (Q := Q) (y := y))
      have HPX := Lib.hid hpx
      have HPA := Lib.hid hpa
      clear c0 c1 c2 c3 hlx hpx hpa
      cases hc : bl (key px) (key pa) with
      | false =>
        have hcm : decide (cmpN px pa < 0) = false := by
          rw [hc] at hcl
          rw [decide_eq_false_iff_not]
          exact fun h => by have := hcl.1 h; cases this
        have HS2 := Lib.hid (Srch.right HS.out HMO.out hh1 hh2 (by rw [← HPX.out, ← HPA.out, hc]))
        generalize cmpN px pa = cn at *
        clear hcl
        go_wp2
        refine wp_region_quiet_below hmix (by kernel_rfl) ?_
        repeat (first | go_big_quiet_step ((go_at_call 80; exact K.out _ _)) | quiet_step ((go_at_call 80; exact K.out _ _)))
        refine wpQuiet_nil ?_
        intro _ hw2
        obtain ⟨⟨dq2, osq2⟩, hw2'⟩ := hw2
        subst hw2'
        have HO := ho.trans (Only.of_below (below_regrown wr dq2 osq2))
        have HR := hrow.below (below_regrown wr dq2 osq2)
        generalize Sort.grow (redrawn wr dq2) osq2 = w3 at *
        clear k0 k1 k2 k3 K hrow
        go_wp2
        go_roundw
        case rel => exact ⟨h + 1, j, by go_num, rfl, by omega, by omega, hjb, HO, HR, HS2⟩
        case measure => simp [intOf]; omega
      | true =>
        have hcm : decide (cmpN px pa < 0) = true := by rw [decide_eq_true_eq]; exact hcl.2 hc
        have HS2 := Lib.hid (Srch.left HS.out HMO.out hh1 hh2 (by rw [← HPX.out, ← HPA.out, hc]))
        generalize cmpN px pa = cn at *
        clear hcl
        go_wp2
        refine wp_region_quiet_below hmix (by kernel_rfl) ?_
        repeat (first | go_big_quiet_step ((go_at_call 80; exact K.out _ _)) | quiet_step ((go_at_call 80; exact K.out _ _)))
        refine wpQuiet_nil ?_
        intro _ hw2
        obtain ⟨⟨dq2, osq2⟩, hw2'⟩ := hw2
        subst hw2'
        have HO := ho.trans (Only.of_below (below_regrown wr dq2 osq2))
        have HR := hrow.below (below_regrown wr dq2 osq2)
        generalize Sort.grow (redrawn wr dq2) osq2 = w3 at *
        clear k0 k1 k2 k3 K hrow
        go_wp2
        go_roundw
        case rel => exact ⟨i, h, rfl, rfl, hmi, hh1, by omega, HO, HR, HS2⟩
        case measure => simp [intOf]; omega
    · have hji : j = i := by omega
      subst hji
      obtain ⟨X1, X2, hX2, hi, hZ, hE⟩ := right_fact rfl HA.out HM.out hs HS.out
      have HY := Lib.hid hX2
      have HI := Lib.hid hi
      have HZ := Lib.hid (And.intro hZ hE)
      have HR0 : Row g (P ++ X1 ++ (X2 ++ y :: []) ++ Q) wr := by rw [hX2] at hrow; simpa using hrow
      clear hrow HS hX2 hi hZ hE hlt
      go_wp2_with fail
      go_loopw [17] (fun kv wr2 => ∃ (k : Nat) (Xa Xb : List (ByteArray × Int)), kv = .int .i64 k ∧ j ≤ k ∧ k < n ∧ Only g w wr2 ∧ Row g (P ++ X1 ++ (Xa ++ y :: Xb) ++ Q) wr2 ∧ Hid (X2 = Xa ++ Xb ∧ k = a + X1.length + Xa.length)) (fun kv _ => (intOf kv).toNat)
      case atStart => exact ⟨m, X2, [], rfl, by omega, hmn, ho, HR0, ⟨by simp, by have h1 := HM.out; rw [HY.out] at h1; simp at h1; omega⟩⟩
      case round =>
        obtain ⟨k, Xa, Xb, rfl, hjk, hkn, ho2, hrow2, HD⟩ := hrel
        clear HR0 ho
        by_cases hk : j < k
        · obtain ⟨Xc, d, rfl⟩ : ∃ Xc d, Xa = Xc ++ [d] := by
            rcases List.eq_nil_or_concat Xa with h | ⟨Xc, d, h⟩
            · have h1 := HD.out; have h2 := HI.out; rw [h] at h1; simp at h1; omega
            · exact ⟨Xc, d, by rw [h, List.concat_eq_append]⟩
          have e : P ++ X1 ++ (Xc ++ [d] ++ y :: Xb) ++ Q = (P ++ X1 ++ Xc) ++ d :: ([] ++ y :: (Xb ++ Q)) := by simp
          rw [e] at hrow2
          have hjl : k = a + X1.length + Xc.length + 1 := by have := HD.out.2; simp at this; omega
          have HJ := Lib.hid hjl
          obtain ⟨⟨d0, d1, x0, x1⟩, _, hsw⟩ := hrow2.two (k - 1) k (by have := HA.out; simp; omega) (by have := HA.out; simp; omega)
          have e1 : IntKind.i64.wrap ((k : Int) - 1) = ((k - 1 : Nat) : Int) := by rw [wrap_small _ (by omega) (by omega)]; omega
          have fz := hrow2.frozen
          have hj0 : 0 < k := by omega
          have hj1 : k - 1 < n := by omega
          have HO2 : Hid (Only g w ((((wr.setCell ⟨g, k * 2, none⟩ (.string d.1)).setCell ⟨g, k * 2 + 1, none⟩ (.int .i64 d.2)).setCell ⟨g, (k - 1) * 2, none⟩ (.string y.1)).setCell ⟨g, (k - 1) * 2 + 1, none⟩ (.int .i64 y.2))) := (((ho2.setCell _ _).setCell _ _).setCell _ _).setCell _ _
          have HS2 := Lib.hid hsw
          clear hjl hsw hrow2
          go_wp2
          go_region
          have HO3 := HO2.out.drew
          have HR3 : Row g (P ++ X1 ++ (Xc ++ y :: (d :: Xb)) ++ Q) ((((wr.setCell ⟨g, k * 2, none⟩ (.string d.1)).setCell ⟨g, k * 2 + 1, none⟩ (.int .i64 d.2)).setCell ⟨g, (k - 1) * 2, none⟩ (.string y.1)).setCell ⟨g, (k - 1) * 2 + 1, none⟩ (.int .i64 y.2)).drew := by
            have h := HS2.out.keep (w' := ((((wr.setCell ⟨g, k * 2, none⟩ (.string d.1)).setCell ⟨g, k * 2 + 1, none⟩ (.int .i64 d.2)).setCell ⟨g, (k - 1) * 2, none⟩ (.string y.1)).setCell ⟨g, (k - 1) * 2 + 1, none⟩ (.int .i64 y.2)).drew) rfl
            simpa using h
          clear d0 d1 x0 x1 fz HO2 HS2
          generalize ((((wr.setCell ⟨g, k * 2, none⟩ (.string d.1)).setCell ⟨g, k * 2 + 1, none⟩ (.int .i64 d.2)).setCell ⟨g, (k - 1) * 2, none⟩ (.string y.1)).setCell ⟨g, (k - 1) * 2 + 1, none⟩ (.int .i64 y.2)).drew = w4 at *
          have e2 : (k : Int) - 1 = ((k - 1 : Nat) : Int) := by omega
          go_wp2
          go_roundw
          case rel => exact ⟨k - 1, Xc, d :: Xb, by first | rfl | rw [e2], by omega, by omega, HO3, HR3, ⟨by rw [HD.out.1]; simp, by have := HJ.out; omega⟩⟩
          case measure => simp [intOf]; omega
        · have hXa : Xa = [] := by
            have h1 := HD.out; have h2 := HI.out
            exact List.eq_nil_of_length_eq_zero (by omega)
          subst hXa
          have hfin : Hid (∃ Z, Sorted Z ∧ SE (X ++ [y]) Z ∧ Z.length = X.length + 1 ∧ Row g (P ++ Z ++ Q) wr) := by
            refine ⟨X1 ++ y :: X2, HZ.out.1, HZ.out.2, by rw [HY.out]; simp; omega, ?_⟩
            rw [HD.out.1]; simpa using hrow2
          clear hrow2
          go_wp2
          (try simp only [Exit.inBlock, Exit.then])
          refine bodyPost_ret (results_none rfl _ _ _) rfl ?_
          exact ⟨rfl, hfin.out, ho2⟩
/-- What the merge in place promises of parts shorter than d. -/
def SymOK (g n cap d : Nat) : Prop := ∀ (P X Y Q : List (ByteArray × Int)) (w : World), Row g (P ++ X ++ Y ++ Q) w → n = (P ++ X ++ Y ++ Q).length → ∀ a m b : Nat, a = P.length → m = a + X.length → b = m + Y.length → 0 < X.length → 0 < Y.length → b < a + d → Sorted X → Sorted Y →
  Calls Tryz.prog 117 #[.slice (some ⟨g, 0, none⟩) n cap, .int .i64 a, .int .i64 m, .int .i64 b, .func (.func 80) #[] #[]] w fun e w' => e = .returned (.tuple #[]) ∧ (∃ Z, Sorted Z ∧ SE (X ++ Y) Z ∧ Z.length = X.length + Y.length ∧ Row g (P ++ Z ++ Q) w') ∧ Only g w w'
end Go.Proofs.YtmgpacenooncjaaGreatDoor.Pp
