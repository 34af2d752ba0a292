/- Contract of package slices' insertion sort at pairs: a part of a row is put in order, those of one key in their order. -/
import Derived.Test.YtmgpacenooncjaaGreatDoorPpCmp
namespace Go.Proofs.YtmgpacenooncjaaGreatDoor.Pp
open Go.ChangeShapes Go.WideShapes Go.ChangeAt Go.RowKit
open Stable

theorem below_drewNs (w : World) (n : Nat) : Below w.heap.size w (w.drewN n) := ⟨rfl, rfl, rfl, Nat.le_refl _, fun _ _ => rfl⟩
theorem ins_sorted {D1 D2 : List (ByteArray × Int)} {x : ByteArray × Int} (hs : Sorted (D1 ++ D2)) (h2 : ∀ d ∈ D2, bl (key x) (key d) = true) (h1 : ∀ d ∈ D1, bl (key x) (key d) = false) : Sorted (D1 ++ x :: D2) := by
  obtain ⟨s1, s2, s3⟩ := sorted_append.1 hs
  refine sorted_append.2 ⟨s1, List.pairwise_cons.2 ⟨fun d hd => lt_le (h2 d hd), s2⟩, ?_⟩
  intro p hp q hq
  rcases List.mem_cons.1 hq with rfl | hq
  · exact h1 p hp
  · exact s3 p hp q hq
theorem ins_se {D1 D2 : List (ByteArray × Int)} {x : ByteArray × Int} (h2 : ∀ d ∈ D2, bl (key x) (key d) = true) : SE (D1 ++ D2 ++ [x]) (D1 ++ x :: D2) := by
  have : SE (D2 ++ [x]) ([x] ++ D2) := SE.of_lt (by intro p hp q hq; rw [List.mem_singleton] at hq; subst hq; exact h2 p hp)
  have h := (SE.refl D1).append this
  simpa using h
theorem last_le {D1 : List (ByteArray × Int)} {d x : ByteArray × Int} (hs : Sorted (D1 ++ [d])) (h : bl (key x) (key d) = false) : ∀ p ∈ D1 ++ [d], bl (key x) (key p) = false := by
  obtain ⟨_, _, s3⟩ := sorted_append.1 hs
  intro p hp
  rcases List.mem_append.1 hp with hp | hp
  · exact le_trans (s3 p hp d (by simp)) h
  · rw [List.mem_singleton] at hp; subst hp; exact h

theorem ins_step {s0 x : ByteArray × Int} {S0 E D D1 D2 R' : List (ByteArray × Int)} {i a : Nat} (h : s0 :: S0 = E ++ x :: R' ∧ SE E D ∧ Sorted D ∧ E.length = D.length ∧ i = a + D.length ∧ 0 < D.length) (hd : D = D1 ++ D2)
    (h2 : ∀ d ∈ D2, bl (key x) (key d) = true) (h1 : ∀ d ∈ D1, bl (key x) (key d) = false) :
    s0 :: S0 = (E ++ [x]) ++ R' ∧ SE (E ++ [x]) (D1 ++ x :: D2) ∧ Sorted (D1 ++ x :: D2) ∧ (E ++ [x]).length = (D1 ++ x :: D2).length ∧ i + 1 = a + (D1 ++ x :: D2).length ∧ 0 < (D1 ++ x :: D2).length := by
  obtain ⟨h3, h4, h5, h6, h7, h8⟩ := h
  subst hd
  refine ⟨by simp [h3], (h4.append (SE.refl [x])).trans (ins_se h2), ins_sorted h5 h2 h1, ?_, ?_, by simp; omega⟩
  · simp at h6 ⊢; omega
  · simp at h7 ⊢; omega
set_option maxRecDepth 100000 in
set_option maxHeartbeats 4000000 in
theorem insertion_any (g n cap : Nat) (P S Q : List (ByteArray × Int)) (w : World) (hr : Row g (P ++ S ++ Q) w) (hn : n = (P ++ S ++ Q).length) (hN : n ≤ 1000000) (a b : Nat) (ha : a = P.length) (hb : b = P.length + S.length) :
    Calls Tryz.prog 116 #[.slice (some ⟨g, 0, none⟩) n cap, .int .i64 a, .int .i64 b, .func (.func 80) #[] #[]] w fun e w' => e = .returned (.tuple #[]) ∧ (∃ S', Sorted S' ∧ SE S S' ∧ S'.length = S.length ∧ Row g (P ++ S' ++ Q) w') ∧ Only g w w' := by
  have hlen : n = P.length + S.length + Q.length := by rw [hn]; simp; omega
  have HA := Lib.hid ha
  have HB := Lib.hid hb
  have hbn : b ≤ n := by omega
  have hab : a ≤ b := by omega
  have hmix : Tryz.prog.follows .mixedOrders = true := by kernel_rfl
  clear ha hb hn hlen
  cases S with
  | nil =>
    have hba : b = a := by have := HA.out; have := HB.out; simp at this; omega
    have hba' : (b : Int) < (a : Int) + 1 := by omega
    clear hba
    go_enter Tryz.func116, Tryz.ntmps116
    go_wp2_with fail
    go_loopw [8, 9] (fun iv _ wr => iv = .int .i64 ((a : Int) + 1) ∧ wr = w) (fun _ _ _ => 0)
    case atStart => exact ⟨rfl, rfl⟩
    case round =>
      obtain ⟨rfl, rfl⟩ := hrel
      go_wp2
      go_end0
      exact ⟨rfl, ⟨[], List.Pairwise.nil, SE.refl _, rfl, hr⟩, Only.refl _ _⟩
  | cons s0 S0 =>
    go_enter Tryz.func116, Tryz.ntmps116
    go_wp2_with fail
    go_loopw [8, 9] (fun iv _ wr => ∃ (i : Nat) (E D R : List (ByteArray × Int)), iv = .int .i64 i ∧ i ≤ b ∧ Only g w wr ∧ Row g (P ++ (D ++ R) ++ Q) wr ∧ Hid (s0 :: S0 = E ++ R ∧ SE E D ∧ Sorted D ∧ E.length = D.length ∧ i = a + D.length ∧ 0 < D.length)) (fun iv _ _ => b - (intOf iv).toNat)
    case atStart => exact ⟨a + 1, [s0], [s0], S0, by go_num, by have := HA.out; have := HB.out; simp at this; omega, Only.refl _ _, by simpa using hr, ⟨rfl, SE.refl _, List.pairwise_singleton _ _, rfl, rfl, by simp⟩⟩
    case round =>
      obtain ⟨i, E, D, R, rfl, hib, ho, hrow, HD⟩ := hrel
      clear hr
      by_cases hlt : i < b
      · obtain ⟨x, R', rfl⟩ : ∃ x R', R = x :: R' := by
          cases R with
          | nil =>
            have h1 := HD.out
            have h2 := congrArg List.length h1.1
            have h3 := HA.out
            have h4 := HB.out
            simp at h2 h4
            omega
          | cons x R' => exact ⟨x, R', rfl⟩
        go_wp2_with fail
        go_loopw [9] (fun jv wr2 => ∃ (j : Nat) (D1 D2 : List (ByteArray × Int)), jv = .int .i64 j ∧ a ≤ j ∧ j < n ∧ Only g w wr2 ∧ Row g (P ++ (D1 ++ x :: D2 ++ R') ++ Q) wr2 ∧ Hid (D = D1 ++ D2 ∧ j = a + D1.length ∧ ∀ d ∈ D2, bl (key x) (key d) = true)) (fun jv _ => (intOf jv).toNat)
        case atStart => exact ⟨i, D, [], rfl, by have := HD.out.2.2.2.2.1; omega, by omega, ho, by simpa using hrow, ⟨by simp, HD.out.2.2.2.2.1, by simp⟩⟩
        case round =>
          obtain ⟨j, D1, D2, rfl, haj, hjn, ho2, hrow2, HD2⟩ := hrel
          clear hrow ho
          rcases List.eq_nil_or_concat D1 with hD1 | ⟨D3, d, hD1⟩
          · subst hD1
            have hja : j = a := by have := HD2.out.2.1; simp at this; exact this
            have hg : decide (a < j) = false := by simp; omega
            have HNX := Lib.hid (ins_step HD.out HD2.out.1 HD2.out.2.2 (by simp))
            clear hja
            go_wp2
            go_quiet (fail)
            have HO : Only g w (wr.drewN nq) := ho2.trans (Only.of_below (below_drewNs wr nq))
            have HR : Row g (P ++ (([] ++ x :: D2) ++ R') ++ Q) (wr.drewN nq) := hrow2.keep rfl
            generalize wr.drewN nq = w3 at *
            go_wp2
            go_roundw
            case rel => exact ⟨i + 1, E ++ [x], [] ++ x :: D2, R', by go_num, by omega, HO, HR, HNX⟩
            case measure => simp [intOf]; omega
          · rw [List.concat_eq_append] at hD1
            subst hD1
            have hd2 := HD2.out
            have hjl : j = a + D3.length + 1 := by have := hd2.2.1; simp at this; omega
            have hg : decide (a < j) = true := by simp; omega
            have e1 : IntKind.i64.wrap ((j : Int) - 1) = ((j - 1 : Nat) : Int) := by rw [wrap_small _ (by omega) (by omega)]; omega
            have eR : P ++ (D3 ++ [d] ++ x :: D2 ++ R') ++ Q = (P ++ D3) ++ d :: ([] ++ x :: (D2 ++ R' ++ Q)) := by simp
            rw [eR] at hrow2
            obtain ⟨⟨d0, d1, x0, x1⟩, _, _⟩ := hrow2.two (j - 1) j (by have := HA.out; simp; omega) (by have := HA.out; simp; omega)
            have k0 := cell_regrown d0
            have k1 := cell_regrown d1
            have k2 := cell_regrown x0
            have k3 := cell_regrown x1
            have K := Lib.hid (cmp_regrown x d wr)
            have hcl := cmpN_lt x d
            have hj1 : j - 1 < n := by omega
            have hj0 : 0 < j := by omega
            have HJ := Lib.hid hjl
            clear d0 d1 x0 x1 hjl
            cases hc : bl (key x) (key d) with
            | false =>
              have hcm : decide (cmpN x d < 0) = false := by
                rw [hc] at hcl
                rw [decide_eq_false_iff_not]
                exact fun h => by have := hcl.1 h; cases this
              have HNX := Lib.hid (ins_step HD.out hd2.1 hd2.2.2 (last_le (by have h5 := HD.out.2.2.1; rw [hd2.1] at h5; exact (sorted_append.1 h5).1) hc))
              generalize cmpN x d = cn at *
              clear hcl hd2
              go_wp2
              refine wp_region_quiet_below hmix (by kernel_rfl) ?_
              repeat (first | go_big_quiet_step ((go_at_call 80; exact K.out _ _)) | quiet_step ((go_at_call 80; exact K.out _ _)))
              refine wpQuiet_nil ?_
              intro _ hw2
              obtain ⟨⟨dq2, osq2⟩, hw2'⟩ := hw2
              subst hw2'
              have HO : Only g w (Sort.grow (redrawn wr dq2) osq2) := ho2.trans (Only.of_below (below_regrown wr dq2 osq2))
              have HR : Row g (P ++ (((D3 ++ [d]) ++ x :: D2) ++ R') ++ Q) (Sort.grow (redrawn wr dq2) osq2) := by rw [eR]; exact hrow2.below (below_regrown wr dq2 osq2)
              generalize Sort.grow (redrawn wr dq2) osq2 = w3 at *
              clear k0 k1 k2 k3 K hrow2
              go_wp2
              go_roundw
              case rel => exact ⟨i + 1, E ++ [x], (D3 ++ [d]) ++ x :: D2, R', by go_num, by omega, HO, HR, HNX⟩
              case measure => simp [intOf]; omega
            | true =>
              have hcm : decide (cmpN x d < 0) = true := by rw [decide_eq_true_eq]; exact hcl.2 hc
              generalize cmpN x d = cn at *
              clear hcl hd2
              go_wp2
              refine wp_region_quiet_below hmix (by kernel_rfl) ?_
              repeat (first | go_big_quiet_step ((go_at_call 80; exact K.out _ _)) | quiet_step ((go_at_call 80; exact K.out _ _)))
              refine wpQuiet_nil ?_
              intro _ hw2
              obtain ⟨⟨dq2, osq2⟩, hw2'⟩ := hw2
              subst hw2'
              have HO : Only g w (Sort.grow (redrawn wr dq2) osq2) := ho2.trans (Only.of_below (below_regrown wr dq2 osq2))
              have HR : Row g ((P ++ D3) ++ d :: ([] ++ x :: (D2 ++ R' ++ Q))) (Sort.grow (redrawn wr dq2) osq2) := hrow2.below (below_regrown wr dq2 osq2)
              generalize Sort.grow (redrawn wr dq2) osq2 = w3 at *
              clear k0 k1 k2 k3 K hrow2 ho2
              obtain ⟨⟨d0, d1, x0, x1⟩, _, hsw⟩ := HR.two (j - 1) j (by have := HA.out; have := HJ.out; simp; omega) (by have := HA.out; have := HJ.out; simp; omega)
              have fz := HR.frozen
              have HO2 : Hid (Only g w ((((w3.setCell ⟨g, j * 2, none⟩ (.string d.1)).setCell ⟨g, j * 2 + 1, none⟩ (.int .i64 d.2)).setCell ⟨g, (j - 1) * 2, none⟩ (.string x.1)).setCell ⟨g, (j - 1) * 2 + 1, none⟩ (.int .i64 x.2))) := (((HO.setCell _ _).setCell _ _).setCell _ _).setCell _ _
              have HS2 := Lib.hid hsw
              clear HR hsw HO
              go_wp2
              go_region
              have HO3 := HO2.out.drew
              have HR3 : Row g (P ++ (D3 ++ x :: (d :: D2) ++ R') ++ Q) ((((w3.setCell ⟨g, j * 2, none⟩ (.string d.1)).setCell ⟨g, j * 2 + 1, none⟩ (.int .i64 d.2)).setCell ⟨g, (j - 1) * 2, none⟩ (.string x.1)).setCell ⟨g, (j - 1) * 2 + 1, none⟩ (.int .i64 x.2)).drew := by
                have h := HS2.out.keep (w' := ((((w3.setCell ⟨g, j * 2, none⟩ (.string d.1)).setCell ⟨g, j * 2 + 1, none⟩ (.int .i64 d.2)).setCell ⟨g, (j - 1) * 2, none⟩ (.string x.1)).setCell ⟨g, (j - 1) * 2 + 1, none⟩ (.int .i64 x.2)).drew) rfl
                simpa using h
              clear d0 d1 x0 x1 fz HO2 HS2
              generalize ((((w3.setCell ⟨g, j * 2, none⟩ (.string d.1)).setCell ⟨g, j * 2 + 1, none⟩ (.int .i64 d.2)).setCell ⟨g, (j - 1) * 2, none⟩ (.string x.1)).setCell ⟨g, (j - 1) * 2 + 1, none⟩ (.int .i64 x.2)).drew = w4 at *
              have e2 : (j : Int) - 1 = ((j - 1 : Nat) : Int) := by omega
              go_wp2
              go_roundw
              case rel => exact ⟨j - 1, D3, d :: D2, by first | rfl | rw [e2], by have := HJ.out; omega, by omega, HO3, HR3, ⟨by rw [HD2.out.1]; simp, by have := HJ.out; omega, fun y hy => (List.mem_cons.1 hy).elim (fun e => by rw [e]; exact hc) (fun h => HD2.out.2.2 y h)⟩⟩
              case measure => simp [intOf]; omega
      · have hd := HD.out
        have hR : R = [] := by
          have h2 := congrArg List.length hd.1
          have h3 := HA.out
          have h4 := HB.out
          simp at h2 h4
          exact List.eq_nil_of_length_eq_zero (by omega)
        subst hR
        have hfin : Hid (∃ S', Sorted S' ∧ SE (s0 :: S0) S' ∧ S'.length = (s0 :: S0).length ∧ Row g (P ++ S' ++ Q) wr) := by
          refine ⟨D, hd.2.2.1, ?_, ?_, by simpa using hrow⟩
          · rw [hd.1]; simpa using hd.2.1
          · rw [hd.1]; simp; exact hd.2.2.2.1.symm
        clear hrow hd
        go_wp2
        go_end0
        exact ⟨rfl, hfin.out, ho⟩
end Go.Proofs.YtmgpacenooncjaaGreatDoor.Pp
