/- The law OrderSays, walked: whatever the pairs and the lists, it returns true, and turns nothing that was there. -/
import Derived.Test.YtncjgmohpebnmaaOrds
namespace Go.Proofs.Ytncjgmohpebnmaa
open Go.ChangeShapes Go.WideShapes Go.ChangeAt Go.RowKit
open Stable
theorem isLists_below {w w' : World} {v : Value} {ls : List (List (ByteArray × Int))} (h : IsLists w v ls) (hb : Below w.heap.size w w') : IsLists w' v ls := by
  obtain ⟨a, cap, e, hc⟩ := h
  refine ⟨a, cap, e, fun i hi => ?_⟩
  obtain ⟨b, off, u, ea, c0, hu⟩ := hc i hi
  exact ⟨b, off, u, ea, (hb.cell (block_lt c0)).trans c0, isPairs_below hu hb⟩
theorem flat_len (ls : List (List (ByteArray × Int))) : ∀ k, k ≤ ls.length → (∀ j, j < k → (lsAt ls j).length ≤ 40) → (flatT ls k).length ≤ 40 * k := by
  intro k
  induction k with
  | zero => intro _ _; simp [flatT]
  | succ k ih =>
    intro h1 h2
    rw [flatT_succ ls k (by omega), List.length_append]
    have a := ih (by omega) (fun j hj => h2 j (by omega))
    have b := h2 k (by omega)
    omega
theorem bb {w w1 w2 : World} (h1 : Below w.heap.size w w1) (h2 : Below w1.heap.size w1 w2) : Below w.heap.size w w2 := h1.trans (h2.mono h1.size)
theorem both_same (Z Z' l : List (ByteArray × Int)) (z1 : Sorted Z) (z2 : SE l Z) (y1 : Sorted Z') (y2 : SE l Z') : Z' = Z := sorted_unique _ _ y1 z1 (y2.symm.trans z2)
theorem same_any (v u : Value) (Z : List (ByteArray × Int)) (w : World) (h : IsPairs w v Z) (h' : IsPairs w u Z) (hl : Z.length ≤ 1000000) :
    Calls Try.prog 7 #[v, u] w fun e w' => e = .returned (.bool true) ∧ Below w.heap.size w w' := by
  refine (samePairs_any v u Z Z w h h' (by unfold maxLen; omega)).mono ?_
  rintro e w' ⟨rfl, n, rfl⟩
  exact ⟨by simp, below_drewNs _ _⟩
set_option maxRecDepth 100000 in
set_option maxHeartbeats 4000000 in
theorem orderSays_walk (v u : Value) (l : List (ByteArray × Int)) (ls : List (List (ByteArray × Int))) (w : World) (h : IsPairs w v l) (hl : l.length ≤ maxLen) (h2 : IsLists w u ls) (hl2 : ls.length ≤ maxLen) (hl3 : ∀ j, j < ls.length → (lsAt ls j).length ≤ maxLen) :
    Calls Try.prog 3 #[v, u] w fun e w' => e = .returned (.bool true) ∧ Below w.heap.size w w' := by
  unfold maxLen at hl hl2 hl3
  have H := Lib.hid h
  have H2 := Lib.hid h2
  have H3 := Lib.hid hl3
  obtain ⟨ao, cap, hv, _⟩ := h
  obtain ⟨au, cau, hu, _⟩ := h2
  obtain ⟨n, hn⟩ : ∃ n, n = l.length := ⟨_, rfl⟩
  obtain ⟨k0, hk0⟩ : ∃ n, n = ls.length := ⟨_, rfl⟩
  subst hv hu
  rw [← hn] at H hl ⊢
  rw [← hk0] at H2 hl2 ⊢
  have HN := Lib.hid hn
  have HK := Lib.hid hk0
  have L1 := Lib.hid (fun w (h : IsPairs w (.slice ao n cap) l) => lightPairs_any _ l 60 w h (by have := HN.out; unfold maxLen; omega))
  rw [show decide ((l.length : Int) ≤ 60) = decide ((n : Int) ≤ 60) by rw [hn]] at L1
  clear hn hk0 hl3
  cases hlight : (decide ((n : Int) ≤ 60) && lightB l) with
  | false =>
    rw [hlight] at L1
    go_enter Try.func3, Try.ntmps3
    go_wp2_with (first | (go_at_call 5; refine (orders_any _).mono ?_; rintro e w1 ⟨rfl, hb1⟩) | (go_at_call 6; refine (L1.out _ (isPairs_below H.out hb1)).mono ?_; rintro e w2 ⟨rfl, rfl⟩))
    go_ret
    exact ⟨rfl, hb1⟩
  | true =>
    rw [hlight] at L1
    have hn60 : n ≤ 60 := by
      rw [Bool.and_eq_true, decide_eq_true_eq] at hlight
      omega
    clear hlight
    by_cases hk6 : k0 ≤ 6
    · have S1 := Lib.hid (fun w h => sort_any (.slice ao n cap) l w h (by have := HN.out; omega))
      have S2 := Lib.hid (fun w h => sorted_any (.slice ao n cap) l w h (by have := HN.out; omega))
      obtain ⟨r, hr⟩ : ∃ r : Bool, r = true ↔ RisesP l := by
        by_cases hP : RisesP l
        · exact ⟨true, ⟨fun _ => hP, fun _ => rfl⟩⟩
        · exact ⟨false, ⟨(fun h => by cases h), fun h => absurd h hP⟩⟩
      have S3 : Hid (∀ w, IsPairs w (.slice ao n cap) l → Calls Try.prog 10 #[.slice ao n cap] w fun e w' => e = .returned (.bool r) ∧ Below w.heap.size w w') := fun w h => (rises_any _ l w h (by have := HN.out; omega)).mono (by
        rintro e w' ⟨r', rfl, hr', hb⟩
        rw [Bool.eq_iff_iff.2 (hr'.trans hr.symm)]
        exact ⟨rfl, hb⟩)
      have S4 : Hid (∀ w, IsPairs w (.slice ao n cap) l → Calls Try.prog 11 #[.slice ao n cap] w fun e w' => e = .returned (.bool r) ∧ Below w.heap.size w w') := fun w h => (rising_any _ l w h (by have := HN.out; omega)).mono (by
        rintro e w' ⟨r', rfl, hr', hb⟩
        rw [Bool.eq_iff_iff.2 (hr'.trans hr.symm)]
        exact ⟨rfl, hb⟩)
      clear hr
      go_enter Try.func3, Try.ntmps3
      go_wp2_with (first | (go_at_call 5; refine (orders_any _).mono ?_; rintro e w1 ⟨rfl, hb1⟩) | (go_at_call 6; refine (L1.out _ (isPairs_below H.out hb1)).mono ?_; rintro e w2 ⟨rfl, rfl⟩) | (go_at_call 8; refine (S1.out _ (isPairs_below H.out hb1)).mono ?_; rintro e w3 ⟨u1, Z, rfl, z1, z2, z3, z4, hb3⟩; have HZ := Lib.hid z3; clear z3) | (go_at_call 9; refine (S2.out _ (isPairs_below H.out (bb hb1 hb3))).mono ?_; rintro e w4 ⟨u2, Z', rfl, y1, y2, y3, y4, hb4⟩; obtain rfl := both_same Z Z' l z1 z2 y1 y2; clear y3) | (go_at_call 7; refine (same_any _ _ _ _ (isPairs_below z4 hb4) y4 (by have h1 := HZ.out; have h2 := HN.out; omega)).mono ?_; rintro e w5 ⟨rfl, hb5⟩) | (go_at_call 10; refine (S3.out _ (isPairs_below H.out (bb (bb (bb hb1 hb3) hb4) hb5))).mono ?_; rintro e w6 ⟨rfl, hb6⟩) | (go_at_call 11; refine (S4.out _ (isPairs_below H.out (bb (bb (bb (bb hb1 hb3) hb4) hb5) hb6))).mono ?_; rintro e w7 ⟨rfl, hb7⟩))
      have HB := bb (bb (bb (bb (bb hb1 hb3) hb4) hb5) hb6) hb7
      clear S1 S2 S3 S4 L1 hb1 hb3 hb4 hb5 hb6 hb7 z1 z2 z4 y1 y2 y4 HZ
      go_loopw [6] (fun iv wr => ∃ k : Nat, iv = .int .i64 k ∧ k ≤ k0 ∧ Below w.heap.size w wr ∧ Hid (∀ j, j < k → (lsAt ls j).length ≤ 40)) (fun iv _ => k0 - (intOf iv).toNat)
      case atStart => exact ⟨0, by go_num, Nat.zero_le _, HB, fun j hj => by omega⟩
      case round =>
        obtain ⟨k, rfl, hkk, hb, HD⟩ := hrel
        clear HB
        by_cases hlt : k < k0
        · obtain ⟨b, off, x, ea, c0, hx⟩ := isLists_at H2.out k (by have := HK.out; omega)
          subst ea
          have c1 := (hb.cell (block_lt c0)).trans c0
          have HX := Lib.hid (isPairs_below hx hb)
          obtain ⟨ax, cx, ex, _⟩ := hx
          obtain ⟨nx, hnx⟩ : ∃ n, n = (lsAt ls k).length := ⟨_, rfl⟩
          rw [← hnx] at ex
          subst ex
          have L2 := Lib.hid (lightPairs_any _ (lsAt ls k) 40 wr HX.out (by have := H3.out k (by have := HK.out; omega); unfold maxLen; omega))
          rw [← hnx] at L2
          have HNX := Lib.hid hnx
          clear hnx c0
          cases hlx : (decide ((nx : Int) ≤ 40) && lightB (lsAt ls k)) with
          | false =>
            rw [hlx] at L2
            clear HX
            go_wp2_with (go_at_call 6; refine L2.out.mono ?_; rintro e w2 ⟨rfl, rfl⟩)
            go_ret
            exact ⟨rfl, hb⟩
          | true =>
            rw [hlx] at L2
            have hx40 : nx ≤ 40 := by
              rw [Bool.and_eq_true, decide_eq_true_eq] at hlx
              omega
            have R1 := Lib.hid (rising_any _ (lsAt ls k) wr HX.out (by have := HNX.out; omega))
            by_cases hP : RisesP (lsAt ls k)
            · have R2 : Hid (Calls Try.prog 11 #[.slice ax nx cx] wr fun e w' => e = .returned (.bool true) ∧ Below wr.heap.size wr w') := R1.out.mono (by
                rintro e w' ⟨r', rfl, hr', hb⟩
                rw [hr'.2 hP]
                exact ⟨rfl, hb⟩)
              clear R1 hlx hP HX
              go_wp2_with (first | (go_at_call 6; refine L2.out.mono ?_; rintro e w2 ⟨rfl, rfl⟩) | (go_at_call 11; refine R2.out.mono ?_; rintro e w3 ⟨rfl, hb3⟩))
              go_roundw
              case rel => exact ⟨k + 1, by go_num, by omega, bb hb hb3, fun j hj => by
                rcases Nat.lt_or_ge j k with h | h
                · exact HD.out j h
                · have : j = k := by omega
                  rw [this]; have := HNX.out; omega⟩
              case measure => simp [intOf]; omega
            · have R2 : Hid (Calls Try.prog 11 #[.slice ax nx cx] wr fun e w' => e = .returned (.bool false) ∧ Below wr.heap.size wr w') := R1.out.mono (by
                rintro e w' ⟨r', rfl, hr', hb⟩
                cases r' with
                | true => exact absurd (hr'.1 rfl) hP
                | false => exact ⟨rfl, hb⟩)
              clear R1 hlx hP HX
              go_wp2_with (first | (go_at_call 6; refine L2.out.mono ?_; rintro e w2 ⟨rfl, rfl⟩) | (go_at_call 11; refine R2.out.mono ?_; rintro e w3 ⟨rfl, hb3⟩))
              go_ret
              exact ⟨rfl, bb hb hb3⟩
        · have hfl : ls.flatten.length ≤ 240 := by
            have h1 := flat_len ls k (by have := HK.out; omega) HD.out
            have h2 : flatT ls k = ls.flatten := by unfold flatT; rw [List.take_of_length_le (by have := HK.out; omega)]
            rw [h2] at h1
            omega
          have M1 := Lib.hid (fun w h => merge_any (.slice au k0 cau) ls w h (by have := HK.out; omega) (by omega))
          have M2 := Lib.hid (fun w h => merged_any (.slice au k0 cau) ls w h (by have := HK.out; omega) (by omega))
          have HFL := Lib.hid hfl
          clear hfl
          go_wp2_with (first | (go_at_call 12; refine (M1.out _ (isLists_below H2.out hb)).mono ?_; rintro e w3 ⟨u1, Z, rfl, z1, z2, z3, z4, hb3⟩; have HZ := Lib.hid z3; clear z3) | (go_at_call 13; refine (M2.out _ (isLists_below H2.out (bb hb hb3))).mono ?_; rintro e w4 ⟨u2, Z', rfl, y1, y2, y3, y4, hb4⟩; obtain rfl := both_same Z Z' ls.flatten z1 z2 y1 y2; clear y3) | (go_at_call 7; refine (same_any _ _ _ _ (isPairs_below z4 hb4) y4 (by have h1 := HZ.out; have h2 := HFL.out; omega)).mono ?_; rintro e w5 ⟨rfl, hb5⟩))
          go_ret
          exact ⟨rfl, bb (bb (bb hb hb3) hb4) hb5⟩
    · go_enter Try.func3, Try.ntmps3
      go_wp2_with (first | (go_at_call 5; refine (orders_any _).mono ?_; rintro e w1 ⟨rfl, hb1⟩) | (go_at_call 6; refine (L1.out _ (isPairs_below H.out hb1)).mono ?_; rintro e w2 ⟨rfl, rfl⟩))
      go_ret
      exact ⟨rfl, hb1⟩
end Go.Proofs.Ytncjgmohpebnmaa
