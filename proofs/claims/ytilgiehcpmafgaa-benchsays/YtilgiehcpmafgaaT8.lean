/- Tasks: the walk of the law TasksSays. -/
import Derived.Test.YtilgiehcpmafgaaT7
namespace Go.Proofs.Ytilgiehcpmafgaa
open Go.ChangeShapes Go.WideShapes Go.ChangeAt Go.RowKit
open Tk
theorem isActs_blw {w w' : World} {v : Value} {l : List ActV} (h : IsActs w v l) (hb : Below w.heap.size w w') : IsActs w' v l := by
  obtain ⟨a, cap, e, hc⟩ := h
  refine ⟨a, cap, e, fun i hi => ?_⟩
  obtain ⟨b, off, ea, c0, c1, c2, c3, c4, c5, c6⟩ := hc i hi
  exact ⟨b, off, ea, cell_blw c0 hb, cell_blw c1 hb, cell_blw c2 hb, cell_blw c3 hb, cell_blw c4 hb, cell_blw c5 hb, cell_blw c6 hb⟩
theorem cell_win {lo hi : Nat} {w w' : World} {g i : Nat} {v : Value} (h : w.cell? ⟨g, i, none⟩ = some v) (k : Win lo hi w w') (hg : hi ≤ g) : w'.cell? ⟨g, i, none⟩ = some v := (World.cell?_of_block (w := w) (a := ⟨g, i, none⟩) (k.block g (block_lt h) (.inr hg))).trans h
set_option maxRecDepth 100000 in
set_option maxHeartbeats 4000000 in
theorem tasksSays_walk (n m : Int) (v : Value) (l : List ActV) (w : World) (h : IsActs w v l) (hl : l.length ≤ maxLen) :
    Calls Try.prog 3 #[.int .i64 n, .int .i64 m, v] w fun e w' => e = .returned (.bool true) ∧ Below w.heap.size w w' := by
  have L0 := Lib.hid (lists_any w)
  have LA : Hid (∀ w1, Below w.heap.size w w1 → Calls Try.prog 6 #[v, .int .i64 80] w1 fun e w' => (e = .returned (.bool true) ∨ e = .returned (.bool false)) ∧ w' = w1) := fun w1 hb => lightActs_any v l 80 w1 (isActs_blw h hb) hl
  obtain ⟨ao, cap, rfl, hc⟩ := h
  have HC := Lib.hid hc
  clear hc
  unfold maxLen at hl
  obtain ⟨q, hq⟩ : ∃ q, q = l.length := ⟨_, rfl⟩
  rw [← hq] at hl LA ⊢
  have HQ := Lib.hid hq
  clear hq
  by_cases hr : n < 0 ∨ 60 < n ∨ m < 1 ∨ 4 < m
  · have N1 := Lib.hid (fun w => new_out n m hr w)
    have N2 := Lib.hid (fun w => newTasks_out n m hr w)
    have S : Hid (∀ w1, Calls Try.prog 9 #[.iface 68 (.int .i64 1), .int .i64 1] w1 fun e w' => e = .returned (.bool true) ∧ w' = w1) := fun w1 => same_any 1 (by omega) w1
    clear hr HC
    go_enter Try.func3, Try.ntmps3
    go_wp2_with (first | (go_at_call 5; refine L0.out.mono ?_; rintro _ w1 ⟨rfl, hb1⟩) | (go_at_call 6; refine (LA.out _ hb1).mono ?_; rintro _ w9 ⟨rfl | rfl, h9⟩ <;> (rw [h9]; clear h9 w9)) | (go_at_call 7; refine (N1.out _).mono ?_; rintro _ w9 ⟨rfl, h9⟩; rw [h9]; clear h9 w9) | (go_at_call 8; refine (N2.out _).mono ?_; rintro _ w9 ⟨rfl, h9⟩; rw [h9]; clear h9 w9) | (go_at_call 9; refine (S.out _).mono ?_; rintro _ w9 ⟨rfl, h9⟩; rw [h9]; clear h9 w9))
    all_goals go_ret
    all_goals exact ⟨rfl, hb1⟩
  · obtain ⟨n, rfl⟩ := Int.eq_ofNat_of_zero_le (a := n) (by omega)
    obtain ⟨m, rfl⟩ := Int.eq_ofNat_of_zero_le (a := m) (by omega)
    have N1 := Lib.hid (fun w => new_in n m (by omega) (by omega) (by omega) w)
    have N2 := Lib.hid (fun w => newTasks_in n m (by omega) (by omega) (by omega) w)
    clear hr
    go_enter Try.func3, Try.ntmps3
    go_wp2_with (first | (go_at_call 5; refine L0.out.mono ?_; rintro _ w1 ⟨rfl, hb1⟩) | (go_at_call 6; refine (LA.out _ hb1).mono ?_; rintro _ w9 ⟨rfl | rfl, h9⟩ <;> (rw [h9]; clear h9 w9)) | (go_at_call 7; refine (N1.out _).mono ?_; rintro _ w2 ⟨P, va, vb, vc, rfl, hT, hb2⟩) | (go_at_call 8; refine (N2.out _).mono ?_; rintro _ w3 ⟨Q, ua, ub, uc, rfl, hR, hb3⟩))
    · have bb3 : Below w.heap.size w w3 := blw_step (blw_step hb1 hb2) hb3
      have s1 : w.heap.size ≤ w1.heap.size := hb1.size
      have s2 : w1.heap.size ≤ w2.heap.size := hb2.size
      have s3 : w2.heap.size ≤ w3.heap.size := hb3.size
      have HT := Lib.hid (hT.blw hb3)
      have HR := Lib.hid hR
      clear hT hR hb1 hb2 hb3 L0 LA N1 N2
      obtain ⟨C, hC⟩ : ∃ C, C = w3.heap.size := ⟨_, rfl⟩
      rw [← hC] at HR s3
      have hC' : C ≤ w3.heap.size := by omega
      clear hC
      generalize w1.heap.size = A at *
      generalize w2.heap.size = B at *
      go_loopw [12] (fun kv wr => ∃ (k : Nat) (a b c : List Int), k ≤ q ∧ kv = .int .i64 k ∧ Below w.heap.size w wr ∧ C ≤ wr.heap.size ∧ Hid (IsT 70 wr A B P va vb vc a b c ∧ IsT 72 wr B C Q ua ub uc a b c)) (fun kv _ => q - (intOf kv).toNat)
      case atStart => exact ⟨0, _, _, _, Nat.zero_le _, rfl, bb3, hC', HT.out, HR.out⟩
      case round =>
        obtain ⟨k, a, b, c, hk, rfl, hb4, hC4, HH⟩ := hrel
        clear HT HR bb3 hC'
        by_cases hlt : k < q
        · have hkl : k < l.length := by have := HQ.out; omega
          obtain ⟨g, off, rfl, c0, c1, c2, c3, c4, c5, c6⟩ := HC.out k hkl
          replace c0 := cell_blw c0 hb4
          replace c1 := cell_blw c1 hb4
          replace c2 := cell_blw c2 hb4
          replace c3 := cell_blw c3 hb4
          replace c4 := cell_blw c4 hb4
          replace c5 := cell_blw c5 hb4
          replace c6 := cell_blw c6 hb4
          clear HC
          generalize l[k] = t at c0 c1 c2 c3 c4 c5 c6
          obtain ⟨kd, ta, tb, tc, fo, pr, inp⟩ := t
          simp only at c0 c1 c2 c3 c4 c5 c6
          obtain ⟨w5, hw5⟩ : ∃ w5, w5 = wr.alloc (.cells #[.string kd, .int .i64 ta, .int .i64 tb, .int .i64 tc, .bool fo, .string pr, .string inp] 35) := ⟨_, rfl⟩
          have b5 : Below wr.heap.size wr w5 := by rw [hw5]; exact blw_box _
          have d0 : w5.cell? ⟨wr.heap.size, 0, none⟩ = some (.string kd) := by rw [hw5]; exact cell_new _ _ _ _ _ _ rfl rfl
          have d1 : w5.cell? ⟨wr.heap.size, 1, none⟩ = some (.int .i64 ta) := by rw [hw5]; exact cell_new _ _ _ _ _ _ rfl rfl
          have d2 : w5.cell? ⟨wr.heap.size, 2, none⟩ = some (.int .i64 tb) := by rw [hw5]; exact cell_new _ _ _ _ _ _ rfl rfl
          have d4 : w5.cell? ⟨wr.heap.size, 4, none⟩ = some (.bool fo) := by rw [hw5]; exact cell_new _ _ _ _ _ _ rfl rfl
          have T5 := Lib.hid (HH.out.1.blw b5)
          have R5 := Lib.hid (HH.out.2.blw b5)
          have bb5 : Below w.heap.size w w5 := blw_step hb4 b5
          have hC5 : C ≤ w5.heap.size := Nat.le_trans hC4 b5.size
          have HW5 := Lib.hid hw5
          clear hw5 HH b5
          cases g1 : kd.toList == [98, 101, 103, 105, 110] with
          | true =>
            go_wp2_with (go_at_call 10; refine Hid.out ?_)
            refine Lib.hid ?_
            rw [← HW5.out]
            refine (set1_all w5 R5.out fo ta).mono ?_
            rintro _ w6 ⟨bl, rfl, hR6, hW6⟩
            have T6 := Lib.hid (T5.out.win hW6 (.inl (Nat.le_refl _)))
            have R6 := Lib.hid hR6
            have bb6 : Below w.heap.size w w6 := Win.blw bb5 hW6 (by omega)
            have hC6 : C ≤ w6.heap.size := Nat.le_trans hC5 hW6.size
            replace d1 := cell_win d1 hW6 hC4
            replace d4 := cell_win d4 hW6 hC4
            have HF := Lib.hid (bF_pos a b fo ta)
            have BG := Lib.hid (begin_all w6 T6.out fo ta)
            obtain ⟨f, hf⟩ : ∃ f, f = bF a b fo ta := ⟨_, rfl⟩
            rw [← hf] at HF BG ⊢
            clear hf hR6 hW6 d0 d2 c0 c1 c2 c3 c4 c5 c6
            have SM := Lib.hid (fun w => same_any f HF.out w)
            obtain ⟨ev, hev⟩ : ∃ ev, ev = errV f := ⟨_, rfl⟩
            rw [← hev] at BG SM
            clear hev
            go_wp2_with (go_at_call 11; refine Hid.out ?_)
            refine Lib.hid ?_
            refine BG.out.mono ?_
            rintro _ w7 ⟨rfl, hT7, hW7⟩
            have R7 := R6.out.win hW7 (.inr (Nat.le_refl _))
            have bb7 : Below w.heap.size w w7 := Win.blw bb6 hW7 (by omega)
            have hC7 : C ≤ w7.heap.size := Nat.le_trans hC6 hW7.size
            have AS := Lib.hid (asTasks_any w7 hT7 R7)
            have T7 := Lib.hid hT7
            have R7' := Lib.hid R7
            clear hT7 R7 hW7 T6 R6 d1 d4
            go_wp2_with (first | (go_at_call 9; refine (SM.out _).mono ?_; rintro _ w9 ⟨rfl, h9⟩; rw [h9]; clear h9 w9) | (go_at_call 17; refine AS.out.mono ?_; rintro _ w8 ⟨rfl, hb8⟩))
            go_roundw
            case rel => exact ⟨k + 1, _, _, _, by omega, by go_num, blw_step bb7 hb8, Nat.le_trans hC7 hb8.size, T7.out.blw hb8, R7'.out.blw hb8⟩
            case measure => simp [intOf]; omega
          | false =>
            cases g2 : kd.toList == [119, 97, 105, 116] with
            | true =>
              go_wp2_with (go_at_call 10; refine Hid.out ?_)
              refine Lib.hid ?_
              rw [← HW5.out]
              refine (set0_all w5 R5.out fo ta).mono ?_
              rintro _ w6 ⟨bl, rfl, hR6, hW6⟩
              have T6 := Lib.hid (T5.out.win hW6 (.inl (Nat.le_refl _)))
              have R6 := Lib.hid hR6
              have bb6 : Below w.heap.size w w6 := Win.blw bb5 hW6 (by omega)
              have hC6 : C ≤ w6.heap.size := Nat.le_trans hC5 hW6.size
              replace d1 := cell_win d1 hW6 hC4
              replace d4 := cell_win d4 hW6 hC4
              have HF := Lib.hid (wF_pos a b fo ta)
              have BG := Lib.hid (wait_all w6 T6.out fo ta)
              obtain ⟨f, hf⟩ : ∃ f, f = wF a b fo ta := ⟨_, rfl⟩
              rw [← hf] at HF BG ⊢
              clear hf hR6 hW6 d0 d2 c0 c1 c2 c3 c4 c5 c6
              have SM := Lib.hid (fun w => same_any f HF.out w)
              obtain ⟨ev, hev⟩ : ∃ ev, ev = errV f := ⟨_, rfl⟩
              rw [← hev] at BG SM
              clear hev
              go_wp2_with (go_at_call 12; refine Hid.out ?_)
              refine Lib.hid ?_
              refine BG.out.mono ?_
              rintro _ w7 ⟨rfl, hT7, hW7⟩
              have R7 := R6.out.win hW7 (.inr (Nat.le_refl _))
              have bb7 : Below w.heap.size w w7 := Win.blw bb6 hW7 (by omega)
              have hC7 : C ≤ w7.heap.size := Nat.le_trans hC6 hW7.size
              have AS := Lib.hid (asTasks_any w7 hT7 R7)
              have T7 := Lib.hid hT7
              have R7' := Lib.hid R7
              clear hT7 R7 hW7 T6 R6 d1 d4
              go_wp2_with (first | (go_at_call 9; refine (SM.out _).mono ?_; rintro _ w9 ⟨rfl, h9⟩; rw [h9]; clear h9 w9) | (go_at_call 17; refine AS.out.mono ?_; rintro _ w8 ⟨rfl, hb8⟩))
              go_roundw
              case rel => exact ⟨k + 1, _, _, _, by omega, by go_num, blw_step bb7 hb8, Nat.le_trans hC7 hb8.size, T7.out.blw hb8, R7'.out.blw hb8⟩
              case measure => simp [intOf]; omega
            | false =>
              cases g3 : kd.toList == [102, 105, 110, 105, 115, 104] with
              | true =>
                go_wp2_with (go_at_call 13; refine Hid.out ?_)
                refine Lib.hid ?_
                rw [← HW5.out]
                have HF := Lib.hid (wF_pos a b fo ta)
                have BG := Lib.hid (finish_all w5 T5.out fo ta tb)
                obtain ⟨f, hf⟩ : ∃ f, f = wF a b fo ta := ⟨_, rfl⟩
                obtain ⟨y, hy⟩ : ∃ y, y = fT a b fo ta := ⟨_, rfl⟩
                have SM := Lib.hid (fun w => same_any _ HF.out w)
                rw [← hf] at BG SM
                rw [← hy] at BG
                have HFE := Lib.hid hf
                have HYE := Lib.hid hy
                obtain ⟨ev, hev⟩ : ∃ ev, ev = errV f := ⟨_, rfl⟩
                rw [← hev] at BG SM
                clear hev hf hy HF
                refine BG.out.mono ?_
                rintro _ w6 ⟨rfl, hT6, hW6⟩
                have R6 := R5.out.win hW6 (.inr (Nat.le_refl _))
                have bb6 : Below w.heap.size w w6 := Win.blw bb5 hW6 (by omega)
                have hC6 : C ≤ w6.heap.size := Nat.le_trans hC5 hW6.size
                replace d1 := cell_win d1 hW6 (by omega)
                replace d2 := cell_win d2 hW6 (by omega)
                replace d4 := cell_win d4 hW6 (by omega)
                have ST := set2_all w6 R6 fo ta tb
                rw [← HFE.out, ← HYE.out] at ST
                have HST := Lib.hid ST
                have T6 := Lib.hid hT6
                clear ST hT6 R6 hW6 d0 c0 c1 c2 c3 c4 c5 c6 BG
                go_wp2_with (go_at_call 10; refine Hid.out ?_)
                refine Lib.hid ?_
                refine HST.out.mono ?_
                rintro _ w7 ⟨rfl, hR7, hW7⟩
                have T7 := T6.out.win hW7 (.inl (Nat.le_refl _))
                have bb7 : Below w.heap.size w w7 := Win.blw bb6 hW7 (by omega)
                have hC7 : C ≤ w7.heap.size := Nat.le_trans hC6 hW7.size
                have AS := Lib.hid (asTasks_any w7 T7 hR7)
                have T7' := Lib.hid T7
                have R7' := Lib.hid hR7
                clear hR7 T7 hW7 T6 HST d1 d2 d4
                go_wp2_with (first | (go_at_call 9; refine (SM.out _).mono ?_; rintro _ w9 ⟨rfl, h9⟩; rw [h9]; clear h9 w9) | (go_at_call 17; refine AS.out.mono ?_; rintro _ w8 ⟨rfl, hb8⟩))
                go_roundw
                case rel => exact ⟨k + 1, _, _, _, by omega, by go_num, blw_step bb7 hb8, Nat.le_trans hC7 hb8.size, T7'.out.blw hb8, R7'.out.blw hb8⟩
                case measure => simp [intOf]; omega
              | false =>
                have L1 := Lib.hid (lose_any w5.drew (T5.out.blw (blw_drew _)) (Nat.le_trans s3 hC5) tb)
                have L2 : Hid (∀ w6, IsT 72 w6 B C Q ua ub uc a b c → C ≤ w6.heap.size → Calls Try.prog 16 #[.pointer (some ⟨Q, 0, none⟩), .int .i64 tb] w6 fun e w' => LostSaid 72 B C Q ua ub uc a b c tb w6 e w') := fun w6 h hC => lost_any w6 h hC tb
                have hlen := (lk_len a c tb a.length).2
                have hal := T5.out.small.1
                have bbd : Below w.heap.size w w5.drew := blw_step bb5 (blw_drew _)
                have Rd := Lib.hid (R5.out.blw (blw_drew w5))
                go_wp2_with fail
                rw [← HW5.out]
                replace d2 : w5.drew.cell? ⟨wr.heap.size, 2, none⟩ = some (.int .i64 tb) := d2
                go_region_with (first | (go_at_call 15; refine L1.out.mono ?_; rintro _ w6 ⟨v1, rfl, ho1, hT6, hW6⟩; have T6 := Lib.hid hT6; have R6 := Lib.hid (Rd.out.win hW6 (.inr (Nat.le_refl _))); have hC6 : C ≤ w6.heap.size := Nat.le_trans hC5 hW6.size; have bb6 : Hid (Below w.heap.size w w6) := Win.blw bbd hW6 (by omega); have e2 := cell_win d2 hW6 (by omega); have HO1 := Lib.hid ho1; clear ho1 hT6 hW6) | (go_at_call 16; refine (L2.out _ R6.out hC6).mono ?_; rintro _ w7 ⟨v2, rfl, ho2, hR7, hW7⟩; have T7 := Lib.hid (T6.out.win hW7 (.inl (Nat.le_refl _))); have R7 := Lib.hid hR7; have hC7 : C ≤ w7.heap.size := Nat.le_trans hC6 hW7.size; have bb7 : Hid (Below w.heap.size w w7) := Win.blw bb6.out hW7 (by omega); have HSN := Lib.hid (sameNumbers_any v1 v2 _ w7 (isIs_of (owns_win HO1.out hW7 hC5)) (isIs_of ho2) (by omega)); clear ho2 hR7 hW7) | (go_at_call 14; refine HSN.out.mono ?_; rintro _ w8 ⟨rfl, hb8⟩))
                all_goals
                  have AS := Lib.hid (asTasks_any w8 (T7.out.blw hb8) (R7.out.blw hb8))
                  clear d0 d1 d2 d4 e2 L1 L2 HSN HO1 c0 c1 c2 c3 c4 c5 c6
                  go_wp2_with (go_at_call 17; refine AS.out.mono ?_; rintro _ w10 ⟨rfl, hb10⟩)
                  go_roundw
                  case rel => exact ⟨k + 1, _, _, _, by omega, by go_num, blw_step (blw_step bb7.out hb8) hb10, Nat.le_trans hC7 (Nat.le_trans hb8.size hb10.size), (T7.out.blw hb8).blw hb10, (R7.out.blw hb8).blw hb10⟩
                  case measure => simp [intOf]; omega
        · have A0 := Lib.hid (asTasks_any wr HH.out.1 HH.out.2)
          clear HC HH
          go_wp2_with (go_at_call 17; refine A0.out.mono ?_; rintro _ w5 ⟨rfl, hb5⟩)
          go_ret
          exact ⟨rfl, blw_step hb4 hb5⟩
    · go_ret
      exact ⟨rfl, hb1⟩
end Go.Proofs.Ytilgiehcpmafgaa
