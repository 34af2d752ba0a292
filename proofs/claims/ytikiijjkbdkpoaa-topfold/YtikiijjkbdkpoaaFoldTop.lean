/- The walk of TopFold: in any order and groups values are folded the same. -/
import Derived.Test.YtikiijjkbdkpoaaGrps
import Derived.Test.YtikiijjkbdkpoaaSort
import Derived.Test.YtikiijjkbdkpoaaPChk
import Derived.Test.YtikiijjkbdkpoaaBlw
namespace Go.Proofs.Ytikiijjkbdkpoaa
open Go.ChangeShapes Go.WideShapes Go.ChangeAt Go.RowKit
open Grp
theorem isPairs_take {w : World} {a : Option Addr} {n cap : Nat} {l : List (ByteArray × Int)} (h : IsPairs w (.slice a n cap) l) (k : Nat) (hk : k ≤ l.length) (cap' : Nat) : IsPairs w (.slice a k cap') (l.take k) := by
  obtain ⟨a', c', e, hc⟩ := h
  injection e with e1 e2 e3
  subst e1
  refine ⟨a, cap', by simp; omega, fun i hi => ?_⟩
  have hi' : i < l.length := by simp at hi; omega
  obtain ⟨b, off, ea, c0, c1⟩ := hc i hi'
  exact ⟨b, off, ea, by simpa using c0, by simpa using c1⟩
theorem isPairs_drop {w : World} {b off n cap : Nat} {l : List (ByteArray × Int)} (h : IsPairs w (.slice (some ⟨b, off, none⟩) n cap) l) (k m : Nat) (hm : m = l.length - k) (cap' : Nat) : IsPairs w (.slice (some ⟨b, off + k * 2, none⟩) m cap') (l.drop k) := by
  obtain ⟨a', c', e, hc⟩ := h
  injection e with e1 e2 e3
  subst e1
  refine ⟨some ⟨b, off + k * 2, none⟩, cap', by rw [hm]; simp, fun i hi => ?_⟩
  have hi' : k + i < l.length := by simp at hi; omega
  obtain ⟨b', off', ea, c0, c1⟩ := hc (k + i) hi'
  injection ea with ea
  injection ea with ea eo
  subst ea eo
  refine ⟨b, off + k * 2, rfl, ?_, ?_⟩
  · rw [show off + k * 2 + i * 2 = off + (k + i) * 2 by omega]; simpa using c0
  · rw [show off + k * 2 + i * 2 + 1 = off + (k + i) * 2 + 1 by omega]; simpa using c1
theorem samePairs_same (v u : Value) (l : List (ByteArray × Int)) (w : World) (h : IsPairs w v l) (h' : IsPairs w u l) (hl : l.length ≤ maxLen) :
    Calls Try.prog 11 #[v, u] w fun e w' => e = .returned (.bool true) ∧ Below w.heap.size w w' := by
  refine (samePairs_any v u l l w h h' hl).mono ?_
  rintro e w' ⟨rfl, n, rfl⟩
  exact ⟨by simp, blw_drewN _ _⟩
set_option maxRecDepth 100000 in
set_option maxHeartbeats 4000000 in
theorem topFold_walk (kind a b c : Int) (v : Value) (l : List (ByteArray × Int)) (w : World) (h : IsPairs w v l) (hlm : l.length ≤ maxLen) :
    Calls Try.prog 4 #[.int .i64 kind, .int .i64 a, .int .i64 b, .int .i64 c, v] w fun e w' => e = .returned (.bool true) ∧ Below w.heap.size w w' := by
  have H := Lib.hid h
  have HM := Lib.hid hlm
  clear hlm
  obtain ⟨ao, cap, hv, _⟩ := h
  obtain ⟨n, hn⟩ : ∃ n, n = l.length := ⟨_, rfl⟩
  subst hv
  rw [← hn] at H ⊢
  have HN := Lib.hid hn
  clear hn
  go_enter Try.func4, Try.ntmps4
  go_wp2_with (go_at_call 14; refine Hid.out ?_)
  refine Lib.hid ?_
  refine (two_any 2 3 2 _).mono ?_
  rintro _ w0 ⟨rfl, h0⟩
  rw [h0]
  clear h0 w0
  rw [show two 2 3 2 = 2 by decide]
  have CK := Lib.hid (foldCheck_any kind w)
  go_wp2_with (go_at_call 8; refine Hid.out ?_)
  refine Lib.hid ?_
  refine CK.out.mono ?_
  rintro _ w0 ⟨rfl, h0⟩
  rw [h0]
  clear h0 w0
  clear CK
  unfold kindV
  by_cases hk : kindB kind = true
  · rw [if_pos hk]
    clear hk
    have HL := Lib.hid (lightPairs_any _ l 40 w H.out HM.out)
    by_cases hlt : (decide ((l.length : Int) ≤ 40) && lightB l) = true
    · rw [hlt] at HL
      have hn60 : n ≤ 40 := by
        have h1 := hlt
        simp only [Bool.and_eq_true, decide_eq_true_eq] at h1
        have := HN.out
        omega
      clear hlt
      go_wp2_with (go_at_call 6; refine Hid.out ?_)
      refine Lib.hid ?_
      refine HL.out.mono ?_
      rintro _ w0 ⟨rfl, h0⟩
      rw [h0]
      clear h0 w0
      clear HL
      go_wp2_with fail
      obtain ⟨w1, hw1⟩ : ∃ w1, w1 = w.alloc (.cells #[.int .i64 a, .int .i64 b, .int .i64 c] 3) := ⟨_, rfl⟩
      have c0 : w1.cell? ⟨w.heap.size, 0, none⟩ = some (.int .i64 a) := by rw [hw1]; simp
      have c1 : w1.cell? ⟨w.heap.size, 1, none⟩ = some (.int .i64 b) := by rw [hw1]; simp
      have c2 : w1.cell? ⟨w.heap.size, 2, none⟩ = some (.int .i64 c) := by rw [hw1]; simp
      have hb1 : Below w.heap.size w w1 := by rw [hw1]; exact blw_box _
      rw [← hw1]
      clear hw1
      go_loopw [12, 33] (fun _ kv wr => ∃ k : Nat, k ≤ 3 ∧ kv = .int .i64 k ∧ wr = w1) (fun _ kv _ => 3 - (intOf kv).toNat)
      case atStart => exact ⟨0, by omega, by go_num, rfl⟩
      case round =>
        obtain ⟨k, hk, rfl, rfl⟩ := hrel
        by_cases hk3 : k < 3
        · obtain ⟨x, hx⟩ : ∃ x, wr.cell? ⟨w.heap.size, k, none⟩ = some (.int .i64 x) := by
            have : k = 0 ∨ k = 1 ∨ k = 2 := by omega
            rcases this with rfl | rfl | rfl
            · exact ⟨_, c0⟩
            · exact ⟨_, c1⟩
            · exact ⟨_, c2⟩
          clear c0 c1 c2
          cases g1 : decide (x < -274877906944) with
          | true =>
            go_wp2
            all_goals go_ret
            all_goals exact ⟨rfl, hb1⟩
          | false =>
            cases g2 : decide (274877906944 < x) with
            | true =>
              go_wp2
              all_goals go_ret
              all_goals exact ⟨rfl, hb1⟩
            | false =>
              go_wp2
              go_roundw
              case rel => exact ⟨k + 1, by omega, by go_num, by first | rfl | trivial⟩
              case measure => simp [intOf]; omega
        · obtain rfl : k = 3 := by omega
          clear c0 c1 c2
          have T1 := Lib.hid (two_any kind a b)
          have T2 := Lib.hid (two_any kind b a)
          rw [two_comm kind b a] at T2
          have T3 := Lib.hid (two_any kind b c)
          have T4 := Lib.hid (two_any kind a (two kind b c))
          have T5 := Lib.hid (two_any kind (two kind a b) c)
          rw [two_assoc] at T5
          generalize two kind a (two kind b c) = x4 at T4 T5
          generalize two kind a b = x1 at *
          generalize two kind b c = x3 at *
          go_wp2_with (go_at_call 14; refine Hid.out ?_)
          refine Lib.hid ?_
          refine (T1.out _).mono ?_
          rintro _ w0 ⟨rfl, h0⟩
          rw [h0]
          clear h0 w0
          go_wp2_with (go_at_call 14; refine Hid.out ?_)
          refine Lib.hid ?_
          refine (T2.out _).mono ?_
          rintro _ w0 ⟨rfl, h0⟩
          rw [h0]
          clear h0 w0
          go_wp2_with (go_at_call 14; refine Hid.out ?_)
          refine Lib.hid ?_
          refine (T3.out _).mono ?_
          rintro _ w0 ⟨rfl, h0⟩
          rw [h0]
          clear h0 w0
          go_wp2_with (go_at_call 14; refine Hid.out ?_)
          refine Lib.hid ?_
          refine (T4.out _).mono ?_
          rintro _ w0 ⟨rfl, h0⟩
          rw [h0]
          clear h0 w0
          go_wp2_with (go_at_call 14; refine Hid.out ?_)
          refine Lib.hid ?_
          refine (T1.out _).mono ?_
          rintro _ w0 ⟨rfl, h0⟩
          rw [h0]
          clear h0 w0
          go_wp2_with (go_at_call 14; refine Hid.out ?_)
          refine Lib.hid ?_
          refine (T5.out _).mono ?_
          rintro _ w0 ⟨rfl, h0⟩
          rw [h0]
          clear h0 w0 T1 T2 T3 T4 T5
          go_wp2_with fail
          generalize wr = w1 at *
          go_loopw [13] (fun kv wr => ∃ k : Nat, kv = .int .i64 k ∧ k ≤ n ∧ Below w1.heap.size w1 wr) (fun kv _ => n - (intOf kv).toNat)
          case atStart => exact ⟨0, by go_num, by omega, Below.refl _ _⟩
          case round =>
            obtain ⟨k, rfl, hkn, hbr⟩ := hrel
            have hbw := blw_step hb1 hbr
            by_cases hlt : k < n
            · obtain ⟨b0, off, ea, e0, e1⟩ : ∃ b0 off, ao = some ⟨b0, off, none⟩ ∧ wr.cell? ⟨b0, off + k * 2, none⟩ = some (.string (l[k]'(by have := HN.out; omega)).1) ∧ wr.cell? ⟨b0, off + k * 2 + 1, none⟩ = some (.int .i64 (l[k]'(by have := HN.out; omega)).2) := by
                obtain ⟨a', c', e, hc⟩ := isPairs_below H.out hbw
                injection e with e1
                obtain ⟨b0, off, ea, c0, c1⟩ := hc k (by have := HN.out; omega)
                exact ⟨b0, off, e1.trans ea, c0, c1⟩
              generalize l[k]'(by have := HN.out; omega) = p at e0 e1
              obtain ⟨ps, pv⟩ := p
              subst ea
              simp only at e0 e1
              have CP := Lib.hid (check_any ps pv wr)
              go_wp2_with (go_at_call 16; refine Hid.out ?_)
              refine Lib.hid ?_
              refine CP.out.mono ?_
              rintro _ w2 ⟨rfl, hb2⟩
              unfold faultV
              clear CP e0 e1
              cases badB (ps, pv) with
              | true =>
                simp only [if_true]
                go_wp2
                go_ret
                exact ⟨rfl, blw_step hbw hb2⟩
              | false =>
                simp only [Bool.false_eq_true, if_false]
                go_wp2
                go_roundw
                case rel => exact ⟨k + 1, by go_num, by omega, blw_step hbr hb2⟩
                case measure => simp [intOf]; omega
            · have HP := Lib.hid (isPairs_below H.out hbw)
              have SO := Lib.hid (sort_full _ l wr HP.out (by have := HN.out; omega))
              go_wp2_with (go_at_call 17; refine Hid.out ?_)
              refine Lib.hid ?_
              refine SO.out.mono ?_
              rintro _ w2 ⟨u, Z, rfl, _, _, hZl, hu, hb2, g, hug⟩
              rw [← HN.out] at hug
              subst hug
              have hbw2 := blw_step hbw hb2
              have hZn : Hid (n = Z.length) := by show _ = _; rw [hZl]; exact HN.out
              clear SO HP hZl
              have GR := Lib.hid (groups_any kind _ Z w2 hu (by have := hZn.out; omega))
              go_wp2_with (go_at_call 12; refine Hid.out ?_)
              refine Lib.hid ?_
              refine GR.out.mono ?_
              rintro _ w3 ⟨uo, rfl, ho, hb3⟩
              have hbw3 := blw_step hbw2 hb3
              have hu3 := isPairs_below hu hb3
              clear GR hu
              have HO3 := Lib.hid ho
              have HU3 := Lib.hid hu3
              clear ho hu3
              rcases Nat.eq_zero_or_pos n with hz | hz
              · subst hz
                have HG1 := Lib.hid (groups_any kind _ (Z.take 0) w3 (isPairs_take HU3.out 0 (by omega) 0) (by simp))
                go_wp2_with (go_at_call 12; refine Hid.out ?_)
                refine Lib.hid ?_
                refine HG1.out.mono ?_
                rintro _ w4 ⟨u1, rfl, h1, hb4⟩
                have hbw4 := blw_step hbw3 hb4
                clear HG1
                have H1 := Lib.hid h1
                have hl1 := grp_len kind (Z.take 0)
                have hl2 := grp_len kind (Z.drop 0)
                have hl3 : (Z.take 0).length ≤ 40 := by simp
                have hl4 : (Z.drop 0).length ≤ 40 := by have := hZn.out; simp; omega
                have HGA : Hid (grp kind (grp kind (Z.take 0) ++ grp kind (Z.drop 0)) = grp kind Z) := by
                  show _ = _
                  rw [grp_parts, List.take_append_drop]
                obtain ⟨a1, k1, e1, _⟩ := h1
                obtain ⟨n1, hn1⟩ : ∃ n1, n1 = (grp kind (Z.take 0)).length := ⟨_, rfl⟩
                rw [← hn1] at e1
                subst e1
                clear hn1
                go_wp2_with (at_builtin; refine Hid.out ?_)
                refine Lib.hid ?_
                refine wpList_append_pairs (w0 := w4) rfl (.tmp 90) (.tmp 95) rfl (.slice none 0 0) [] rfl (owns_nil _ _) _ (grp kind (Z.take 0)) rfl H1.out (by rw [List.length_nil]; omega) (Below.refl _ _) ?_
                intro v5 w5 hown5 hb5
                rw [List.nil_append] at hown5
                have HO5 := Lib.hid hown5
                have HU5 := Lib.hid (isPairs_below (isPairs_below HU3.out hb4) hb5)
                clear hown5 H1
                have HG2 := Lib.hid (groups_any kind _ (Z.drop 0) w5 (show IsPairs w5 (.slice (some ⟨g, 0, none⟩) 0 0) (Z.drop 0) from by rw [List.drop_zero]; exact HU5.out) (by omega))
                go_wp2_with (go_at_call 12; refine Hid.out ?_)
                refine Lib.hid ?_
                refine HG2.out.mono ?_
                rintro _ w6 ⟨u2, rfl, h2, hb6⟩
                clear HG2 HU5
                have hb46 := blw_step hb5 hb6
                have H2 := Lib.hid h2
                have HO6 := Lib.hid (owns_blw HO5.out hb6)
                obtain ⟨a2, k2, e2, _⟩ := h2
                obtain ⟨n2, hn2⟩ : ∃ n2, n2 = (grp kind (Z.drop 0)).length := ⟨_, rfl⟩
                rw [← hn2] at e2
                subst e2
                clear hn2 HO5
                go_wp2_with (at_builtin; refine Hid.out ?_)
                refine Lib.hid ?_
                refine wpList_append_pairs (w0 := w4) rfl (.tmp 97) (.tmp 102) rfl v5 (grp kind (Z.take 0)) rfl HO6.out _ (grp kind (Z.drop 0)) rfl H2.out (by omega) hb46 ?_
                intro v7 w7 hown7 hb7
                have HP7 := Lib.hid (owns_isPairs hown7)
                have hb37 := blw_step hb4 hb7
                have hbw7 := blw_step hbw3 hb37
                have HO7 := Lib.hid (isPairs_below HO3.out hb37)
                have hl5 : (grp kind (Z.take 0) ++ grp kind (Z.drop 0)).length ≤ 1000 := by rw [List.length_append]; omega
                have hl6 := grp_len kind Z
                have hl7 : Z.length ≤ 40 := by have := hZn.out; omega
                clear hown7 HO6 H2 HU3 HO3
                have HG3 := Lib.hid (groups_any kind uo (grp kind Z) w7 HO7.out (by omega))
                rw [grp_grp] at HG3
                go_wp2_with (go_at_call 12; refine Hid.out ?_)
                refine Lib.hid ?_
                refine HG3.out.mono ?_
                rintro _ w8 ⟨u3, rfl, h3, hb8⟩
                clear HG3
                have HO8 := Lib.hid (isPairs_below HO7.out hb8)
                have HP8 := Lib.hid (isPairs_below HP7.out hb8)
                have HS1 := Lib.hid (samePairs_same u3 uo (grp kind Z) w8 h3 HO8.out (by unfold maxLen; omega))
                go_wp2_with (go_at_call 11; refine Hid.out ?_)
                refine Lib.hid ?_
                refine HS1.out.mono ?_
                rintro _ w9 ⟨rfl, hb9⟩
                have HO9 := Lib.hid (isPairs_below HO8.out hb9)
                have HP9 := Lib.hid (isPairs_below HP8.out hb9)
                clear HS1 h3 HO8 HP8 HP7 HO7
                have HG4 := Lib.hid (groups_any kind v7 _ w9 HP9.out (by omega))
                rw [HGA.out] at HG4
                go_wp2_with (go_at_call 12; refine Hid.out ?_)
                refine Lib.hid ?_
                refine HG4.out.mono ?_
                rintro _ w10 ⟨u4, rfl, h4, hb10⟩
                have HS2 := Lib.hid (samePairs_same u4 uo (grp kind Z) w10 h4 (isPairs_below HO9.out hb10) (by unfold maxLen; omega))
                clear HG4
                go_wp2_with (go_at_call 11; refine Hid.out ?_)
                refine Lib.hid ?_
                refine HS2.out.mono ?_
                rintro _ w11 ⟨rfl, hb11⟩
                go_wp2
                all_goals go_ret
                all_goals exact ⟨rfl, blw_step (blw_step (blw_step (blw_step hbw7 hb8) hb9) hb10) hb11⟩
              · obtain ⟨m, hm⟩ : ∃ m, m = n / 2 := ⟨_, rfl⟩
                have hm1 : (n : Int) / 2 = (m : Int) := by omega
                have hmn : m < n := by omega
                have HG1 := Lib.hid (groups_any kind _ (Z.take m) w3 (isPairs_take HU3.out m (by have := hZn.out; omega) n) (by have := hZn.out; simp; omega))
                clear hm
                go_wp2_with (go_at_call 12; refine Hid.out ?_)
                refine Lib.hid ?_
                refine HG1.out.mono ?_
                rintro _ w4 ⟨u1, rfl, h1, hb4⟩
                have hbw4 := blw_step hbw3 hb4
                clear HG1
                have H1 := Lib.hid h1
                have hl1 := grp_len kind (Z.take m)
                have hl2 := grp_len kind (Z.drop m)
                have hl3 : (Z.take m).length ≤ 40 := by have := hZn.out; simp; omega
                have hl4 : (Z.drop m).length ≤ 40 := by have := hZn.out; simp; omega
                have HGA : Hid (grp kind (grp kind (Z.take m) ++ grp kind (Z.drop m)) = grp kind Z) := by
                  show _ = _
                  rw [grp_parts, List.take_append_drop]
                obtain ⟨a1, k1, e1, _⟩ := h1
                obtain ⟨n1, hn1⟩ : ∃ n1, n1 = (grp kind (Z.take m)).length := ⟨_, rfl⟩
                rw [← hn1] at e1
                subst e1
                clear hn1
                go_wp2_with (at_builtin; refine Hid.out ?_)
                refine Lib.hid ?_
                refine wpList_append_pairs (w0 := w4) rfl (.tmp 90) (.tmp 95) rfl (.slice none 0 0) [] rfl (owns_nil _ _) _ (grp kind (Z.take m)) rfl H1.out (by simp; omega) (Below.refl _ _) ?_
                intro v5 w5 hown5 hb5
                rw [List.nil_append] at hown5
                have HO5 := Lib.hid hown5
                have HU5 := Lib.hid (isPairs_below (isPairs_below HU3.out hb4) hb5)
                clear hown5 H1
                have HG2 := Lib.hid (groups_any kind _ (Z.drop m) w5 (isPairs_drop HU5.out m (n - m) (by have := hZn.out; omega) (n - m)) (by omega))
                rw [Nat.zero_add] at HG2
                go_wp2_with (go_at_call 12; refine Hid.out ?_)
                refine Lib.hid ?_
                refine HG2.out.mono ?_
                rintro _ w6 ⟨u2, rfl, h2, hb6⟩
                clear HG2 HU5
                have hb46 := blw_step hb5 hb6
                have H2 := Lib.hid h2
                have HO6 := Lib.hid (owns_blw HO5.out hb6)
                obtain ⟨a2, k2, e2, _⟩ := h2
                obtain ⟨n2, hn2⟩ : ∃ n2, n2 = (grp kind (Z.drop m)).length := ⟨_, rfl⟩
                rw [← hn2] at e2
                subst e2
                clear hn2 HO5
                go_wp2_with (at_builtin; refine Hid.out ?_)
                refine Lib.hid ?_
                refine wpList_append_pairs (w0 := w4) rfl (.tmp 97) (.tmp 102) rfl v5 (grp kind (Z.take m)) rfl HO6.out _ (grp kind (Z.drop m)) rfl H2.out (by omega) hb46 ?_
                intro v7 w7 hown7 hb7
                have HP7 := Lib.hid (owns_isPairs hown7)
                have hb37 := blw_step hb4 hb7
                have hbw7 := blw_step hbw3 hb37
                have HO7 := Lib.hid (isPairs_below HO3.out hb37)
                have hl5 : (grp kind (Z.take m) ++ grp kind (Z.drop m)).length ≤ 1000 := by simp; omega
                have hl6 := grp_len kind Z
                have hl7 : Z.length ≤ 40 := by have := hZn.out; omega
                clear hown7 HO6 H2 HU3 HO3
                have HG3 := Lib.hid (groups_any kind uo (grp kind Z) w7 HO7.out (by omega))
                rw [grp_grp] at HG3
                go_wp2_with (go_at_call 12; refine Hid.out ?_)
                refine Lib.hid ?_
                refine HG3.out.mono ?_
                rintro _ w8 ⟨u3, rfl, h3, hb8⟩
                clear HG3
                have HO8 := Lib.hid (isPairs_below HO7.out hb8)
                have HP8 := Lib.hid (isPairs_below HP7.out hb8)
                have HS1 := Lib.hid (samePairs_same u3 uo (grp kind Z) w8 h3 HO8.out (by unfold maxLen; omega))
                go_wp2_with (go_at_call 11; refine Hid.out ?_)
                refine Lib.hid ?_
                refine HS1.out.mono ?_
                rintro _ w9 ⟨rfl, hb9⟩
                have HO9 := Lib.hid (isPairs_below HO8.out hb9)
                have HP9 := Lib.hid (isPairs_below HP8.out hb9)
                clear HS1 h3 HO8 HP8 HP7 HO7
                have HG4 := Lib.hid (groups_any kind v7 _ w9 HP9.out (by omega))
                rw [HGA.out] at HG4
                go_wp2_with (go_at_call 12; refine Hid.out ?_)
                refine Lib.hid ?_
                refine HG4.out.mono ?_
                rintro _ w10 ⟨u4, rfl, h4, hb10⟩
                have HS2 := Lib.hid (samePairs_same u4 uo (grp kind Z) w10 h4 (isPairs_below HO9.out hb10) (by unfold maxLen; omega))
                clear HG4
                go_wp2_with (go_at_call 11; refine Hid.out ?_)
                refine Lib.hid ?_
                refine HS2.out.mono ?_
                rintro _ w11 ⟨rfl, hb11⟩
                go_wp2
                all_goals go_ret
                all_goals exact ⟨rfl, blw_step (blw_step (blw_step (blw_step hbw7 hb8) hb9) hb10) hb11⟩
    · rw [Bool.eq_false_iff.2 hlt] at HL
      clear hlt
      go_wp2_with (go_at_call 6; refine Hid.out ?_)
      refine Lib.hid ?_
      refine HL.out.mono ?_
      rintro _ w0 ⟨rfl, h0⟩
      rw [h0]
      clear h0 w0
      go_wp2
      go_ret
      exact ⟨rfl, Below.refl _ _⟩
  · rw [if_neg hk]
    clear hk
    go_wp2
    go_ret
    exact ⟨rfl, Below.refl _ _⟩
end Go.Proofs.Ytikiijjkbdkpoaa
