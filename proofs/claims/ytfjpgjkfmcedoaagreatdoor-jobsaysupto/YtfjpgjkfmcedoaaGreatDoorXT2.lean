/- Contract of job.exprText: an expression's text. -/
import Derived.Test.YtfjpgjkfmcedoaaGreatDoorG5
namespace Go.Proofs.YtfjpgjkfmcedoaaGreatDoor
open Go.ChangeShapes Go.WideShapes Go.ChangeAt Go.RowKit
theorem app_none (x : ByteArray) : x ++ ⟨#[]⟩ = x := by ext1; simp [ByteArray.data_append]
set_option maxRecDepth 100000 in
set_option maxHeartbeats 1000000 in
theorem exprText_any {w : World} {sv : Value} {e : Ex} (E : EnvT w) (h : IsEx w sv e) : e.fit → e.wt ≤ 1100000 → ∀ w', Below w.heap.size w w' →
    Calls Tryz.prog 37 #[e.val sv] w' fun r w'' => r = .returned (.string (bs e.txt)) ∧ Below w'.heap.size w' w'' := by
  have hmix : Tryz.prog.follows .mixedOrders = true := by kernel_rfl
  induction h using IsEx.ind with
  | mk k n s a cap l b off A ha hc kids ih =>
    intro hf hw w0 hb
    simp only [Ex.wt] at hw
    simp only [Ex.fit] at hf
    have E0 := Lib.hid (E.lower hb)
    have HF := Lib.hid hf
    have hl := len_wtL l
    have hsl : s.length ≤ 1100000 := by omega
    have HA := Lib.hid ha
    have HC := Lib.hid hc
    have HI := Lib.hid ih
    have HK := Lib.hid kids
    clear ha hc kids hf E ih
    simp only [Ex.val, Ex.k, Ex.n, Ex.s]
    obtain ⟨w1, hw1⟩ : ∃ w1, w1 = w0.alloc (.cells #[.int .i64 k, .int .i64 n, .string (bs s), .slice a l.length cap] 44) := ⟨_, rfl⟩
    have hb1 : Below w0.heap.size w0 w1 := by rw [hw1]; exact below_box _
    have e0 : w1.cell? ⟨w0.heap.size, 0, none⟩ = some (.int .i64 k) := by rw [hw1]; simp
    have e1 : w1.cell? ⟨w0.heap.size, 1, none⟩ = some (.int .i64 n) := by rw [hw1]; simp
    have e2 : w1.cell? ⟨w0.heap.size, 2, none⟩ = some (.string (bs s)) := by rw [hw1]; simp
    have e3 : w1.cell? ⟨w0.heap.size, 3, none⟩ = some (.slice a l.length cap) := by rw [hw1]; simp
    have HW1 := Lib.hid hw1
    clear hw1
    go_enter Tryz.func37, Tryz.ntmps37
    go_wp2_with (go_at_call 48; refine Hid.out ?_)
    rw [← HW1.out]
    refine Lib.hid ?_
    refine (nameOf_any k w1).mono ?_
    rintro _ w2 ⟨rfl, hb2⟩
    replace e0 := cell_below e0 hb2
    replace e1 := cell_below e1 hb2
    replace e2 := cell_below e2 hb2
    replace e3 := cell_below e3 hb2
    have hb02 := below_trans hb1 hb2
    go_wp2_with (go_at_call 49; refine Hid.out ?_)
    refine Lib.hid ?_
    refine (hasNumber_any k w2 (E0.out.lower hb02).toEnvS).mono ?_
    rintro _ w3 ⟨rfl, hb3⟩
    replace e0 := cell_below e0 hb3
    replace e1 := cell_below e1 hb3
    replace e2 := cell_below e2 hb3
    replace e3 := cell_below e3 hb3
    have hb03 := below_trans hb02 hb3
    have hsp : (bs [32] : ByteArray) = ⟨#[32]⟩ := rfl
    have qN := nameL_len k
    rw [← bs_size] at qN
    have qI := Lib.itoa_length_le n HF.out.1.1 HF.out.1.2
    rw [← bs_size] at qI
    have qS : (quoteL s).length ≤ 2 + 2 * s.length := by have := quoL_len s; simp only [quoteL, List.length_cons, List.length_append, List.length_nil]; omega
    rw [← bs_size] at qS
    have HH : Hid (bs (nameL k) ++ (if hasNum k then ⟨#[32]⟩ ++ bs (Lib.itoa n) else ⟨#[]⟩) ++ (if hasTxt k then ⟨#[32]⟩ ++ bs (quoteL s) else ⟨#[]⟩) = bs (hdTxt k n s)) := by
      show _ = _
      have z : (⟨#[]⟩ : ByteArray) = bs [] := rfl
      unfold hdTxt
      rw [← hsp, z]
      split <;> split <;> simp [bs_append]
    generalize bs (nameL k) = X0 at *
    cases hn : hasNum k
    · go_wp2_with (go_at_call 50; refine Hid.out ?_)
      refine Lib.hid ?_
      refine (hasText_any k w3 (E0.out.lower hb03).toEnvS).mono ?_
      rintro _ w4 ⟨rfl, hb4⟩
      replace e2 := cell_below e2 hb4
      replace e3 := cell_below e3 hb4
      have hb04 := below_trans hb03 hb4
      cases ht : hasTxt k
      · go_wp2
        go_loopw [3, 30] (fun tv iv wr => ∃ (i : Nat) (T : List UInt8), i ≤ l.length ∧ iv = .int .i64 i ∧ tv = .string (bs T) ∧ Hid (T = hdTxt k n s ++ Ex.txt.txtL (l.take i)) ∧ T.length ≤ 40 + 2 * s.length + 44 * Ex.wt.wtL (l.take i) ∧ Below w0.heap.size w0 wr) (fun _ iv _ => l.length - (intOf iv).toNat)
        case atStart => exact ⟨0, hdTxt k n s, Nat.zero_le _, rfl, by rw [← HH.out, hn, ht]; simp [app_none], (by simp [Ex.txt.txtL] : _ = _), by have := hdTxt_len k n s HF.out.1.1 HF.out.1.2; omega, hb04⟩
        case round =>
          obtain ⟨i, T, hi, rfl, rfl, hT, hTl, hbr⟩ := hrel
          by_cases hlt : i < l.length
          · obtain ⟨x, hx⟩ : ∃ x, l[i]? = some x := ⟨l[i], by simp⟩
            have ea := HA.out (by omega)
            subst ea
            have hbw := below_trans hb hbr
            obtain ⟨c0, c1, c2, c3⟩ := HC.out i x hx
            replace c0 := cell_below c0 hbw
            replace c1 := cell_below c1 hbw
            replace c2 := cell_below c2 hbw
            replace c3 := cell_below c3 hbw
            have hwt := wtL_take hx
            have hwk := wt_kid hx
            have hfx := fit_kid hx HF.out.2
            have I := Lib.hid (HI.out i x hx hfx (by omega))
            have hxl := txt_len x hfx
            have hxc := cnt_wt x
            have hxp := cnt_pos x
            have hwl := wtL_le l i
            have HT2 : Hid (T ++ ([32] ++ x.txt) = hdTxt k n s ++ Ex.txt.txtL (l.take (i + 1))) := by
              show _ = _
              rw [txtL_take hx, hT.out]; simp
            obtain ⟨xa, xc, hA⟩ := (HK.out i x hx).slice
            rw [hA] at c3 I
            have HX := Lib.hid hx
            clear hx HI HC HA HK hA
            unfold Ex.val at I
            generalize x.txt = Z at *
            have z1 := bs_size Z
            have z2 := bs_size T
            have n5 : ¬ 9223372036854775807 < 1 + (bs Z).size := by omega
            have n6 : ¬ 9223372036854775807 < (bs T).size + (1 + (bs Z).size) := by omega
            have HJ : Hid (bs T ++ (⟨#[32]⟩ ++ bs Z) = bs (T ++ ([32] ++ Z))) := by
              show _ = _
              rw [← hsp, bs_append, bs_append]
            have HZ := Lib.hid (And.intro hxl (And.intro hxc (And.intro hxp (And.intro hwl (And.intro hTl (And.intro z1 z2))))))
            have hTZ : (T ++ ([32] ++ Z)).length ≤ 40 + 2 * s.length + 44 * Ex.wt.wtL (l.take (i + 1)) := by simp only [List.length_append, List.length_cons, List.length_nil]; omega
            have HTZ := Lib.hid hTZ
            clear hxl hxc hxp hwl hTl z1 z2 hTZ
            go_wp2_with (go_at_call 37; refine Hid.out ?_)
            refine Lib.hid ?_
            refine (I.out _ (below_trans hbw (below_box _))).mono ?_
            rintro _ w9 ⟨rfl, hb9⟩
            have hb09 := below_trans hbr (below_trans (below_box _) hb9)
            go_wp2
            go_roundw
            case rel => exact ⟨i + 1, T ++ ([32] ++ Z), by omega, by go_num, by rw [← HJ.out], HT2, HTZ.out, hb09⟩
            case measure => simp [intOf]; omega
          · go_wp2
            go_ret
            exact ⟨by rw [hT.out, List.take_of_length_le (by omega)]; rfl, hbr⟩
      · go_wp2_with (go_at_call 38; refine Hid.out ?_)
        refine Lib.hid ?_
        refine (quote_any s w4 hsl).mono ?_
        rintro _ w5 ⟨rfl, hb5⟩
        replace e3 := cell_below e3 hb5
        have hb05 := below_trans hb04 hb5
        generalize bs (quoteL s) = X2 at *
        have n2 : ¬ 9223372036854775807 < 1 + X2.size := by omega
        have n3 : ¬ 9223372036854775807 < X0.size + (1 + X2.size) := by omega
        go_wp2
        go_loopw [3, 30] (fun tv iv wr => ∃ (i : Nat) (T : List UInt8), i ≤ l.length ∧ iv = .int .i64 i ∧ tv = .string (bs T) ∧ Hid (T = hdTxt k n s ++ Ex.txt.txtL (l.take i)) ∧ T.length ≤ 40 + 2 * s.length + 44 * Ex.wt.wtL (l.take i) ∧ Below w0.heap.size w0 wr) (fun _ iv _ => l.length - (intOf iv).toNat)
        case atStart => exact ⟨0, hdTxt k n s, Nat.zero_le _, rfl, by rw [← HH.out, hn, ht]; simp [app_none], (by simp [Ex.txt.txtL] : _ = _), by have := hdTxt_len k n s HF.out.1.1 HF.out.1.2; omega, hb05⟩
        case round =>
          obtain ⟨i, T, hi, rfl, rfl, hT, hTl, hbr⟩ := hrel
          by_cases hlt : i < l.length
          · obtain ⟨x, hx⟩ : ∃ x, l[i]? = some x := ⟨l[i], by simp⟩
            have ea := HA.out (by omega)
            subst ea
            have hbw := below_trans hb hbr
            obtain ⟨c0, c1, c2, c3⟩ := HC.out i x hx
            replace c0 := cell_below c0 hbw
            replace c1 := cell_below c1 hbw
            replace c2 := cell_below c2 hbw
            replace c3 := cell_below c3 hbw
            have hwt := wtL_take hx
            have hwk := wt_kid hx
            have hfx := fit_kid hx HF.out.2
            have I := Lib.hid (HI.out i x hx hfx (by omega))
            have hxl := txt_len x hfx
            have hxc := cnt_wt x
            have hxp := cnt_pos x
            have hwl := wtL_le l i
            have HT2 : Hid (T ++ ([32] ++ x.txt) = hdTxt k n s ++ Ex.txt.txtL (l.take (i + 1))) := by
              show _ = _
              rw [txtL_take hx, hT.out]; simp
            obtain ⟨xa, xc, hA⟩ := (HK.out i x hx).slice
            rw [hA] at c3 I
            have HX := Lib.hid hx
            clear hx HI HC HA HK hA
            unfold Ex.val at I
            generalize x.txt = Z at *
            have z1 := bs_size Z
            have z2 := bs_size T
            have n5 : ¬ 9223372036854775807 < 1 + (bs Z).size := by omega
            have n6 : ¬ 9223372036854775807 < (bs T).size + (1 + (bs Z).size) := by omega
            have HJ : Hid (bs T ++ (⟨#[32]⟩ ++ bs Z) = bs (T ++ ([32] ++ Z))) := by
              show _ = _
              rw [← hsp, bs_append, bs_append]
            have HZ := Lib.hid (And.intro hxl (And.intro hxc (And.intro hxp (And.intro hwl (And.intro hTl (And.intro z1 z2))))))
            have hTZ : (T ++ ([32] ++ Z)).length ≤ 40 + 2 * s.length + 44 * Ex.wt.wtL (l.take (i + 1)) := by simp only [List.length_append, List.length_cons, List.length_nil]; omega
            have HTZ := Lib.hid hTZ
            clear hxl hxc hxp hwl hTl z1 z2 hTZ
            go_wp2_with (go_at_call 37; refine Hid.out ?_)
            refine Lib.hid ?_
            refine (I.out _ (below_trans hbw (below_box _))).mono ?_
            rintro _ w9 ⟨rfl, hb9⟩
            have hb09 := below_trans hbr (below_trans (below_box _) hb9)
            go_wp2
            go_roundw
            case rel => exact ⟨i + 1, T ++ ([32] ++ Z), by omega, by go_num, by rw [← HJ.out], HT2, HTZ.out, hb09⟩
            case measure => simp [intOf]; omega
          · go_wp2
            go_ret
            exact ⟨by rw [hT.out, List.take_of_length_le (by omega)]; rfl, hbr⟩
    · go_wp2_with (go_at_call 36; refine Hid.out ?_)
      refine Lib.hid ?_
      refine (itoa_any n w3 (E0.out.lower hb03) HF.out.1.1 HF.out.1.2).mono ?_
      rintro _ w4 ⟨rfl, hb4⟩
      replace e0 := cell_below e0 hb4
      replace e2 := cell_below e2 hb4
      replace e3 := cell_below e3 hb4
      have hb04 := below_trans hb03 hb4
      generalize bs (Lib.itoa n) = X1 at *
      have n0 : ¬ 9223372036854775807 < 1 + X1.size := by omega
      have n1 : ¬ 9223372036854775807 < X0.size + (1 + X1.size) := by omega
      go_wp2_with (go_at_call 50; refine Hid.out ?_)
      refine Lib.hid ?_
      refine (hasText_any k w4 (E0.out.lower hb04).toEnvS).mono ?_
      rintro _ w5 ⟨rfl, hb5⟩
      replace e2 := cell_below e2 hb5
      replace e3 := cell_below e3 hb5
      have hb05 := below_trans hb04 hb5
      cases ht : hasTxt k
      · go_wp2
        go_loopw [3, 30] (fun tv iv wr => ∃ (i : Nat) (T : List UInt8), i ≤ l.length ∧ iv = .int .i64 i ∧ tv = .string (bs T) ∧ Hid (T = hdTxt k n s ++ Ex.txt.txtL (l.take i)) ∧ T.length ≤ 40 + 2 * s.length + 44 * Ex.wt.wtL (l.take i) ∧ Below w0.heap.size w0 wr) (fun _ iv _ => l.length - (intOf iv).toNat)
        case atStart => exact ⟨0, hdTxt k n s, Nat.zero_le _, rfl, by rw [← HH.out, hn, ht]; simp [app_none], (by simp [Ex.txt.txtL] : _ = _), by have := hdTxt_len k n s HF.out.1.1 HF.out.1.2; omega, hb05⟩
        case round =>
          obtain ⟨i, T, hi, rfl, rfl, hT, hTl, hbr⟩ := hrel
          by_cases hlt : i < l.length
          · obtain ⟨x, hx⟩ : ∃ x, l[i]? = some x := ⟨l[i], by simp⟩
            have ea := HA.out (by omega)
            subst ea
            have hbw := below_trans hb hbr
            obtain ⟨c0, c1, c2, c3⟩ := HC.out i x hx
            replace c0 := cell_below c0 hbw
            replace c1 := cell_below c1 hbw
            replace c2 := cell_below c2 hbw
            replace c3 := cell_below c3 hbw
            have hwt := wtL_take hx
            have hwk := wt_kid hx
            have hfx := fit_kid hx HF.out.2
            have I := Lib.hid (HI.out i x hx hfx (by omega))
            have hxl := txt_len x hfx
            have hxc := cnt_wt x
            have hxp := cnt_pos x
            have hwl := wtL_le l i
            have HT2 : Hid (T ++ ([32] ++ x.txt) = hdTxt k n s ++ Ex.txt.txtL (l.take (i + 1))) := by
              show _ = _
              rw [txtL_take hx, hT.out]; simp
            obtain ⟨xa, xc, hA⟩ := (HK.out i x hx).slice
            rw [hA] at c3 I
            have HX := Lib.hid hx
            clear hx HI HC HA HK hA
            unfold Ex.val at I
            generalize x.txt = Z at *
            have z1 := bs_size Z
            have z2 := bs_size T
            have n5 : ¬ 9223372036854775807 < 1 + (bs Z).size := by omega
            have n6 : ¬ 9223372036854775807 < (bs T).size + (1 + (bs Z).size) := by omega
            have HJ : Hid (bs T ++ (⟨#[32]⟩ ++ bs Z) = bs (T ++ ([32] ++ Z))) := by
              show _ = _
              rw [← hsp, bs_append, bs_append]
            have HZ := Lib.hid (And.intro hxl (And.intro hxc (And.intro hxp (And.intro hwl (And.intro hTl (And.intro z1 z2))))))
            have hTZ : (T ++ ([32] ++ Z)).length ≤ 40 + 2 * s.length + 44 * Ex.wt.wtL (l.take (i + 1)) := by simp only [List.length_append, List.length_cons, List.length_nil]; omega
            have HTZ := Lib.hid hTZ
            clear hxl hxc hxp hwl hTl z1 z2 hTZ
            go_wp2_with (go_at_call 37; refine Hid.out ?_)
            refine Lib.hid ?_
            refine (I.out _ (below_trans hbw (below_box _))).mono ?_
            rintro _ w9 ⟨rfl, hb9⟩
            have hb09 := below_trans hbr (below_trans (below_box _) hb9)
            go_wp2
            go_roundw
            case rel => exact ⟨i + 1, T ++ ([32] ++ Z), by omega, by go_num, by rw [← HJ.out], HT2, HTZ.out, hb09⟩
            case measure => simp [intOf]; omega
          · go_wp2
            go_ret
            exact ⟨by rw [hT.out, List.take_of_length_le (by omega)]; rfl, hbr⟩
      · go_wp2_with (go_at_call 38; refine Hid.out ?_)
        refine Lib.hid ?_
        refine (quote_any s w5 hsl).mono ?_
        rintro _ w6 ⟨rfl, hb6⟩
        replace e3 := cell_below e3 hb6
        have hb06 := below_trans hb05 hb6
        generalize bs (quoteL s) = X2 at *
        have n2 : ¬ 9223372036854775807 < 1 + X2.size := by omega
        have n3 : ¬ 9223372036854775807 < X0.size + (1 + X1.size) + (1 + X2.size) := by omega
        go_wp2
        go_loopw [3, 30] (fun tv iv wr => ∃ (i : Nat) (T : List UInt8), i ≤ l.length ∧ iv = .int .i64 i ∧ tv = .string (bs T) ∧ Hid (T = hdTxt k n s ++ Ex.txt.txtL (l.take i)) ∧ T.length ≤ 40 + 2 * s.length + 44 * Ex.wt.wtL (l.take i) ∧ Below w0.heap.size w0 wr) (fun _ iv _ => l.length - (intOf iv).toNat)
        case atStart => exact ⟨0, hdTxt k n s, Nat.zero_le _, rfl, by rw [← HH.out, hn, ht]; simp [ByteArray.append_assoc], (by simp [Ex.txt.txtL] : _ = _), by have := hdTxt_len k n s HF.out.1.1 HF.out.1.2; omega, hb06⟩
        case round =>
          obtain ⟨i, T, hi, rfl, rfl, hT, hTl, hbr⟩ := hrel
          by_cases hlt : i < l.length
          · obtain ⟨x, hx⟩ : ∃ x, l[i]? = some x := ⟨l[i], by simp⟩
            have ea := HA.out (by omega)
            subst ea
            have hbw := below_trans hb hbr
            obtain ⟨c0, c1, c2, c3⟩ := HC.out i x hx
            replace c0 := cell_below c0 hbw
            replace c1 := cell_below c1 hbw
            replace c2 := cell_below c2 hbw
            replace c3 := cell_below c3 hbw
            have hwt := wtL_take hx
            have hwk := wt_kid hx
            have hfx := fit_kid hx HF.out.2
            have I := Lib.hid (HI.out i x hx hfx (by omega))
            have hxl := txt_len x hfx
            have hxc := cnt_wt x
            have hxp := cnt_pos x
            have hwl := wtL_le l i
            have HT2 : Hid (T ++ ([32] ++ x.txt) = hdTxt k n s ++ Ex.txt.txtL (l.take (i + 1))) := by
              show _ = _
              rw [txtL_take hx, hT.out]; simp
            obtain ⟨xa, xc, hA⟩ := (HK.out i x hx).slice
            rw [hA] at c3 I
            have HX := Lib.hid hx
            clear hx HI HC HA HK hA
            unfold Ex.val at I
            generalize x.txt = Z at *
            have z1 := bs_size Z
            have z2 := bs_size T
            have n5 : ¬ 9223372036854775807 < 1 + (bs Z).size := by omega
            have n6 : ¬ 9223372036854775807 < (bs T).size + (1 + (bs Z).size) := by omega
            have HJ : Hid (bs T ++ (⟨#[32]⟩ ++ bs Z) = bs (T ++ ([32] ++ Z))) := by
              show _ = _
              rw [← hsp, bs_append, bs_append]
            have HZ := Lib.hid (And.intro hxl (And.intro hxc (And.intro hxp (And.intro hwl (And.intro hTl (And.intro z1 z2))))))
            have hTZ : (T ++ ([32] ++ Z)).length ≤ 40 + 2 * s.length + 44 * Ex.wt.wtL (l.take (i + 1)) := by simp only [List.length_append, List.length_cons, List.length_nil]; omega
            have HTZ := Lib.hid hTZ
            clear hxl hxc hxp hwl hTl z1 z2 hTZ
            go_wp2_with (go_at_call 37; refine Hid.out ?_)
            refine Lib.hid ?_
            refine (I.out _ (below_trans hbw (below_box _))).mono ?_
            rintro _ w9 ⟨rfl, hb9⟩
            have hb09 := below_trans hbr (below_trans (below_box _) hb9)
            go_wp2
            go_roundw
            case rel => exact ⟨i + 1, T ++ ([32] ++ Z), by omega, by go_num, by rw [← HJ.out], HT2, HTZ.out, hb09⟩
            case measure => simp [intOf]; omega
          · go_wp2
            go_ret
            exact ⟨by rw [hT.out, List.take_of_length_le (by omega)]; rfl, hbr⟩
end Go.Proofs.YtfjpgjkfmcedoaaGreatDoor
