/- The document's exprText. -/
import Derived.Test.YtfjpgjkfmcedoaaGreatDoorG10
import Derived.Test.YtfjpgjkfmcedoaaGreatDoorPpDecK
import Derived.Test.YtfjpgjkfmcedoaaGreatDoorRd
namespace Go.Proofs.YtfjpgjkfmcedoaaGreatDoor
open Go.ChangeShapes Go.WideShapes Go.ChangeAt Go.RowKit
theorem ok_kid {l : List Ex} {t c : Bool} (h : Ex.ok.okL l t c = true) {i : Nat} {x : Ex} (hx : l[i]? = some x) : x.ok t c = true := by
  have h1 := okL_drop i h
  obtain ⟨h2, h3⟩ := List.getElem?_eq_some_iff.1 hx
  rw [List.drop_eq_getElem_cons h2, h3] at h1
  exact (okL_head h1).1
/-- The names of kinds, as they are written out. -/
def nmV : List Value := [.string ⟨#[]⟩, .string ⟨#[105, 116]⟩, .string ⟨#[108, 105, 110, 101]⟩, .string ⟨#[119, 111, 114, 100]⟩, .string ⟨#[116, 101, 120, 116]⟩, .string ⟨#[99, 97, 116]⟩, .string ⟨#[99, 117, 116]⟩, .string ⟨#[110, 117, 109]⟩, .string ⟨#[108, 101, 110]⟩, .string ⟨#[109, 97, 110, 121]⟩, .string ⟨#[97, 100, 100]⟩]
theorem nmV_at (k : Int) (h1 : 1 ≤ k) (h2 : k ≤ 10) : nmV[k.toNat]? = some (.string (bs (nameL k))) := by
  have h : k = 1 ∨ k = 2 ∨ k = 3 ∨ k = 4 ∨ k = 5 ∨ k = 6 ∨ k = 7 ∨ k = 8 ∨ k = 9 ∨ k = 10 := by omega
  rcases h with rfl | rfl | rfl | rfl | rfl | rfl | rfl | rfl | rfl | rfl <;> rfl
theorem hasNum_is (k : Int) (h1 : 1 ≤ k) (h2 : k ≤ 10) : hasNum k = decide (k = 3 ∨ k = 6 ∨ k = 7) := by
  have h : k = 1 ∨ k = 2 ∨ k = 3 ∨ k = 4 ∨ k = 5 ∨ k = 6 ∨ k = 7 ∨ k = 8 ∨ k = 9 ∨ k = 10 := by omega
  rcases h with rfl | rfl | rfl | rfl | rfl | rfl | rfl | rfl | rfl | rfl <;> decide
theorem hasTxt_is (k : Int) (h1 : 1 ≤ k) (h2 : k ≤ 10) : hasTxt k = decide (k = 4) := by
  have h : k = 1 ∨ k = 2 ∨ k = 3 ∨ k = 4 ∨ k = 5 ∨ k = 6 ∨ k = 7 ∨ k = 8 ∨ k = 9 ∨ k = 10 := by omega
  rcases h with rfl | rfl | rfl | rfl | rfl | rfl | rfl | rfl | rfl | rfl <;> decide
set_option maxRecDepth 100000 in
set_option maxHeartbeats 8000000 in
theorem rexprText_any {w : World} {sv : Value} {e : Ex} (h : IsEx w sv e) : (∃ t c, e.ok t c = true) → e.fit → e.wt ≤ 1100000 → ∀ w', Below w.heap.size w w' →
    Calls Tryz.prog 21 #[e.val sv] w' fun r w'' => r = .returned (.string (bs e.txt)) ∧ Below w'.heap.size w' w'' := by
  induction h using IsEx.ind with
  | mk k n s a cap l b off A ha hc kids ih =>
    intro ⟨tt, cc, hok⟩ hf hw w0 hb
    have hfe := hf
    have htl := txt_len (.mk k n s l) hf
    have hcw := cnt_wt (.mk k n s l)
    simp only [Ex.wt] at hw hcw htl
    simp only [Ex.fit] at hf
    obtain ⟨⟨hk1, hk2⟩, hlen, -, -, -, -, hokl⟩ := ok_parts hok
    have hl2 : l.length ≤ 2 := by rw [hlen]; unfold partsK; split <;> (try split) <;> omega
    have HSL : Hid (∀ (i : Nat) (x : Ex), l[i]? = some x → ∃ xa xc, A i = .slice xa x.a.length xc) := fun i x hx => (kids i x hx).slice
    have HI : Hid (∀ (i : Nat) (x : Ex), l[i]? = some x → ∀ w', Below w.heap.size w w' → Calls Tryz.prog 21 #[x.val (A i)] w' fun r w'' => r = .returned (.string (bs x.txt)) ∧ Below w'.heap.size w' w'') := fun i x hx w' hb' => ih i x hx ⟨_, _, ok_kid hokl hx⟩ (fit_kid hx hf.2) (by have := wt_kid hx; omega) w' hb'
    have HA := Lib.hid ha
    have HC := Lib.hid hc
    have hN := hasNum_is k hk1 hk2
    have hX := hasTxt_is k hk1 hk2
    have HTXT : Hid ((Ex.mk k n s l).txt = hdTxt k n s ++ Ex.txt.txtL l) := rfl
    have hNM := nmV_at k hk1 hk2
    obtain ⟨ln, hln⟩ : ∃ n, n = l.length := ⟨_, rfl⟩
    rw [← hln] at hl2
    simp only [Ex.val, Ex.k, Ex.n, Ex.s]
    rw [← hln]
    have HLN := Lib.hid hln
    obtain ⟨w1, hw1⟩ : ∃ w1, w1 = w0.alloc (.cells #[.int .i64 k, .int .i64 n, .string (bs s), .slice a ln cap] 44) := ⟨_, rfl⟩
    obtain ⟨B, hB⟩ : ∃ B, B = w0.heap.size := ⟨_, rfl⟩
    have hb1 : Below w0.heap.size w0 w1 := by rw [hw1]; exact below_box _
    have E1 : Blk w1 B 44 [.int .i64 k, .int .i64 n, .string (bs s), .slice a ln cap] := by rw [hw1, hB]; exact Blk.new _ _ _
    have hs1 : w1.heap.size = w0.heap.size + 1 := by rw [hw1]; simp
    obtain ⟨w2, hw2⟩ : ∃ w2, w2 = w1.alloc (.cells nmV.toArray 9) := ⟨_, rfl⟩
    obtain ⟨NB, hNB⟩ : ∃ NB, NB = w1.heap.size := ⟨_, rfl⟩
    have hb2 : Below w1.heap.size w1 w2 := by rw [hw2]; exact below_box _
    have N2 : Blk w2 NB 9 nmV := by rw [hw2, hNB]; exact Blk.new _ _ _
    have E2 := Lib.hid (E1.blw hb2)
    have HB2 : Hid (Below w0.heap.size w0 w2) := below_trans hb1 hb2
    have kn : w2.cell? ⟨NB, k.toNat, none⟩ = some (.string (bs (nameL k))) := N2.at hNM
    have e0 := E2.out.at (i := 0) (v := .int .i64 k) rfl
    have e1 := E2.out.at (i := 1) (v := .int .i64 n) rfl
    have e2 := E2.out.at (i := 2) (v := .string (bs s)) rfl
    rw [hs1] at hNB
    rw [hw1] at hw2
    unfold nmV at hw2
    have HW2 := Lib.hid hw2
    have HNB := Lib.hid hNB
    have HBB := Lib.hid hB
    have HBW := Lib.hid hb
    have HF := Lib.hid hf
    have hsl : s.length ≤ 1100000 := by omega
    have hnl := nameL_len k
    have hk0 : (0 : Int) ≤ k := by omega
    have hk11 : k < 11 := by omega
    have HDL := Lib.hid (hdTxt_len k n s hf.1.1 hf.1.2)
    have HTL : Hid ((Ex.txt.txtL l).length ≤ 60000000) := by
      show _ ≤ _
      have h1 := HTXT.out
      have h2 := congrArg List.length h1
      rw [List.length_append] at h2
      omega
    clear ha hc kids ih hok hfe hf hcw htl hlen hokl hNM hln hw1 hB hb1 E1 hs1 hw2 hNB hb2 N2 hb hw
    go_enter Tryz.func21, Tryz.ntmps21
    go_upto_region 2 with fail
    rw [← HW2.out, ← HNB.out, ← HBB.out]
    clear HW2 HNB HBB
    by_cases hk : k = 3 ∨ k = 6 ∨ k = 7
    · rcases id hk with hq | hq | hq
      · have HD : Hid (hdTxt k n s = nameL k ++ 32 :: Lib.itoa n) := by
          show _ = _
          unfold hdTxt
          rw [hN, hX, if_pos (decide_eq_true hk), if_neg (by rw [decide_eq_true_eq]; omega)]
          simp
        have g4 : (k == 4) = false := by rw [beq_eq_false_iff_ne]; omega
        have g3 : (k == 3) = true := by rw [beq_iff_eq]; exact hq
        have hib := Lib.itoa_length_le n HF.out.1.1 HF.out.1.2
        have hcat : ¬ 9223372036854775807 < (bs (nameL k)).size + (⟨#[32]⟩ : ByteArray).size := by rw [bs_size]; simp [ByteArray.size]; omega
        have hcat2 : ¬ 9223372036854775807 < (bs (nameL k ++ [32])).size + (bs (Lib.itoa n)).size := by rw [bs_size, bs_size]; simp; omega
        have happ := bs_blank (nameL k)
        have happ2 : bs (nameL k ++ [32]) ++ bs (Lib.itoa n) = bs (nameL k ++ 32 :: Lib.itoa n) := by rw [bs_append]; simp
        have DC : Hid (Calls Tryz.prog 20 #[.int .i64 n] w2 fun e w' => e = .returned (.string (bs (Lib.itoa n))) ∧ Below w2.heap.size w2 w') := Pp.decimal_any n w2 HF.out.1.1 HF.out.1.2
        clear hN hX hk hib hq
        go_wp2_with (go_at_call 20; refine Hid.out ?_)
        refine Lib.hid ?_
        refine DC.out.mono ?_
        clear DC
        rintro _ w3 ⟨rfl, hb3⟩
        have E3 := Lib.hid (E2.out.blw hb3)
        have HB3 : Hid (Below w0.heap.size w0 w3) := below_trans HB2.out hb3
        clear e0 e1 e2 kn hb3
        have e0 := E3.out.at (i := 0) (v := .int .i64 k) rfl
        have e1 := E3.out.at (i := 1) (v := .int .i64 n) rfl
        have e2 := E3.out.at (i := 2) (v := .string (bs s)) rfl
        have hTl : (nameL k ++ 32 :: Lib.itoa n).length + (Ex.txt.txtL l).length ≤ 1000000000 := by
          have h1 := HTL.out
          have h2 := HDL.out
          rw [HD.out] at h2
          omega
        have hl1 : ln ≤ 1000 := by omega
        go_upto_block 0 with fail
        refine wp_norm (jt_b0 w B ln cap b off k n s a l A (nameL k ++ 32 :: Lib.itoa n) w3 _ _ _ _ _ _ _ _ _ _ _ _ _ _ _ _ _ _ _ _ _ _ _ _ _ _ _ _ _ _ _ _ _ _ _ _ _ _ _ _ _ _ _ _ _ _ _ _ _ _ _ _ _ _ _ (below_trans HBW.out HB3.out) E3 HLN HA HC HSL HI hTl hl1 ?_)
        refine Lib.hid ?_
        intro z5 z40 z41 z42 z43 z44 z45 z46 z47 z48 z49 z50 z51 z52 z53 z54 z55 wx hbx
        have HBX : Hid (Below w0.heap.size w0 wx) := below_trans HB3.out hbx
        have HFIN : Hid ((Ex.mk k n s l).txt = nameL k ++ 32 :: Lib.itoa n ++ Ex.txt.txtL l) := by show _ = _; rw [HTXT.out, HD.out]
        clear hbx
        go_wp2
        go_ret
        exact ⟨by rw [HFIN.out]; first | rfl | (rw [List.append_assoc]; rfl), HBX.out⟩
      · have HD : Hid (hdTxt k n s = nameL k ++ 32 :: Lib.itoa n) := by
          show _ = _
          unfold hdTxt
          rw [hN, hX, if_pos (decide_eq_true hk), if_neg (by rw [decide_eq_true_eq]; omega)]
          simp
        have g4 : (k == 4) = false := by rw [beq_eq_false_iff_ne]; omega
        have g3 : (k == 3) = false := by rw [beq_eq_false_iff_ne]; omega
        have g6 : (k == 6) = true := by rw [beq_iff_eq]; exact hq
        have hib := Lib.itoa_length_le n HF.out.1.1 HF.out.1.2
        have hcat : ¬ 9223372036854775807 < (bs (nameL k)).size + (⟨#[32]⟩ : ByteArray).size := by rw [bs_size]; simp [ByteArray.size]; omega
        have hcat2 : ¬ 9223372036854775807 < (bs (nameL k ++ [32])).size + (bs (Lib.itoa n)).size := by rw [bs_size, bs_size]; simp; omega
        have happ := bs_blank (nameL k)
        have happ2 : bs (nameL k ++ [32]) ++ bs (Lib.itoa n) = bs (nameL k ++ 32 :: Lib.itoa n) := by rw [bs_append]; simp
        have DC : Hid (Calls Tryz.prog 20 #[.int .i64 n] w2 fun e w' => e = .returned (.string (bs (Lib.itoa n))) ∧ Below w2.heap.size w2 w') := Pp.decimal_any n w2 HF.out.1.1 HF.out.1.2
        clear hN hX hk hib hq
        go_wp2_with (go_at_call 20; refine Hid.out ?_)
        refine Lib.hid ?_
        refine DC.out.mono ?_
        clear DC
        rintro _ w3 ⟨rfl, hb3⟩
        have E3 := Lib.hid (E2.out.blw hb3)
        have HB3 : Hid (Below w0.heap.size w0 w3) := below_trans HB2.out hb3
        clear e0 e1 e2 kn hb3
        have e0 := E3.out.at (i := 0) (v := .int .i64 k) rfl
        have e1 := E3.out.at (i := 1) (v := .int .i64 n) rfl
        have e2 := E3.out.at (i := 2) (v := .string (bs s)) rfl
        have hTl : (nameL k ++ 32 :: Lib.itoa n).length + (Ex.txt.txtL l).length ≤ 1000000000 := by
          have h1 := HTL.out
          have h2 := HDL.out
          rw [HD.out] at h2
          omega
        have hl1 : ln ≤ 1000 := by omega
        go_upto_block 0 with fail
        refine wp_norm (jt_b0 w B ln cap b off k n s a l A (nameL k ++ 32 :: Lib.itoa n) w3 _ _ _ _ _ _ _ _ _ _ _ _ _ _ _ _ _ _ _ _ _ _ _ _ _ _ _ _ _ _ _ _ _ _ _ _ _ _ _ _ _ _ _ _ _ _ _ _ _ _ _ _ _ _ _ (below_trans HBW.out HB3.out) E3 HLN HA HC HSL HI hTl hl1 ?_)
        refine Lib.hid ?_
        intro z5 z40 z41 z42 z43 z44 z45 z46 z47 z48 z49 z50 z51 z52 z53 z54 z55 wx hbx
        have HBX : Hid (Below w0.heap.size w0 wx) := below_trans HB3.out hbx
        have HFIN : Hid ((Ex.mk k n s l).txt = nameL k ++ 32 :: Lib.itoa n ++ Ex.txt.txtL l) := by show _ = _; rw [HTXT.out, HD.out]
        clear hbx
        go_wp2
        go_ret
        exact ⟨by rw [HFIN.out]; first | rfl | (rw [List.append_assoc]; rfl), HBX.out⟩
      · have HD : Hid (hdTxt k n s = nameL k ++ 32 :: Lib.itoa n) := by
          show _ = _
          unfold hdTxt
          rw [hN, hX, if_pos (decide_eq_true hk), if_neg (by rw [decide_eq_true_eq]; omega)]
          simp
        have g4 : (k == 4) = false := by rw [beq_eq_false_iff_ne]; omega
        have g3 : (k == 3) = false := by rw [beq_eq_false_iff_ne]; omega
        have g6 : (k == 6) = false := by rw [beq_eq_false_iff_ne]; omega
        have g7 : (k == 7) = true := by rw [beq_iff_eq]; exact hq
        have hib := Lib.itoa_length_le n HF.out.1.1 HF.out.1.2
        have hcat : ¬ 9223372036854775807 < (bs (nameL k)).size + (⟨#[32]⟩ : ByteArray).size := by rw [bs_size]; simp [ByteArray.size]; omega
        have hcat2 : ¬ 9223372036854775807 < (bs (nameL k ++ [32])).size + (bs (Lib.itoa n)).size := by rw [bs_size, bs_size]; simp; omega
        have happ := bs_blank (nameL k)
        have happ2 : bs (nameL k ++ [32]) ++ bs (Lib.itoa n) = bs (nameL k ++ 32 :: Lib.itoa n) := by rw [bs_append]; simp
        have DC : Hid (Calls Tryz.prog 20 #[.int .i64 n] w2 fun e w' => e = .returned (.string (bs (Lib.itoa n))) ∧ Below w2.heap.size w2 w') := Pp.decimal_any n w2 HF.out.1.1 HF.out.1.2
        clear hN hX hk hib hq
        go_wp2_with (go_at_call 20; refine Hid.out ?_)
        refine Lib.hid ?_
        refine DC.out.mono ?_
        clear DC
        rintro _ w3 ⟨rfl, hb3⟩
        have E3 := Lib.hid (E2.out.blw hb3)
        have HB3 : Hid (Below w0.heap.size w0 w3) := below_trans HB2.out hb3
        clear e0 e1 e2 kn hb3
        have e0 := E3.out.at (i := 0) (v := .int .i64 k) rfl
        have e1 := E3.out.at (i := 1) (v := .int .i64 n) rfl
        have e2 := E3.out.at (i := 2) (v := .string (bs s)) rfl
        have hTl : (nameL k ++ 32 :: Lib.itoa n).length + (Ex.txt.txtL l).length ≤ 1000000000 := by
          have h1 := HTL.out
          have h2 := HDL.out
          rw [HD.out] at h2
          omega
        have hl1 : ln ≤ 1000 := by omega
        go_upto_block 0 with fail
        refine wp_norm (jt_b0 w B ln cap b off k n s a l A (nameL k ++ 32 :: Lib.itoa n) w3 _ _ _ _ _ _ _ _ _ _ _ _ _ _ _ _ _ _ _ _ _ _ _ _ _ _ _ _ _ _ _ _ _ _ _ _ _ _ _ _ _ _ _ _ _ _ _ _ _ _ _ _ _ _ _ (below_trans HBW.out HB3.out) E3 HLN HA HC HSL HI hTl hl1 ?_)
        refine Lib.hid ?_
        intro z5 z40 z41 z42 z43 z44 z45 z46 z47 z48 z49 z50 z51 z52 z53 z54 z55 wx hbx
        have HBX : Hid (Below w0.heap.size w0 wx) := below_trans HB3.out hbx
        have HFIN : Hid ((Ex.mk k n s l).txt = nameL k ++ 32 :: Lib.itoa n ++ Ex.txt.txtL l) := by show _ = _; rw [HTXT.out, HD.out]
        clear hbx
        go_wp2
        go_ret
        exact ⟨by rw [HFIN.out]; first | rfl | (rw [List.append_assoc]; rfl), HBX.out⟩
    · by_cases hk4 : k = 4
      · have HD : Hid (hdTxt k n s = nameL k ++ 32 :: quoteL s) := by
          show _ = _
          unfold hdTxt
          rw [hN, hX, if_neg (by rw [decide_eq_true_eq]; exact hk), if_pos (decide_eq_true hk4)]
          simp
        have g3 : (k == 3) = false := by rw [beq_eq_false_iff_ne]; omega
        have g6 : (k == 6) = false := by rw [beq_eq_false_iff_ne]; omega
        have g7 : (k == 7) = false := by rw [beq_eq_false_iff_ne]; omega
        have g4 : (k == 4) = true := by rw [beq_iff_eq]; exact hk4
        have hql : (quoteL s).length ≤ 2 + 2 * s.length := by have := quoL_len s; simp only [quoteL, List.length_cons, List.length_append, List.length_nil]; omega
        have hcat : ¬ 9223372036854775807 < (bs (nameL k)).size + (⟨#[32]⟩ : ByteArray).size := by rw [bs_size]; simp [ByteArray.size]; omega
        have hcat2 : ¬ 9223372036854775807 < (bs (nameL k ++ [32])).size + (bs (quoteL s)).size := by rw [bs_size, bs_size]; simp; omega
        have happ := bs_blank (nameL k)
        have happ2 : bs (nameL k ++ [32]) ++ bs (quoteL s) = bs (nameL k ++ 32 :: quoteL s) := by rw [bs_append]; simp
        have DC := Lib.hid (rquoted_any s w2 hsl)
        clear hN hX hk hk4 hql
        go_wp2_with (go_at_call 22; refine Hid.out ?_)
        refine Lib.hid ?_
        refine DC.out.mono ?_
        clear DC
        rintro _ w3 ⟨rfl, hw3⟩
        rw [hw3]
        clear hw3
        have hTl : (nameL k ++ 32 :: quoteL s).length + (Ex.txt.txtL l).length ≤ 1000000000 := by
          have h1 := HTL.out
          have h2 := HDL.out
          rw [HD.out] at h2
          omega
        have hl1 : ln ≤ 1000 := by omega
        go_upto_block 0 with fail
        refine wp_norm (jt_b0 w B ln cap b off k n s a l A (nameL k ++ 32 :: quoteL s) w2 _ _ _ _ _ _ _ _ _ _ _ _ _ _ _ _ _ _ _ _ _ _ _ _ _ _ _ _ _ _ _ _ _ _ _ _ _ _ _ _ _ _ _ _ _ _ _ _ _ _ _ _ _ _ _ (below_trans HBW.out HB2.out) E2 HLN HA HC HSL HI hTl hl1 ?_)
        refine Lib.hid ?_
        intro z5 z40 z41 z42 z43 z44 z45 z46 z47 z48 z49 z50 z51 z52 z53 z54 z55 wx hbx
        have HBX : Hid (Below w0.heap.size w0 wx) := below_trans HB2.out hbx
        have HFIN : Hid ((Ex.mk k n s l).txt = nameL k ++ 32 :: quoteL s ++ Ex.txt.txtL l) := by show _ = _; rw [HTXT.out, HD.out]
        clear hbx
        go_wp2
        go_ret
        exact ⟨by rw [HFIN.out]; first | rfl | (rw [List.append_assoc]; rfl), HBX.out⟩
      · have HD : Hid (hdTxt k n s = nameL k) := by
          show _ = _
          unfold hdTxt
          rw [hN, hX, if_neg (by rw [decide_eq_true_eq]; exact hk), if_neg (by rw [decide_eq_true_eq]; exact hk4)]
          simp
        have g3 : (k == 3) = false := by rw [beq_eq_false_iff_ne]; omega
        have g6 : (k == 6) = false := by rw [beq_eq_false_iff_ne]; omega
        have g7 : (k == 7) = false := by rw [beq_eq_false_iff_ne]; omega
        have g4 : (k == 4) = false := by rw [beq_eq_false_iff_ne]; exact hk4
        clear hN hX hk hk4
        have hTl : (nameL k).length + (Ex.txt.txtL l).length ≤ 1000000000 := by
          have h1 := HTL.out
          have h2 := HDL.out
          rw [HD.out] at h2
          omega
        have hl1 : ln ≤ 1000 := by omega
        go_upto_block 0 with fail
        refine wp_norm (jt_b0 w B ln cap b off k n s a l A (nameL k) w2 _ _ _ _ _ _ _ _ _ _ _ _ _ _ _ _ _ _ _ _ _ _ _ _ _ _ _ _ _ _ _ _ _ _ _ _ _ _ _ _ _ _ _ _ _ _ _ _ _ _ _ _ _ _ _ (below_trans HBW.out HB2.out) E2 HLN HA HC HSL HI hTl hl1 ?_)
        refine Lib.hid ?_
        intro z5 z40 z41 z42 z43 z44 z45 z46 z47 z48 z49 z50 z51 z52 z53 z54 z55 wx hbx
        have HBX : Hid (Below w0.heap.size w0 wx) := below_trans HB2.out hbx
        have HFIN : Hid ((Ex.mk k n s l).txt = nameL k ++ Ex.txt.txtL l) := by show _ = _; rw [HTXT.out, HD.out]
        clear hbx
        go_wp2
        go_ret
        exact ⟨by rw [HFIN.out]; first | rfl | (rw [List.append_assoc]; rfl), HBX.out⟩
end Go.Proofs.YtfjpgjkfmcedoaaGreatDoor
