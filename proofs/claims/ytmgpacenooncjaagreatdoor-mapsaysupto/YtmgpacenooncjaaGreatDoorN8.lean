/- Mapper: Step. -/
import Derived.Test.YtmgpacenooncjaaGreatDoorN7
import Derived.Test.YtmgpacenooncjaaGreatDoorG2
namespace Go.Proofs.YtmgpacenooncjaaGreatDoor
open Go.ChangeShapes Go.WideShapes Go.ChangeAt Go.RowKit
theorem IsMR.bump {w : World} {R : Nat} {j : Jb} {rv lv mv : Value} {lines : List (List UInt8)} {done d : Nat} {M : List (ByteArray × Int)} (h : IsMR w R j rv lv lines done mv M) : IsMR (w.setCell ⟨R, 5, none⟩ (.int .i64 d)) R j rv lv lines d mv M := by
  have b : Below R w (w.setCell ⟨R, 5, none⟩ (.int .i64 d)) := (Below.refl R w).setCell (p := ⟨R, 5, none⟩) (Nat.le_refl _) _
  exact ⟨h.blk.set 5 _, fun w' h' => h.rules w' (b.trans h'), fun w' h' => h.lines w' (b.trans h'), h.row.stay (Nat.lt_succ_self _)⟩
set_option maxRecDepth 100000 in
set_option maxHeartbeats 2000000 in
theorem mstep_any (R done : Nat) (n : Int) (j : Jb) (rv lv mv : Value) (lines : List (List UInt8)) (w : World)
    (hr : IsMR w R j rv lv lines done mv (madeOf j (lines.take done))) (hi : MRin w R j lines) (ha : done ≤ lines.length) (hn0 : -9223372036854775808 ≤ n) (hn1 : n ≤ 9223372036854775807) :
    Calls Tryz.prog 15 #[.pointer (some ⟨R, 0, none⟩), .int .i64 n] w fun e w' => ∃ (d' : Nat) (mv' : Value), d' = done + min n.toNat (lines.length - done) ∧ e = .returned (.bool (decide (d' = lines.length))) ∧ IsMR w' R j rv lv lines d' mv' (madeOf j (lines.take d')) ∧ FrM w w' R mv.ownBlock ∧ (mv'.ownBlock = mv.ownBlock ∨ ∀ b, mv'.ownBlock = some b → w.heap.size ≤ b) := by
  obtain ⟨ra, rc, rfl⟩ := (hr.rules w (Below.refl _ _)).slice
  obtain ⟨la, lc, rfl, -⟩ := hr.lines w (Below.refl _ _)
  obtain ⟨l, fo, ea, sl⟩ := j
  simp only at hr hi ⊢
  have hR := hr.blk.lt
  have HROWLT := Lib.hid hr.row.lt
  obtain ⟨ln, hln⟩ : ∃ ln, ln = (lines.map bs).length := ⟨_, rfl⟩
  obtain ⟨rn, hrn⟩ : ∃ rn, rn = l.length := ⟨_, rfl⟩
  have hln2 : ln = lines.length := by rw [hln, List.length_map]
  rw [← hln, ← hrn] at hr
  rw [← hln, ← hrn]
  rw [← hln2] at ha ⊢
  have hl60 : ln ≤ 60 := by rw [hln2]; exact hi.many
  have c0 := hr.blk.at (i := 0) (v := .slice ra rn rc) rfl
  have c1 := hr.blk.at (i := 1) (v := .int .i64 fo) rfl
  have c2 := hr.blk.at (i := 2) (v := .bool ea) rfl
  have c3 := hr.blk.at (i := 3) (v := .int .i64 sl) rfl
  have c4 := hr.blk.at (i := 4) (v := .slice la ln lc) rfl
  have c5 := hr.blk.at (i := 5) (v := .int .i64 done) rfl
  have c6 := hr.blk.at (i := 6) (v := mv) rfl
  obtain ⟨d, hd⟩ : ∃ d : Nat, (ln : Int) - (done : Int) = (d : Int) := ⟨ln - done, by omega⟩
  have HD : Hid (d = ln - done) := by show _ = _; omega
  have hd1 : d ≤ 60 := by omega
  have HR := Lib.hid hr
  have HI := Lib.hid hi
  have HLN := Lib.hid hln2
  have HRN := Lib.hid hrn
  clear hr hi hln hln2 hrn
  obtain ⟨c, hc⟩ : ∃ c : Int, c = min n (d : Int) := ⟨_, rfl⟩
  obtain ⟨ct, hct⟩ : ∃ ct : Nat, ct = c.toNat := ⟨_, rfl⟩
  have HCT : Hid (ct = min n.toNat (ln - done)) := by show _ = _; rw [hct, hc, ← HD.out]; omega
  have hcs : c ≤ 60 := by omega
  have HCC := Lib.hid hct
  have HC := Lib.hid hc
  have hctd : done + ct ≤ ln := by rw [HCT.out]; omega
  clear hct hc
  go_enter Tryz.func15, Tryz.ntmps15
  go_wp2
  go_region
  rw [← HC.out]
  have HR1 := Lib.hid (HR.out.blw (Pp.blw_drew (Below.refl _ w)))
  have HF1 : Hid (FrM w w.drew R mv.ownBlock) := FrM.of_blw (Pp.blw_drew (Below.refl _ w)) _ _
  generalize w.drew = w1 at *
  clear c0 c1 c2 c3 c4 c5 c6 HR
  go_wp2
  go_loopg [17] ct (fun gg iv wr => ∃ (k dk : Nat) (mv' : Value), gg = ct - k ∧ k ≤ ct ∧ iv = .int .i64 k ∧ Hid (dk = done + k) ∧ Hid (IsMR wr R ⟨l, fo, ea, sl⟩ (.slice ra rn rc) (.slice la ln lc) lines dk mv' (madeOf ⟨l, fo, ea, sl⟩ (lines.take dk))) ∧ Hid (FrM w wr R mv.ownBlock) ∧ Hid (mv'.ownBlock = mv.ownBlock ∨ ∀ b, mv'.ownBlock = some b → w.heap.size ≤ b))
  case atStart => exact ⟨0, done, mv, rfl, Nat.zero_le _, rfl, (show done = done + 0 from rfl), HR1, HF1, .inl rfl⟩
  case round =>
    clear HR1 HF1
    obtain ⟨k, dk, mv', hgk, hkc, rfl, HDK, HR, HF, HB⟩ := hrel
    have HGK := Lib.hid hgk
    clear hgk
    have hdl : dk ≤ ln := by have := HDK.out; omega
    have BEL : Hid (Below R w wr) := HF.out.below (Nat.le_of_lt hR) (Nat.le_refl _) (fun b hb => by have := (HROWLT.out b hb).1; omega)
    by_cases hlt : k < ct
    · have hltc : (k : Int) < c := by have := HCC.out; omega
      have hdkl : dk < ln := by have := HDK.out; omega
      obtain ⟨x, hx⟩ : ∃ x, lines[dk]? = some x := ⟨lines[dk]'(by have := HLN.out; omega), by simp⟩
      obtain ⟨lb, loff, rfl, k0⟩ : ∃ lb loff, la = some ⟨lb, loff, none⟩ ∧ wr.cell? ⟨lb, loff + dk, none⟩ = some (.string (bs x)) := by
        have h := HR.out.lines wr (Below.refl _ _)
        rw [HLN.out] at h
        exact texts_get h dk x hx
      have hxl := HI.out.long x (List.mem_of_getElem? hx)
      have hxl2 : x.length ≤ 100000 := by omega
      have PR : Hid (Calls Tryz.prog 18 #[.agg #[.slice ra rn rc, .int .i64 fo, .bool ea, .int .i64 sl], .string (bs x)] wr.drew fun e w' => ∃ u, e = .returned u ∧ Pp.IsPairs w' u (rulesP l fo x) ∧ Below wr.drew.heap.size wr.drew w') := by
        have hbd : Below R wr wr.drew := Pp.blw_drew (Below.refl _ _)
        refine (pairs_any ⟨l, fo, ea, sl⟩ (.slice ra rn rc) x wr.drew (HR.out.rules _ hbd) HI.out.wt HI.out.fault hxl2 (HI.out.env _ (BEL.out.trans hbd))).mono ?_
        rintro e w' ⟨u, rfl, h1, h2⟩
        exact ⟨u, rfl, Pp.owns_isPairs h1, h2⟩
      have HM : Hid (madeOf ⟨l, fo, ea, sl⟩ (lines.take (dk + 1)) = madeOf ⟨l, fo, ea, sl⟩ (lines.take dk) ++ rulesP l fo x) := by
        show _ = _
        rw [take_snoc hx, madeOf_append]
        simp [madeOf]
      have h4 := (jobFault_parts HI.out.fault).2.1
      simp only at h4
      have hbd : (madeOf ⟨l, fo, ea, sl⟩ (lines.take dk)).length + (rulesP l fo x).length ≤ 1000000 := by
        have h1 := madeOf_len ⟨l, fo, ea, sl⟩ (lines.take dk) h4 (fun y hy => HI.out.long y (List.mem_of_mem_take hy))
        have h2 := rulesP_len l fo x
        have h3 := Nat.mul_le_mul h4 (show x.length + 1 ≤ 1001 by omega)
        have h5 : (lines.take dk).length ≤ 60 := by rw [List.length_take]; have := HI.out.many; omega
        have h6 := Nat.mul_le_mul_right 4004 h5
        omega
      have HBD := Lib.hid hbd
      have K0 := Lib.hid k0
      generalize rulesP l fo x = X at *
      generalize madeOf ⟨l, fo, ea, sl⟩ (lines.take dk) = M at *
      generalize bs x = ls at *
      clear hx hxl hxl2 k0 hbd
      have hdkl2 : dk + 1 ≤ 1000 := by omega
      go_upto_region 3 with fail
      refine wp_nrm (s3_any R rn rc ln lc lb loff dk ra fo ea sl l mv' lines M X ls wr _ _ _ _ _ _ _ _ _ _ _ _ _ _ _ _ _ _ _ _ _ _ _ _ _ _ _ _ _ _ _ _ _ _ _ _ _ _ _ _ _ _ _ _ _ _ _ _ _ _ _ _ _ _ _ _ _ _ _ _ HR.out hdkl (by omega) HBD.out K0.out PR ?_)
      refine Lib.hid ?_
      intro z19 z20 z21 z22 z23 z24 z25 z26 z27 z28 z29 z30 z31 z32 z33 z34 z35 z36 z37 z38 z39 z40 z41 v2 w11 hr11 hfr
      obtain ⟨hF11, ho11⟩ := hfr w _ HF.out HB.out
      rw [← HM.out] at hr11
      have e5 := hr11.blk.at (i := 5) (v := .int .i64 dk) rfl
      have f5 := hr11.blk.frozen 5
      obtain ⟨w12, hw12⟩ : ∃ w12, w12 = w11.setCell ⟨R, 5, none⟩ (.int .i64 ((dk + 1 : Nat) : Int)) := ⟨_, rfl⟩
      have HR12 : Hid (IsMR w12 R ⟨l, fo, ea, sl⟩ (.slice ra rn rc) (.slice (some ⟨lb, loff, none⟩) ln lc) lines (dk + 1) v2 (madeOf ⟨l, fo, ea, sl⟩ (lines.take (dk + 1)))) := by
        rw [hw12]; exact hr11.bump
      have HF12 : Hid (FrM w w12 R mv.ownBlock) := by rw [hw12]; exact hF11.put 5 _
      have HO12 := Lib.hid ho11
      have HW12 : Hid (w12 = w11.setCell ⟨R, 5, none⟩ (.int .i64 ((dk : Int) + 1))) := by show _ = _; rw [hw12]; rfl
      have HDK1 : Hid (dk + 1 = done + (k + 1)) := by show _ = _; have := HDK.out; omega
      clear hr11 hfr hF11 ho11 HR HF HB K0 PR hw12
      simp only [Exit.then]
      go_upto_region 5 with fail
      rw [← HW12.out]
      clear HW12 e5 f5
      go_wp2
      go_roundg (ct - (k + 1))
      case measure => have := HGK.out; omega
      case rel => exact ⟨k + 1, dk + 1, v2, rfl, by omega, by go_num, HDK1, HR12, HF12, HO12⟩
    · have hge : ¬ (k : Int) < c := by have := HCC.out; omega
      have ekc : k = ct := by omega
      have HFIN : Hid (dk = done + min n.toNat (ln - done)) := by
        show _ = _
        rw [HDK.out, ekc, HCT.out]
      have hde : ((dk : Int) == (ln : Int)) = decide (dk = ln) := by
        by_cases h : dk = ln
        · simp [h]
        · rw [decide_eq_false h, beq_eq_false_iff_ne]; omega
      have HDE := Lib.hid hde
      have c4 := HR.out.blk.at (i := 4) (v := .slice la ln lc) rfl
      have c5 := HR.out.blk.at (i := 5) (v := .int .i64 dk) rfl
      clear ekc hde
      go_wp2
      go_region
      rw [HDE.out]
      have HR2 := Lib.hid (HR.out.blw (Pp.blw_drew (Below.refl _ wr)))
      have HF2 := Lib.hid (HF.out.blw (Pp.blw_drew (Below.refl _ wr)))
      generalize wr.drew = w12 at *
      clear c4 c5 HR HF
      go_wp2
      go_ret
      exact ⟨dk, mv', HFIN.out, rfl, HR2.out, HF2.out, HB.out⟩
theorem stepDoes : StepDoes := fun R done n j rv lv mv lines w h1 h2 h3 h4 h5 => mstep_any R done n j rv lv mv lines w h1 h2 h3 h4 h5
end Go.Proofs.YtmgpacenooncjaaGreatDoor
