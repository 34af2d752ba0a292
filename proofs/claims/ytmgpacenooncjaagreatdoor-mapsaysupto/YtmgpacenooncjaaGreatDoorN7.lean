/- Mapper: Step: a record's pairs are put behind what is made. Written by tpl/mk_n7.py. -/
import Derived.Test.YtmgpacenooncjaaGreatDoorG2
import Derived.Test.YtmgpacenooncjaaGreatDoorPcs
namespace Go.Proofs.YtmgpacenooncjaaGreatDoor
open Go.ChangeShapes Go.WideShapes Go.ChangeAt Go.RowKit
set_option maxRecDepth 100000 in
set_option maxHeartbeats 8000000 in
theorem s3_any (R rn rc ln lc lb loff done : Nat) (ra : Option Addr) (fo : Int) (ea : Bool) (sl : Int) (l : List Rl) (mv : Value) (lines : List (List UInt8)) (M X : List (ByteArray × Int)) (ls : ByteArray) (w : World) (K : Act → World → Prop) s1 s2 s3 s4 s5 s6 s7 s8 s9 s10 s11 s12 s13 s14 s15 s16 s17 s18 s19 s20 s21 s22 s23 s24 s25 s26 s27 s28 s29 s30 s31 s32 s33 s34 s35 s36 s37 s38 s39 s40 s41 s42 s43 s44 s45 s46 s47 s48 s49 s50 s51 s52 s53 s54 s55 s56 s57 s58 s59
    (hr : IsMR w R ⟨l, fo, ea, sl⟩ (.slice ra rn rc) (.slice (some ⟨lb, loff, none⟩) ln lc) lines done mv M) (hdn : done < ln) (_hln : ln ≤ 1000) (hM : M.length + X.length ≤ 1000000)
    (k0 : w.cell? ⟨lb, loff + done, none⟩ = some (.string ls))
    (PR : Hid (Calls Tryz.prog 18 #[.agg #[.slice ra rn rc, .int .i64 fo, .bool ea, .int .i64 sl], .string ls] w.drew fun e w' => ∃ u, e = .returned u ∧ Pp.IsPairs w' u X ∧ Below w.drew.heap.size w.drew w'))
    (HK : Hid (∀ (z19 z20 z21 z22 z23 z24 z25 z26 z27 z28 z29 z30 z31 z32 z33 z34 z35 z36 z37 z38 z39 z40 z41 : Value) (v' : Value) (w' : World), IsMR w' R ⟨l, fo, ea, sl⟩ (.slice ra rn rc) (.slice (some ⟨lb, loff, none⟩) ln lc) lines done v' (M ++ X) → (∀ w0 o, FrM w0 w R o → (mv.ownBlock = o ∨ ∀ b, mv.ownBlock = some b → w0.heap.size ≤ b) → FrM w0 w' R o ∧ (v'.ownBlock = o ∨ ∀ b, v'.ownBlock = some b → w0.heap.size ≤ b)) → K ⟨#[.pointer (some ⟨R, 0, none⟩), s1, s2, s3, s4, s5, s6, s7, s8, s9, s10, s11, s12, s13, s14, s15, s16, s17, s18, z19, z20, z21, z22, z23, z24, z25, z26, z27, z28, z29, z30, z31, z32, z33, z34, z35, z36, z37, z38, z39, z40, z41, s42, s43, s44, s45, s46, s47, s48, s49, s50, s51, s52, s53, s54, s55, s56, s57, s58, s59], []⟩ w')) :
    Code.wp Tryz.prog (regionIn Tryz.f15.body 3) (Exit.then K fun _ _ _ => False) ⟨#[.pointer (some ⟨R, 0, none⟩), s1, s2, s3, s4, s5, s6, s7, s8, s9, s10, s11, s12, s13, s14, s15, s16, s17, s18, s19, s20, s21, s22, s23, s24, s25, s26, s27, s28, s29, s30, s31, s32, s33, s34, s35, s36, s37, s38, s39, s40, s41, s42, s43, s44, s45, s46, s47, s48, s49, s50, s51, s52, s53, s54, s55, s56, s57, s58, s59], []⟩ w := by
  have HR := Lib.hid hr
  have c0 := hr.blk.at (i := 0) (v := .slice ra rn rc) rfl
  have c1 := hr.blk.at (i := 1) (v := .int .i64 fo) rfl
  have c2 := hr.blk.at (i := 2) (v := .bool ea) rfl
  have c3 := hr.blk.at (i := 3) (v := .int .i64 sl) rfl
  have c4 := hr.blk.at (i := 4) (v := .slice (some ⟨lb, loff, none⟩) ln lc) rfl
  have c5 := hr.blk.at (i := 5) (v := .int .i64 done) rfl
  have c6 := hr.blk.at (i := 6) (v := mv) rfl
  have HROW := Lib.hid hr.row
  have HMX := Lib.hid hM
  have hRw := hr.blk.lt
  obtain ⟨nn, hnn⟩ : ∃ nn, (M ++ X).length = nn := ⟨_, rfl⟩
  have HNN := Lib.hid hnn
  clear hr hM hnn
  conv => arg 2; whnf
  dsimp only
  go_region_law (first | (refine step_append_prsA rfl (.tmp 23) (.tmp 38) rfl (base := R + 1) (n := M.length) (v := mv) (xv := xu) (A := M) (B := X) (N := nn) (by simp [Act.eval]) HOW.out rfl (by simp [Act.eval]) HNEW.out HMX.out hRw9 HNN.out ?_; intro va2 vc2 w10 hown10 hgrow10 hat10; have k10 := HR.out.blk_grown HB9.out hgrow10; have c10 := k10.at (i := 6) (v := mv) rfl; have f10 := k10.frozen 6; have HG10 := Lib.hid (And.intro hown10 (And.intro hgrow10 hat10)); clear hown10 hgrow10 hat10 k10 d6 HOW HNEW) | (go_simp; go_at_call 18; refine PR.out.mono ?_; rintro _ w9 ⟨xu, rfl, hgu, hb9⟩; have HB9 : Hid (Below w.heap.size w w9) := below_trans (Pp.blw_drew (Below.refl _ w)) hb9; have R9 := HR.out.blw HB9.out; have d6 := R9.blk.at (i := 6) (v := mv) rfl; have HOW := Lib.hid (HROW.out.blw HB9.out); have HNEW := Lib.hid hgu; have hRw9 : R + 1 ≤ w9.heap.size := Nat.le_trans hRw HB9.out.size; clear hgu hb9 R9 PR c0 c1 c2 c3 c4 c5 c6 k0))
  all_goals
    obtain ⟨hown, hg, hat⟩ := HG10.out
    refine HK.out _ _ _ _ _ _ _ _ _ _ _ _ _ _ _ _ _ _ _ _ _ _ _ (.slice va2 nn vc2) _ ?_ ?_
    · exact HR.out.more HB9.out hg (by rw [HNN.out]; exact hown)
    · intro w0 o hF ho
      refine ⟨(((hF.blw HB9.out).grown hg ho).put 6 _), ?_⟩
      rcases hat with h | h
      · rw [h]; exact ho
      · refine .inr fun b hb => ?_
        rw [h] at hb
        injection hb with hb
        have h3 := hF.size
        have h4 := HB9.out.size
        omega
end Go.Proofs.YtmgpacenooncjaaGreatDoor
