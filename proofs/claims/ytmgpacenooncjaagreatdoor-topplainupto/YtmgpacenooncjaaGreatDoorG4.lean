/- Put together of Tp7, Tp8, Tp9, PpSrt, Tp10, Tp11, Pl2. -/
import Derived.Test.YtmgpacenooncjaaGreatDoorG3
import Derived.Test.YtmgpacenooncjaaGreatDoorG2
import Derived.Test.YtmgpacenooncjaaGreatDoorPpSliceO
import Derived.Deep.LoopGhost
import Derived.Test.YtmgpacenooncjaaGreatDoorPpSort
import Derived.Laws.NewBlocks
import Derived.Test.YtmgpacenooncjaaGreatDoorPpTot
/- The document's Plain: the pairs of a slice. -/
namespace Go.Proofs.YtmgpacenooncjaaGreatDoor
open Go.ChangeShapes Go.WideShapes Go.ChangeAt Go.RowKit
set_option maxRecDepth 1000000 in
set_option maxHeartbeats 4000000 in
theorem plain_b4 (P sn k sc : Nat) (ns : Int) (fv ev jr : Value) (S : List (ByteArray × Int)) (sa : Option Addr) (w0 : World) (K : Act → World → Prop) (s0 s1 s3 s4 s5 s6 s7 s9 s13 s14 s15 s16 s17 s18 s19 s20 s21 s22 s23 s24 s25 s26 s27 s28 s29 s30 s31 s32 s33 s34 s35 s36 s37 s38 s39 s40 s41 s42 s43 s44 s45 s46 s47 s48 s49 s50 s51 s52 s53 s54 s55 s56 s57 s58 s59 s60 s61 s62 s63 s64 s65 s66 s67 : Value)
    (HS : Hid (∀ w', Below w0.heap.size w0 w' → Pp.IsPairs w' (.slice sa sn sc) S))
    (HSN : Hid (sn = S.length))
    (hsl : S.length ≤ 60000)
    (HJ : Hid (Blk w0 P 24 [jr, fv, ev, .int .i64 ns]))
    (hn1 : 1 ≤ ns)
    (hn2 : ns ≤ 1000)
    (hk9 : k ≤ 1000)
    (HF : Hid (Pp.Fits S))
    (HK : Hid (∀ (z12 z39 z40 z41 z42 z43 z44 z45 z46 z47 z48 z49 z50 z51 z52 z53 z54 z55 z56 z57 z58 z59 z60 z61 : Value) (v2 : Value) (wx : World), wx.ownsRow w0.heap.size 67 2 v2 (inSlice ns k S).length (Pp.cellsP (inSlice ns k S)) → Below w0.heap.size w0 wx → K ⟨#[s0, s1, .pointer (some ⟨P, 0, none⟩), s3, s4, s5, s6, s7, .slice sa sn sc, s9, .int .i64 (k : Int), v2, z12, s13, s14, s15, s16, s17, s18, s19, s20, s21, s22, s23, s24, s25, s26, s27, s28, s29, s30, s31, s32, s33, s34, s35, s36, s37, s38, z39, z40, z41, z42, z43, z44, z45, z46, z47, z48, z49, z50, z51, z52, z53, z54, z55, z56, z57, z58, z59, z60, z61, s62, s63, s64, s65, s66, s67], []⟩ wx)) :
    Code.wp Tryz.prog (pieceIn Tryz.f32.body 4) (Exit.then K fun _ _ _ => False) ⟨#[s0, s1, .pointer (some ⟨P, 0, none⟩), s3, s4, s5, s6, s7, .slice sa sn sc, s9, .int .i64 (k : Int), .slice none 0 0, .int .i64 0, s13, s14, s15, s16, s17, s18, s19, s20, s21, s22, s23, s24, s25, s26, s27, s28, s29, s30, s31, s32, s33, s34, s35, s36, s37, s38, s39, s40, s41, s42, s43, s44, s45, s46, s47, s48, s49, s50, s51, s52, s53, s54, s55, s56, s57, s58, s59, s60, s61, s62, s63, s64, s65, s66, s67], []⟩ w0 := by
  have R0 : Hid (w0.ownsRow w0.heap.size 67 2 (.slice none 0 0) (inSlice ns k (S.take 0)).length (Pp.cellsP (inSlice ns k (S.take 0)))) := World.ownsRow_nil _ _ _ _
  have B0 : Hid (Below w0.heap.size w0 w0) := Below.refl _ _
  conv => arg 2; whnf
  go_wp2_with fail
  go_loopg [11, 12] sn (fun gg lv iv wr => ∃ i : Nat, gg = sn - i ∧ i ≤ sn ∧ iv = .int .i64 i ∧ Hid (wr.ownsRow w0.heap.size 67 2 lv (inSlice ns k (S.take i)).length (Pp.cellsP (inSlice ns k (S.take i)))) ∧ Hid (Below w0.heap.size w0 wr))
  case atStart => exact ⟨0, rfl, Nat.zero_le _, rfl, R0, B0⟩
  case round =>
    clear R0 B0
    obtain ⟨i, hgi, hi, rfl, HR, HB⟩ := hrel
    have HGI := Lib.hid hgi
    clear hgi
    by_cases hlt : i < sn
    · have hlt2 : i < S.length := by have := HSN.out; omega
      obtain ⟨p, hp⟩ : ∃ p, p = S[i] := ⟨_, rfl⟩
      obtain ⟨a, cap, e, hc⟩ := HS.out wr HB.out
      obtain ⟨b, off, ea, c0, c1⟩ := hc i hlt2
      rw [Value.slice.injEq] at e
      obtain ⟨e1, -, -⟩ := e
      rw [ea] at e1
      subst e1
      rw [← hp] at c0 c1
      have hpi : S[i]? = some p := by rw [hp]; exact List.getElem?_eq_getElem hlt2
      have HT := Lib.hid (inSlice_snoc ns k (S.take i) p)
      have HTS : Hid (S.take (i + 1) = S.take i ++ [p]) := take_snoc hpi
      have hfp := HF.out p (List.mem_of_getElem? hpi)
      obtain ⟨ps, pv⟩ := p
      have k3 := (HJ.out.blw HB.out).at (i := 3) (v := .int .i64 ns) rfl
      have SO : Hid (∀ w', Calls Tryz.prog 54 #[.string ps, .int .i64 ns] w' fun e w'' => e = .returned (.int .i64 (Pp.ksum ps.data.toList % ns)) ∧ w'' = w') := fun w' => Pp.sliceOf_any ps ns w' (by have : ps.size ≤ 1000 := hfp.1; unfold maxLen; omega) hn1 hn2
      have hm1 := Int.emod_nonneg (Pp.ksum ps.data.toList) (show ns ≠ 0 by omega)
      have hm2 := Int.emod_lt_of_pos (Pp.ksum ps.data.toList) (show 0 < ns by omega)
      have HSL : Hid (sliceN ns (Pp.Stable.key (ps, pv)) = (Pp.ksum ps.data.toList % ns).toNat) := by
        show (Pp.ksum ps.toList % ns).toNat = _
        rw [ByteArray.toList_eq]
      have hlen : (inSlice ns k (S.take i)).length ≤ 60000 := by
        have h1 : (inSlice ns k (S.take i)).length ≤ (S.take i).length := List.length_filter_le _ _
        rw [List.length_take] at h1
        omega
      clear hp hpi hc
      generalize Pp.ksum ps.data.toList % ns = m at *
      generalize inSlice ns k (S.take i) = L at *
      obtain ⟨av, ac, e⟩ : ∃ a c, u11 = .slice a L.length c := by
        rcases row_slice HR.out with ⟨h1, h2⟩ | ⟨g, c, h1, _⟩
        · exact ⟨none, 0, by rw [h1, h2]⟩
        · exact ⟨_, c, h1⟩
      subst e
      have hin : (i : Int) < (sn : Int) := by omega
      go_upto_region 16 with fail
      go_quiet ((go_at_call 54; exact Calls.quiet_of_same (SO.out _)))
      obtain ⟨w4, hw4⟩ : ∃ w4, w4 = wr.drewN nq := ⟨_, rfl⟩
      have hb4 : Below wr.heap.size wr w4 := by rw [hw4]; exact below_drewN _ _
      rw [← hw4]
      have HR4 := Lib.hid (ow_below HR.out hb4)
      have HB4 := Lib.hid (below_trans HB.out hb4)
      replace c0 := cell_below c0 hb4
      replace c1 := cell_below c1 hb4
      clear hw4 hb4 HR HB k3 SO
      by_cases hk : m = (k : Int)
      · have HL : Hid (inSlice ns k (S.take (i + 1)) = L ++ [(ps, pv)]) := by
          show _ = _
          rw [HTS.out, HT.out, if_pos (by rw [HSL.out]; omega)]
        go_wp2_with (at_builtin; refine Hid.out ?_)
        refine Lib.hid ?_
        refine Pp.wpList_append_pairs (w0 := w0) rfl (.tmp 55) (.tmp 60) rfl _ L rfl (ow_below HR4.out (below_box _)) (.slice (some ⟨w4.heap.size, 0, none⟩) 1 1) [(ps, pv)] rfl (Pp.isPairs_one ps pv _ _ (by simp)) (by simp; omega) (below_trans HB4.out (below_box _)) ?_
        intro v2 w2 hown2 hb2
        have HR2 := Lib.hid hown2
        have HB2 := Lib.hid hb2
        clear hown2 hb2 c0 c1 HR4 HB4
        go_wp2
        go_roundg (sn - (i + 1))
        case measure => have := HGI.out; omega
        case rel => exact ⟨i + 1, rfl, hlt, by have := HSN.out; go_num, by rw [HL.out]; exact HR2.out, HB2⟩
      · have HL : Hid (inSlice ns k (S.take (i + 1)) = L) := by
          show _ = _
          rw [HTS.out, HT.out, if_neg (by rw [HSL.out]; omega)]
        go_wp2
        go_roundg (sn - (i + 1))
        case measure => have := HGI.out; omega
        case rel => exact ⟨i + 1, rfl, hlt, by have := HSN.out; go_num, by rw [HL.out]; exact HR4.out, HB4⟩
    · have HFIN : Hid (wr.ownsRow w0.heap.size 67 2 u11 (inSlice ns k S).length (Pp.cellsP (inSlice ns k S))) := by
        have h := HR.out
        rw [List.take_of_length_le (by have := HSN.out; omega)] at h
        exact h
      clear HR
      go_wp2
      exact HK.out _ _ _ _ _ _ _ _ _ _ _ _ _ _ _ _ _ _ _ _ _ _ _ _ u11 wr HFIN.out HB.out
end Go.Proofs.YtmgpacenooncjaaGreatDoor
/- The document's Plain: the pairs of the records. -/
namespace Go.Proofs.YtmgpacenooncjaaGreatDoor
open Go.ChangeShapes Go.WideShapes Go.ChangeAt Go.RowKit
set_option maxRecDepth 1000000 in
set_option maxHeartbeats 4000000 in
theorem plain_b0 (P ln lc rn rc : Nat) (la ra : Option Addr) (fo sl : Int) (eb : Bool) (F : List UInt8 → List (ByteArray × Int)) (lines : List (List UInt8)) (w0 : World) (K : Act → World → Prop) (s0 s3 s4 s7 s8 s9 s10 s11 s12 s13 s14 s15 s16 s17 s18 s19 s20 s21 s22 s23 s24 s25 s26 s27 s28 s29 s30 s31 s32 s33 s34 s35 s36 s37 s38 s39 s40 s41 s42 s43 s44 s45 s46 s47 s48 s49 s50 s51 s52 s53 s54 s55 s56 s57 s58 s59 s60 s61 s62 s63 s64 s65 s66 s67 : Value)
    (HJ : Hid (Blk w0 P 24 [.slice ra rn rc, .int .i64 fo, .bool eb, .int .i64 sl]))
    (PM : Hid (∀ x ∈ lines, ∀ w', Below w0.heap.size w0 w' → Calls Tryz.prog 16 #[.agg #[.slice ra rn rc, .int .i64 fo, .bool eb, .int .i64 sl], .string (bs x)] w' fun e w'' => ∃ u, e = .returned u ∧ w''.ownsRow w'.heap.size 67 2 u (F x).length (Pp.cellsP (F x)) ∧ Below w'.heap.size w' w''))
    (HV : Hid (∀ w', Below w0.heap.size w0 w' → IsTexts w' (.slice la ln lc) (lines.map bs)))
    (HLN : Hid (ln = lines.length))
    (hln : lines.length ≤ 60)
    (hml : (lines.flatMap F).length ≤ 60000)
    (HK : Hid (∀ (z6 z7 z13 z14 z15 z16 z17 z18 z19 z20 z21 z22 z23 z24 z25 z26 z27 : Value) (v2 : Value) (wx : World), wx.ownsRow w0.heap.size 67 2 v2 (lines.flatMap F).length (Pp.cellsP (lines.flatMap F)) → Below w0.heap.size w0 wx → K ⟨#[s0, .slice la ln lc, .pointer (some ⟨P, 0, none⟩), s3, s4, v2, z6, z7, s8, s9, s10, s11, s12, z13, z14, z15, z16, z17, z18, z19, z20, z21, z22, z23, z24, z25, z26, z27, s28, s29, s30, s31, s32, s33, s34, s35, s36, s37, s38, s39, s40, s41, s42, s43, s44, s45, s46, s47, s48, s49, s50, s51, s52, s53, s54, s55, s56, s57, s58, s59, s60, s61, s62, s63, s64, s65, s66, s67], []⟩ wx)) :
    Code.wp Tryz.prog (pieceIn Tryz.f32.body 0) (Exit.then K fun _ _ _ => False) ⟨#[s0, .slice la ln lc, .pointer (some ⟨P, 0, none⟩), s3, s4, .slice none 0 0, .int .i64 0, s7, s8, s9, s10, s11, s12, s13, s14, s15, s16, s17, s18, s19, s20, s21, s22, s23, s24, s25, s26, s27, s28, s29, s30, s31, s32, s33, s34, s35, s36, s37, s38, s39, s40, s41, s42, s43, s44, s45, s46, s47, s48, s49, s50, s51, s52, s53, s54, s55, s56, s57, s58, s59, s60, s61, s62, s63, s64, s65, s66, s67], []⟩ w0 := by
  have R0 : Hid (w0.ownsRow w0.heap.size 67 2 (.slice none 0 0) ((lines.take 0).flatMap F).length (Pp.cellsP ((lines.take 0).flatMap F))) := World.ownsRow_nil _ _ _ _
  have B0 : Hid (Below w0.heap.size w0 w0) := Below.refl _ _
  conv => arg 2; whnf
  go_wp2_with fail
  go_loopg [5, 6] ln (fun gg lv iv wr => ∃ i : Nat, gg = ln - i ∧ i ≤ ln ∧ iv = .int .i64 i ∧ Hid (wr.ownsRow w0.heap.size 67 2 lv ((lines.take i).flatMap F).length (Pp.cellsP ((lines.take i).flatMap F))) ∧ Hid (Below w0.heap.size w0 wr))
  case atStart => exact ⟨0, rfl, Nat.zero_le _, rfl, R0, B0⟩
  case round =>
    clear R0 B0
    obtain ⟨i, hgi, hi, rfl, HR, HB⟩ := hrel
    have HGI := Lib.hid hgi
    clear hgi
    by_cases hlt : i < ln
    · have hlt2 : i < lines.length := by have := HLN.out; omega
      obtain ⟨x, hx⟩ : ∃ x, x = lines[i] := ⟨_, rfl⟩
      have hxi : lines[i]? = some x := by rw [hx]; exact List.getElem?_eq_getElem hlt2
      obtain ⟨a, cap, e, hc⟩ := HV.out wr HB.out
      obtain ⟨b, off, ea, c0⟩ := hc i (by rw [List.length_map]; exact hlt2)
      rw [Value.slice.injEq] at e
      obtain ⟨e1, -, -⟩ := e
      rw [ea] at e1
      subst e1
      rw [List.getElem_map, ← hx] at c0
      have HM : Hid ((lines.take (i + 1)).flatMap F = (lines.take i).flatMap F ++ F x) := by
        show _ = _
        rw [take_snoc hxi, List.flatMap_append, List.flatMap_singleton]
      have hlen : ((lines.take i).flatMap F).length + (F x).length ≤ 60000 := by
        have h1 : (lines.take (i + 1)).flatMap F ++ (lines.drop (i + 1)).flatMap F = lines.flatMap F := by rw [← List.flatMap_append, List.take_append_drop]
        rw [← List.length_append, ← HM.out]
        have h2 := congrArg List.length h1
        rw [List.length_append] at h2
        omega
      have JB := HJ.out.blw HB.out
      have k0 := JB.at (i := 0) (v := .slice ra rn rc) rfl
      have k1 := JB.at (i := 1) (v := .int .i64 fo) rfl
      have k2 := JB.at (i := 2) (v := .bool eb) rfl
      have k3 := JB.at (i := 3) (v := .int .i64 sl) rfl
      have PMx : Hid (∀ w', Below wr.heap.size wr w' → Calls Tryz.prog 16 #[.agg #[.slice ra rn rc, .int .i64 fo, .bool eb, .int .i64 sl], .string (bs x)] w' fun e w'' => ∃ u, e = .returned u ∧ w''.ownsRow w'.heap.size 67 2 u (F x).length (Pp.cellsP (F x)) ∧ Below w'.heap.size w' w'') := fun w' hb => PM.out x (List.mem_of_getElem? hxi) w' (below_trans HB.out hb)
      clear hx hxi hc JB
      generalize F x = fx at *
      generalize (lines.take i).flatMap F = L at *
      obtain ⟨av, ac, e⟩ : ∃ a c, u5 = .slice a L.length c := by
        rcases row_slice HR.out with ⟨h1, h2⟩ | ⟨g, c, h1, _⟩
        · exact ⟨none, 0, by rw [h1, h2]⟩
        · exact ⟨_, c, h1⟩
      subst e
      go_upto_region 5 with fail
      go_region_with (go_at_call 16; refine (PMx.out _ (by first | exact Below.refl _ _ | exact Pp.blw_drew (Below.refl _ wr))).mono ?_; rintro _ w2 ⟨u2, rfl, ho2, hb2⟩; have IP2 : Hid (Pp.IsPairs w2 u2 fx) := Pp.owns_isPairs ho2; have HB2 : Hid (Below wr.heap.size wr w2) := (by first | exact hb2 | exact below_trans (Pp.blw_drew (Below.refl _ wr)) hb2); clear ho2 hb2)
      all_goals
        clear c0 k0 k1 k2 k3
        go_wp2_with (at_builtin; refine Hid.out ?_)
        refine Lib.hid ?_
        refine Pp.wpList_append_pairs (w0 := w0) rfl (.tmp 25) (.tmp 26) rfl _ L rfl (ow_below HR.out (by first | exact HB2.out | exact Pp.blw_drew HB2.out)) u2 fx rfl (by first | exact IP2.out | exact Pp.isPairs_below IP2.out (Pp.blw_drew (Below.refl _ _))) (by omega) (by first | exact below_trans HB.out HB2.out | exact Pp.blw_drew (below_trans HB.out HB2.out)) ?_
        intro v3 w3 hown3 hb3
        have HR3 := Lib.hid hown3
        have HB3 := Lib.hid hb3
        clear hown3 hb3 HR HB HB2 IP2
        go_wp2
        go_roundg (ln - (i + 1))
        case measure => have := HGI.out; omega
        case rel => exact ⟨i + 1, rfl, hlt, by have := HLN.out; go_num, by rw [HM.out]; exact HR3.out, HB3⟩
    · have HFIN : Hid (wr.ownsRow w0.heap.size 67 2 u5 (lines.flatMap F).length (Pp.cellsP (lines.flatMap F))) := by
        have h := HR.out
        rw [List.take_of_length_le (by have := HLN.out; omega)] at h
        exact h
      clear HR
      go_wp2
      exact HK.out _ _ _ _ _ _ _ _ _ _ _ _ _ _ _ _ _ u5 wr HFIN.out HB.out
end Go.Proofs.YtmgpacenooncjaaGreatDoor
/- The document's Plain: the texts of the slices. -/
namespace Go.Proofs.YtmgpacenooncjaaGreatDoor
open Go.ChangeShapes Go.WideShapes Go.ChangeAt Go.RowKit
/-- The texts of the first slices of sorted pairs. -/
def sliceTexts (ns : Int) (S : List (ByteArray × Int)) (n : Nat) : List (List UInt8) := (List.range n).map fun k => Pp.textL (inSlice ns k S)
theorem sliceTexts_len (ns : Int) (S : List (ByteArray × Int)) (n : Nat) : (sliceTexts ns S n).length = n := by simp [sliceTexts]
theorem sliceTexts_succ (ns : Int) (S : List (ByteArray × Int)) (n : Nat) : sliceTexts ns S (n + 1) = sliceTexts ns S n ++ [Pp.textL (inSlice ns n S)] := by simp [sliceTexts, List.range_succ]
set_option maxRecDepth 1000000 in
set_option maxHeartbeats 4000000 in
theorem plain_b2 (P sn sc ns : Nat) (fv ev jr : Value) (S : List (ByteArray × Int)) (sa : Option Addr) (w0 : World) (K : Act → World → Prop) (s0 s1 s3 s4 s5 s6 s7 s11 s12 s13 s14 s15 s16 s17 s18 s19 s20 s21 s22 s23 s24 s25 s26 s27 s28 s29 s30 s31 s32 s33 s34 s35 s36 s37 s38 s39 s40 s41 s42 s43 s44 s45 s46 s47 s48 s49 s50 s51 s52 s53 s54 s55 s56 s57 s58 s59 s60 s61 s62 s63 s64 s65 s66 s67 : Value)
    (HS : Hid (∀ w', Below w0.heap.size w0 w' → Pp.IsPairs w' (.slice sa sn sc) S))
    (HSN : Hid (sn = S.length))
    (hsl : S.length ≤ 60000)
    (HJ : Hid (Blk w0 P 24 [jr, fv, ev, .int .i64 (ns : Int)]))
    (hn1 : 1 ≤ ns)
    (hn2 : ns ≤ 1000)
    (HF : Hid (Pp.Fits S))
    (HK : Hid (∀ (z10 z11 z12 z33 z34 z35 z36 z37 z38 z39 z40 z41 z42 z43 z44 z45 z46 z47 z48 z49 z50 z51 z52 z53 z54 z55 z56 z57 z58 z59 z60 z61 z62 z63 z64 z65 z66 : Value) (v2 : Value) (wx : World), wx.ownsRow w0.heap.size 9 1 v2 (sliceTexts ns S ns).length (strs (sliceTexts ns S ns)) → Below w0.heap.size w0 wx → K ⟨#[s0, s1, .pointer (some ⟨P, 0, none⟩), s3, s4, s5, s6, s7, .slice sa sn sc, v2, z10, z11, z12, s13, s14, s15, s16, s17, s18, s19, s20, s21, s22, s23, s24, s25, s26, s27, s28, s29, s30, s31, s32, z33, z34, z35, z36, z37, z38, z39, z40, z41, z42, z43, z44, z45, z46, z47, z48, z49, z50, z51, z52, z53, z54, z55, z56, z57, z58, z59, z60, z61, z62, z63, z64, z65, z66, s67], []⟩ wx)) :
    Code.wp Tryz.prog (pieceIn Tryz.f32.body 2) (Exit.then K fun _ _ _ => False) ⟨#[s0, s1, .pointer (some ⟨P, 0, none⟩), s3, s4, s5, s6, s7, .slice sa sn sc, .slice none 0 0, .int .i64 0, s11, s12, s13, s14, s15, s16, s17, s18, s19, s20, s21, s22, s23, s24, s25, s26, s27, s28, s29, s30, s31, s32, s33, s34, s35, s36, s37, s38, s39, s40, s41, s42, s43, s44, s45, s46, s47, s48, s49, s50, s51, s52, s53, s54, s55, s56, s57, s58, s59, s60, s61, s62, s63, s64, s65, s66, s67], []⟩ w0 := by
  have R0 : Hid (w0.ownsRow w0.heap.size 9 1 (.slice none 0 0) (sliceTexts ns S 0).length (strs (sliceTexts ns S 0))) := World.ownsRow_nil _ _ _ _
  have B0 : Hid (Below w0.heap.size w0 w0) := Below.refl _ _
  obtain ⟨i0, hi0, hz0, hz1, hz2⟩ := info_parts infoStr
  conv => arg 2; whnf
  go_wp2_with fail
  go_loopg [9, 10] ns (fun gg lv iv wr => ∃ i : Nat, gg = ns - i ∧ i ≤ ns ∧ iv = .int .i64 i ∧ Hid (wr.ownsRow w0.heap.size 9 1 lv (sliceTexts ns S i).length (strs (sliceTexts ns S i))) ∧ Hid (Below w0.heap.size w0 wr))
  case atStart => exact ⟨0, rfl, Nat.zero_le _, rfl, R0, B0⟩
  case round =>
    clear R0 B0
    obtain ⟨i, hgi, hi, rfl, HR, HB⟩ := hrel
    have HGI := Lib.hid hgi
    clear hgi
    have k3 := (HJ.out.blw HB.out).at (i := 3) (v := .int .i64 (ns : Int)) rfl
    by_cases hlt : i < ns
    · have HT := Lib.hid (sliceTexts_succ ns S i)
      have hsz := Lib.hid (sliceTexts_len ns S i)
      have PT : Hid (∀ v w', Pp.IsPairs w' v (inSlice ns i S) → Calls Tryz.prog 63 #[v] w' fun e w'' => e = .returned (.string (bs (Pp.textL (inSlice ns i S)))) ∧ Below w'.heap.size w' w'') := fun v w' h => Pp.pairsText_any v _ w' h (fun p hp => HF.out p (List.mem_filter.1 hp).1) (Nat.le_trans (List.length_filter_le _ _) hsl)
      have JB := Lib.hid (HJ.out.blw HB.out)
      have HSR : Hid (∀ w', Below wr.heap.size wr w' → Pp.IsPairs w' (.slice sa sn sc) S) := fun w' hb => HS.out w' (below_trans HB.out hb)
      obtain ⟨TL, hTL⟩ : ∃ TL, TL = sliceTexts ns S i := ⟨_, rfl⟩
      rw [← hTL] at HT HR hsz
      have hsz2 := hsz.out
      clear hTL
      go_upto_block 4 with fail
      refine wp_norm (plain_b4 P sn i sc (ns : Int) fv ev jr S sa wr _ _ _ _ _ _ _ _ _ _ _ _ _ _ _ _ _ _ _ _ _ _ _ _ _ _ _ _ _ _ _ _ _ _ _ _ _ _ _ _ _ _ _ _ _ _ _ _ _ _ _ _ _ _ _ _ _ _ _ _ _ _ _ _ HSR HSN hsl JB.out (by omega) (by omega) (by omega) HF ?_)
      refine Lib.hid ?_
      intro z12 z39 z40 z41 z42 z43 z44 z45 z46 z47 z48 z49 z50 z51 z52 z53 z54 z55 z56 z57 z58 z59 z60 z61 v2 wx hrow hbx
      have IP := Lib.hid (Pp.owns_isPairs hrow)
      have HBX := Lib.hid hbx
      clear hrow hbx k3
      generalize inSlice (ns : Int) i S = M at *
      go_wp2_with (go_at_call 63; refine Hid.out ?_)
      refine Lib.hid ?_
      refine (PT.out _ _ IP.out).mono ?_
      rintro _ w5 ⟨rfl, hb5⟩
      have HR5 := Lib.hid (ow_below HR.out (below_trans HBX.out hb5))
      have HB5 := Lib.hid (below_trans HB.out (below_trans HBX.out hb5))
      have h05 := HB5.out.size
      clear hb5 HR HB HBX IP PT
      go_wp2_with (at_builtin; refine Hid.out ?_)
      refine Lib.hid ?_
      refine wpList_append_own _ rfl (.tmp 62) (.tmp 65) 25 rfl w0.heap.size 9 i0 (.string ⟨#[]⟩) 1 16 Tryz.underlying25 hi0 hz0 hz1 hz2 rfl (by decide) _ _ _ rfl (HR5.out.alloc _) ⟨w5.heap.size, 0, none⟩ 1 1 (strs [Pp.textL M]) rfl rfl ?c1 (strs_one _) ?c2 ?c3 ?c4 ?_
      case c1 => exact lit_cells rfl (show 1 ≤ maxLen by decide)
      case c2 => unfold maxLen; omega
      case c3 => omega
      case c4 => simp; omega
      intro v3 w6 hown6 hg6 _
      have HB6 : Hid (Below w0.heap.size w0 w6) := (HB5.out.alloc (by omega) _).grown hg6 (by simp; omega) (fun k hk => (HR5.out.lt k hk).1)
      have HR6 : Hid (w6.ownsRow w0.heap.size 9 1 v3 (TL ++ [Pp.textL M]).length (strs (TL ++ [Pp.textL M]))) := by
        show World.ownsRow _ _ _ _ _ _ _
        rw [strs_append, List.length_append]
        exact hown6
      clear hown6 hg6 HR5 HB5
      go_wp2
      go_roundg (ns - (i + 1))
      case measure => have := HGI.out; omega
      case rel => exact ⟨i + 1, rfl, hlt, by go_num, by rw [HT.out]; exact HR6.out, HB6⟩
    · have e : i = ns := by omega
      have HFIN : Hid (wr.ownsRow w0.heap.size 9 1 u9 (sliceTexts ns S ns).length (strs (sliceTexts ns S ns))) := by
        have h := HR.out
        rw [e] at h
        exact h
      clear HR
      go_wp2
      exact HK.out _ _ _ _ _ _ _ _ _ _ _ _ _ _ _ _ _ _ _ _ _ _ _ _ _ _ _ _ _ _ _ _ _ _ _ _ _ u9 wr HFIN.out HB.out
end Go.Proofs.YtmgpacenooncjaaGreatDoor
/- Contract of threshfloorref.Sorted. -/
namespace Go.Proofs.YtmgpacenooncjaaGreatDoor.Pp
open Go.ChangeShapes Go.WideShapes Go.ChangeAt Go.RowKit
open Stable
set_option maxRecDepth 100000 in
set_option maxHeartbeats 4000000 in
theorem sorted_any (v : Value) (l : List (ByteArray × Int)) (w : World) (h : IsPairs w v l) (hl : l.length ≤ 1000000) :
    Calls Tryz.prog 53 #[v] w fun e w' => ∃ u Z, e = .returned u ∧ Sorted Z ∧ SE l Z ∧ Z.length = l.length ∧ IsPairs w' u Z ∧ Below w.heap.size w w' := by
  have H := Lib.hid h
  have HLEN := Lib.hid hl
  obtain ⟨ao, cap, hv, _⟩ := h
  obtain ⟨n, hn⟩ : ∃ n, n = l.length := ⟨_, rfl⟩
  subst hv
  rw [← hn] at H hl ⊢
  have HN := Lib.hid hn
  clear hn
  go_enter Tryz.func53, Tryz.ntmps53
  go_wp2_with (at_builtin; refine Hid.out ?_)
  refine Lib.hid ?_
  refine wpList_append_pairs (w0 := w) rfl (.const (.slice none 0 0)) (.tmp 7) rfl (.slice none 0 0) [] rfl (owns_nil _ _) (.slice ao n cap) l rfl H.out (by have := HLEN.out; simp; omega) (Below.refl _ _) ?_
  intro v1 w1 hown hb1
  rw [List.nil_append] at hown
  cases l with
  | nil =>
    have hn0 : n = 0 := HN.out
    obtain ⟨a1, c1, rfl⟩ : ∃ a1 c1, v1 = .slice a1 0 c1 := by
      rcases owns_row hown with ⟨rfl, _⟩ | ⟨g, c, rfl, _⟩
      · exact ⟨_, _, rfl⟩
      · exact ⟨_, _, rfl⟩
    clear hown hn0
    go_wp2_with fail
    go_loopw [4, 5, 6] (fun iv _ _ wr => iv = .int .i64 1 ∧ wr = w1) (fun _ _ _ _ => 0)
    case atStart => exact ⟨rfl, rfl⟩
    case round =>
      obtain ⟨rfl, rfl⟩ := hrel
      go_wp2
      go_ret
      exact ⟨_, [], rfl, List.Pairwise.nil, SE.refl _, HN.out.symm, isPairs_zero _ _ _, hb1⟩
  | cons s0 S0 =>
    obtain ⟨g, cap1, rfl, hgw, hrow0⟩ : ∃ g cap1, v1 = .slice (some ⟨g, 0, none⟩) n cap1 ∧ w.heap.size ≤ g ∧ Row g (s0 :: S0) w1 := by
      rcases owns_row hown with ⟨_, h⟩ | ⟨g, c, h1, h2, h3⟩
      · cases h
      · exact ⟨g, c, by rw [HN.out]; exact h1, h2, h3⟩
    clear hown
    go_wp2_with fail
    go_loopw [4, 5, 6] (fun iv _ _ wr => ∃ (i : Nat) (E D R : List (ByteArray × Int)), iv = .int .i64 i ∧ i ≤ n ∧ Only g w1 wr ∧ Row g (D ++ R) wr ∧ Hid (s0 :: S0 = E ++ R ∧ SE E D ∧ Sorted D ∧ E.length = D.length ∧ i = 0 + D.length ∧ 0 < D.length)) (fun iv _ _ _ => n - (intOf iv).toNat)
    case atStart => exact ⟨1, [s0], [s0], S0, by go_num, by have := HN.out; simp at this; omega, Only.refl _ _, by simpa using hrow0, ⟨rfl, SE.refl _, List.pairwise_singleton _ _, rfl, rfl, by simp⟩⟩
    case round =>
      obtain ⟨i, E, D, R, rfl, hib, ho, hrow, HD⟩ := hrel
      clear hrow0
      by_cases hlt : i < n
      · obtain ⟨x, R', rfl⟩ : ∃ x R', R = x :: R' := by
          cases R with
          | nil =>
            have h1 := HD.out
            have h2 := congrArg List.length h1.1
            have h4 := HN.out
            simp at h2 h4
            omega
          | cons x R' => exact ⟨x, R', rfl⟩
        go_wp2_with fail
        go_loopw [5, 6] (fun jv _ wr2 => ∃ (j : Nat) (D1 D2 : List (ByteArray × Int)), jv = .int .i64 j ∧ j < n ∧ Only g w1 wr2 ∧ Row g (D1 ++ x :: D2 ++ R') wr2 ∧ Hid (D = D1 ++ D2 ∧ j = D1.length ∧ ∀ d ∈ D2, bl (key x) (key d) = true)) (fun jv _ _ => (intOf jv).toNat)
        case atStart => exact ⟨i, D, [], rfl, hlt, ho, by simpa using hrow, ⟨by simp, by have := HD.out.2.2.2.2.1; omega, by simp⟩⟩
        case round =>
          obtain ⟨j, D1, D2, rfl, hjn, ho2, hrow2, HD2⟩ := hrel
          clear hrow ho
          rcases List.eq_nil_or_concat D1 with hD1 | ⟨D3, d, hD1⟩
          · subst hD1
            have hj0 : j = 0 := by have := HD2.out.2.1; simpa using this
            have hg : decide (0 < j) = false := by simp; omega
            have HNX := Lib.hid (ins_step HD.out HD2.out.1 HD2.out.2.2 (by simp))
            subst hj0
            go_wp2
            go_quiet (fail)
            have HO : Only g w1 (wr.drewN nq) := ho2.trans (Only.of_below (below_drewNs wr nq))
            have HR : Row g (([] ++ x :: D2) ++ R') (wr.drewN nq) := hrow2.keep rfl
            generalize wr.drewN nq = w3 at *
            go_wp2
            go_roundw
            case rel => exact ⟨i + 1, E ++ [x], [] ++ x :: D2, R', by go_num, by omega, HO, HR, HNX⟩
            case measure => simp [intOf]; omega
          · rw [List.concat_eq_append] at hD1
            subst hD1
            have hd2 := HD2.out
            have hjl : j = D3.length + 1 := by have := hd2.2.1; simp at this; omega
            have hg : decide (0 < j) = true := by simp; omega
            have e1 : IntKind.i64.wrap ((j : Int) - 1) = ((j - 1 : Nat) : Int) := by rw [wrap_small _ (by omega) (by omega)]; omega
            have eR : D3 ++ [d] ++ x :: D2 ++ R' = D3 ++ d :: ([] ++ x :: (D2 ++ R')) := by simp
            rw [eR] at hrow2
            obtain ⟨⟨d0, d1, x0, x1⟩, _, hsw⟩ := hrow2.two (j - 1) j (by omega) (by simp; omega)
            have hj1 : j - 1 < n := by omega
            have hj0 : 0 < j := by omega
            have HJ := Lib.hid hjl
            clear hjl
            cases hc : bl (key x) (key d) with
            | false =>
              have hcm : Op.bytesLess x.1.toList d.1.toList = false := hc
              have HNX := Lib.hid (ins_step HD.out hd2.1 hd2.2.2 (last_le (by have h5 := HD.out.2.2.1; rw [hd2.1] at h5; exact (sorted_append.1 h5).1) hc))
              clear hd2 hsw
              go_wp2
              go_quiet (fail)
              have HO : Only g w1 (wr.drewN nq) := ho2.trans (Only.of_below (below_drewNs wr nq))
              have HR : Row g (((D3 ++ [d]) ++ x :: D2) ++ R') (wr.drewN nq) := by rw [eR]; exact hrow2.keep rfl
              generalize wr.drewN nq = w3 at *
              clear d0 d1 x0 x1 hrow2
              go_wp2
              go_roundw
              case rel => exact ⟨i + 1, E ++ [x], (D3 ++ [d]) ++ x :: D2, R', by go_num, by omega, HO, HR, HNX⟩
              case measure => simp [intOf]; omega
            | true =>
              have hcm : Op.bytesLess x.1.toList d.1.toList = true := hc
              clear hd2 hsw
              go_wp2
              go_quiet (fail)
              have HO : Only g w1 (wr.drewN nq) := ho2.trans (Only.of_below (below_drewNs wr nq))
              have HR : Row g (D3 ++ d :: ([] ++ x :: (D2 ++ R'))) (wr.drewN nq) := hrow2.keep rfl
              generalize wr.drewN nq = w3 at *
              clear d0 d1 x0 x1 hrow2 ho2
              have hgs : g < w3.heap.size := HR.lt
              obtain ⟨⟨d0, d1, x0, x1⟩, _, hsw⟩ := HR.two (j - 1) j (by have := HJ.out; omega) (by have := HJ.out; simp; omega)
              have fz := HR.frozen
              have hne : ¬ g = w3.heap.size := by omega
              have HS2 := Lib.hid (hsw.below ((Below.refl _ _).alloc (Nat.le_refl _) (.cells #[.string x.1, .int .i64 x.2] 67)))
              have HO2 := Lib.hid (((((HO.setCell (j * 2) (.string d.1)).setCell (j * 2 + 1) (.int .i64 d.2)).setCell ((j - 1) * 2) (.string x.1)).setCell ((j - 1) * 2 + 1) (.int .i64 x.2)).trans (Only.of_below ((Below.refl _ _).alloc (Nat.le_refl _) (.cells #[.string x.1, .int .i64 x.2] 67))))
              clear HR HO hsw
              go_wp2
              refine ⟨⟨j - 1, D3, d :: D2, rfl, by omega, HO2.out, by have h := HS2.out; simpa using h, ⟨by rw [HD2.out.1]; simp, by have := HJ.out; omega, fun y hy => (List.mem_cons.1 hy).elim (fun e => by rw [e]; exact hc) (fun h => HD2.out.2.2 y h)⟩⟩, ?_⟩
              simp [intOf]; omega
      · have hd := HD.out
        have hR : R = [] := by
          have h2 := congrArg List.length hd.1
          have h4 := HN.out
          simp at h2 h4
          exact List.eq_nil_of_length_eq_zero (by omega)
        subst hR
        have hfin : Hid (∃ S', Sorted S' ∧ SE (s0 :: S0) S' ∧ S'.length = n ∧ Row g S' wr) := by
          refine ⟨D, hd.2.2.1, ?_, ?_, by simpa using hrow⟩
          · rw [hd.1]; simpa using hd.2.1
          · have h4 := HN.out; rw [h4, hd.1]; simp; exact hd.2.2.2.1.symm
        clear hrow hd
        go_wp2
        go_ret
        obtain ⟨S', z1, z2, z3, z4⟩ := hfin.out
        exact ⟨_, S', rfl, z1, z2, z3, z4.isPairs z3.symm, below_of_only hb1 hgw ho⟩
end Go.Proofs.YtmgpacenooncjaaGreatDoor.Pp
/- The document's Plain. -/
namespace Go.Proofs.YtmgpacenooncjaaGreatDoor
open Go.ChangeShapes Go.WideShapes Go.ChangeAt Go.RowKit
set_option maxRecDepth 1000000 in
set_option maxHeartbeats 4000000 in
theorem plain_any (l : List Rl) (fo : Int) (eb : Bool) (ns : Nat) (rv : Value) (lines : List (List UInt8)) (la : Option Addr) (lc : Nat) (w : World) (h : IsRules w rv l) (hf : jobFault ⟨l, fo, eb, (ns : Int)⟩ = 0) (hn1 : 1 ≤ ns) (hn2 : ns ≤ 1000) (hv : IsTexts w (.slice la lines.length lc) (lines.map bs)) (hl : ∀ x ∈ lines, x.length ≤ 80000) (hn : lines.length ≤ 60) (hfit : Pp.Fits (Pp.Grp.grp fo (Pp.Tot.srt (madeOf ⟨l, fo, eb, (ns : Int)⟩ lines)))) (hml : (madeOf ⟨l, fo, eb, (ns : Int)⟩ lines).length ≤ 60000) :
    Calls Tryz.prog 32 #[.agg #[rv, .int .i64 fo, .bool eb, .int .i64 (ns : Int)], .slice la lines.length lc] w fun e w' => ∃ u, e = .returned u ∧ IsTexts w' u ((sliceTexts ns (Pp.Grp.grp fo (Pp.Tot.srt (madeOf ⟨l, fo, eb, (ns : Int)⟩ lines))) ns).map bs) ∧ Below w.heap.size w w' := by
  have PM0 := Lib.hid (fun line w' h hl => pairsMade_any ⟨l, fo, eb, (ns : Int)⟩ rv line w' h hf hl)
  obtain ⟨F, hF⟩ : ∃ F : List UInt8 → List (ByteArray × Int), F = rulesP l fo := ⟨_, rfl⟩
  have HM : Hid (madeOf ⟨l, fo, eb, (ns : Int)⟩ lines = lines.flatMap F) := by rw [hF]; rfl
  simp only [Jb.value] at PM0
  rw [HM.out] at hfit hml ⊢
  rw [← hF] at PM0
  clear hf hF HM
  obtain ⟨M, hM⟩ : ∃ M, M = lines.flatMap F := ⟨_, rfl⟩
  rw [← hM] at hfit hml ⊢
  obtain ⟨S, hS⟩ : ∃ S, S = Pp.Grp.grp fo (Pp.Tot.srt M) := ⟨_, rfl⟩
  rw [← hS] at hfit ⊢
  obtain ⟨a, cap, rfl⟩ := h.slice
  obtain ⟨rn, hrn⟩ : ∃ n, n = l.length := ⟨_, rfl⟩
  rw [← hrn] at h PM0 ⊢
  obtain ⟨ln, hln⟩ : ∃ n, n = lines.length := ⟨_, rfl⟩
  rw [← hln] at hv ⊢
  have HLN := Lib.hid hln
  have HH : Hid (∀ w', Below w.heap.size w w' → IsRules w' (.slice a rn cap) l) := fun w' hb => h.lower hb
  have HVV : Hid (∀ w', Below w.heap.size w w' → IsTexts w' (.slice la ln lc) (lines.map bs)) := fun w' hb => IsTexts.below hv hb
  have HL := Lib.hid hl
  clear h hv hln hrn hl
  go_enter Tryz.func32, Tryz.ntmps32
  obtain ⟨w1, hw1⟩ : ∃ w1, w1 = w.alloc (.cells #[.slice a rn cap, .int .i64 fo, .bool eb, .int .i64 (ns : Int)] 24) := ⟨_, rfl⟩
  obtain ⟨P, hP⟩ : ∃ P, P = w.heap.size := ⟨_, rfl⟩
  have hb1 : Below w.heap.size w w1 := by rw [hw1]; exact below_box _
  have HB1 := Lib.hid hb1
  have HJ : Hid (Blk w1 P 24 [.slice a rn cap, .int .i64 fo, .bool eb, .int .i64 (ns : Int)]) := by
    show Blk _ _ _ _
    rw [hw1]
    exact blk_new hP
  have HW1 := Lib.hid hw1
  have HPP := Lib.hid hP
  clear hw1 hP hb1
  go_upto_block 0 with fail
  rw [← HW1.out, ← HPP.out]
  clear HW1 HPP
  refine wp_norm (plain_b0 P ln lc rn cap la a fo (ns : Int) eb F lines w1 _ _ _ _ _ _ _ _ _ _ _ _ _ _ _ _ _ _ _ _ _ _ _ _ _ _ _ _ _ _ _ _ _ _ _ _ _ _ _ _ _ _ _ _ _ _ _ _ _ _ _ _ _ _ _ _ _ _ _ _ _ _ _ _ _ HJ (fun x hx w' hb => PM0.out x w' (HH.out w' (below_trans HB1.out hb)) (HL.out x hx)) (fun w' hb => HVV.out w' (below_trans HB1.out hb)) HLN hn (by rw [← hM]; exact hml) ?_)
  refine Lib.hid ?_
  intro z6 z7 z13 z14 z15 z16 z17 z18 z19 z20 z21 z22 z23 z24 z25 z26 z27 v2 wx hrow hbx
  rw [← hM] at hrow
  have HBX := Lib.hid hbx
  have IP := Lib.hid (Pp.owns_isPairs hrow)
  have SO : Hid (∀ w', Below wx.heap.size wx w' → Calls Tryz.prog 53 #[v2] w' fun e w'' => ∃ u, e = .returned u ∧ Hid (Pp.IsPairs w'' u (Pp.Tot.srt M)) ∧ Below w'.heap.size w' w'') := fun w' hb => (Pp.sorted_any v2 M w' (Pp.isPairs_below IP.out hb) (by omega)).mono fun e w'' ⟨u, Z, h1, h2, h3, _, h5, h6⟩ => ⟨u, h1, by rw [← Pp.Tot.srt_eq h2 h3]; exact h5, h6⟩
  have GO : Hid (∀ v w', Pp.IsPairs w' v (Pp.Tot.srt M) → Calls Tryz.prog 55 #[.int .i64 fo, v] w' fun e w'' => ∃ u, e = .returned u ∧ Pp.IsPairs w'' u (Pp.Grp.grp fo (Pp.Tot.srt M)) ∧ Below w'.heap.size w' w'') := fun v w' h => Pp.grouped_any fo v _ w' h (by rw [Pp.Tot.srt_len]; omega)
  have HFS : Hid (Pp.Fits S) := hfit
  have HSL : Hid ((Pp.Grp.grp fo (Pp.Tot.srt M)).length ≤ 60000) := Nat.le_trans (Pp.Grp.grp_len _ _) (by rw [Pp.Tot.srt_len]; omega)
  rw [← hS] at GO HSL
  clear hS
  have JB := Lib.hid (HJ.out.blw hbx)
  have k1 := JB.out.at (i := 1) (v := .int .i64 fo) rfl
  clear hrow hbx hfit hml hM PM0 HH HVV HL HJ
  go_upto_region 7 with fail
  go_region_with (first | (go_at_call 53; refine (SO.out _ (by first | exact Below.refl _ _ | exact Pp.blw_drew (Below.refl _ wx))).mono ?_; rintro _ w2 ⟨u2, rfl, hs2, hb2⟩; have HB2 : Hid (Below wx.heap.size wx w2) := (by first | exact hb2 | exact below_trans (Pp.blw_drew (Below.refl _ wx)) hb2); have k2 := cell_below k1 HB2.out; clear hb2) | (go_at_call 55; refine (GO.out _ _ (by first | exact hs2.out | exact Pp.isPairs_below hs2.out (Pp.blw_drew (Below.refl _ _)))).mono ?_; rintro _ w3 ⟨u3, rfl, hs3, hb3⟩; have HB3 : Hid (Below wx.heap.size wx w3) := (by first | exact below_trans HB2.out hb3 | exact below_trans (Pp.blw_drew HB2.out) hb3); clear hb3))
  all_goals
    have HS3 := Lib.hid hs3
    obtain ⟨sa, sc, e, -⟩ := hs3
    subst e
    obtain ⟨sn, hsn⟩ : ∃ n, n = S.length := ⟨_, rfl⟩
    rw [← hsn] at HS3
    rw [← hsn]
    have HSN := Lib.hid hsn
    clear hsn k1 k2 hs2 SO GO IP
    go_upto_block 2 with fail
    refine wp_norm (plain_b2 P sn sc ns (.int .i64 fo) (.bool eb) (.slice a rn cap) S sa _ _ _ _ _ _ _ _ _ _ _ _ _ _ _ _ _ _ _ _ _ _ _ _ _ _ _ _ _ _ _ _ _ _ _ _ _ _ _ _ _ _ _ _ _ _ _ _ _ _ _ _ _ _ _ _ _ _ _ _ _ _ _ _ _ _ (fun w' hb => Pp.isPairs_below HS3.out (by first | exact hb | exact below_trans (Pp.blw_drew (Below.refl _ w3)) hb)) HSN HSL.out (by first | exact JB.out.blw HB3.out | exact JB.out.blw (Pp.blw_drew HB3.out)) hn1 hn2 HFS ?_)
    refine Lib.hid ?_
    intro z10 z11 z12 z33 z34 z35 z36 z37 z38 z39 z40 z41 z42 z43 z44 z45 z46 z47 z48 z49 z50 z51 z52 z53 z54 z55 z56 z57 z58 z59 z60 z61 z62 z63 z64 z65 z66 v5 w5 hrow5 hb5
    have HT := Lib.hid (isTexts_of hrow5)
    have HB5 : Hid (Below w.heap.size w w5) := below_trans HB1.out (below_trans HBX.out (below_trans HB3.out (by first | exact hb5 | exact below_trans (Pp.blw_drew (Below.refl _ w3)) hb5)))
    clear hrow5 hb5
    go_wp2
    go_ret
    exact ⟨_, rfl, HT.out, HB5.out⟩
end Go.Proofs.YtmgpacenooncjaaGreatDoor
/- The document's Plain, slice by slice. -/
namespace Go.Proofs.YtmgpacenooncjaaGreatDoor
open Go.ChangeShapes Go.WideShapes Go.ChangeAt Go.RowKit
theorem inSlice_grp (ns : Int) (k : Nat) (fo : Int) (M : List (ByteArray × Int)) : inSlice ns k (Pp.Grp.grp fo (Pp.Tot.srt M)) = Pp.Grp.grp fo (inSlice ns k (Pp.Tot.srt M)) :=
  Pp.Tot.grp_filter fo (fun key => decide (sliceN ns key = k)) _ (Pp.Tot.srt_sorted M)
theorem sliceTexts_grp (ns : Int) (fo : Int) (M : List (ByteArray × Int)) (n : Nat) : (sliceTexts ns (Pp.Grp.grp fo (Pp.Tot.srt M)) n).map bs = (List.range n).map fun i => bs (Pp.textL (Pp.Grp.grp fo (inSlice ns i (Pp.Tot.srt M)))) := by
  unfold sliceTexts
  rw [List.map_map]
  apply List.map_congr_left
  intro i _
  show bs (Pp.textL (inSlice ns i (Pp.Grp.grp fo (Pp.Tot.srt M)))) = _
  rw [inSlice_grp]
end Go.Proofs.YtmgpacenooncjaaGreatDoor
/- A job alone: the walk of TopPlain. Written by tpl/mk_pl.py. -/
namespace Go.Proofs.YtmgpacenooncjaaGreatDoor
open Go.ChangeShapes Go.WideShapes Go.ChangeAt Go.RowKit
theorem part_fitsP (fo : Int) (ea : Bool) (ns i : Nat) (j : Jb) (p : List (List UInt8)) (h : Pp.Fits (madeOf j p)) : Pp.Fits (partOf fo ea ns i j p) := by
  unfold partOf finL
  split
  · exact Pp.fits_grp fo _ (inSlice_fits ns i h)
  · exact inSlice_fits ns i h
theorem outsP (fo : Int) (ea : Bool) (ns : Nat) (j : Jb) (hf : j.fold = fo) (lines : List (List UInt8)) : (slicesOf fo ea ns (madeOf j lines)).map (outP fo) = plainT j ns lines := by
  unfold plainT slicesOf
  rw [List.map_map]
  apply List.map_congr_left
  intro i _
  show outP fo (partOf fo ea ns i j lines) = _
  unfold outP
  have h := early_grp fo ea ns i j [lines] (Pp.Tot.srt (partOf fo ea ns i j lines)) (Pp.Tot.srt_sorted _) (by
    have := Pp.Tot.srt_se (partOf fo ea ns i j lines)
    simpa using this)
  rw [h, hf]
  simp
theorem isTexts_ofP {w : World} {base : Nat} {v : Value} {l : List ByteArray} (h : w.ownsRow base 9 1 v l.length (l.map Value.string)) : IsTexts w v l := by
  have e : l = (l.map fun b => b.data.toList).map bs := by
    rw [List.map_map]
    conv => lhs; rw [← List.map_id l]
    apply List.map_congr_left
    intro x _
    exact (bs_of x).symm
  have e2 : l.map Value.string = strs (l.map fun b => b.data.toList) := by
    unfold strs
    rw [List.map_map]
    apply List.map_congr_left
    intro x _
    simp [bs_of]
  rw [e2] at h
  rw [e]
  exact isTexts_of (by rw [List.length_map]; exact h)
set_option maxRecDepth 1000000 in
set_option maxHeartbeats 8000000 in
theorem topPlain_walk (SD : StepDoes) (j : Jb) (a : Option Addr) (cap : Nat) (la : Option Addr) (lc : Nat) (lines : List (List UInt8)) (w : World) (E : EnvS w) (ET : Pp.EnvT w) (h : IsRules w (.slice a j.rules.length cap) j.rules) (hw : rulesWt j.rules ≤ 1000000000) (hv : IsTexts w (.slice la lines.length lc) (lines.map bs)) (hll : lines.length ≤ 1000000000) :
    Calls Tryz.prog 5 #[j.value (.slice a j.rules.length cap), .slice la lines.length lc] w fun e w' => e = .returned (.bool true) ∧ Below w.heap.size w w' := by
  have RD := Lib.hid (fun w E => ready_any w E)
  have LJ := Lib.hid (fun w h => lightJob_any j (.slice a j.rules.length cap) w h hw)
  have CK := Lib.hid (fun w h E => jobCheck_any j (.slice a j.rules.length cap) w h hw E)
  have LT := Lib.hid (fun w' (hb : Below w.heap.size w w') => lightTexts_any (.slice la lines.length lc) (lines.map bs) 60 120 w' (IsTexts.below hv hb) (by unfold maxLen; rw [List.length_map]; omega))
  have HSD := Lib.hid SD
  have HV := Lib.hid (fun w' (hb : Below w.heap.size w w') => IsTexts.below hv hb)
  have HT : Hid (∀ w', Below w.heap.size w w' → Pp.EnvT w') := fun w' hb => ET.below hb
  have HE := Lib.hid (fun w' (hb : Below w.heap.size w w') => E.lower hb)
  have H := Lib.hid (fun w' (hb : Below w.heap.size w w') => h.lower hb)
  obtain ⟨f, hf⟩ : ∃ f, f = jobFault j := ⟨_, rfl⟩
  rw [← hf] at CK
  have HF := Lib.hid hf
  obtain ⟨l, fo, ea, sl⟩ := j
  simp only [Jb.value] at *
  rw [List.length_map] at LT
  obtain ⟨ln, hln⟩ : ∃ ln, ln = lines.length := ⟨_, rfl⟩
  rw [← hln] at LT HV ⊢
  have HLN : Hid (ln = lines.length) := hln
  obtain ⟨rn, hrn⟩ : ∃ rn, rn = l.length := ⟨_, rfl⟩
  rw [← hrn] at LJ CK H ⊢
  have HRN := Lib.hid hrn
  clear hrn hln hf h E ET SD hv
  go_enter Tryz.func5, Tryz.ntmps5
  go_wp2_with (go_at_call 31; refine Hid.out ?_)
  refine Lib.hid ?_
  refine (RD.out _ (HE.out _ (below_box _))).mono ?_
  rintro _ w1 ⟨rfl, hb1⟩
  have JB := Lib.hid ((blk_new (w := w) (cs := #[.slice a rn cap, .int .i64 fo, .bool ea, .int .i64 sl]) (t := 24) rfl).blw hb1)
  have hb01 := below_trans (below_box _) hb1
  have k0 := JB.out.at (i := 0) (v := .slice a rn cap) rfl
  have k1 := JB.out.at (i := 1) (v := .int .i64 fo) rfl
  have k2 := JB.out.at (i := 2) (v := .bool ea) rfl
  have k3 := JB.out.at (i := 3) (v := .int .i64 sl) rfl
  clear hb1 RD
  go_wp2_with (go_at_call 7; refine Hid.out ?_)
  refine Lib.hid ?_
  refine (LJ.out w1 (H.out _ hb01)).mono ?_
  rintro _ w2 ⟨g, rfl, hb2⟩
  have hb02 := below_trans hb01 hb2
  have JB2 := Lib.hid (JB.out.blw hb2)
  clear k0 k1 k2 k3 JB hb01 hb2 LJ
  cases g with
  | false =>
    go_wp2
    go_ret
    exact ⟨rfl, hb02⟩
  | true =>
  have LT2 := Lib.hid (LT.out w2 hb02)
  obtain ⟨lt, hlt⟩ : ∃ lt, lt = (decide ((ln : Int) ≤ 60) && lightT (lines.map bs) 120) := ⟨_, rfl⟩
  rw [← hlt] at LT2
  have HLT := Lib.hid hlt
  clear hlt LT
  go_wp2_with (go_at_call 8; refine Hid.out ?_)
  refine Lib.hid ?_
  refine LT2.out.mono ?_
  rintro _ w3 ⟨rfl, h3⟩
  rw [h3]
  clear h3 w3 LT2
  cases lt with
  | false =>
    go_wp2
    go_ret
    exact ⟨rfl, hb02⟩
  | true =>
  have h60 : ln ≤ 60 := by
    have h := HLT.out.symm
    rw [Bool.and_eq_true, decide_eq_true_eq] at h
    omega
  have HLO : Hid (∀ x ∈ lines, x.length ≤ 120) := fun x hx => by
    have h := HLT.out.symm
    rw [Bool.and_eq_true] at h
    have h2 := h.2
    unfold lightT at h2
    rw [List.all_eq_true] at h2
    have := of_decide_eq_true (h2 (bs x) (List.mem_map.2 ⟨x, hx, rfl⟩))
    rw [bs_size] at this
    omega
  have k0 := JB2.out.at (i := 0) (v := .slice a rn cap) rfl
  have k1 := JB2.out.at (i := 1) (v := .int .i64 fo) rfl
  have k2 := JB2.out.at (i := 2) (v := .bool ea) rfl
  have k3 := JB2.out.at (i := 3) (v := .int .i64 sl) rfl
  go_wp2_with (go_at_call 25; refine Hid.out ?_)
  refine Lib.hid ?_
  refine (CK.out w2 (H.out _ hb02) (HE.out _ hb02)).mono ?_
  rintro _ w3 ⟨rfl, hb3⟩
  have hb03 := below_trans hb02 hb3
  have JB3 := Lib.hid (JB2.out.blw hb3)
  clear k0 k1 k2 k3 JB2 hb02 hb3 CK HLT
  rcases (errV_cases f).symm with ⟨h0, hvv⟩ | ⟨h0, hvv⟩
  · rw [hvv]
    go_wp2
    go_ret
    exact ⟨rfl, hb03⟩
  rw [hvv]
  have HJF : Hid (jobFault ⟨l, fo, ea, sl⟩ = 0) := by show _ = _; rw [← HF.out]; exact h0
  obtain ⟨-, hr4, hk1, hk4, hs1, hs4, -⟩ := jobFault_parts HJF.out
  simp only at hr4 hk1 hk4 hs1 hs4
  obtain ⟨ns, rfl⟩ : ∃ ns : Nat, sl = (ns : Int) := ⟨sl.toNat, by omega⟩
  have hn1 : 1 ≤ ns := by omega
  have hn4 : ns ≤ 4 := by omega
  have hjs := job_small HJF.out
  have NW := Lib.hid (new_ok ⟨l, fo, ea, (ns : Int)⟩ (.slice a rn cap) (.slice la ln lc) lines w3 (H.out _ hb03) (by omega) HJF.out (HV.out _ hb03) (by have := HLN.out; omega) (HE.out _ hb03))
  unfold MadeNew at NW
  simp only [Jb.value] at NW
  have k0 := JB3.out.at (i := 0) (v := .slice a rn cap) rfl
  have k1 := JB3.out.at (i := 1) (v := .int .i64 fo) rfl
  have k2 := JB3.out.at (i := 2) (v := .bool ea) rfl
  have k3 := JB3.out.at (i := 3) (v := .int .i64 (ns : Int)) rfl
  clear hvv h0 hjs HF hr4 hk1 hk4 hs1 hs4
  go_wp2_with (go_at_call 14; refine Hid.out ?_)
  refine Lib.hid ?_
  refine NW.out.mono ?_
  clear NW
  rintro _ w4 ⟨R, rv, lv', rfl, hmr, hlR, hb4⟩
  have hb04 := below_trans hb03 hb4
  have HI : Hid (MRin w4 R ⟨l, fo, ea, (ns : Int)⟩ lines) := ⟨HJF.out, by have := job_small HJF.out; omega, by have := HLN.out; omega, fun x hx => by have := HLO.out x hx; omega, fun w' hb' => HE.out w' (hb04.trans (hb'.mono (Nat.le_trans hb03.size hlR)))⟩
  have JB4 := Lib.hid (JB3.out.blw hb4)
  have ST := Lib.hid (step_all HSD.out R 60 ⟨l, fo, ea, (ns : Int)⟩ rv lv' lines w4 hmr HI.out (by decide) (by decide))
  have HJR : Hid (w.heap.size < R) := by show _ < _; have h1 := JB3.out.lt; have h2 := hlR; omega
  have HRL := Lib.hid hmr.blk.lt
  clear k0 k1 k2 k3 JB3 hb03 hb4 hmr hlR HSD
  dsimp only
  go_wp2_with (go_at_call 15; refine Hid.out ?_)
  refine Lib.hid ?_
  refine ST.out.mono ?_
  clear ST
  rintro _ w5 ⟨rfl, mv, hmr5, hF5, hown5⟩
  have hb05 : Below w.heap.size w w5 := hb04.trans (hF5.below hb04.size (Nat.le_of_lt HJR.out) (fun b hb => by cases hb))
  have JB5 : Hid (Blk w5 w.heap.size 24 [.slice a rn cap, .int .i64 fo, .bool ea, .int .i64 (ns : Int)]) := by
    show Blk _ _ _ _
    exact (hF5.block w.heap.size JB4.out.lt (by have := HJR.out; omega) (fun e => by cases e)).trans JB4.out
  have hML : (madeOf ⟨l, fo, ea, (ns : Int)⟩ lines).length ≤ 60000 := by
    have h1 := made_len ⟨l, fo, ea, (ns : Int)⟩ 120 lines (jobFault_parts HJF.out).2.1 (fun x hx => HLO.out x hx)
    have h2 := Nat.mul_le_mul_right (4 * (120 + 1)) (show lines.length ≤ 60 by have := HLN.out; omega)
    omega
  have hMF : Pp.Fits (madeOf ⟨l, fo, ea, (ns : Int)⟩ lines) := made_fits HJF.out (fun x hx => by have := HLO.out x hx; omega)
  obtain ⟨LS, hLS⟩ : ∃ LS, LS = slicesOf fo ea ns (madeOf ⟨l, fo, ea, (ns : Int)⟩ lines) := ⟨_, rfl⟩
  have HLL : Hid (LS.length = ns) := by show _ = _; rw [hLS]; simp [slicesOf]
  have HLE : Hid (∀ (k : Nat) (L : List (ByteArray × Int)), LS[k]? = some L → L.length ≤ 60000 ∧ Pp.Fits L) := fun k L hk => by
    have hkn : k < ns := by rw [← HLL.out]; exact (List.getElem?_eq_some_iff.1 hk).1
    rw [hLS, slicesOf_at hkn, Option.some.injEq] at hk
    rw [← hk]
    refine ⟨?_, part_fitsP fo ea ns k ⟨l, fo, ea, (ns : Int)⟩ lines hMF⟩
    have := part_len fo ea ns k ⟨l, fo, ea, (ns : Int)⟩ lines
    unfold partOf at this
    omega
  have HPT : Hid (LS.map (outP fo) = plainT ⟨l, fo, ea, (ns : Int)⟩ ns lines) := by
    show _ = _
    rw [hLS]
    exact outsP fo ea ns ⟨l, fo, ea, (ns : Int)⟩ rfl lines
  have SL := Lib.hid (slices_own R lines.length l fo ea ns rv lv' mv lines (madeOf ⟨l, fo, ea, (ns : Int)⟩ lines) w5 hmr5 hn1 hn4 (by omega) (fun p hp => by have := made_key hp; omega))
  unfold SlicesGive at SL
  rw [← hLS] at SL
  have HKK : Hid (Pp.kindB fo = true) := by show _ = _; obtain ⟨-, -, hk1, hk4, -⟩ := jobFault_parts HJF.out; simp only at hk1 hk4; unfold Pp.kindB; simp; omega
  have PLN : Hid (∀ w', Below w.heap.size w w' → Calls Tryz.prog 32 #[.agg #[.slice a rn cap, .int .i64 fo, .bool ea, .int .i64 (ns : Int)], .slice la ln lc] w' fun e w'' => ∃ ua uc, e = .returned (.slice ua ns uc) ∧ Hid (IsTexts w'' (.slice ua ns uc) (LS.map (outP fo))) ∧ Below w'.heap.size w' w'') := fun w' hb' => by
    have hv2 := HV.out w' hb'
    rw [HLN.out] at hv2 ⊢
    refine (plain_any l fo ea ns (.slice a rn cap) lines la lc w' (H.out w' hb') HJF.out hn1 (by omega) hv2 (fun x hx => by have := HLO.out x hx; omega) (by have := HLN.out; omega) (Pp.fits_grp fo _ (fun p hp => hMF p (Pp.Tot.srt_mem.1 hp))) hML).mono ?_
    rintro e w'' ⟨u, rfl, hu, hbu⟩
    rw [sliceTexts_grp] at hu
    have e2 : (List.range ns).map (fun i => bs (Pp.textL (Pp.Grp.grp fo (inSlice (ns : Int) i (Pp.Tot.srt (madeOf ⟨l, fo, ea, (ns : Int)⟩ lines)))))) = LS.map (outP fo) := by rw [HPT.out]; rfl
    rw [e2] at hu
    have hu2 : Hid (IsTexts w'' u (LS.map (outP fo))) := hu
    obtain ⟨ua, uc, e3, -⟩ := hu
    rw [List.length_map, HLL.out] at e3
    exact ⟨ua, uc, by rw [e3], by rw [← e3]; exact hu2, hbu⟩
  have HMX : Hid ((LS.map (outP fo)).length ≤ maxLen) := by show _ ≤ _; rw [List.length_map, HLL.out]; unfold maxLen; omega
  clear hmr5 hF5 hown5 JB4 hb04 hML hMF hLS
  go_wp2_with (go_at_call 21; refine Hid.out ?_)
  refine Lib.hid ?_
  refine SL.out.mono ?_
  clear SL
  rintro _ w6 ⟨sb, us, wb, rfl, hsl, hsb, hwb, hb6⟩
  have HPO : Hid (PO w w6 w.heap.size sb [.slice a rn cap, .int .i64 fo, .bool ea, .int .i64 (ns : Int)] us LS (([] : List (List (ByteArray × Int))).map (outP fo)) (.slice none 0 0)) := ⟨below_trans hb05 hb6, JB5.out.blw hb6, hsl.lst, fun k u L hu hL => ow_low (hsl.each k u L hu hL) (Nat.le_trans hb05.size hwb), World.ownsRow_nil _ _ _ _⟩
  have HUL : Hid (us.length = ns) := by show _ = _; rw [hsl.len]; exact HLL.out
  clear hb05 JB5 hb6 hsl hsb hwb
  dsimp only
  go_wp2_with fail
  go_loopg [8, 42] ns (fun gg ov iv wr => ∃ i : Nat, gg = ns - i ∧ i ≤ ns ∧ iv = .int .i64 i ∧ Hid (PO w wr w.heap.size sb [.slice a rn cap, .int .i64 fo, .bool ea, .int .i64 (ns : Int)] us LS ((LS.take i).map (outP fo)) ov))
  case atStart => exact ⟨0, rfl, Nat.zero_le _, rfl, HPO⟩
  case round =>
    clear HPO
    obtain ⟨i, hgi, hi, rfl, HP⟩ := hrel
    have HGI := Lib.hid hgi
    clear hgi
    have HTL : Hid (i = ((LS.take i).map (outP fo)).length) := by show _ = _; rw [List.length_map, List.length_take, HLL.out]; omega
    by_cases hlt : i < ns
    · obtain ⟨u, hu⟩ : ∃ u, us[i]? = some u := ⟨us[i]'(by rw [HUL.out]; exact hlt), by simp⟩
      obtain ⟨L, hL⟩ : ∃ L, LS[i]? = some L := ⟨LS[i]'(by rw [HLL.out]; exact hlt), by simp⟩
      have HU := Lib.hid hu
      have HL := Lib.hid hL
      have HTS : Hid ((LS.take (i + 1)).map (outP fo) = (LS.take i).map (outP fo) ++ [outP fo L]) := by show _ = _; rw [take_snoc hL, List.map_append]; rfl
      have HLT := Lib.hid hlt
      clear hu hL
      go_upto_block 1 with fail
      refine wp_norm (plain_l1 w w.heap.size sb i ns i fo [.slice a rn cap, .int .i64 fo, .bool ea, .int .i64 (ns : Int)] us LS _ u _ L _ _ _ _ _ _ _ _ _ _ _ _ _ _ _ _ _ _ _ _ _ _ _ _ _ _ _ _ _ _ _ _ _ _ _ _ _ _ _ _ _ _ _ _ _ _ _ _ _ _ _ _ _ _ _ _ _ _ _ _ _ _ _ _ _ _ _ HT HP.out rfl HKK.out HU.out HL.out hlt HTL.out (by omega) (HLE.out i L HL.out).1 (HLE.out i L HL.out).2 ?_)
      refine Lib.hid ?_
      intro z4 z10 z11 z12 z44 z45 z46 z47 z48 z49 z50 z51 z52 z53 z54 z55 z56 z57 z58 z59 z60 z61 z62 ov' wx hx
      rw [← HTS.out] at hx
      have HX := Lib.hid hx
      clear hx HP
      go_wp2
      go_roundg (ns - (i + 1))
      case measure => have := HGI.out; have := HLT.out; omega
      case rel => exact ⟨i + 1, rfl, HLT.out, by go_num, HX⟩
    · have e : i = ns := by omega
      subst e
      have HTT : Hid (IsTexts wr u8 (LS.map (outP fo))) := by
        have h := HP.out.out
        rw [List.take_of_length_le (Nat.le_of_eq HLL.out)] at h
        refine isTexts_ofP (base := w.heap.size) ?_
        rw [List.length_map] at h ⊢
        exact h
      have HB := Lib.hid HP.out.org
      have k0 := HP.out.job.at (i := 0) (v := .slice a rn cap) rfl
      have k1 := HP.out.job.at (i := 1) (v := .int .i64 fo) rfl
      have k2 := HP.out.job.at (i := 2) (v := .bool ea) rfl
      have k3 := HP.out.job.at (i := 3) (v := .int .i64 (i : Int)) rfl
      clear HP hlt
      go_wp2_with (go_at_call 32; refine Hid.out ?_)
      refine Lib.hid ?_
      refine (PLN.out _ HB.out).mono ?_
      clear PLN
      rintro _ w8 ⟨ua, uc, rfl, HUT, hb8⟩
      have HB8 : Hid (Below w.heap.size w w8) := below_trans HB.out hb8
      have ST : Hid (Calls Tryz.prog 12 #[u8, .slice ua i uc] w8 fun e w' => e = .returned (.bool true) ∧ Below w8.heap.size w8 w') := by
        refine (sameTexts_any _ _ _ _ w8 (IsTexts.below HTT.out hb8) HUT.out HMX.out).mono ?_
        rintro e w' ⟨rfl, n, rfl⟩
        exact ⟨by rw [decide_eq_true rfl], below_drewN _ _⟩
      clear k0 k1 k2 k3 hb8 HTT HUT
      go_wp2_with (go_at_call 12; refine Hid.out ?_)
      refine Lib.hid ?_
      refine ST.out.mono ?_
      rintro _ w9 ⟨rfl, hb9⟩
      have hbw := below_trans HB8.out hb9
      clear ST
      go_wp2
      go_ret
      exact ⟨rfl, hbw⟩
end Go.Proofs.YtmgpacenooncjaaGreatDoor
