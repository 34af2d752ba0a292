/- Put together of St2, St3, St4, St5, St7, St8, St6. -/
import Derived.Test.YtmgpacenooncjaaGreatDoorG4
import Derived.Deep.LoopGhost
/- Stops: all steps. Written by tpl/mk_st.py. -/
namespace Go.Proofs.YtmgpacenooncjaaGreatDoor
open Go.ChangeShapes Go.WideShapes Go.ChangeAt Go.RowKit
set_option maxRecDepth 1000000 in
set_option maxHeartbeats 4000000 in
theorem stop_b0 (SD : StepDoes) (w wS : World) (P R0 Rb ns ln lc rn rc sn sc d : Nat) (fo : Int) (ea : Bool) (l : List Rl) (ra la sa : Option Addr) (rv lv mv : Value) (lines : List (List UInt8)) (steps : List Int) (w0 : World) (K : Act → World → Prop) (s0 s4 s5 s6 s7 s8 s9 s10 s12 s14 s15 s16 s17 s18 s19 s20 s21 s22 s23 s24 s25 s26 s27 s28 s29 s30 s31 s32 s33 s34 s35 s36 s37 s38 s39 s40 s41 s42 s43 s44 s45 s46 s47 s48 s49 s50 s51 s52 s53 s54 s55 s56 s57 s58 s59 s60 s61 s62 s63 s64 s65 s66 s67 s68 s69 s70 s71 s72 s73 s74 s75 s76 s77 s78 s79 s80 s81 s82 s83 s84 s85 s86 s87 s88 s89 s90 s91 s92 s93 s94 s95 s96 s97 s98 s99 s100 s101 s102 s103 s104 s105 s106 s107 s108 s109 s110 s111 s112 s113 s114 s115 s116 s117 s118 s119 s120 s121 s122 s123 s124 s125 s126 s127 s128 s129 s130 s131 s132 s133 s134 s135 s136 s137 s138 s139 s140 s141 s142 s143 s144 s145 s146 s147 s148 s149 s150 s151 s152 s153 s154 s155 s156 s157 s158 s159 s160 s161 s162 s163 s164 s165 s166 s167 s168 s169 s170 s171 s172 s173 s174 s175 s176 s177 s178 s179 s180 s181 s182 s183 s184 s185 s186 s187 : Value)
    (HE : Hid (∀ w', Below w.heap.size w w' → EnvS w'))
    (HP : Hid (∀ w', Below w.heap.size w w' → Pp.Env w'))
    (HR : Hid (∀ w', Below w.heap.size w w' → IsRules w' (.slice ra rn rc) l))
    (HV : Hid (∀ w', Below w.heap.size w w' → IsTexts w' (.slice la ln lc) (lines.map bs)))
    (hln : Hid (ln = lines.length))
    (hJ : Hid (jobFault ⟨l, fo, ea, (ns : Int)⟩ = 0))
    (hLO : Hid (∀ x ∈ lines, x.length ≤ 120))
    (h60 : ln ≤ 60)
    (hwS : Hid (Below w.heap.size w wS))
    (hPR : w.heap.size ≤ R0 ∧ P ≠ R0 ∧ R0 < wS.heap.size)
    (hPB : Hid (Blk wS P 24 [.slice ra rn rc, .int .i64 fo, .bool ea, .int .i64 (ns : Int)]))
    (HN : Hid (∀ w', Below w.heap.size w w' → IsNums w' (.slice sa sn sc) steps))
    (hsn : Hid (sn = steps.length))
    (hsi : Hid (∀ n ∈ steps, -9223372036854775808 ≤ n ∧ n ≤ 9223372036854775807))
    (hs20 : sn ≤ 20)
    (hM : MS wS w0 R0 Rb ⟨l, fo, ea, (ns : Int)⟩ rv lv mv lines d)
    (HK : Hid (∀ (z6 z13 z14 z15 z16 z82 z83 z84 z85 z86 z87 z88 z89 z90 z91 z92 z93 z94 z95 z96 z97 z98 z99 z100 z101 z102 z103 z104 z105 z106 z107 z108 z109 z110 z111 z112 z113 z114 z115 z116 z117 z118 z119 : Value) (R2 d2 : Nat) (rv2 lv2 mv2 : Value) (wx : World), MS wS wx R0 R2 ⟨l, fo, ea, (ns : Int)⟩ rv2 lv2 mv2 lines d2 → K ⟨#[s0, .slice la ln lc, .slice sa sn sc, .pointer (some ⟨P, 0, none⟩), s4, s5, z6, s7, s8, s9, s10, .pointer (some ⟨R2, 0, none⟩), s12, z13, z14, z15, z16, s17, s18, s19, s20, s21, s22, s23, s24, s25, s26, s27, s28, s29, s30, s31, s32, s33, s34, s35, s36, s37, s38, s39, s40, s41, s42, s43, s44, s45, s46, s47, s48, s49, s50, s51, s52, s53, s54, s55, s56, s57, s58, s59, s60, s61, s62, s63, s64, s65, s66, s67, s68, s69, s70, s71, s72, s73, s74, s75, s76, s77, s78, s79, s80, s81, z82, z83, z84, z85, z86, z87, z88, z89, z90, z91, z92, z93, z94, z95, z96, z97, z98, z99, z100, z101, z102, z103, z104, z105, z106, z107, z108, z109, z110, z111, z112, z113, z114, z115, z116, z117, z118, z119, s120, s121, s122, s123, s124, s125, s126, s127, s128, s129, s130, s131, s132, s133, s134, s135, s136, s137, s138, s139, s140, s141, s142, s143, s144, s145, s146, s147, s148, s149, s150, s151, s152, s153, s154, s155, s156, s157, s158, s159, s160, s161, s162, s163, s164, s165, s166, s167, s168, s169, s170, s171, s172, s173, s174, s175, s176, s177, s178, s179, s180, s181, s182, s183, s184, s185, s186, s187], []⟩ wx)) :
    Code.wp Tryz.prog (pieceIn Tryz.f4.body 0) (Exit.then K fun _ _ _ => False) ⟨#[s0, .slice la ln lc, .slice sa sn sc, .pointer (some ⟨P, 0, none⟩), s4, s5, s6, s7, s8, s9, s10, .pointer (some ⟨Rb, 0, none⟩), s12, .int .i64 0, s14, s15, s16, s17, s18, s19, s20, s21, s22, s23, s24, s25, s26, s27, s28, s29, s30, s31, s32, s33, s34, s35, s36, s37, s38, s39, s40, s41, s42, s43, s44, s45, s46, s47, s48, s49, s50, s51, s52, s53, s54, s55, s56, s57, s58, s59, s60, s61, s62, s63, s64, s65, s66, s67, s68, s69, s70, s71, s72, s73, s74, s75, s76, s77, s78, s79, s80, s81, s82, s83, s84, s85, s86, s87, s88, s89, s90, s91, s92, s93, s94, s95, s96, s97, s98, s99, s100, s101, s102, s103, s104, s105, s106, s107, s108, s109, s110, s111, s112, s113, s114, s115, s116, s117, s118, s119, s120, s121, s122, s123, s124, s125, s126, s127, s128, s129, s130, s131, s132, s133, s134, s135, s136, s137, s138, s139, s140, s141, s142, s143, s144, s145, s146, s147, s148, s149, s150, s151, s152, s153, s154, s155, s156, s157, s158, s159, s160, s161, s162, s163, s164, s165, s166, s167, s168, s169, s170, s171, s172, s173, s174, s175, s176, s177, s178, s179, s180, s181, s182, s183, s184, s185, s186, s187], []⟩ w0 := by
  have HM := Lib.hid hM
  have HSD := Lib.hid SD
  clear hM SD
  conv => arg 2; whnf
  go_wp2_with fail
  go_loopg [11, 13] sn (fun gg bv iv wr => ∃ (i R d : Nat) (rv lv mv : Value), gg = sn - i ∧ i ≤ sn ∧ bv = .pointer (some ⟨R, 0, none⟩) ∧ iv = .int .i64 i ∧ Hid (MS wS wr R0 R ⟨l, fo, ea, (ns : Int)⟩ rv lv mv lines d))
  case atStart => exact ⟨0, Rb, d, rv, lv, mv, rfl, Nat.zero_le _, rfl, rfl, HM⟩
  case round =>
    clear HM
    obtain ⟨i, R, d, rv, lv, mv, hgi, hi, rfl, rfl, HM⟩ := hrel
    have HGI := Lib.hid hgi
    clear hgi
    by_cases hlt : i < sn
    · have hN := HN.out wr (HM.out.org hwS.out hPR.1)
      obtain ⟨a', c', e, hc⟩ := hN
      obtain ⟨sb, soff, rfl, c0⟩ := hc i (by rw [← hsn.out]; exact hlt)
      injection e with e1 e2 e3
      subst e1 e3
      have hri := hsi.out _ (List.getElem_mem (by rw [← hsn.out]; exact hlt))
      have HC0 := Lib.hid c0
      have HRI := Lib.hid hri
      have HLT := Lib.hid hlt
      clear hc c0 hri e2
      go_upto_block 1 with fail
      refine wp_norm (stop_b1 HSD.out w wS P R0 R i ns ln lc rn rc sn _ d _ _ _ fo ea l ra la rv lv mv lines _ _ _ _ _ _ _ _ _ _ _ _ _ _ _ _ _ _ _ _ _ _ _ _ _ _ _ _ _ _ _ _ _ _ _ _ _ _ _ _ _ _ _ _ _ _ _ _ _ _ _ _ _ _ _ _ _ _ _ _ _ _ _ _ _ _ _ _ _ _ _ _ _ _ _ _ _ _ _ _ _ _ _ _ _ _ _ _ _ _ _ _ _ _ _ _ _ _ _ _ _ _ _ _ _ _ _ _ _ _ _ _ _ _ _ _ _ _ _ _ _ _ _ _ _ _ _ _ _ _ _ _ _ _ _ _ _ _ _ _ _ _ _ _ _ _ _ _ _ _ _ _ _ _ _ _ _ _ _ _ _ _ _ _ _ _ _ _ _ _ _ _ _ _ _ _ _ _ _ _ _ _ _ _ _ HE HP HR HV hln hJ hLO h60 hwS hPR hPB HC0.out HRI.out HLT.out (Nat.lt_of_lt_of_le HLT.out hs20) HM.out ?_)
      refine Lib.hid ?_
      intro z6 z14 z15 z16 z88 z89 z90 z91 z92 z93 z94 z95 z96 z97 z98 z99 z100 z101 z102 z103 z104 z105 z106 z107 z108 z109 z110 z111 z112 z113 z114 z115 z116 z117 z118 z119 R2 d2 rv2 lv2 mv2 wx hMx
      have HMX := Lib.hid hMx
      clear hMx HM
      go_wp2
      go_roundg (sn - (i + 1))
      case measure => have := HGI.out; have := HLT.out; omega
      case rel => exact ⟨i + 1, R2, d2, rv2, lv2, mv2, rfl, HLT.out, rfl, by go_num, HMX⟩
    · go_wp2
      exact HK.out _ _ _ _ _ _ _ _ _ _ _ _ _ _ _ _ _ _ _ _ _ _ _ _ _ _ _ _ _ _ _ _ _ _ _ _ _ _ _ _ _ _ _ R d rv lv mv wr HM.out
end Go.Proofs.YtmgpacenooncjaaGreatDoor
/- Stops: a folder's run that goes on beside others. Written by tpl/mk_st.py. -/
namespace Go.Proofs.YtmgpacenooncjaaGreatDoor
open Go.ChangeShapes Go.WideShapes Go.ChangeAt Go.RowKit
/-- A folder's run that goes on, others beside it. -/
structure GS (wT wr : World) (G0 Rg : Nat) (fo : Int) (Z : List (ByteArray × Int)) (ko : Option Addr) (kc : Nat) (ss : List (List (ByteArray × Int))) (ks : List ByteArray) (mo : Option Addr) (mc a : Nat) : Prop where
  only : Only G0 wT wr
  run : Pp.IsRun wr Rg fo (.slice ko ss.length kc) ss (.slice mo a mc) ((Pp.Grp.grp fo Z).take a)
  segs : Pp.Segs ks ss
  flat : ss.flatten = Z
  ain : a ≤ ss.length
  place : Rg = G0 ∨ wT.heap.size ≤ Rg
  own : ∀ g, (Value.slice mo a mc).ownBlock = some g → wT.heap.size ≤ g
theorem GS.below {wT wr w' : World} {G0 Rg : Nat} {fo : Int} {Z : List (ByteArray × Int)} {ko : Option Addr} {kc : Nat} {ss : List (List (ByteArray × Int))} {ks : List ByteArray} {mo : Option Addr} {mc a : Nat} (h : GS wT wr G0 Rg fo Z ko kc ss ks mo mc a) (hb : Below wr.heap.size wr w') : GS wT w' G0 Rg fo Z ko kc ss ks mo mc a :=
  ⟨h.only.trans (Only.of_below hb), h.run.blw hb, h.segs, h.flat, h.ain, h.place, h.own⟩
theorem GS.step {wT wr w' : World} {G0 Rg : Nat} {fo : Int} {Z : List (ByteArray × Int)} {ko : Option Addr} {kc : Nat} {ss : List (List (ByteArray × Int))} {ks : List ByteArray} {mo mo' : Option Addr} {mc a mc' a' : Nat} (h : GS wT wr G0 Rg fo Z ko kc ss ks mo mc a)
    (hr : Pp.IsRun w' Rg fo (.slice ko ss.length kc) ss (.slice mo' a' mc') ((Pp.Grp.grp fo Z).take a')) (ha : a' ≤ ss.length) (hF : Pp.Fr wr w' Rg (Value.slice mo a mc).ownBlock) (ho : (Value.slice mo' a' mc').ownBlock = (Value.slice mo a mc).ownBlock ∨ ∀ b, (Value.slice mo' a' mc').ownBlock = some b → wr.heap.size ≤ b) : GS wT w' G0 Rg fo Z ko kc ss ks mo' mc' a' := by
  have hsz := h.only.size
  refine ⟨⟨hF.os.trans h.only.os, hF.tape.trans h.only.tape, hF.output.trans h.only.output, Nat.le_trans hsz hF.size, fun k hk hne => ?_⟩, hr, h.segs, h.flat, ha, h.place, fun g hg => ?_⟩
  · refine (hF.block k (Nat.lt_of_lt_of_le hk hsz) (fun e => ?_) (fun e => ?_)).trans (h.only.block k hk hne)
    · rcases h.place with hp | hp
      · exact hne (by rw [e, hp])
      · omega
    · have := h.own k e.symm
      omega
  · rcases ho with ho | ho
    · exact h.own g (by rw [← ho]; exact hg)
    · have := ho g hg
      omega
theorem only_below {w wS wr : World} {R0 : Nat} (h : Only R0 wS wr) (hw : Below w.heap.size w wS) (hR : w.heap.size ≤ R0) : Below w.heap.size w wr :=
  ⟨h.os.trans hw.os, h.tape.trans hw.tape, h.output.trans hw.output, Nat.le_trans hw.size h.size, fun k hk => (h.block k (Nat.lt_of_lt_of_le hk hw.size) (fun e => by injection e with e; omega)).trans (hw.block k hk)⟩
theorem only_from {wS wr : World} {R0 B : Nat} (h : Only R0 wS wr) (hR : B ≤ R0) (hB : B ≤ wS.heap.size) : Below B wS wr :=
  ⟨h.os, h.tape, h.output, h.size, fun k hk => h.block k (by omega) (fun e => by injection e with e; omega)⟩
theorem isRun_only {wT w' : World} {G0 Rf : Nat} {fo : Int} {kv mv : Value} {ss : List (List (ByteArray × Int))} {M : List (ByteArray × Int)} (h : Pp.IsRun wT Rf fo kv ss mv M) (hR : Rf < G0) (hm : ∀ g, mv.ownBlock = some g → g ≠ G0) (ho : Only G0 wT w') : Pp.IsRun w' Rf fo kv ss mv M := by
  have b := only_from ho (Nat.le_of_lt hR) (Nat.le_of_lt h.blk.lt)
  refine ⟨(ho.block Rf h.blk.lt (fun e => by injection e with e; omega)).trans h.blk, fun w2 h2 => h.keys w2 (b.trans h2), ?_⟩
  exact h.row.kept (row := some G0) ⟨ho.os, ho.tape, ho.output, ho.size, fun k hk hne => ho.block k hk hne⟩ (by
    cases hv : mv.ownBlock with
    | none => exact .inl rfl
    | some g => right; intro e; injection e with e; exact hm g hv e)
theorem fresh_first {wr w' : World} {ls : List (List (ByteArray × Int))} {fo : Int} {R : Nat} {kv : Value} {Z : List (ByteArray × Int)} {ks : List ByteArray} {ss : List (List (ByteArray × Int))} (h : Pp.Fresh wr w' ls fo R kv Z ks ss) : (Pp.Grp.grp fo Z).length = ss.length ∧ ∀ (i : Nat) (hi : i < (Pp.Grp.grp fo Z).length), ks[i]? = some ((Pp.Grp.grp fo Z)[i]).1 := by
  obtain ⟨M, h1, h2, _⟩ := Pp.grp_segs fo h.segs
  rw [h.flat] at h1
  refine ⟨by have := Pp.segs_grp_len (kind := fo) h.segs; rw [h.flat] at this; exact this, fun i hi => ?_⟩
  subst h1
  rw [← h2, List.getElem?_map, List.getElem?_eq_getElem hi]
  rfl
end Go.Proofs.YtmgpacenooncjaaGreatDoor
/- Stops: a folder's step, and its stop. Written by tpl/mk_st.py. -/
namespace Go.Proofs.YtmgpacenooncjaaGreatDoor
open Go.ChangeShapes Go.WideShapes Go.ChangeAt Go.RowKit
set_option maxRecDepth 1000000 in
set_option maxHeartbeats 4000000 in
theorem stop_b3 (w wT : World) (P G0 Rg i ns xb sn sc sb soff kc mc a : Nat) (nn fo : Int) (jv : List Value) (ls ss : List (List (ByteArray × Int))) (Z : List (ByteArray × Int)) (ks : List ByteArray) (ko mo : Option Addr) (w0 : World) (K : Act → World → Prop) (s0 s1 s4 s5 s6 s7 s8 s9 s10 s11 s12 s13 s14 s15 s16 s18 s21 s22 s23 s24 s25 s26 s27 s28 s29 s30 s31 s32 s33 s34 s35 s36 s37 s38 s39 s40 s41 s42 s43 s44 s45 s46 s47 s48 s49 s50 s51 s52 s53 s54 s55 s56 s57 s58 s59 s60 s61 s62 s63 s64 s65 s66 s67 s68 s69 s70 s71 s72 s73 s74 s75 s76 s77 s78 s79 s80 s81 s82 s83 s84 s85 s86 s87 s88 s89 s90 s91 s92 s93 s94 s95 s96 s97 s98 s99 s100 s101 s102 s103 s104 s105 s106 s107 s108 s109 s110 s111 s112 s113 s114 s115 s116 s117 s118 s119 s120 s121 s122 s123 s124 s125 s126 s127 s128 s129 s130 s131 s132 s133 s134 s135 s136 s137 s138 s139 s140 s141 s142 s143 s144 s145 s146 s147 s148 s149 s150 s151 s152 s153 s154 s155 s156 s157 s158 s159 s160 s161 s162 s163 s164 s165 s166 s167 s168 s169 s170 s171 s172 s173 s174 s175 s176 s177 s178 s179 s180 s181 s182 s183 s184 s185 s186 s187 : Value)
    (HP : Hid (∀ w', Below w.heap.size w w' → Pp.Env w'))
    (hwT : Hid (Below w.heap.size w wT))
    (hG0 : w.heap.size ≤ G0 ∧ P < G0 ∧ G0 < wT.heap.size)
    (hX : Hid (∀ w', Below G0 wT w' → Pp.IsLists w' (.slice (some ⟨xb, 0, none⟩) ns ns) ls))
    (hls : Hid (ls.length = ns))
    (hn4 : ns ≤ 4)
    (hfl : Hid (ls.flatten.length ≤ 50000))
    (hZ : Hid (Z = Pp.Tot.srt ls.flatten))
    (hft : Hid (Pp.Fits (Pp.Grp.grp fo Z)))
    (hfo : Pp.kindB fo = true)
    (hPB : Hid (Blk wT P 24 jv))
    (hjv : jv[1]? = some (.int .i64 fo))
    (hst : w0.cell? ⟨sb, soff + i, none⟩ = some (.int .i64 nn))
    (hnn : -9223372036854775808 ≤ nn ∧ nn ≤ 9223372036854775807)
    (his : i < sn)
    (hM : GS wT w0 G0 Rg fo Z ko kc ss ks mo mc a)
    (HK : Hid (∀ (z6 z21 z22 z158 z159 z160 z161 z162 z163 z164 z165 z166 z167 z168 z169 z170 z171 z172 z173 z174 z175 z176 z177 z178 z179 z180 : Value) (R2 a2 mc2 kc2 : Nat) (ko2 mo2 : Option Addr) (ss2 : List (List (ByteArray × Int))) (ks2 : List ByteArray) (wx : World), GS wT wx G0 R2 fo Z ko2 kc2 ss2 ks2 mo2 mc2 a2 → K ⟨#[s0, s1, .slice (some ⟨sb, soff, none⟩) sn sc, .pointer (some ⟨P, 0, none⟩), s4, s5, z6, s7, s8, s9, s10, s11, s12, s13, s14, s15, s16, .slice (some ⟨xb, 0, none⟩) ns ns, s18, .pointer (some ⟨R2, 0, none⟩), .int .i64 (i : Int), z21, z22, s23, s24, s25, s26, s27, s28, s29, s30, s31, s32, s33, s34, s35, s36, s37, s38, s39, s40, s41, s42, s43, s44, s45, s46, s47, s48, s49, s50, s51, s52, s53, s54, s55, s56, s57, s58, s59, s60, s61, s62, s63, s64, s65, s66, s67, s68, s69, s70, s71, s72, s73, s74, s75, s76, s77, s78, s79, s80, s81, s82, s83, s84, s85, s86, s87, s88, s89, s90, s91, s92, s93, s94, s95, s96, s97, s98, s99, s100, s101, s102, s103, s104, s105, s106, s107, s108, s109, s110, s111, s112, s113, s114, s115, s116, s117, s118, s119, s120, s121, s122, s123, s124, s125, s126, s127, s128, s129, s130, s131, s132, s133, s134, s135, s136, s137, s138, s139, s140, s141, s142, s143, s144, s145, s146, s147, s148, s149, s150, s151, s152, s153, s154, s155, s156, s157, z158, z159, z160, z161, z162, z163, z164, z165, z166, z167, z168, z169, z170, z171, z172, z173, z174, z175, z176, z177, z178, z179, z180, s181, s182, s183, s184, s185, s186, s187], []⟩ wx)) :
    Code.wp Tryz.prog (pieceIn Tryz.f4.body 3) (Exit.then K fun _ _ _ => False) ⟨#[s0, s1, .slice (some ⟨sb, soff, none⟩) sn sc, .pointer (some ⟨P, 0, none⟩), s4, s5, s6, s7, s8, s9, s10, s11, s12, s13, s14, s15, s16, .slice (some ⟨xb, 0, none⟩) ns ns, s18, .pointer (some ⟨Rg, 0, none⟩), .int .i64 (i : Int), s21, s22, s23, s24, s25, s26, s27, s28, s29, s30, s31, s32, s33, s34, s35, s36, s37, s38, s39, s40, s41, s42, s43, s44, s45, s46, s47, s48, s49, s50, s51, s52, s53, s54, s55, s56, s57, s58, s59, s60, s61, s62, s63, s64, s65, s66, s67, s68, s69, s70, s71, s72, s73, s74, s75, s76, s77, s78, s79, s80, s81, s82, s83, s84, s85, s86, s87, s88, s89, s90, s91, s92, s93, s94, s95, s96, s97, s98, s99, s100, s101, s102, s103, s104, s105, s106, s107, s108, s109, s110, s111, s112, s113, s114, s115, s116, s117, s118, s119, s120, s121, s122, s123, s124, s125, s126, s127, s128, s129, s130, s131, s132, s133, s134, s135, s136, s137, s138, s139, s140, s141, s142, s143, s144, s145, s146, s147, s148, s149, s150, s151, s152, s153, s154, s155, s156, s157, s158, s159, s160, s161, s162, s163, s164, s165, s166, s167, s168, s169, s170, s171, s172, s173, s174, s175, s176, s177, s178, s179, s180, s181, s182, s183, s184, s185, s186, s187], []⟩ w0 := by
  have HORG : Hid (∀ (wr : World), Only G0 wT wr → Below w.heap.size w wr ∧ Below G0 wT wr) := fun wr h => ⟨only_below h hwT.out hG0.1, only_from h (Nat.le_refl _) (Nat.le_of_lt hG0.2.2)⟩
  have hzl : Z.length ≤ 50000 := by rw [hZ.out, Pp.Tot.srt_len]; exact hfl.out
  have HGL : Hid ((Pp.Grp.grp fo Z).length ≤ 50000) := Nat.le_trans (Pp.Grp.grp_len fo Z) hzl
  have hsl : ss.length ≤ 50000 := by
    have h1 := Pp.segs_grp_len (kind := fo) hM.segs
    rw [hM.flat] at h1
    have := HGL.out
    omega
  have SD1 := Lib.hid (Pp.step_any Rg a fo nn ko kc ss ks mo mc (Pp.Grp.grp fo Z) w0 hM.run (by rw [hM.flat]) hM.segs hM.ain (by omega) (by rw [hM.flat]; omega) hnn.1 hnn.2)
  have HM := Lib.hid hM
  have hiI : (i : Int) < (sn : Int) := by omega
  have HSL := Lib.hid hsl
  have HJV := Lib.hid hjv
  clear hM hnn hzl hsl hjv
  conv => arg 2; whnf
  go_wp2_with (go_at_call 27; refine Hid.out ?_)
  refine Lib.hid ?_
  refine SD1.out.mono ?_
  clear SD1
  rintro _ w1 ⟨a1, mo1, mc1, ha1, rfl, hr1, hF1, ho1⟩
  have HM1 := Lib.hid (HM.out.step hr1 (by have := HM.out.ain; omega) hF1 ho1)
  have NW := Lib.hid (Pp.new_ok fo (.slice (some ⟨xb, 0, none⟩) ns ns) ls w1 hfo (hX.out w1 (HORG.out w1 HM1.out.only).2) (by have := hls.out; omega) (by have := hfl.out; omega))
  have PB1 : Blk w1 P 24 jv := (HM1.out.only.block P hPB.out.lt (fun e => by injection e with e; omega)).trans hPB.out
  have c1 := PB1.at HJV.out
  clear PB1
  clear ha1 hr1 hF1 ho1 hst
  go_wp2_with (go_at_call 26; refine Hid.out ?_)
  refine Lib.hid ?_
  refine NW.out.mono ?_
  clear NW
  rintro _ w2 ⟨Rh, kv, Z', ks', ss', rfl, hF⟩
  obtain rfl : Z' = Z := by rw [hZ.out]; exact Pp.Tot.srt_eq hF.sorted hF.se
  have HM2 := Lib.hid (HM1.out.below hF.bel)
  have HFR := Lib.hid hF
  have HRS : Hid (wT.heap.size ≤ Rh) := Nat.le_trans HM1.out.only.size hF.low
  obtain ⟨tx, htx⟩ : ∃ tx, tx = Pp.bs (Pp.textL ((Pp.Grp.grp fo Z').take a1)) := ⟨_, rfl⟩
  have HFT : Hid (Pp.Fits ((Pp.Grp.grp fo Z').take a1)) := Pp.fits_take a1 hft.out
  have HTL : Hid (((Pp.Grp.grp fo Z').take a1).length ≤ 50000) := Nat.le_trans (List.length_take_le' _ _) HGL.out
  have SV := Lib.hid (Pp.save_any Rg fo (.slice ko ss.length kc) (.slice mo1 a1 mc1) ss ((Pp.Grp.grp fo Z').take a1) w2 (HP.out w2 (HORG.out w2 HM2.out.only).1) HM2.out.run HFT.out (by have := HTL.out; omega))
  rw [← htx] at SV
  have HTX := Lib.hid htx
  clear hF htx HM1 c1
  go_wp2_with (go_at_call 29; refine Hid.out ?_)
  refine Lib.hid ?_
  refine SV.out.mono ?_
  clear SV
  rintro _ w3 ⟨rfl, hb3⟩
  have HM3 := Lib.hid (HM2.out.below hb3)
  obtain ⟨hfl2, hfk⟩ := fresh_first HFR.out
  have hss' : ss'.length = ss.length := by
    have h1 := Pp.segs_grp_len (kind := fo) HM3.out.segs
    rw [HM3.out.flat] at h1
    omega
  obtain ⟨ko', kc', ekv⟩ : ∃ ko' kc', kv = .slice ko' ss'.length kc' := by
    obtain ⟨x, y, e, _⟩ := HFR.out.run.keys w2 (Below.refl _ _)
    exact ⟨x, y, e⟩
  subst ekv
  have hlt1 : ((Pp.Grp.grp fo Z').take a1).length = a1 := by rw [List.length_take]; have := HM3.out.ain; omega
  have LD := Lib.hid (Pp.load_any Rh fo ko' kc' (.slice none 0 0) ss' ks' [] ((Pp.Grp.grp fo Z').take a1) w3 (HP.out w3 (HORG.out w3 HM3.out.only).1) (HFR.out.run.blw hb3) HFR.out.segs HFT.out (fun i hi => by rw [List.getElem_take]; exact hfk i (by rw [List.length_take] at hi; omega)) (by rw [hlt1]; have := HM3.out.ain; omega) (by have := HSL.out; omega))
  rw [← HTX.out, hlt1] at LD
  have HA1 : Hid (a1 ≤ ss'.length) := by show _ ≤ _; have := HM3.out.ain; omega
  have HSG := Lib.hid HFR.out.segs
  have HFL := Lib.hid HFR.out.flat
  clear hb3 HM2 hfl2 hfk hss' hlt1 HFR
  go_wp2_with (go_at_call 28; refine Hid.out ?_)
  refine Lib.hid ?_
  refine LD.out.mono ?_
  clear LD
  rintro _ w4 ⟨lo, lc, rfl, hrl, hF4, hown4⟩
  have HM4 : Hid (GS wT w4 G0 Rh fo Z' ko' kc' ss' ks' lo lc a1) := by
    have h := HM3.out.only
    refine ⟨⟨hF4.os.trans h.os, hF4.tape.trans h.tape, hF4.output.trans h.output, Nat.le_trans h.size hF4.size, fun k hk hne => ?_⟩, hrl, HSG.out, HFL.out, HA1.out, .inr HRS.out, fun g hg => Nat.le_trans h.size (hown4 g hg)⟩
    exact (hF4.block k (Nat.lt_of_lt_of_le hk h.size) (by have := HRS.out; omega) (fun e => by cases e)).trans (h.block k hk hne)
  clear hrl hF4 hown4 HM3
  go_wp2
  exact HK.out _ _ _ _ _ _ _ _ _ _ _ _ _ _ _ _ _ _ _ _ _ _ _ _ _ _ Rh a1 lc kc' ko' lo ss' ks' w4 HM4.out
end Go.Proofs.YtmgpacenooncjaaGreatDoor
/- Stops: all steps of a folder. Written by tpl/mk_st.py. -/
namespace Go.Proofs.YtmgpacenooncjaaGreatDoor
open Go.ChangeShapes Go.WideShapes Go.ChangeAt Go.RowKit
set_option maxRecDepth 1000000 in
set_option maxHeartbeats 4000000 in
theorem stop_b2 (w wT : World) (P G0 Rg ns xb sn sc kc mc a : Nat) (fo : Int) (jv : List Value) (ls ss : List (List (ByteArray × Int))) (Z : List (ByteArray × Int)) (ks : List ByteArray) (ko mo sa : Option Addr) (steps : List Int) (w0 : World) (K : Act → World → Prop) (s0 s1 s4 s5 s6 s7 s8 s9 s10 s11 s12 s13 s14 s15 s16 s18 s21 s22 s23 s24 s25 s26 s27 s28 s29 s30 s31 s32 s33 s34 s35 s36 s37 s38 s39 s40 s41 s42 s43 s44 s45 s46 s47 s48 s49 s50 s51 s52 s53 s54 s55 s56 s57 s58 s59 s60 s61 s62 s63 s64 s65 s66 s67 s68 s69 s70 s71 s72 s73 s74 s75 s76 s77 s78 s79 s80 s81 s82 s83 s84 s85 s86 s87 s88 s89 s90 s91 s92 s93 s94 s95 s96 s97 s98 s99 s100 s101 s102 s103 s104 s105 s106 s107 s108 s109 s110 s111 s112 s113 s114 s115 s116 s117 s118 s119 s120 s121 s122 s123 s124 s125 s126 s127 s128 s129 s130 s131 s132 s133 s134 s135 s136 s137 s138 s139 s140 s141 s142 s143 s144 s145 s146 s147 s148 s149 s150 s151 s152 s153 s154 s155 s156 s157 s158 s159 s160 s161 s162 s163 s164 s165 s166 s167 s168 s169 s170 s171 s172 s173 s174 s175 s176 s177 s178 s179 s180 s181 s182 s183 s184 s185 s186 s187 : Value)
    (HP : Hid (∀ w', Below w.heap.size w w' → Pp.Env w'))
    (hwT : Hid (Below w.heap.size w wT))
    (hG0 : w.heap.size ≤ G0 ∧ P < G0 ∧ G0 < wT.heap.size)
    (hX : Hid (∀ w', Below G0 wT w' → Pp.IsLists w' (.slice (some ⟨xb, 0, none⟩) ns ns) ls))
    (hls : Hid (ls.length = ns))
    (hn4 : ns ≤ 4)
    (hfl : Hid (ls.flatten.length ≤ 50000))
    (hZ : Hid (Z = Pp.Tot.srt ls.flatten))
    (hft : Hid (Pp.Fits (Pp.Grp.grp fo Z)))
    (hfo : Pp.kindB fo = true)
    (hPB : Hid (Blk wT P 24 jv))
    (hjv : jv[1]? = some (.int .i64 fo))
    (HN : Hid (∀ w', Below w.heap.size w w' → IsNums w' (.slice sa sn sc) steps))
    (hsn : Hid (sn = steps.length))
    (hsi : Hid (∀ n ∈ steps, -9223372036854775808 ≤ n ∧ n ≤ 9223372036854775807))
    (hs20 : sn ≤ 20)
    (hM : GS wT w0 G0 Rg fo Z ko kc ss ks mo mc a)
    (HK : Hid (∀ (z6 z20 z21 z22 z152 z153 z154 z155 z156 z157 z158 z159 z160 z161 z162 z163 z164 z165 z166 z167 z168 z169 z170 z171 z172 z173 z174 z175 z176 z177 z178 z179 z180 : Value) (R2 a2 mc2 kc2 : Nat) (ko2 mo2 : Option Addr) (ss2 : List (List (ByteArray × Int))) (ks2 : List ByteArray) (wx : World), GS wT wx G0 R2 fo Z ko2 kc2 ss2 ks2 mo2 mc2 a2 → K ⟨#[s0, s1, .slice sa sn sc, .pointer (some ⟨P, 0, none⟩), s4, s5, z6, s7, s8, s9, s10, s11, s12, s13, s14, s15, s16, .slice (some ⟨xb, 0, none⟩) ns ns, s18, .pointer (some ⟨R2, 0, none⟩), z20, z21, z22, s23, s24, s25, s26, s27, s28, s29, s30, s31, s32, s33, s34, s35, s36, s37, s38, s39, s40, s41, s42, s43, s44, s45, s46, s47, s48, s49, s50, s51, s52, s53, s54, s55, s56, s57, s58, s59, s60, s61, s62, s63, s64, s65, s66, s67, s68, s69, s70, s71, s72, s73, s74, s75, s76, s77, s78, s79, s80, s81, s82, s83, s84, s85, s86, s87, s88, s89, s90, s91, s92, s93, s94, s95, s96, s97, s98, s99, s100, s101, s102, s103, s104, s105, s106, s107, s108, s109, s110, s111, s112, s113, s114, s115, s116, s117, s118, s119, s120, s121, s122, s123, s124, s125, s126, s127, s128, s129, s130, s131, s132, s133, s134, s135, s136, s137, s138, s139, s140, s141, s142, s143, s144, s145, s146, s147, s148, s149, s150, s151, z152, z153, z154, z155, z156, z157, z158, z159, z160, z161, z162, z163, z164, z165, z166, z167, z168, z169, z170, z171, z172, z173, z174, z175, z176, z177, z178, z179, z180, s181, s182, s183, s184, s185, s186, s187], []⟩ wx)) :
    Code.wp Tryz.prog (pieceIn Tryz.f4.body 2) (Exit.then K fun _ _ _ => False) ⟨#[s0, s1, .slice sa sn sc, .pointer (some ⟨P, 0, none⟩), s4, s5, s6, s7, s8, s9, s10, s11, s12, s13, s14, s15, s16, .slice (some ⟨xb, 0, none⟩) ns ns, s18, .pointer (some ⟨Rg, 0, none⟩), .int .i64 0, s21, s22, s23, s24, s25, s26, s27, s28, s29, s30, s31, s32, s33, s34, s35, s36, s37, s38, s39, s40, s41, s42, s43, s44, s45, s46, s47, s48, s49, s50, s51, s52, s53, s54, s55, s56, s57, s58, s59, s60, s61, s62, s63, s64, s65, s66, s67, s68, s69, s70, s71, s72, s73, s74, s75, s76, s77, s78, s79, s80, s81, s82, s83, s84, s85, s86, s87, s88, s89, s90, s91, s92, s93, s94, s95, s96, s97, s98, s99, s100, s101, s102, s103, s104, s105, s106, s107, s108, s109, s110, s111, s112, s113, s114, s115, s116, s117, s118, s119, s120, s121, s122, s123, s124, s125, s126, s127, s128, s129, s130, s131, s132, s133, s134, s135, s136, s137, s138, s139, s140, s141, s142, s143, s144, s145, s146, s147, s148, s149, s150, s151, s152, s153, s154, s155, s156, s157, s158, s159, s160, s161, s162, s163, s164, s165, s166, s167, s168, s169, s170, s171, s172, s173, s174, s175, s176, s177, s178, s179, s180, s181, s182, s183, s184, s185, s186, s187], []⟩ w0 := by
  have HM := Lib.hid hM
  have HJV := Lib.hid hjv
  clear hM hjv
  conv => arg 2; whnf
  go_wp2_with fail
  go_loopg [19, 20] sn (fun gg bv iv wr => ∃ (i R a mc kc : Nat) (ko mo : Option Addr) (ss : List (List (ByteArray × Int))) (ks : List ByteArray), gg = sn - i ∧ i ≤ sn ∧ bv = .pointer (some ⟨R, 0, none⟩) ∧ iv = .int .i64 i ∧ Hid (GS wT wr G0 R fo Z ko kc ss ks mo mc a))
  case atStart => exact ⟨0, Rg, a, mc, kc, ko, mo, ss, ks, rfl, Nat.zero_le _, rfl, rfl, HM⟩
  case round =>
    clear HM
    obtain ⟨i, R, a, mc, kc, ko, mo, ss, ks, hgi, hi, rfl, rfl, HM⟩ := hrel
    have HGI := Lib.hid hgi
    clear hgi
    by_cases hlt : i < sn
    · have hN := HN.out wr (only_below HM.out.only hwT.out hG0.1)
      obtain ⟨a', c', e, hc⟩ := hN
      obtain ⟨sb, soff, rfl, c0⟩ := hc i (by rw [← hsn.out]; exact hlt)
      injection e with e1 e2 e3
      subst e1 e3
      have hri := hsi.out _ (List.getElem_mem (by rw [← hsn.out]; exact hlt))
      have HC0 := Lib.hid c0
      have HRI := Lib.hid hri
      have HLT := Lib.hid hlt
      clear hc c0 hri e2
      go_upto_block 3 with fail
      refine wp_norm (stop_b3 w wT P G0 R i ns xb sn sc _ _ kc mc a _ fo jv ls ss Z ks ko mo _ _ _ _ _ _ _ _ _ _ _ _ _ _ _ _ _ _ _ _ _ _ _ _ _ _ _ _ _ _ _ _ _ _ _ _ _ _ _ _ _ _ _ _ _ _ _ _ _ _ _ _ _ _ _ _ _ _ _ _ _ _ _ _ _ _ _ _ _ _ _ _ _ _ _ _ _ _ _ _ _ _ _ _ _ _ _ _ _ _ _ _ _ _ _ _ _ _ _ _ _ _ _ _ _ _ _ _ _ _ _ _ _ _ _ _ _ _ _ _ _ _ _ _ _ _ _ _ _ _ _ _ _ _ _ _ _ _ _ _ _ _ _ _ _ _ _ _ _ _ _ _ _ _ _ _ _ _ _ _ _ _ _ _ _ _ _ _ _ _ _ _ _ _ _ _ _ _ _ _ _ _ _ _ _ HP hwT hG0 hX hls hn4 hfl hZ hft hfo hPB HJV.out HC0.out HRI.out HLT.out HM.out ?_)
      refine Lib.hid ?_
      intro z6 z21 z22 z158 z159 z160 z161 z162 z163 z164 z165 z166 z167 z168 z169 z170 z171 z172 z173 z174 z175 z176 z177 z178 z179 z180 R2 a2 mc2 kc2 ko2 mo2 ss2 ks2 wx hMx
      have HMX := Lib.hid hMx
      clear hMx HM
      go_wp2
      go_roundg (sn - (i + 1))
      case measure => have := HGI.out; have := HLT.out; omega
      case rel => exact ⟨i + 1, R2, a2, mc2, kc2, ko2, mo2, ss2, ks2, rfl, HLT.out, rfl, by go_num, HMX⟩
    · go_wp2
      exact HK.out _ _ _ _ _ _ _ _ _ _ _ _ _ _ _ _ _ _ _ _ _ _ _ _ _ _ _ _ _ _ _ _ _ R a mc kc ko mo ss ks wr HM.out
end Go.Proofs.YtmgpacenooncjaaGreatDoor
/- Stops: a folder's run survives another one's first step. -/
namespace Go.Proofs.YtmgpacenooncjaaGreatDoor
open Go.ChangeShapes Go.WideShapes Go.ChangeAt Go.RowKit
theorem segs_ne {ks : List ByteArray} {ss : List (List (ByteArray × Int))} (h : Pp.Segs ks ss) : ∀ s ∈ ss, s ≠ [] := by
  intro s hs
  obtain ⟨i, hi, rfl⟩ := List.getElem_of_mem hs
  obtain ⟨p, t, e, _⟩ := Pp.segs_key h i hi
  rw [e]
  simp
/-- The world, its blocks from one on emptied. -/
def blank (w : World) (R : Nat) : World := { w with heap := w.heap.mapIdx fun k o => if k < R then o else .cells #[] 0 (0, 0) }
theorem blank_below (w : World) (R : Nat) : Below R w (blank w R) := by
  refine ⟨rfl, rfl, rfl, ?_, fun k hk => ?_⟩
  · unfold blank; simp
  · unfold blank
    simp only [Array.getElem?_mapIdx, if_pos hk]
    cases w.heap[k]? <;> rfl
theorem blank_cell {w : World} {R : Nat} {b off : Nat} {v : Value} (h : (blank w R).cell? ⟨b, off, none⟩ = some v) : b < R ∧ w.cell? ⟨b, off, none⟩ = some v := by
  have hb : b < R := by
    rcases Nat.lt_or_ge b R with h1 | h1
    · exact h1
    · exfalso
      have e : (blank w R).heap[b]? = none ∨ (blank w R).heap[b]? = some (.cells #[] 0 (0, 0)) := by
        unfold blank
        simp only [Array.getElem?_mapIdx, if_neg (show ¬ b < R by omega)]
        cases w.heap[b]? with
        | none => exact .inl rfl
        | some o => exact .inr rfl
      rcases e with e | e
      · have := World.block_lt_of_cell? _ _ h
        simp only at this
        rw [Array.getElem?_eq_none_iff] at e
        omega
      · rw [cell_of_row _ b off _ _ (0, 0) e] at h
        simp at h
  refine ⟨hb, ?_⟩
  rw [← h]
  exact (World.cell?_of_block (a := ⟨b, off, none⟩) ((blank_below w R).block b hb)).symm
theorem isRun_apart {w w' : World} {R S : Nat} {fo x : Int} {kv kvf mv : Value} {ss ssf : List (List (ByteArray × Int))} {M : List (ByteArray × Int)} {ks : List ByteArray} (h : Pp.IsRun w R fo kv ss mv M) (hk : Pp.Segs ks ss) (hF : Pp.Fr w w' S none) (hSR : S ≠ R)
    (hS : Blk w S 103 [.int .i64 x, kvf, .slice none 0 0]) (hkf : Pp.IsLists w kvf ssf) (hsf : ss ≠ [] → ssf ≠ []) (hm : ∀ g, mv.ownBlock = some g → g ≠ S) : Pp.IsRun w' R fo kv ss mv M := by
  have hRl := h.blk.lt
  have cellS : ∀ i v, w.cell? ⟨S, i, none⟩ = some v → v = .int .i64 x ∨ v = kvf ∨ v = .slice none 0 0 := fun i v hv => by
    rw [hS.cell] at hv
    have := List.mem_of_getElem? hv
    simpa using this
  refine ⟨(hF.block R hRl (fun e => hSR e.symm) (by simp)).trans h.blk, fun w2 h2 => ?_, ?_⟩
  · obtain ⟨a, c, rfl, hc⟩ := h.keys (blank w R) (blank_below w R)
    have same : ∀ b off v, (blank w R).cell? ⟨b, off, none⟩ = some v → b ≠ S → w2.cell? ⟨b, off, none⟩ = some v := fun b off v hv hb => by
      obtain ⟨h3, h4⟩ := blank_cell hv
      have h5 : w2.heap[b]? = w.heap[b]? := (h2.block b h3).trans (hF.block b (by have := World.block_lt_of_cell? _ _ h4; simpa using this) hb (by simp))
      rw [World.cell?_of_block (a := ⟨b, off, none⟩) h5]
      exact h4
    refine ⟨a, c, rfl, fun i hi => ?_⟩
    obtain ⟨b, off, u, ha, cu, hu⟩ := hc i hi
    have hne : ss[i] ≠ [] := segs_ne hk _ (List.getElem_mem hi)
    have hpos : 0 < (ss[i]).length := List.length_pos_iff.2 hne
    obtain ⟨a1, c1, rfl, hp⟩ := hu
    obtain ⟨b1, o1, rfl, q0, -⟩ := hp 0 hpos
    have hb1 : b1 ≠ S := fun e => by
      subst e
      rcases cellS _ _ (blank_cell q0).2 with e | e | e
      · cases e
      · obtain ⟨x1, x2, e2, _⟩ := hkf
        rw [← e] at e2
        cases e2
      · cases e
    have hb : b ≠ S := fun e => by
      subst e
      rcases cellS _ _ (blank_cell cu).2 with e | e | e
      · cases e
      · obtain ⟨x1, x2, e2, hcf⟩ := hkf
        have hsn : ssf ≠ [] := hsf (fun e => by rw [e] at hi; simp at hi)
        obtain ⟨b3, o3, u3, e3, c3, a4, c4, e4, _⟩ := hcf 0 (List.length_pos_iff.2 hsn)
        rw [← e] at e2
        injection e2 with e2
        rw [← e2] at e3
        injection e3 with e3
        injection e3 with e3 e5
        subst e3 e5
        have h6 := (blank_cell q0).2
        rw [show o1 + 0 * 2 = o1 + 0 by omega] at h6
        rw [h6] at c3
        injection c3 with c3
        rw [← c3] at e4
        cases e4
      · cases e
    refine ⟨b, off, _, ha, same _ _ _ cu hb, ⟨_, c1, rfl, fun j hj => ?_⟩⟩
    obtain ⟨b2, o2, e2, q2, q3⟩ := hp j hj
    injection e2 with e2
    injection e2 with e2 e3
    subst e2 e3
    exact ⟨b1, o1, rfl, same _ _ _ q2 hb1, same _ _ _ q3 hb1⟩
  · refine h.row.kept (row := some S) ⟨hF.os, hF.tape, hF.output, hF.size, fun k hk hne => hF.block k hk (fun e => hne (by rw [e])) (by simp)⟩ ?_
    cases hv : mv.ownBlock with
    | none => exact .inl rfl
    | some g => right; intro e; injection e with e; exact hm g hv e
theorem isMR_only {wT w' : World} {G0 Ra done : Nat} {j : Jb} {rv lv mv : Value} {lines : List (List UInt8)} {M : List (ByteArray × Int)} (h : IsMR wT Ra j rv lv lines done mv M) (hR : Ra < G0) (hm : ∀ g, mv.ownBlock = some g → g ≠ G0) (ho : Only G0 wT w') : IsMR w' Ra j rv lv lines done mv M := by
  have b := only_from ho (Nat.le_of_lt hR) (Nat.le_of_lt h.blk.lt)
  refine ⟨(ho.block Ra h.blk.lt (fun e => by injection e with e; omega)).trans h.blk, fun w2 h2 => h.rules w2 (b.trans h2), fun w2 h2 => h.lines w2 (b.trans h2), ?_⟩
  exact h.row.kept fun g hg => ho.block g (h.row.lt g hg).2 (fun e => hm g hg (Option.some.inj e))
end Go.Proofs.YtmgpacenooncjaaGreatDoor
/- Contract of threshfloorref.SameSlices: lists that are the same. -/
namespace Go.Proofs.YtmgpacenooncjaaGreatDoor
open Go.ChangeShapes Go.WideShapes Go.ChangeAt Go.RowKit
set_option maxRecDepth 100000 in
set_option maxHeartbeats 1000000 in
theorem sameSlices_same (v u : Value) (ls : List (List (ByteArray × Int))) (w : World) (h : Pp.IsLists w v ls) (h' : Pp.IsLists w u ls) (hl : ∀ l ∈ ls, l.length ≤ 1000000) (hn : ls.length ≤ 1000) :
    Calls Tryz.prog 20 #[v, u] w fun e w' => e = .returned (.bool true) ∧ Below w.heap.size w w' := by
  have H := Lib.hid h
  have H' := Lib.hid h'
  have HL := Lib.hid hl
  obtain ⟨a, c, rfl, -⟩ := h
  obtain ⟨a', c', rfl, -⟩ := h'
  obtain ⟨n, hnn⟩ : ∃ n, n = ls.length := ⟨_, rfl⟩
  rw [← hnn] at H H' hn ⊢
  have HN := Lib.hid hnn
  clear hl hnn
  go_enter Tryz.func20, Tryz.ntmps20
  go_wp2_with fail
  go_loopg [5] n (fun gg iv wr => ∃ i : Nat, gg = n - i ∧ i ≤ n ∧ iv = .int .i64 i ∧ Below w.heap.size w wr)
  case atStart => exact ⟨0, rfl, Nat.zero_le _, rfl, Below.refl _ _⟩
  case round =>
    obtain ⟨i, hgi, hi, rfl, hb⟩ := hrel
    have HGI := Lib.hid hgi
    have HB := Lib.hid hb
    clear hgi
    by_cases hlt : i < n
    · have hil : i < ls.length := by have := HN.out; omega
      obtain ⟨x1, y1, e1, hc1⟩ := lists_below H.out hb
      obtain ⟨x2, y2, e2, hc2⟩ := lists_below H'.out hb
      obtain ⟨b1, o1, u1, q1, c1, p1⟩ := hc1 i hil
      obtain ⟨b2, o2, u2, q2, c2, p2⟩ := hc2 i hil
      rw [Value.slice.injEq] at e1 e2
      obtain ⟨e1, -, -⟩ := e1
      obtain ⟨e2, -, -⟩ := e2
      rw [← e1] at q1
      rw [← e2] at q2
      subst q1 q2
      have SP : Hid (∀ w', Below wr.heap.size wr w' → Calls Tryz.prog 17 #[u1, u2] w' fun e w'' => e = .returned (.bool true) ∧ Below w'.heap.size w' w'') := fun w' hb' => by
        refine (Pp.samePairs_any u1 u2 ls[i] ls[i] w' (Pp.isPairs_below p1 hb') (Pp.isPairs_below p2 hb') (by have := HL.out _ (List.getElem_mem hil); unfold maxLen; omega)).mono ?_
        rintro e w'' ⟨rfl, k, rfl⟩
        exact ⟨by rw [decide_eq_true rfl], below_drewN _ _⟩
      obtain ⟨a1, d1, rfl, -⟩ := p1
      obtain ⟨a2, d2, rfl, -⟩ := p2
      have HLT := Lib.hid hlt
      clear hc1 hc2 hb e1 e2
      go_upto_region 6 with fail
      go_region_with (go_at_call 17; refine (SP.out _ (by first | exact Below.refl _ _ | exact Pp.blw_drew (Below.refl _ _))).mono ?_; rintro _ w1 ⟨rfl, hb1⟩; have HB1 : Hid (Below w.heap.size w w1) := (by first | exact below_trans HB.out hb1 | exact below_trans HB.out (below_trans (Pp.blw_drew (Below.refl _ _)) hb1)); clear hb1 c1 c2)
      all_goals
        (try simp only [Exit.then])
        go_wp2
        go_roundg (n - (i + 1))
        case measure => have := HGI.out; have := HLT.out; omega
        case rel => exact ⟨i + 1, rfl, HLT.out, by go_num, HB1.out⟩
    · go_wp2
      go_ret
      exact ⟨rfl, HB.out⟩
end Go.Proofs.YtmgpacenooncjaaGreatDoor
/- Stops: the walk of TopStop. Written by tpl/mk_st.py. -/
namespace Go.Proofs.YtmgpacenooncjaaGreatDoor
open Go.ChangeShapes Go.WideShapes Go.ChangeAt Go.RowKit
set_option maxRecDepth 1000000 in
set_option maxHeartbeats 8000000 in
theorem topStop_walk (SD : StepDoes) (j : Jb) (a : Option Addr) (cap : Nat) (la : Option Addr) (lc : Nat) (lines : List (List UInt8)) (sa : Option Addr) (sc : Nat) (steps : List Int) (w : World) (E : EnvS w) (EP : Pp.Env w) (h : IsRules w (.slice a j.rules.length cap) j.rules) (hw : rulesWt j.rules ≤ 1000000000) (hv : IsTexts w (.slice la lines.length lc) (lines.map bs)) (hll : lines.length ≤ 1000000000)
    (hs : IsNums w (.slice sa steps.length sc) steps) (hsi : ∀ n ∈ steps, -9223372036854775808 ≤ n ∧ n ≤ 9223372036854775807) (hsl : steps.length ≤ 1000000000) :
    Calls Tryz.prog 4 #[j.value (.slice a j.rules.length cap), .slice la lines.length lc, .slice sa steps.length sc] w fun e w' => e = .returned (.bool true) ∧ Below w.heap.size w w' := by
  have LJ := Lib.hid (fun w h => lightJob_any j (.slice a j.rules.length cap) w h hw)
  have CK := Lib.hid (fun w h E => jobCheck_any j (.slice a j.rules.length cap) w h hw E)
  have LT := Lib.hid (fun w' (hb : Below w.heap.size w w') => lightTexts_any (.slice la lines.length lc) (lines.map bs) 60 120 w' (IsTexts.below hv hb) (by unfold maxLen; rw [List.length_map]; omega))
  have HV : Hid (∀ w', Below w.heap.size w w' → IsTexts w' (.slice la lines.length lc) (lines.map bs)) := fun w' hb => IsTexts.below hv hb
  have HE : Hid (∀ w', Below w.heap.size w w' → EnvS w') := fun w' hb => E.lower hb
  have HP : Hid (∀ w', Below w.heap.size w w' → Pp.Env w') := fun w' hb => EP.below hb
  have H : Hid (∀ w', Below w.heap.size w w' → IsRules w' (.slice a j.rules.length cap) j.rules) := fun w' hb => h.lower hb
  have HN : Hid (∀ w', Below w.heap.size w w' → IsNums w' (.slice sa steps.length sc) steps) := fun w' hb => hs.below hb
  have HSI := Lib.hid hsi
  have HSD := Lib.hid SD
  obtain ⟨f, hf⟩ : ∃ f, f = jobFault j := ⟨_, rfl⟩
  rw [← hf] at CK
  have HF := Lib.hid hf
  obtain ⟨l, fo, ea, sl⟩ := j
  simp only [Jb.value] at *
  rw [List.length_map] at LT
  obtain ⟨ln, hln⟩ : ∃ ln, ln = lines.length := ⟨_, rfl⟩
  rw [← hln] at LT HV ⊢
  have HLN : Hid (ln = lines.length) := hln
  obtain ⟨sn, hsn⟩ : ∃ sn, sn = steps.length := ⟨_, rfl⟩
  rw [← hsn] at HN hsl ⊢
  have HSN : Hid (sn = steps.length) := hsn
  obtain ⟨rn, hrn⟩ : ∃ rn, rn = l.length := ⟨_, rfl⟩
  rw [← hrn] at LJ CK H ⊢
  clear hrn hln hsn hf h E EP hv hs hsi SD
  obtain ⟨w0, hw0⟩ : ∃ w0, w0 = w.alloc (.cells #[.slice a rn cap, .int .i64 fo, .bool ea, .int .i64 sl] 24) := ⟨_, rfl⟩
  have hs0 : w0.heap.size = w.heap.size + 1 := by rw [hw0]; simp
  have hb0 : Below w.heap.size w w0 := by rw [hw0]; exact below_box _
  have JB0 : Blk w0 w.heap.size 24 [.slice a rn cap, .int .i64 fo, .bool ea, .int .i64 sl] := by rw [hw0]; exact blk_new rfl
  obtain ⟨w1, hw1⟩ : ∃ w1, w1 = w0.alloc (.cells #[.bool false, .int .i64 0, .int .i64 0, .int .i64 0, .string ⟨#[]⟩, .slice none 0 0, .string ⟨#[]⟩, .int .i64 2, .int .i64 0, .string ⟨#[]⟩, .slice none 0 0, .int .i64 9, .int .i64 0, .string ⟨#[]⟩, .slice none 0 0] 58) := ⟨_, rfl⟩
  have hB : Blk w1 (w.heap.size + 1) 58 [.bool false, .int .i64 0, .int .i64 0, .int .i64 0, .string ⟨#[]⟩, .slice none 0 0, .string ⟨#[]⟩, .int .i64 2, .int .i64 0, .string ⟨#[]⟩, .slice none 0 0, .int .i64 9, .int .i64 0, .string ⟨#[]⟩, .slice none 0 0] := by rw [hw1]; exact blk_new hs0.symm
  obtain ⟨w2, hw2⟩ : ∃ w2, w2 = w1.alloc (.cells #[.string ⟨#[97]⟩] 9) := ⟨_, rfl⟩
  have hs1 : w1.heap.size = w.heap.size + 2 := by rw [hw1]; simp [hs0]
  have hb1 : Below w0.heap.size w0 w1 := by rw [hw1]; exact below_box _
  have hb12 : Below w1.heap.size w1 w2 := by rw [hw2]; exact below_box _
  have hb02 := below_trans hb1 hb12
  have hb2 := below_trans hb0 hb02
  have hR : IsRules w2 (.slice (some ⟨w.heap.size + 1, 0, none⟩) 1 1) litJb.rules := by
    have hB2 := hB.blw hb12
    refine ⟨_, 1, w.heap.size + 1, 0, fun _ => .slice none 0 0, fun _ => .slice none 0 0, fun _ => .slice none 0 0, rfl, fun _ => rfl, fun i x hx => ?_⟩
    have hk : i = 0 ∧ litRl = x := by
      cases i with
      | zero => simpa [litJb] using hx
      | succ i => simp [litJb] at hx
    obtain ⟨rfl, rfl⟩ := hk
    refine ⟨⟨hB2.at rfl, hB2.at rfl, hB2.at rfl, hB2.at rfl, hB2.at rfl, hB2.at rfl, hB2.at rfl, hB2.at rfl, hB2.at rfl, hB2.at rfl, hB2.at rfl, hB2.at rfl, hB2.at rfl, hB2.at rfl, hB2.at rfl⟩, nilEx _ _, nilEx _ _, nilEx _ _⟩
  have hT : IsTexts w2 (.slice (some ⟨w.heap.size + 2, 0, none⟩) 1 1) ([[97]].map bs) := by
    have hB2 : Blk w2 (w.heap.size + 2) 9 [.string ⟨#[97]⟩] := by rw [hw2]; exact blk_new hs1.symm
    refine ⟨_, 1, rfl, fun i hi => ⟨w.heap.size + 2, 0, rfl, ?_⟩⟩
    have e : i = 0 := by simp at hi; omega
    subst e
    exact hB2.at rfl
  have NW0 := Lib.hid (new_ok litJb (.slice (some ⟨w.heap.size + 1, 0, none⟩) 1 1) (.slice (some ⟨w.heap.size + 2, 0, none⟩) 1 1) [[97]] w2 hR (by have := litJb_wt; decide +kernel) litJb_fault hT (by decide) (HE.out w2 hb2))
  unfold MadeNew at NW0
  simp only [litJb, Jb.value] at NW0
  have HB2 := Lib.hid hb2
  have JB2 := Lib.hid (JB0.blw hb02)
  rw [hw1, hw0] at hw2
  have HW2 := Lib.hid hw2
  clear hw1 hw2 hw0 hB hs0 hs1 hb0 hb1 hb12 hb02 hb2 hR hT JB0
  go_enter Tryz.func4, Tryz.ntmps4
  go_wp2_with (go_at_call 14; refine Hid.out ?_)
  rw [← HW2.out]
  refine Lib.hid ?_
  refine NW0.out.mono ?_
  clear NW0 HW2
  rintro _ w3 ⟨R1, rv1, lv1, rfl, hm1, hlow1, hb3⟩
  have HB3 := Lib.hid (below_trans HB2.out hb3)
  have JB3 := Lib.hid (JB2.out.blw hb3)
  have S1 := Lib.hid (HSD.out R1 0 1 ⟨[litRl], 1, false, 1⟩ rv1 lv1 (.slice none 0 0) [[97]] w3 hm1 ⟨litJb_fault, (by have := litJb_wt; exact this), by decide, by decide, fun w' hb' => HE.out w' (HB3.out.trans (hb'.mono (Nat.le_trans HB2.out.size hlow1)))⟩ (Nat.zero_le _) (by decide) (by decide))
  have HLR1 : Hid (w.heap.size < R1) := by show _ < _; have h1 := JB2.out.lt; omega
  clear hm1 hlow1 hb3 HB2 JB2
  go_wp2_with (go_at_call 15; refine Hid.out ?_)
  refine Lib.hid ?_
  refine S1.out.mono ?_
  clear S1
  rintro _ w4 ⟨d1, mv1, hd1, rfl, -, hF1, -⟩
  have hd1e : d1 = 1 := by rw [hd1]; rfl
  subst hd1e
  have HB4 := Lib.hid (HB3.out.trans (hF1.below HB3.out.size (Nat.le_of_lt HLR1.out) (fun b hb => by cases hb)))
  have JB4 : Hid (Blk w4 w.heap.size 24 [.slice a rn cap, .int .i64 fo, .bool ea, .int .i64 sl]) := by
    show Blk _ _ _ _
    exact (hF1.block w.heap.size JB3.out.lt (by have := HLR1.out; omega) (fun e => by cases e)).trans JB3.out
  have hde : decide (1 = ([[97]] : List (List UInt8)).length) = true := rfl
  rw [hde]
  have k0 := JB4.out.at (i := 0) (v := .slice a rn cap) rfl
  have k1 := JB4.out.at (i := 1) (v := .int .i64 fo) rfl
  have k2 := JB4.out.at (i := 2) (v := .bool ea) rfl
  have k3 := JB4.out.at (i := 3) (v := .int .i64 sl) rfl
  clear hd1 hF1 hde HB3 JB3
  go_wp2_with (go_at_call 7; refine Hid.out ?_)
  refine Lib.hid ?_
  refine (LJ.out w4 (H.out _ HB4.out)).mono ?_
  rintro _ w5 ⟨g, rfl, hb5⟩
  have HB5 := Lib.hid (below_trans HB4.out hb5)
  have JB5 := Lib.hid (JB4.out.blw hb5)
  clear k0 k1 k2 k3 JB4 HB4 hb5 LJ
  cases g with
  | false =>
    go_wp2
    go_ret
    exact ⟨rfl, HB5.out⟩
  | true =>
  have LT2 := Lib.hid (LT.out w5 HB5.out)
  obtain ⟨lt, hlt⟩ : ∃ lt, lt = (decide ((ln : Int) ≤ 60) && lightT (lines.map bs) 120) := ⟨_, rfl⟩
  rw [← hlt] at LT2
  have HLT := Lib.hid hlt
  clear hlt LT
  go_wp2_with (go_at_call 8; refine Hid.out ?_)
  refine Lib.hid ?_
  refine LT2.out.mono ?_
  rintro _ w6 ⟨rfl, h6⟩
  rw [h6]
  clear h6 w6 LT2
  cases lt with
  | false =>
    go_wp2
    go_ret
    exact ⟨rfl, HB5.out⟩
  | true =>
  have h60 : ln ≤ 60 := by
    have h := HLT.out.symm
    rw [Bool.and_eq_true, decide_eq_true_eq] at h
    omega
  have HLO : Hid (∀ x ∈ lines, x.length ≤ 120) := fun x hx => by
    have h := HLT.out.symm
    rw [Bool.and_eq_true] at h
    have h2 := h.2
    unfold lightT at h2
    rw [List.all_eq_true] at h2
    have := of_decide_eq_true (h2 (bs x) (List.mem_map.2 ⟨x, hx, rfl⟩))
    rw [bs_size] at this
    omega
  by_cases h20 : 20 < sn
  · have h20i : (20 : Int) < (sn : Int) := by omega
    go_wp2
    go_ret
    exact ⟨rfl, HB5.out⟩
  have h20i : ¬ (20 : Int) < (sn : Int) := by omega
  have k0 := JB5.out.at (i := 0) (v := .slice a rn cap) rfl
  have k1 := JB5.out.at (i := 1) (v := .int .i64 fo) rfl
  have k2 := JB5.out.at (i := 2) (v := .bool ea) rfl
  have k3 := JB5.out.at (i := 3) (v := .int .i64 sl) rfl
  go_wp2_with (go_at_call 25; refine Hid.out ?_)
  refine Lib.hid ?_
  refine (CK.out w5 (H.out _ HB5.out) (HE.out _ HB5.out)).mono ?_
  rintro _ w7 ⟨rfl, hb7⟩
  have HB7 := Lib.hid (below_trans HB5.out hb7)
  have JB7 := Lib.hid (JB5.out.blw hb7)
  clear k0 k1 k2 k3 JB5 HB5 hb7 CK HLT
  rcases (errV_cases f).symm with ⟨h0, hvv⟩ | ⟨h0, hvv⟩
  · rw [hvv]
    go_wp2
    go_ret
    exact ⟨rfl, HB7.out⟩
  rw [hvv]
  have HJF : Hid (jobFault ⟨l, fo, ea, sl⟩ = 0) := by show _ = _; rw [← HF.out]; exact h0
  obtain ⟨-, hr4, hk1, hk4, hs1, hs4, -⟩ := jobFault_parts HJF.out
  simp only at hr4 hk1 hk4 hs1 hs4
  obtain ⟨ns, rfl⟩ : ∃ ns : Nat, sl = (ns : Int) := ⟨sl.toNat, by omega⟩
  have hn1 : 1 ≤ ns := by omega
  have hn4 : ns ≤ 4 := by omega
  have hs20 : sn ≤ 20 := by omega
  have hn6 : lines.length ≤ 60 := by rw [← HLN.out]; exact h60
  have HKF : Hid (Pp.kindB fo = true) := by show _ = _; unfold Pp.kindB; simp; omega
  have hjs := job_small HJF.out
  have NEW : Hid (∀ w', Below w.heap.size w w' → Calls Tryz.prog 14 #[.agg #[.slice a rn cap, .int .i64 fo, .bool ea, .int .i64 (ns : Int)], .slice la ln lc] w' fun e w'' => ∃ B R rv lv, e = .returned (.tuple #[.pointer (some ⟨R, 0, none⟩), .nilIface]) ∧ Hid (w'.heap.size ≤ B) ∧ Hid (IsMR w'' R ⟨l, fo, ea, (ns : Int)⟩ rv lv lines 0 (.slice none 0 0) []) ∧ Hid (MRheld B w'' R ⟨l, fo, ea, (ns : Int)⟩ rv lv lines) ∧ Below w'.heap.size w' w'') := fun w' hb => by
    refine (new_ok2 ⟨l, fo, ea, (ns : Int)⟩ (.slice a rn cap) (.slice la ln lc) lines w' (H.out _ hb) (by omega) HJF.out (HV.out _ hb) hn6 (HE.out _ hb)).mono ?_
    rintro e w'' ⟨R, rv, lv, h1, h2, h3, h4⟩
    exact ⟨_, R, rv, lv, h1, Nat.le_refl _, h2, h3, h4⟩
  have MIN : Hid (∀ (wr : World) (R : Nat), Below w.heap.size w wr → w.heap.size ≤ R → MRin wr R ⟨l, fo, ea, (ns : Int)⟩ lines) := fun wr R hb hR =>
    ⟨HJF.out, by simp only at hjs ⊢; omega, hn6, fun x hx => by have := HLO.out x hx; omega, fun w' hb' => HE.out w' (hb.trans (hb'.mono hR))⟩
  have k0 := JB7.out.at (i := 0) (v := .slice a rn cap) rfl
  have k1 := JB7.out.at (i := 1) (v := .int .i64 fo) rfl
  have k2 := JB7.out.at (i := 2) (v := .bool ea) rfl
  have k3 := JB7.out.at (i := 3) (v := .int .i64 (ns : Int)) rfl
  clear hvv h0 HF hr4 hk1 hk4 hs1 hs4 h20 hjs
  go_wp2_with (go_at_call 14; refine Hid.out ?_)
  refine Lib.hid ?_
  refine (NEW.out w7 HB7.out).mono ?_
  rintro _ w8 ⟨Ba, Ra, rva, lva, rfl, HBa, HA8, HHA8, hb8⟩
  have HB8 := Lib.hid (below_trans HB7.out hb8)
  have JB8 := Lib.hid (JB7.out.blw hb8)
  have HRA : Hid (w7.heap.size ≤ Ra) := Nat.le_trans HBa.out HHA8.out.low
  clear k0 k1 k2 k3 hb8
  have k0 := JB8.out.at (i := 0) (v := .slice a rn cap) rfl
  have k1 := JB8.out.at (i := 1) (v := .int .i64 fo) rfl
  have k2 := JB8.out.at (i := 2) (v := .bool ea) rfl
  have k3 := JB8.out.at (i := 3) (v := .int .i64 (ns : Int)) rfl
  go_wp2_with (go_at_call 14; refine Hid.out ?_)
  refine Lib.hid ?_
  refine (NEW.out w8 HB8.out).mono ?_
  rintro _ w9 ⟨Bb, R0, rvb, lvb, rfl, HBb, HM9, HHM9, hb9⟩
  have HB9 := Lib.hid (below_trans HB8.out hb9)
  have JB9 := Lib.hid (JB8.out.blw hb9)
  have HA9 := Lib.hid (HA8.out.blw hb9)
  have HRAB : Hid (Ra < Bb) := Nat.lt_of_lt_of_le HA8.out.blk.lt HBb.out
  have HRB : Hid (Bb ≤ R0) := HHM9.out.low
  have HPA : Hid (w.heap.size < Ra) := by show _ < _; have h1 := JB7.out.lt; have h2 := HRA.out; omega
  have SA := Lib.hid (step_all HSD.out Ra 60 ⟨l, fo, ea, (ns : Int)⟩ rva lva lines w9 HA9.out (MIN.out w9 Ra HB9.out (Nat.le_of_lt HPA.out)) (by decide) (by decide))
  clear k0 k1 k2 k3 hb9 HA8 HHA8 HB8 JB8 HB7 JB7 HBa HBb NEW
  go_wp2_with (go_at_call 15; refine Hid.out ?_)
  refine Lib.hid ?_
  refine SA.out.mono ?_
  clear SA
  rintro _ wS ⟨rfl, mva, hA, hFA, hoA⟩
  have HBS : Hid (Below w.heap.size w wS) := HB9.out.trans (hFA.below HB9.out.size (Nat.le_of_lt HPA.out) (fun b hb => by cases hb))
  have JBS : Hid (Blk wS w.heap.size 24 [.slice a rn cap, .int .i64 fo, .bool ea, .int .i64 (ns : Int)]) := by
    show Blk _ _ _ _
    exact (hFA.block w.heap.size JB9.out.lt (by have := HPA.out; omega) (fun e => by cases e)).trans JB9.out
  have HMS0 := (HM9.out.hop HHM9.out hFA (.inl HRAB.out) (fun g hg => by cases hg)).1
  have HMS : Hid (MS wS wS R0 R0 ⟨l, fo, ea, (ns : Int)⟩ rvb lvb (.slice none 0 0) lines 0) := ⟨Only.refl _ _, HMS0, Nat.zero_le _, .inl rfl, fun g hg => by cases hg⟩
  have HAS := Lib.hid hA
  have HOA : Hid (∀ g, mva.ownBlock = some g → R0 < g) := fun g hg => by
    have h1 := hoA g hg
    have h2 := HM9.out.blk.lt
    omega
  have HR0 : Hid (w.heap.size ≤ R0 ∧ w.heap.size ≠ R0 ∧ R0 < wS.heap.size) := ⟨by have := HPA.out; have := HRAB.out; have := HRB.out; omega, by have := HPA.out; have := HRAB.out; have := HRB.out; omega, HMS0.blk.lt⟩
  clear hA hFA hoA HMS0 HM9 HHM9 HA9 HB9 JB9
  go_upto_block 0 with fail
  refine wp_norm (stop_b0 HSD.out w wS w.heap.size R0 R0 ns ln lc rn cap sn sc 0 fo ea l a la sa rvb lvb _ lines steps _ _ _ _ _ _ _ _ _ _ _ _ _ _ _ _ _ _ _ _ _ _ _ _ _ _ _ _ _ _ _ _ _ _ _ _ _ _ _ _ _ _ _ _ _ _ _ _ _ _ _ _ _ _ _ _ _ _ _ _ _ _ _ _ _ _ _ _ _ _ _ _ _ _ _ _ _ _ _ _ _ _ _ _ _ _ _ _ _ _ _ _ _ _ _ _ _ _ _ _ _ _ _ _ _ _ _ _ _ _ _ _ _ _ _ _ _ _ _ _ _ _ _ _ _ _ _ _ _ _ _ _ _ _ _ _ _ _ _ _ _ _ _ _ _ _ _ _ _ _ _ _ _ _ _ _ _ _ _ _ _ _ _ _ _ _ _ _ _ _ _ _ _ _ _ _ _ _ _ _ _ _ _ _ _ HE HP H HV HLN HJF HLO h60 HBS HR0.out JBS HN HSN HSI hs20 HMS.out ?_)
  refine Lib.hid ?_
  intro z6 z13 z14 z15 z16 z82 z83 z84 z85 z86 z87 z88 z89 z90 z91 z92 z93 z94 z95 z96 z97 z98 z99 z100 z101 z102 z103 z104 z105 z106 z107 z108 z109 z110 z111 z112 z113 z114 z115 z116 z117 z118 z119 Rb d rvb2 lvb2 mvb2 wL hML
  have HML := Lib.hid hML
  have HBL := Lib.hid (hML.org HBS.out HR0.out.1)
  have SB := Lib.hid (HSD.out Rb d 60 ⟨l, fo, ea, (ns : Int)⟩ rvb2 lvb2 mvb2 lines wL hML.run (MIN.out wL Rb HBL.out (hML.place.elim (fun h => by rw [h]; exact HR0.out.1) (fun h => Nat.le_trans HBS.out.size h))) hML.din (by decide) (by decide))
  clear hML HMS
  go_wp2_with (go_at_call 15; refine Hid.out ?_)
  refine Lib.hid ?_
  refine SB.out.mono ?_
  clear SB
  rintro _ w11 ⟨d2, mvb3, hd2, rfl, hr2, hF2, ho2⟩
  have hdl : d2 = lines.length := by have h1 := HML.out.din; have e60 : (60 : Int).toNat = 60 := rfl; rw [e60] at hd2; omega
  have HM11 := Lib.hid (HML.out.step hr2 (by omega) hF2 ho2)
  have hrun := HM11.out.run
  rw [hdl, List.take_length] at hrun
  have HRUN := Lib.hid hrun
  have HA11 := Lib.hid (isMR_only HAS.out (by have := HRAB.out; have := HRB.out; omega) (fun g hg => by have := HOA.out g hg; omega) HM11.out.only)
  obtain ⟨M, hM⟩ : ∃ M, M = madeOf ⟨l, fo, ea, (ns : Int)⟩ lines := ⟨_, rfl⟩
  have hmlen : M.length ≤ 50000 := by
    have h1 := made_len ⟨l, fo, ea, (ns : Int)⟩ 120 lines (jobFault_parts HJF.out).2.1 (fun x hx => HLO.out x hx)
    have h3 := Nat.mul_le_mul_right (4 * (120 + 1)) hn6
    rw [hM]
    omega
  have HMF : Hid (Pp.Fits M) := by show Pp.Fits _; rw [hM]; exact made_fits HJF.out (fun x hx => by have := HLO.out x hx; omega)
  have HMK : Hid (∀ p ∈ M, p.1.size ≤ 1000) := fun p hp => by rw [hM] at hp; have := made_key hp; omega
  rw [← hM] at HRUN HA11
  have HML2 := Lib.hid hmlen
  clear hd2 hr2 hF2 ho2 hrun hdl hM hmlen HML HBL HAS
  have XA := Lib.hid (slices_any Ra lines.length l fo ea ns rva lva mva lines M w11 HA11.out hn1 hn4 (by have := HML2.out; omega) HMK.out)
  go_wp2_with (go_at_call 21; refine Hid.out ?_)
  refine Lib.hid ?_
  refine XA.out.mono ?_
  clear XA
  rintro _ w12 ⟨xv, rfl, hxv, hb12⟩
  have HX12 := Lib.hid hxv
  have XB := Lib.hid (slices_any Rb lines.length l fo ea ns rvb2 lvb2 mvb3 lines M w12 (HRUN.out.blw hb12) hn1 hn4 (by have := HML2.out; omega) HMK.out)
  have HA12 := Lib.hid (HA11.out.blw hb12)
  have HB12 := Lib.hid (below_trans (HM11.out.org HBS.out HR0.out.1) hb12)
  have JB12 := Lib.hid ((HM11.out.blk JBS.out HR0.out.2.1).blw hb12)
  have HLN6 : Hid (∀ x ∈ slicesOf fo ea ns M, x.length ≤ 1000000) := fun x hx => by
    unfold slicesOf at hx
    rw [List.mem_map] at hx
    obtain ⟨k, _, rfl⟩ := hx
    have h1 := (fin_len (fo := fo) (ea := ea) (inSlice ns k (Pp.Tot.srt M))).1
    have h2 := inSlice_len (ns : Int) k M
    have := HML2.out
    omega
  clear hxv hb12 HA11 HRUN HM11
  go_wp2_with (go_at_call 21; refine Hid.out ?_)
  refine Lib.hid ?_
  refine XB.out.mono ?_
  clear XB
  rintro _ w13 ⟨yv, rfl, hyv, hb13⟩
  have SS := Lib.hid (sameSlices_same xv yv (slicesOf fo ea ns M) w13 (lists_below HX12.out hb13) hyv HLN6.out (by simp [slicesOf]; omega))
  have HA13 := Lib.hid (HA12.out.blw hb13)
  have HB13 := Lib.hid (below_trans HB12.out hb13)
  have JB13 := Lib.hid (JB12.out.blw hb13)
  clear hyv hb13 HA12 HB12 JB12 HX12
  go_wp2_with (go_at_call 20; refine Hid.out ?_)
  refine Lib.hid ?_
  refine SS.out.mono ?_
  clear SS
  rintro _ w14 ⟨rfl, hb14⟩
  have XC := Lib.hid (slices_own Ra lines.length l fo ea ns rva lva mva lines M w14 (HA13.out.blw hb14) hn1 hn4 (by have := HML2.out; omega) HMK.out)
  unfold SlicesGive at XC
  have HB14 := Lib.hid (below_trans HB13.out hb14)
  have JB14 := Lib.hid (JB13.out.blw hb14)
  clear hb14 HA13 HB13 JB13
  go_wp2_with (go_at_call 21; refine Hid.out ?_)
  refine Lib.hid ?_
  refine XC.out.mono ?_
  clear XC
  rintro _ w15 ⟨xb, vs, wb, rfl, hsl15, -, -, hb15⟩
  have HL15 : Hid (Pp.IsLists w15 (.slice (some ⟨xb, 0, none⟩) ns ns) (slicesOf fo ea ns M)) := hsl15.isLists (by simp [slicesOf])
  have HB15 := Lib.hid (below_trans HB14.out hb15)
  have JB15 := Lib.hid (JB14.out.blw hb15)
  have HW15 : Hid (w.heap.size < w15.heap.size) := JB15.out.lt
  have HLSL : Hid ((slicesOf fo ea ns M).length = ns) := (show _ = _ by simp [slicesOf])
  have HFLL : Hid ((slicesOf fo ea ns M).flatten.length ≤ 50000) := by
    have h1 := (upto_le fo ea ns hn1 M).1
    have e : (slicesOf fo ea ns M).flatten.length = upto fo ea ns M ns := by
      unfold slicesOf upto
      rw [List.length_flatten, List.map_map]
      rfl
    show _ ≤ _
    rw [e]
    have := HML2.out
    omega
  have HFTT : Hid (Pp.Fits (slicesOf fo ea ns M).flatten) := by
    intro q hq
    rw [List.mem_flatten] at hq
    obtain ⟨y, hy, hq⟩ := hq
    unfold slicesOf at hy
    rw [List.mem_map] at hy
    obtain ⟨k, _, rfl⟩ := hy
    unfold finL at hq
    split at hq
    · exact Pp.fits_grp fo _ (inSlice_fits ns k HMF.out) q hq
    · exact inSlice_fits ns k HMF.out q hq
  obtain ⟨ls, hls⟩ : ∃ ls, ls = slicesOf fo ea ns M := ⟨_, rfl⟩
  rw [← hls] at HL15 HLSL HFLL HFTT
  obtain ⟨Z, hZ⟩ : ∃ Z, Z = Pp.Tot.srt ls.flatten := ⟨_, rfl⟩
  have HZ : Hid (Z = Pp.Tot.srt ls.flatten) := hZ
  have HGF : Hid (Pp.Fits (Pp.Grp.grp fo Z)) := Pp.fits_grp fo Z (by rw [hZ]; exact fun p hp => HFTT.out p (Pp.Tot.srt_mem.1 hp))
  have HGL : Hid ((Pp.Grp.grp fo Z).length ≤ 50000) := by
    have h1 := Pp.Grp.grp_len fo Z
    rw [hZ, Pp.Tot.srt_len] at h1
    show _ ≤ _
    rw [hZ]
    have := HFLL.out
    omega
  have NF : Hid (∀ w', Below w15.heap.size w15 w' → Calls Tryz.prog 26 #[.int .i64 fo, .slice (some ⟨xb, 0, none⟩) ns ns] w' fun e w'' => ∃ R kv ks ss, e = .returned (.tuple #[.pointer (some ⟨R, 0, none⟩), .nilIface]) ∧ Hid (Pp.Fresh w' w'' ls fo R kv Z ks ss)) := fun w' hb => by
    refine (Pp.new_ok fo (.slice (some ⟨xb, 0, none⟩) ns ns) ls w' HKF.out (lists_below HL15.out hb) (by have := HLSL.out; omega) (by have := HFLL.out; omega)).mono ?_
    rintro e w'' ⟨R, kv, Z', ks, ss, rfl, hF⟩
    obtain rfl : Z' = Z := by rw [hZ]; exact Pp.Tot.srt_eq hF.sorted hF.se
    exact ⟨R, kv, ks, ss, rfl, hF⟩
  have k1 := JB15.out.at (i := 1) (v := .int .i64 fo) rfl
  clear hsl15 hb15 hls hZ HB14 JB14 HLN6
  go_wp2_with (go_at_call 26; refine Hid.out ?_)
  refine Lib.hid ?_
  refine (NF.out w15 (Below.refl _ _)).mono ?_
  rintro _ w16 ⟨Rf, kvf, ksf, ssf, rfl, HFf⟩
  have k1' := (JB15.out.blw HFf.out.bel).at (i := 1) (v := .int .i64 fo) rfl
  clear k1
  go_wp2_with (go_at_call 26; refine Hid.out ?_)
  refine Lib.hid ?_
  refine (NF.out w16 HFf.out.bel).mono ?_
  rintro _ w17 ⟨Rg, kvg, ksg, ssg, rfl, HFg⟩
  have HB17 := Lib.hid (below_trans (below_trans HB15.out HFf.out.bel) HFg.out.bel)
  have JB17 := Lib.hid ((JB15.out.blw HFf.out.bel).blw HFg.out.bel)
  have hf17 := HFf.out.run.blw HFg.out.bel
  obtain ⟨kof, kcf, ekf⟩ : ∃ ko kc, kvf = .slice ko ssf.length kc := by
    obtain ⟨x, y, e, _⟩ := hf17.keys w17 (Below.refl _ _)
    exact ⟨x, y, e⟩
  subst ekf
  obtain ⟨kog, kcg, ekg⟩ : ∃ ko kc, kvg = .slice ko ssg.length kc := by
    obtain ⟨x, y, e, _⟩ := HFg.out.run.keys w17 (Below.refl _ _)
    exact ⟨x, y, e⟩
  subst ekg
  have HRf : Hid (w15.heap.size ≤ Rf ∧ Rf < w16.heap.size) := ⟨HFf.out.low, HFf.out.run.blk.lt⟩
  have HRg : Hid (w16.heap.size ≤ Rg ∧ Rg < w17.heap.size) := ⟨HFg.out.low, HFg.out.run.blk.lt⟩
  have hlenf := (fresh_first HFf.out).1
  have hleng := (fresh_first HFg.out).1
  have HSF : Hid (ssf.length ≤ 50000 ∧ ssf.length = ssg.length) := ⟨by have := HGL.out; omega, by omega⟩
  have SF := Lib.hid (Pp.step_any Rf 0 fo 1048576 kof kcf ssf ksf none 0 (Pp.Grp.grp fo Z) w17 (by rw [List.take_zero]; exact hf17) (by rw [HFf.out.flat]) HFf.out.segs (Nat.zero_le _) (by have := HSF.out.1; omega) (by rw [HFf.out.flat, HZ.out, Pp.Tot.srt_len]; have := HFLL.out; omega) (by decide) (by decide))
  have HF17 := Lib.hid hf17
  clear k1' hf17 HB15 JB15 NF hlenf hleng
  go_wp2_with (go_at_call 27; refine Hid.out ?_)
  refine Lib.hid ?_
  refine SF.out.mono ?_
  clear SF
  rintro _ wT ⟨af, mof, mcf, haf, rfl, hrf, hFf, hof⟩
  have hafe : af = ssf.length := by have h1 := HSF.out.1; have e : (1048576 : Int).toNat = 1048576 := rfl; rw [e] at haf; omega
  have HBT : Hid (Below w.heap.size w wT) := HB17.out.trans (hFf.below HB17.out.size (by have h1 := HRf.out.1; have h2 := HW15.out; omega) (fun b hb => by cases hb))
  have HWP : Hid (w.heap.size < Rg ∧ w.heap.size < Rf ∧ Rf < Rg) := ⟨by have h1 := HRg.out.1; have h2 := HRf.out; have h3 := HW15.out; omega, by have h2 := HRf.out.1; have h3 := HW15.out; omega, by have h1 := HRg.out.1; have h2 := HRf.out.2; omega⟩
  have JBT : Hid (Blk wT w.heap.size 24 [.slice a rn cap, .int .i64 fo, .bool ea, .int .i64 (ns : Int)]) := by
    show Blk _ _ _ _
    exact (hFf.block w.heap.size JB17.out.lt (by have := HWP.out; omega) (fun e => by cases e)).trans JB17.out
  have hgT := isRun_apart HFg.out.run HFg.out.segs hFf (by have := HWP.out; omega) HF17.out.blk (HF17.out.keys w17 (Below.refl _ _)) (fun h e => by
    have h2 := HSF.out.2
    rw [e] at h2
    exact h (List.eq_nil_of_length_eq_zero h2.symm)) (fun g hg => by cases hg)
  have HGS : Hid (GS wT wT Rg Rg fo Z kog kcg ssg ksg none 0 0) := ⟨Only.refl _ _, by rw [List.take_zero]; exact hgT, HFg.out.segs, HFg.out.flat, Nat.zero_le _, .inl rfl, fun g hg => by cases hg⟩
  have hgl : (Pp.Grp.grp fo Z).length = ssf.length := (fresh_first HFf.out).1
  rw [hafe, List.take_of_length_le (Nat.le_of_eq hgl)] at hrf
  rw [hafe] at hof
  have HRF := Lib.hid hrf
  have HOF : Hid (∀ g, (Value.slice mof ssf.length mcf).ownBlock = some g → Rg < g) := fun g hg => by
    rcases hof with h | h
    · rw [h] at hg; cases hg
    · have h1 := h g hg
      have h2 := HRg.out.2
      omega
  have HLT : Hid (∀ w', Below Rg wT w' → Pp.IsLists w' (.slice (some ⟨xb, 0, none⟩) ns ns) ls) := by
    have h17 : Below w15.heap.size w15 w17 := below_trans HFf.out.bel HFg.out.bel
    have hT : Below w15.heap.size w15 wT := h17.trans (hFf.below h17.size HRf.out.1 (fun b hb => by cases hb))
    exact fun w' hb => lists_below HL15.out (hT.trans (hb.mono (by have := HRg.out.1; have := HRf.out; omega)))
  have HRT : Hid (Rg < wT.heap.size) := hgT.blk.lt
  have HDE : decide (af = ssf.length) = true := by simp [hafe]
  rw [HDE]
  clear haf hFf hof hrf hgT hgl hafe HDE HF17 HFg HFf HB17 JB17
  go_upto_block 2 with fail
  refine wp_norm (stop_b2 w wT w.heap.size Rg Rg ns xb sn sc kcg 0 0 fo _ ls ssg Z ksg kog none sa steps _ _ _ _ _ _ _ _ _ _ _ _ _ _ _ _ _ _ _ _ _ _ _ _ _ _ _ _ _ _ _ _ _ _ _ _ _ _ _ _ _ _ _ _ _ _ _ _ _ _ _ _ _ _ _ _ _ _ _ _ _ _ _ _ _ _ _ _ _ _ _ _ _ _ _ _ _ _ _ _ _ _ _ _ _ _ _ _ _ _ _ _ _ _ _ _ _ _ _ _ _ _ _ _ _ _ _ _ _ _ _ _ _ _ _ _ _ _ _ _ _ _ _ _ _ _ _ _ _ _ _ _ _ _ _ _ _ _ _ _ _ _ _ _ _ _ _ _ _ _ _ _ _ _ _ _ _ _ _ _ _ _ _ _ _ _ _ _ _ _ _ _ _ _ _ _ _ _ _ _ _ _ _ _ _ HP HBT ⟨Nat.le_of_lt HWP.out.1, HWP.out.1, HRT.out⟩ HLT HLSL hn4 HFLL HZ HGF HKF.out JBT rfl HN HSN HSI hs20 HGS.out ?_)
  refine Lib.hid ?_
  intro z6 z20 z21 z22 z152 z153 z154 z155 z156 z157 z158 z159 z160 z161 z162 z163 z164 z165 z166 z167 z168 z169 z170 z171 z172 z173 z174 z175 z176 z177 z178 z179 z180 R2 a2 mc2 kc2 ko2 mo2 ss2 ks2 wE hGE
  have HGE := Lib.hid hGE
  have hs2 : ss2.length = (Pp.Grp.grp fo Z).length := by
    have h1 := Pp.segs_grp_len (kind := fo) hGE.segs
    rw [hGE.flat] at h1
    omega
  have HS2 := Lib.hid hs2
  have SG := Lib.hid (Pp.step_any R2 a2 fo 1048576 ko2 kc2 ss2 ks2 mo2 mc2 (Pp.Grp.grp fo Z) wE hGE.run (by rw [hGE.flat]) hGE.segs hGE.ain (by have := HGL.out; omega) (by rw [hGE.flat, HZ.out, Pp.Tot.srt_len]; have := HFLL.out; omega) (by decide) (by decide))
  clear hGE hs2 HGS
  go_wp2_with (go_at_call 27; refine Hid.out ?_)
  refine Lib.hid ?_
  refine SG.out.mono ?_
  clear SG
  rintro _ wF ⟨a3, mo3, mc3, ha3, rfl, hr3, hF3, ho3⟩
  have ha3e : a3 = ss2.length := by have h1 := HGE.out.ain; have h2 := HGL.out; have h3 := HS2.out; have e : (1048576 : Int).toNat = 1048576 := rfl; rw [e] at ha3; omega
  have HGF2 := Lib.hid (HGE.out.step hr3 (by omega) hF3 ho3)
  have hg3 := HGF2.out.run
  rw [List.take_of_length_le (by rw [ha3e, HS2.out]; exact Nat.le_refl _)] at hg3
  have HG3 := Lib.hid hg3
  have HBF := Lib.hid (only_below HGF2.out.only HBT.out (Nat.le_of_lt HWP.out.1))
  have HFF := Lib.hid (isRun_only HRF.out HWP.out.2.2 (fun g hg => by have := HOF.out g hg; omega) HGF2.out.only)
  obtain ⟨tx, htx⟩ : ∃ tx, tx = Pp.bs (Pp.textL (Pp.Grp.grp fo Z)) := ⟨_, rfl⟩
  have O1 := Lib.hid (Pp.out_any Rf fo _ _ ssf (Pp.Grp.grp fo Z) wF (HP.out _ HBF.out) HFF.out HGF.out (by have := HGL.out; omega))
  have O2 : Hid (∀ w', Below wF.heap.size wF w' → Calls Tryz.prog 30 #[.pointer (some ⟨R2, 0, none⟩)] w' fun e w'' => e = .returned (.string tx) ∧ Below w'.heap.size w' w'') := fun w' hb => by
    rw [htx]
    exact Pp.out_any R2 fo _ _ ss2 (Pp.Grp.grp fo Z) w' (HP.out _ (below_trans HBF.out hb)) (HG3.out.blw hb) HGF.out (by have := HGL.out; omega)
  rw [← htx] at O1
  clear ha3 hr3 hF3 ho3 hg3 HGE ha3e htx
  go_wp2_with (go_at_call 30; refine Hid.out ?_)
  refine Lib.hid ?_
  refine O1.out.mono ?_
  clear O1
  rintro _ w21 ⟨rfl, hb21⟩
  have HB21 := Lib.hid (below_trans HBF.out hb21)
  have O3 := Lib.hid (O2.out w21 hb21)
  clear hb21 O2
  go_wp2_with (go_at_call 30; refine Hid.out ?_)
  refine Lib.hid ?_
  refine O3.out.mono ?_
  clear O3
  rintro _ w22 ⟨rfl, hb22⟩
  have HB22 := Lib.hid (below_trans HB21.out hb22)
  have hee : (tx.toList == tx.toList) = true := by simp
  clear hb22
  go_wp2
  go_ret
  exact ⟨rfl, HB22.out⟩
end Go.Proofs.YtmgpacenooncjaaGreatDoor
