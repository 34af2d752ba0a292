/- JobOf: a rule's line. Written by tpl/mk_jo7.py. -/
import Derived.Test.YtfjpgjkfmcedoaaGreatDoorG16
import Derived.Test.YtfjpgjkfmcedoaaGreatDoorRdK
import Derived.Test.YtfjpgjkfmcedoaaGreatDoorJf1
import Derived.Deep.CutRange
namespace Go.Proofs.YtfjpgjkfmcedoaaGreatDoor
open Go.ChangeShapes Go.WideShapes Go.ChangeAt Go.RowKit
/-- Which of the two words a rule's line has. -/
def WhenIs (s : List UInt8) (wn : Int) : Prop :=
  (wn = 1 ∧ peekL s [115, 97, 109, 101] = true) ∨ (wn = 2 ∧ peekL s [115, 97, 109, 101] = false ∧ peekL s [111, 116, 104, 101, 114] = true) ∨ (wn = 0 ∧ peekL s [115, 97, 109, 101] = false ∧ peekL s [111, 116, 104, 101, 114] = false)
theorem peek_len {s p : List UInt8} {a : Nat} (h : peekL (s.drop a) p = true) : a + p.length + 1 ≤ s.length := by
  unfold peekL at h
  rw [List.isPrefixOf_iff_prefix] at h
  have := h.length_le
  simp at this
  omega
set_option maxRecDepth 1000000 in
set_option maxHeartbeats 8000000 in
theorem jo_b3 (JB RB : Nat) (rest line rst : List UInt8) (rs : List Rl) (rv : Value) (fo sl : Int) (ea : Bool) (w w2 : World) (w0 : World) (K KR : Act → World → Prop) (s0 s1 s3 s4 s5 s7 s9 s10 s11 s12 s13 s14 s15 s16 s17 s18 s19 s20 s21 s22 s23 s24 s25 s26 s27 s28 s29 s30 s31 s32 s33 s34 s35 s36 s37 s38 s39 s40 s41 s42 s43 s44 s45 s46 s47 s48 s49 s50 s51 s52 s53 s54 s55 s56 s57 s58 s59 s60 s61 s62 s63 s64 s65 s66 s67 s68 s69 s70 s71 s72 s73 s74 s75 s76 s77 s78 s79 s80 s81 s82 s83 s84 s85 s86 s87 s88 s89 s90 s91 s92 s93 s94 s95 s96 s97 s98 s99 s100 s101 s102 s103 s104 s105 s106 s107 s108 s109 s110 s111 s112 s113 s114 s115 s116 s117 s118 s119 s120 s121 s122 s123 s124 s125 s126 s127 s128 s129 s130 s131 s132 s133 s134 s135 s136 s137 s138 s139 s140 s141 s142 s143 s144 s145 s146 s147 s148 s149 s150 s151 s152 s153 s154 s155 s156 s157 s158 s159 s160 s161 s162 s163 s164 s165 s166 s167 s168 s169 s170 s171 s172 s173 s174 s175 s176 s177 s178 : Value)
    (J0 : Hid (JSt JB rv fo ea sl RB w2 w0))
    (R0 : Hid (RulesAt JB w2.heap.size w0 rv rs))
    (UP : Hid (∀ w', Calls Tryz.prog 24 #[.string (bs rest), .int .u8 10] w' fun e w'' => e = .returned (.tuple #[.string (bs line), .string (bs rst), .bool true]) ∧ Below w'.heap.size w' w''))
    (hl : line.length ≤ 1000)
    (hrs : rs.length ≤ 1000)
    (hbw : Hid (Below w.heap.size w w2))
    (hRB : w.heap.size ≤ RB)
    (HK : Hid (∀ (z3 z14 z15 z16 z17 z18 z91 z92 z93 z94 z95 z96 z97 z98 z99 z100 z101 z102 z103 z104 z105 z106 z107 z108 z109 z110 z111 z112 z113 z114 z115 z116 z117 z118 z119 z120 z121 z122 z123 z124 z125 z126 z127 z128 z129 z130 z131 z132 z133 z134 z135 z136 z137 z138 z139 z140 z141 z142 z143 z144 z145 z146 z147 z148 z149 z150 z151 z152 z153 z154 z155 z156 z157 z158 z159 z160 : Value) (x : Rl) (rv2 : Value) (wx : World), LexR line x → JSt JB rv2 fo ea sl RB w2 wx → RulesAt JB w2.heap.size wx rv2 (rs ++ [x]) → K ⟨#[s0, s1, .pointer (some ⟨RB, 0, none⟩), z3, s4, s5, .string (bs rst), s7, .pointer (some ⟨JB, 0, none⟩), s9, s10, s11, s12, s13, z14, z15, z16, z17, z18, s19, s20, s21, s22, s23, s24, s25, s26, s27, s28, s29, s30, s31, s32, s33, s34, s35, s36, s37, s38, s39, s40, s41, s42, s43, s44, s45, s46, s47, s48, s49, s50, s51, s52, s53, s54, s55, s56, s57, s58, s59, s60, s61, s62, s63, s64, s65, s66, s67, s68, s69, s70, s71, s72, s73, s74, s75, s76, s77, s78, s79, s80, s81, s82, s83, s84, s85, s86, s87, s88, s89, s90, z91, z92, z93, z94, z95, z96, z97, z98, z99, z100, z101, z102, z103, z104, z105, z106, z107, z108, z109, z110, z111, z112, z113, z114, z115, z116, z117, z118, z119, z120, z121, z122, z123, z124, z125, z126, z127, z128, z129, z130, z131, z132, z133, z134, z135, z136, z137, z138, z139, z140, z141, z142, z143, z144, z145, z146, z147, z148, z149, z150, z151, z152, z153, z154, z155, z156, z157, z158, z159, z160, s161, s162, s163, s164, s165, s166, s167, s168, s169, s170, s171, s172, s173, s174, s175, s176, s177, s178], []⟩ wx))
    (HKR : Hid (∀ (z6 z14 z15 z16 z17 z18 z91 z92 z93 z94 z95 z96 z97 z98 z99 z100 z101 z102 z103 z104 z105 z106 z107 z108 z109 z110 z111 z112 z113 z114 z115 z116 z117 z118 z119 z120 z121 z122 z123 z124 z125 z126 z127 z128 z129 z130 z131 z132 z133 z134 z135 z136 z137 z138 z139 z140 z141 z142 z143 z144 z145 z146 z147 z148 z149 z150 z151 z152 z153 z154 z155 z156 z157 z158 z159 z160 : Value) (wx : World), NoRule line → wx.heap[RB]? = some (.cells #[.slice none 0 0, .int .i64 0, .bool false, .int .i64 0] 24 (0, 0)) → Below w.heap.size w wx → KR ⟨#[s0, s1, .pointer (some ⟨RB, 0, none⟩), .int .i64 4, s4, s5, z6, s7, .pointer (some ⟨JB, 0, none⟩), s9, s10, s11, s12, s13, z14, z15, z16, z17, z18, s19, s20, s21, s22, s23, s24, s25, s26, s27, s28, s29, s30, s31, s32, s33, s34, s35, s36, s37, s38, s39, s40, s41, s42, s43, s44, s45, s46, s47, s48, s49, s50, s51, s52, s53, s54, s55, s56, s57, s58, s59, s60, s61, s62, s63, s64, s65, s66, s67, s68, s69, s70, s71, s72, s73, s74, s75, s76, s77, s78, s79, s80, s81, s82, s83, s84, s85, s86, s87, s88, s89, s90, z91, z92, z93, z94, z95, z96, z97, z98, z99, z100, z101, z102, z103, z104, z105, z106, z107, z108, z109, z110, z111, z112, z113, z114, z115, z116, z117, z118, z119, z120, z121, z122, z123, z124, z125, z126, z127, z128, z129, z130, z131, z132, z133, z134, z135, z136, z137, z138, z139, z140, z141, z142, z143, z144, z145, z146, z147, z148, z149, z150, z151, z152, z153, z154, z155, z156, z157, z158, z159, z160, s161, s162, s163, s164, s165, s166, s167, s168, s169, s170, s171, s172, s173, s174, s175, s176, s177, s178], []⟩ wx)) :
    Code.wp Tryz.prog (pieceIn Tryz.f12.body 3) (Exit.then K (retQ KR)) ⟨#[s0, s1, .pointer (some ⟨RB, 0, none⟩), s3, s4, s5, .string (bs rest), s7, .pointer (some ⟨JB, 0, none⟩), s9, s10, s11, s12, s13, s14, s15, s16, s17, s18, s19, s20, s21, s22, s23, s24, s25, s26, s27, s28, s29, s30, s31, s32, s33, s34, s35, s36, s37, s38, s39, s40, s41, s42, s43, s44, s45, s46, s47, s48, s49, s50, s51, s52, s53, s54, s55, s56, s57, s58, s59, s60, s61, s62, s63, s64, s65, s66, s67, s68, s69, s70, s71, s72, s73, s74, s75, s76, s77, s78, s79, s80, s81, s82, s83, s84, s85, s86, s87, s88, s89, s90, s91, s92, s93, s94, s95, s96, s97, s98, s99, s100, s101, s102, s103, s104, s105, s106, s107, s108, s109, s110, s111, s112, s113, s114, s115, s116, s117, s118, s119, s120, s121, s122, s123, s124, s125, s126, s127, s128, s129, s130, s131, s132, s133, s134, s135, s136, s137, s138, s139, s140, s141, s142, s143, s144, s145, s146, s147, s148, s149, s150, s151, s152, s153, s154, s155, s156, s157, s158, s159, s160, s161, s162, s163, s164, s165, s166, s167, s168, s169, s170, s171, s172, s173, s174, s175, s176, s177, s178], []⟩ w0 := by
  conv => arg 2; whnf
  go_wp2_with (go_at_call 24; refine Hid.out ?_)
  refine Lib.hid ?_
  refine (UP.out _).mono ?_
  rintro _ wa ⟨rfl, hba⟩
  have JA := Lib.hid (J0.out.lower hba)
  have RA := Lib.hid (R0.out.lower hba)
  obtain ⟨P, hP⟩ : ∃ P, P = wa.heap.size := ⟨_, rfl⟩
  obtain ⟨B, hB⟩ : ∃ B, B = P + 1 := ⟨_, rfl⟩
  obtain ⟨wb, hwb⟩ : ∃ wb, wb = wa.alloc (.cells #[.string (bs line), .int .i64 0, .bool false] 64) := ⟨_, rfl⟩
  have hbb : Below wa.heap.size wa wb := by rw [hwb]; exact below_box _
  have LB : Blk wb P 64 (lexC line 0 false) := by rw [hwb]; exact blk_new hP
  have hsb : wb.heap.size = B := by rw [hwb, hB, hP]; simp
  obtain ⟨wq, hwq⟩ : ∃ wq, wq = wb.alloc (.cells zeroR 46) := ⟨_, rfl⟩
  have hbq : Below wb.heap.size wb wq := by rw [hwq]; exact below_box _
  have Y0 : Hid (YL P B line 0 false zeroR wa wq) := by
    refine ⟨LB.blw hbq, ?_, below_trans hbb hbq, by omega, by omega⟩
    rw [hwq, ← hsb]
    exact heap_alloc_new _ _
  rw [hwb] at hwq
  unfold zeroR at hwq
  have HWQ := Lib.hid hwq
  have HP := Lib.hid hP
  have HBB := Lib.hid hB
  have hPB : P < B := by omega
  have PE1 : Hid (Calls Tryz.prog 27 #[.pointer (some ⟨P, 0, none⟩), .string ⟨#[101, 97, 99, 104]⟩] wq fun e w' => e = .returned (.bool (peekL (line.drop 0) [101, 97, 99, 104])) ∧ ∃ n, w' = wq.drewN n) := lpeek_any P line [101, 97, 99, 104] 0 false wq Y0.out.lx hl (by omega) (by simp)
  clear hwb hwq hbb LB hsb hbq hP hB hba UP J0 R0
  go_upto_region 26 with fail
  rw [← HWQ.out, ← HP.out, ← HBB.out]
  clear HWQ
  obtain ⟨e0, he0⟩ : ∃ e0, e0 = peekL line [101, 97, 99, 104] := ⟨_, rfl⟩
  rw [List.drop_zero, ← he0] at PE1
  have HE0 := Lib.hid he0
  clear he0
  go_wp2_with (go_at_call 27; refine Hid.out ?_)
  refine Lib.hid ?_
  refine PE1.out.mono ?_
  rintro _ _ ⟨rfl, n1, rfl⟩
  have Y1 := Lib.hid (Y0.out.drewN n1)
  clear Y0 PE1
  generalize wq.drewN n1 = w3 at *
  go_upto_if 103 with fail
  go_cut [] from 91 to 160 (fun wx => ∃ p, p = (if e0 then 5 else 0) ∧ Hid (YL P B line p false #[.bool e0, .int .i64 0, .int .i64 0, .int .i64 0, .string ⟨#[]⟩, .slice none 0 0, .string ⟨#[]⟩, .int .i64 0, .int .i64 0, .string ⟨#[]⟩, .slice none 0 0, .int .i64 0, .int .i64 0, .string ⟨#[]⟩, .slice none 0 0] wa wx))
  case first =>
    cases e0 with
    | false =>
      go_wp2
      go_meet
      case rel => exact ⟨0, rfl, Y1⟩
    | true =>
      have WD := Lib.hid (lword_any P line 0 false w3 Y1.out.lx hl (by omega))
      have hw : wordR (line.drop 0) = [101, 97, 99, 104] := peek_word (by rw [List.drop_zero]; exact HE0.out.symm) (by decide)
      rw [hw] at WD
      go_wp2_with (go_at_call 25; refine Hid.out ?_)
      refine Lib.hid ?_
      refine WD.out.mono ?_
      rintro _ w4 ⟨rfl, lx4⟩
      have Y4 := Lib.hid (Y1.out.read lx4.at' lx4.only)
      have c0 : w4.cell? ⟨B, 0, none⟩ = some (.bool false) := Y4.out.c 0
      have f0 := Y4.out.f 0
      have Y5 : Hid (YL P B line 5 false #[.bool true, .int .i64 0, .int .i64 0, .int .i64 0, .string ⟨#[]⟩, .slice none 0 0, .string ⟨#[]⟩, .int .i64 0, .int .i64 0, .string ⟨#[]⟩, .slice none 0 0, .int .i64 0, .int .i64 0, .string ⟨#[]⟩, .slice none 0 0] wa (w4.setCell ⟨B, 0, none⟩ (.bool true))) := Y4.out.put 0 rfl
      clear WD lx4 Y1 hw
      go_wp2
      go_meet
      case rel => exact ⟨5, rfl, Y5⟩
  case rest =>
    clear Y1
    obtain ⟨p, hp, Y1⟩ := hcut
    generalize wc = w3 at *
    have hpl : p ≤ line.length := by
      rw [hp, HE0.out]
      exact eachP_le line
    have HPP := Lib.hid hp
    clear hp
    have PE2 : Hid (Calls Tryz.prog 27 #[.pointer (some ⟨P, 0, none⟩), .string ⟨#[115, 97, 109, 101]⟩] w3 fun e w' => e = .returned (.bool (peekL (line.drop p) [115, 97, 109, 101])) ∧ ∃ n, w' = w3.drewN n) := lpeek_any P line [115, 97, 109, 101] p false w3 Y1.out.lx hl (by omega) (by simp)
    obtain ⟨qs, hqs⟩ : ∃ q, q = peekL (line.drop p) [115, 97, 109, 101] := ⟨_, rfl⟩
    rw [← hqs] at PE2
    have HQS := Lib.hid hqs
    clear hqs
    go_wp2_with (go_at_call 27; refine Hid.out ?_)
    refine Lib.hid ?_
    refine PE2.out.mono ?_
    rintro _ _ ⟨rfl, n2, rfl⟩
    have Y2 := Lib.hid (Y1.out.drewN n2)
    clear Y1 PE2
    generalize w3.drewN n2 = w4 at *
    go_upto_if 108 with fail
    go_cut [] from 91 to 160 (fun wx => ∃ wn : Int, Hid (WhenIs (line.drop p) wn) ∧ Hid (YL P B line p false #[.bool e0, .int .i64 wn, .int .i64 0, .int .i64 0, .string ⟨#[]⟩, .slice none 0 0, .string ⟨#[]⟩, .int .i64 0, .int .i64 0, .string ⟨#[]⟩, .slice none 0 0, .int .i64 0, .int .i64 0, .string ⟨#[]⟩, .slice none 0 0] wa wx))
    case first =>
      have c1 : w4.cell? ⟨B, 1, none⟩ = some (.int .i64 0) := Y2.out.c 1
      have f1 := Y2.out.f 1
      cases qs with
      | true =>
        have Y3 : Hid (YL P B line p false #[.bool e0, .int .i64 1, .int .i64 0, .int .i64 0, .string ⟨#[]⟩, .slice none 0 0, .string ⟨#[]⟩, .int .i64 0, .int .i64 0, .string ⟨#[]⟩, .slice none 0 0, .int .i64 0, .int .i64 0, .string ⟨#[]⟩, .slice none 0 0] wa (w4.setCell ⟨B, 1, none⟩ (.int .i64 1))) := Y2.out.put 1 rfl
        go_wp2
        go_meet
        case rel => exact ⟨1, .inl ⟨rfl, HQS.out.symm⟩, Y3⟩
      | false =>
        clear c1 f1
        have PE3 : Hid (Calls Tryz.prog 27 #[.pointer (some ⟨P, 0, none⟩), .string ⟨#[111, 116, 104, 101, 114]⟩] w4 fun e w' => e = .returned (.bool (peekL (line.drop p) [111, 116, 104, 101, 114])) ∧ ∃ n, w' = w4.drewN n) := lpeek_any P line [111, 116, 104, 101, 114] p false w4 Y2.out.lx hl (by omega) (by simp)
        obtain ⟨qo, hqo⟩ : ∃ q, q = peekL (line.drop p) [111, 116, 104, 101, 114] := ⟨_, rfl⟩
        rw [← hqo] at PE3
        have HQO := Lib.hid hqo
        clear hqo
        go_wp2_with (go_at_call 27; refine Hid.out ?_)
        refine Lib.hid ?_
        refine PE3.out.mono ?_
        rintro _ _ ⟨rfl, n3, rfl⟩
        have Y3 := Lib.hid (Y2.out.drewN n3)
        clear Y2 PE3
        generalize w4.drewN n3 = w5 at *
        have c1 : w5.cell? ⟨B, 1, none⟩ = some (.int .i64 0) := Y3.out.c 1
        have f1 := Y3.out.f 1
        cases qo with
        | true =>
          have Y4 : Hid (YL P B line p false #[.bool e0, .int .i64 2, .int .i64 0, .int .i64 0, .string ⟨#[]⟩, .slice none 0 0, .string ⟨#[]⟩, .int .i64 0, .int .i64 0, .string ⟨#[]⟩, .slice none 0 0, .int .i64 0, .int .i64 0, .string ⟨#[]⟩, .slice none 0 0] wa (w5.setCell ⟨B, 1, none⟩ (.int .i64 2))) := Y3.out.put 1 rfl
          go_wp2
          go_meet
          case rel => exact ⟨2, .inr (.inl ⟨rfl, HQS.out.symm, HQO.out.symm⟩), Y4⟩
        | false =>
          go_wp2
          go_meet
          case rel => exact ⟨0, .inr (.inr ⟨rfl, HQS.out.symm, HQO.out.symm⟩), Y3⟩
    case rest =>
      clear Y2 HQS
      obtain ⟨wn, HWN, Y1⟩ := hcut
      generalize wc = w4 at *
      have c1 : w4.cell? ⟨B, 1, none⟩ = some (.int .i64 wn) := Y1.out.c 1
      go_upto_if 115 with fail
      go_cut [] from 91 to 160 (fun wx => ∃ (p2 : Nat) (b2 : Bool) (iff : Ex) (S : List UInt8) (ai : Option Addr) (ci : Nat), Hid (HeadR line p2 b2 e0 wn iff S) ∧ Hid (YL P B line p2 b2 #[.bool e0, .int .i64 wn, .int .i64 iff.k, .int .i64 iff.n, .string (bs iff.s), .slice ai iff.a.length ci, .string (bs S), .int .i64 0, .int .i64 0, .string ⟨#[]⟩, .slice none 0 0, .int .i64 0, .int .i64 0, .string ⟨#[]⟩, .slice none 0 0] wa wx) ∧ Hid (Ly B wx (.slice ai iff.a.length ci) iff))
      case first =>
        rcases HWN.out with ⟨hwn, h1⟩ | ⟨hwn, h1, h2⟩ | ⟨hwn, h1, h2⟩
        · have WD := Lib.hid (lword_any P line p false w4 Y1.out.lx hl (by omega))
          have hw : wordR (line.drop p) = [115, 97, 109, 101] := peek_word h1 (by decide)
          have hpk := peek_len h1
          simp only [List.length_cons, List.length_nil] at hpk
          rw [hw] at WD
          have hp5 : p + 5 ≤ line.length + 1 := by omega
          have HQ1 := Lib.hid h1
          subst hwn
          go_wp2_with (go_at_call 25; refine Hid.out ?_)
          refine Lib.hid ?_
          refine WD.out.mono ?_
          rintro _ w5 ⟨rfl, lx5⟩
          have lx5a : Blk w5 P 64 (lexC line (p + 5) false) := lx5.at'
          have Y2 := Lib.hid (Y1.out.read lx5a lx5.only)
          have EK := Lib.hid (lexpr_any 7 1 (p + 5) P line w5 (by omega) (by omega) hl hp5 lx5a)
          have hB5 : B < w5.heap.size := blockLt Y2.out.ex
          clear WD lx5 lx5a Y1 hw hpk h1 
          go_wp2_with (go_at_call 28; refine Hid.out ?_)
          refine Lib.hid ?_
          refine EK.out.mono ?_
          intro rk w6 hsaid
          obtain ⟨iff, p3, b3, ai, ci, rfl, li6, lei, lx6, on6⟩ := Ly.lexed hsaid hB5
          have Y3 := Lib.hid (Y2.out.read lx6 on6)
          have LI3 := Lib.hid li6
          have pp3 := lei.2.1 hp5
          have HH : Hid (HeadR line (lexT line p3 b3).2.1 (lexT line p3 b3).2.2 e0 1 iff (lexT line p3 b3).1) := by
            show HeadR _ _ _ _ _ _ _
            rw [HE0.out]
            exact headR_when true (by rw [← HE0.out]; exact HPP.out) HQ1.out (fun e => by cases e) lei hp5
          clear hsaid EK Y2 lx6 on6 li6 lei HQ1 
          have q2 : w6.cell? ⟨B, 2, none⟩ = some (.int .i64 0) := Y3.out.c 2
          have f2 := Y3.out.f 2
          have q3 : w6.cell? ⟨B, 3, none⟩ = some (.int .i64 0) := Y3.out.c 3
          have f3 := Y3.out.f 3
          have q4 : w6.cell? ⟨B, 4, none⟩ = some (.string ⟨#[]⟩) := Y3.out.c 4
          have f4 := Y3.out.f 4
          have q5 : w6.cell? ⟨B, 5, none⟩ = some (.slice none 0 0) := Y3.out.c 5
          have f5 := Y3.out.f 5
          obtain ⟨w7, hw7⟩ : ∃ x, x = (((w6.setCell ⟨B, 2, none⟩ (.int .i64 iff.k)).setCell ⟨B, 3, none⟩ (.int .i64 iff.n)).setCell ⟨B, 4, none⟩ (.string (bs iff.s))).setCell ⟨B, 5, none⟩ (.slice ai iff.a.length ci) := ⟨_, rfl⟩
          have Y4 : Hid (YL P B line p3 b3 #[.bool e0, .int .i64 1, .int .i64 iff.k, .int .i64 iff.n, .string (bs iff.s), .slice ai iff.a.length ci, .string ⟨#[]⟩, .int .i64 0, .int .i64 0, .string ⟨#[]⟩, .slice none 0 0, .int .i64 0, .int .i64 0, .string ⟨#[]⟩, .slice none 0 0] wa w7) := by
            rw [hw7]
            exact (((Y3.out.put 2 rfl).put 3 rfl).put 4 rfl).put 5 rfl
          have LI4 : Hid (Ly B w7 (.slice ai iff.a.length ci) iff) := by
            rw [hw7]
            exact (((LI3.out.put (Nat.le_refl _)).put (Nat.le_refl _)).put (Nat.le_refl _)).put (Nat.le_refl _)
          have HW_w7 := Lib.hid hw7
          have QU := Lib.hid (lquoted_any P line p3 b3 w7 Y4.out.lx hl (by have := pp3.1; omega))
          go_wp2_with (go_at_call 29; refine Hid.out ?_)
          rw [← HW_w7.out]
          clear q2 q3 q4 q5 f2 f3 f4 f5 HW_w7 Y3 LI3 hw7
          generalize (lexT line p3 b3).1 = S at *
          generalize (lexT line p3 b3).2.1 = p2 at *
          generalize (lexT line p3 b3).2.2 = b2 at *
          refine Lib.hid ?_
          refine QU.out.mono ?_
          rintro _ w8 ⟨rfl, lx8⟩
          have Y5 := Lib.hid (Y4.out.read lx8.at' lx8.only)
          have LI5 := Lib.hid (LI4.out.only lx8.only hPB)
          clear QU lx8 Y4 LI4
          have q6 : w8.cell? ⟨B, 6, none⟩ = some (.string ⟨#[]⟩) := Y5.out.c 6
          have f6 := Y5.out.f 6
          have Y6 : Hid (YL P B line p2 b2 #[.bool e0, .int .i64 1, .int .i64 iff.k, .int .i64 iff.n, .string (bs iff.s), .slice ai iff.a.length ci, .string (bs S), .int .i64 0, .int .i64 0, .string ⟨#[]⟩, .slice none 0 0, .int .i64 0, .int .i64 0, .string ⟨#[]⟩, .slice none 0 0] wa (w8.setCell ⟨B, 6, none⟩ (.string (bs S)))) := Y5.out.put 6 rfl
          have LI6 : Hid (Ly B (w8.setCell ⟨B, 6, none⟩ (.string (bs S))) (.slice ai iff.a.length ci) iff) := LI5.out.put (Nat.le_refl _)
          go_wp2
          go_meet
          case rel => exact ⟨p2, b2, iff, S, ai, ci, HH, Y6, LI6⟩
        · have WD := Lib.hid (lword_any P line p false w4 Y1.out.lx hl (by omega))
          have hw : wordR (line.drop p) = [111, 116, 104, 101, 114] := peek_word h2 (by decide)
          have hpk := peek_len h2
          simp only [List.length_cons, List.length_nil] at hpk
          rw [hw] at WD
          have hp5 : p + 6 ≤ line.length + 1 := by omega
          have HQ1 := Lib.hid h1
          have HQ2 := Lib.hid h2
          subst hwn
          go_wp2_with (go_at_call 25; refine Hid.out ?_)
          refine Lib.hid ?_
          refine WD.out.mono ?_
          rintro _ w5 ⟨rfl, lx5⟩
          have lx5a : Blk w5 P 64 (lexC line (p + 6) false) := lx5.at'
          have Y2 := Lib.hid (Y1.out.read lx5a lx5.only)
          have EK := Lib.hid (lexpr_any 7 1 (p + 6) P line w5 (by omega) (by omega) hl hp5 lx5a)
          have hB5 : B < w5.heap.size := blockLt Y2.out.ex
          clear WD lx5 lx5a Y1 hw hpk h1 h2
          go_wp2_with (go_at_call 28; refine Hid.out ?_)
          refine Lib.hid ?_
          refine EK.out.mono ?_
          intro rk w6 hsaid
          obtain ⟨iff, p3, b3, ai, ci, rfl, li6, lei, lx6, on6⟩ := Ly.lexed hsaid hB5
          have Y3 := Lib.hid (Y2.out.read lx6 on6)
          have LI3 := Lib.hid li6
          have pp3 := lei.2.1 hp5
          have HH : Hid (HeadR line (lexT line p3 b3).2.1 (lexT line p3 b3).2.2 e0 2 iff (lexT line p3 b3).1) := by
            show HeadR _ _ _ _ _ _ _
            rw [HE0.out]
            exact headR_when false (by rw [← HE0.out]; exact HPP.out) HQ1.out (fun _ => HQ2.out) lei hp5
          clear hsaid EK Y2 lx6 on6 li6 lei HQ1 HQ2
          have q2 : w6.cell? ⟨B, 2, none⟩ = some (.int .i64 0) := Y3.out.c 2
          have f2 := Y3.out.f 2
          have q3 : w6.cell? ⟨B, 3, none⟩ = some (.int .i64 0) := Y3.out.c 3
          have f3 := Y3.out.f 3
          have q4 : w6.cell? ⟨B, 4, none⟩ = some (.string ⟨#[]⟩) := Y3.out.c 4
          have f4 := Y3.out.f 4
          have q5 : w6.cell? ⟨B, 5, none⟩ = some (.slice none 0 0) := Y3.out.c 5
          have f5 := Y3.out.f 5
          obtain ⟨w7, hw7⟩ : ∃ x, x = (((w6.setCell ⟨B, 2, none⟩ (.int .i64 iff.k)).setCell ⟨B, 3, none⟩ (.int .i64 iff.n)).setCell ⟨B, 4, none⟩ (.string (bs iff.s))).setCell ⟨B, 5, none⟩ (.slice ai iff.a.length ci) := ⟨_, rfl⟩
          have Y4 : Hid (YL P B line p3 b3 #[.bool e0, .int .i64 2, .int .i64 iff.k, .int .i64 iff.n, .string (bs iff.s), .slice ai iff.a.length ci, .string ⟨#[]⟩, .int .i64 0, .int .i64 0, .string ⟨#[]⟩, .slice none 0 0, .int .i64 0, .int .i64 0, .string ⟨#[]⟩, .slice none 0 0] wa w7) := by
            rw [hw7]
            exact (((Y3.out.put 2 rfl).put 3 rfl).put 4 rfl).put 5 rfl
          have LI4 : Hid (Ly B w7 (.slice ai iff.a.length ci) iff) := by
            rw [hw7]
            exact (((LI3.out.put (Nat.le_refl _)).put (Nat.le_refl _)).put (Nat.le_refl _)).put (Nat.le_refl _)
          have HW_w7 := Lib.hid hw7
          have QU := Lib.hid (lquoted_any P line p3 b3 w7 Y4.out.lx hl (by have := pp3.1; omega))
          go_wp2_with (go_at_call 29; refine Hid.out ?_)
          rw [← HW_w7.out]
          clear q2 q3 q4 q5 f2 f3 f4 f5 HW_w7 Y3 LI3 hw7
          generalize (lexT line p3 b3).1 = S at *
          generalize (lexT line p3 b3).2.1 = p2 at *
          generalize (lexT line p3 b3).2.2 = b2 at *
          refine Lib.hid ?_
          refine QU.out.mono ?_
          rintro _ w8 ⟨rfl, lx8⟩
          have Y5 := Lib.hid (Y4.out.read lx8.at' lx8.only)
          have LI5 := Lib.hid (LI4.out.only lx8.only hPB)
          clear QU lx8 Y4 LI4
          have q6 : w8.cell? ⟨B, 6, none⟩ = some (.string ⟨#[]⟩) := Y5.out.c 6
          have f6 := Y5.out.f 6
          have Y6 : Hid (YL P B line p2 b2 #[.bool e0, .int .i64 2, .int .i64 iff.k, .int .i64 iff.n, .string (bs iff.s), .slice ai iff.a.length ci, .string (bs S), .int .i64 0, .int .i64 0, .string ⟨#[]⟩, .slice none 0 0, .int .i64 0, .int .i64 0, .string ⟨#[]⟩, .slice none 0 0] wa (w8.setCell ⟨B, 6, none⟩ (.string (bs S)))) := Y5.out.put 6 rfl
          have LI6 : Hid (Ly B (w8.setCell ⟨B, 6, none⟩ (.string (bs S))) (.slice ai iff.a.length ci) iff) := LI5.out.put (Nat.le_refl _)
          go_wp2
          go_meet
          case rel => exact ⟨p2, b2, iff, S, ai, ci, HH, Y6, LI6⟩
        · subst hwn
          have HH : Hid (HeadR line p false e0 0 (.mk 0 0 [] []) []) := by
            show HeadR _ _ _ _ _ _ _
            rw [HE0.out]
            exact headR_always (by rw [← HE0.out]; exact HPP.out) h1 h2
          clear h1 h2
          go_wp2
          go_meet
          case rel => exact ⟨p, false, .mk 0 0 [] [], [], none, 0, HH, Y1, Ly.zero B w4⟩
      case rest =>
        clear Y1 HWN HPP hpl
        obtain ⟨p2, b2, iff, S, ai, ci, HH, Y1, LI⟩ := hcut
        generalize wc = w5 at *
        have hp2 : p2 ≤ line.length + 4 := HH.out.2.2.1
        have WD := Lib.hid (lword_any P line p2 b2 w5 Y1.out.lx hl (by omega))
        obtain ⟨W1, hW1⟩ : ∃ W, W = wordR (line.drop p2) := ⟨_, rfl⟩
        rw [← hW1] at WD
        have HW1 := Lib.hid hW1
        clear hW1
        clear c1
        go_wp2_with (go_at_call 25; refine Hid.out ?_)
        refine Lib.hid ?_
        refine WD.out.mono ?_
        rintro _ w6 ⟨rfl, lx6⟩
        have Y2 := Lib.hid (Y1.out.read lx6.at' lx6.only)
        have LI2 := Lib.hid (LI.out.only lx6.only hPB)
        clear WD lx6 Y1 LI
        have l2 : w6.cell? ⟨P, 2, none⟩ = some (.bool b2) := Y2.out.lx.at (i := 2) rfl
        by_cases hk : W1 = [107, 101, 121]
        · cases b2 with
          | true =>
            have NF : Hid (NoRule line) := noR_head HH.out (.inl rfl)
            have J6 := Lib.hid (JA.out.lower Y2.out.bel)
            have kw : (bs W1).toList = [107, 101, 121] := by rw [bs_toList]; exact hk
            clear hk
            have hz := J6.out.res
            have p0 : w6.cell? ⟨RB, 0, none⟩ = some (.slice none 0 0) := by rw [cell_of_row _ _ _ _ _ _ hz]; rfl
            have e0_ := frozen_of_row w6 RB 0 _ _ hz
            have p1 : w6.cell? ⟨RB, 1, none⟩ = some (.int .i64 0) := by rw [cell_of_row _ _ _ _ _ _ hz]; rfl
            have e1_ := frozen_of_row w6 RB 1 _ _ hz
            have p2 : w6.cell? ⟨RB, 2, none⟩ = some (.bool false) := by rw [cell_of_row _ _ _ _ _ _ hz]; rfl
            have e2_ := frozen_of_row w6 RB 2 _ _ hz
            have p3 : w6.cell? ⟨RB, 3, none⟩ = some (.int .i64 0) := by rw [cell_of_row _ _ _ _ _ _ hz]; rfl
            have e3_ := frozen_of_row w6 RB 3 _ _ hz
            have g1 := heap_set (j := 0) hz (.slice none 0 0)
            have g2 := heap_set (j := 1) g1 (.int .i64 0)
            have g3 := heap_set (j := 2) g2 (.bool false)
            have g4 := Lib.hid (heap_set (j := 3) g3 (.int .i64 0))
            have hbz : Hid (Below w.heap.size w w6) := below_trans hbw.out J6.out.bel
            have hb5 := Lib.hid ((((hbz.out.setCell (p := ⟨RB, 0, none⟩) hRB (.slice none 0 0)).setCell (p := ⟨RB, 1, none⟩) hRB (.int .i64 0)).setCell (p := ⟨RB, 2, none⟩) hRB (.bool false)).setCell (p := ⟨RB, 3, none⟩) hRB (.int .i64 0))
            clear g1 g2 g3 hz
            go_wp2
            show KR _ _
            exact HKR.out _ _ _ _ _ _ _ _ _ _ _ _ _ _ _ _ _ _ _ _ _ _ _ _ _ _ _ _ _ _ _ _ _ _ _ _ _ _ _ _ _ _ _ _ _ _ _ _ _ _ _ _ _ _ _ _ _ _ _ _ _ _ _ _ _ _ _ _ _ _ _ _ _ _ _ _ _ NF.out g4.out hb5.out
          | false =>
            have hp1 : p2 ≤ line.length + 1 := (HH.out.2.1 rfl).2
            have hp4 : p2 + W1.length + 1 ≤ line.length + 1 := by
              have := (word_pos hp1).2 (by rw [← HW1.out, hk]; simp)
              rw [← HW1.out] at this
              exact this
            have h3 : p2 + W1.length + 1 = p2 + 4 := by rw [hk]; rfl
            have kw : (bs W1).toList = [107, 101, 121] := by rw [bs_toList]; exact hk
            rw [h3] at Y2 hp4
            have EK := Lib.hid (lexpr_any 7 1 (p2 + 4) P line w6 (by omega) (by omega) hl hp4 Y2.out.lx)
            have hB6 : B < w6.heap.size := blockLt Y2.out.ex
            clear hk h3
            go_wp2_with (go_at_call 28; refine Hid.out ?_)
            clear kw l2
            refine Lib.hid ?_
            refine EK.out.mono ?_
            intro rk w7 hsaid
            obtain ⟨key, p6, b6, ak, ck, rfl, lk7, lek, lx7, on7⟩ := Ly.lexed hsaid hB6
            have Y3 := Lib.hid (Y2.out.read lx7 on7)
            have LI3 := Lib.hid (LI2.out.only on7 hPB)
            have LK3 := Lib.hid lk7
            have LEK := Lib.hid lek
            have pp6 := lek.2.1 hp4
            clear hsaid EK Y2 LI2 lx7 on7 lk7 lek
            have q7 : w7.cell? ⟨B, 7, none⟩ = some (.int .i64 0) := Y3.out.c 7
            have f7 := Y3.out.f 7
            have q8 : w7.cell? ⟨B, 8, none⟩ = some (.int .i64 0) := Y3.out.c 8
            have f8 := Y3.out.f 8
            have q9 : w7.cell? ⟨B, 9, none⟩ = some (.string ⟨#[]⟩) := Y3.out.c 9
            have f9 := Y3.out.f 9
            have q10 : w7.cell? ⟨B, 10, none⟩ = some (.slice none 0 0) := Y3.out.c 10
            have f10 := Y3.out.f 10
            obtain ⟨w8, hw8⟩ : ∃ x, x = (((w7.setCell ⟨B, 7, none⟩ (.int .i64 key.k)).setCell ⟨B, 8, none⟩ (.int .i64 key.n)).setCell ⟨B, 9, none⟩ (.string (bs key.s))).setCell ⟨B, 10, none⟩ (.slice ak key.a.length ck) := ⟨_, rfl⟩
            have Y4 : Hid (YL P B line p6 b6 #[.bool e0, .int .i64 wn, .int .i64 iff.k, .int .i64 iff.n, .string (bs iff.s), .slice ai iff.a.length ci, .string (bs S), .int .i64 key.k, .int .i64 key.n, .string (bs key.s), .slice ak key.a.length ck, .int .i64 0, .int .i64 0, .string ⟨#[]⟩, .slice none 0 0] wa w8) := by
              rw [hw8]
              exact (((Y3.out.put 7 rfl).put 8 rfl).put 9 rfl).put 10 rfl
            have LI4 : Hid (Ly B w8 (.slice ai iff.a.length ci) iff) := by
              rw [hw8]
              exact (((LI3.out.put (Nat.le_refl _)).put (Nat.le_refl _)).put (Nat.le_refl _)).put (Nat.le_refl _)
            have LK4 : Hid (Ly B w8 (.slice ak key.a.length ck) key) := by
              rw [hw8]
              exact (((LK3.out.put (Nat.le_refl _)).put (Nat.le_refl _)).put (Nat.le_refl _)).put (Nat.le_refl _)
            have HW_w8 := Lib.hid hw8
            go_upto_region 40 with fail
            rw [← HW_w8.out]
            clear q7 q8 q9 q10 f7 f8 f9 f10 HW_w8 Y3 LI3 LK3 hw8
            have l2 : w8.cell? ⟨P, 2, none⟩ = some (.bool b6) := Y4.out.lx.at (i := 2) rfl
            cases b6 with
            | true =>
              have NF : Hid (NoRule line) := noR_key HH.out LEK.out (.inl rfl)
              have J6 := Lib.hid (JA.out.lower Y4.out.bel)
              have hz := J6.out.res
              have p0 : w8.cell? ⟨RB, 0, none⟩ = some (.slice none 0 0) := by rw [cell_of_row _ _ _ _ _ _ hz]; rfl
              have e0_ := frozen_of_row w8 RB 0 _ _ hz
              have p1 : w8.cell? ⟨RB, 1, none⟩ = some (.int .i64 0) := by rw [cell_of_row _ _ _ _ _ _ hz]; rfl
              have e1_ := frozen_of_row w8 RB 1 _ _ hz
              have p2 : w8.cell? ⟨RB, 2, none⟩ = some (.bool false) := by rw [cell_of_row _ _ _ _ _ _ hz]; rfl
              have e2_ := frozen_of_row w8 RB 2 _ _ hz
              have p3 : w8.cell? ⟨RB, 3, none⟩ = some (.int .i64 0) := by rw [cell_of_row _ _ _ _ _ _ hz]; rfl
              have e3_ := frozen_of_row w8 RB 3 _ _ hz
              have g1 := heap_set (j := 0) hz (.slice none 0 0)
              have g2 := heap_set (j := 1) g1 (.int .i64 0)
              have g3 := heap_set (j := 2) g2 (.bool false)
              have g4 := Lib.hid (heap_set (j := 3) g3 (.int .i64 0))
              have hbz : Hid (Below w.heap.size w w8) := below_trans hbw.out J6.out.bel
              have hb5 := Lib.hid ((((hbz.out.setCell (p := ⟨RB, 0, none⟩) hRB (.slice none 0 0)).setCell (p := ⟨RB, 1, none⟩) hRB (.int .i64 0)).setCell (p := ⟨RB, 2, none⟩) hRB (.bool false)).setCell (p := ⟨RB, 3, none⟩) hRB (.int .i64 0))
              clear g1 g2 g3 hz
              go_wp2
              show KR _ _
              exact HKR.out _ _ _ _ _ _ _ _ _ _ _ _ _ _ _ _ _ _ _ _ _ _ _ _ _ _ _ _ _ _ _ _ _ _ _ _ _ _ _ _ _ _ _ _ _ _ _ _ _ _ _ _ _ _ _ _ _ _ _ _ _ _ _ _ _ _ _ _ _ _ _ _ _ _ _ _ _ NF.out g4.out hb5.out
            | false =>
              have hp6 : p6 ≤ line.length + 1 := pp6.2 rfl
              have WD := Lib.hid (lword_any P line p6 false w8 Y4.out.lx hl (by omega))
              obtain ⟨W2, hW2⟩ : ∃ W, W = wordR (line.drop p6) := ⟨_, rfl⟩
              rw [← hW2] at WD
              have HW2 := Lib.hid hW2
              clear hW2
              go_wp2_with (go_at_call 25; refine Hid.out ?_)
              refine Lib.hid ?_
              refine WD.out.mono ?_
              rintro _ w9 ⟨rfl, lx9⟩
              have Y5 := Lib.hid (Y4.out.read lx9.at' lx9.only)
              have LI5 := Lib.hid (LI4.out.only lx9.only hPB)
              have LK5 := Lib.hid (LK4.out.only lx9.only hPB)
              clear WD lx9 Y4 LI4 LK4 l2
              by_cases hv : W2 = [118, 97, 108]
              · have hp8 : p6 + W2.length + 1 ≤ line.length + 1 := by
                  have := (word_pos hp6).2 (by rw [← HW2.out, hv]; simp)
                  rw [← HW2.out] at this
                  exact this
                have h3 : p6 + W2.length + 1 = p6 + 4 := by rw [hv]; rfl
                have vw : (bs W2).toList = [118, 97, 108] := by rw [bs_toList]; exact hv
                rw [h3] at Y5 hp8
                have EV := Lib.hid (lexpr_any 7 1 (p6 + 4) P line w9 (by omega) (by omega) hl hp8 Y5.out.lx)
                have hB9 : B < w9.heap.size := blockLt Y5.out.ex
                clear hv h3
                go_wp2_with (go_at_call 28; refine Hid.out ?_)
                clear vw
                refine Lib.hid ?_
                refine EV.out.mono ?_
                intro rk w10 hsaid
                obtain ⟨val, p8, b8, av, cv, rfl, lv10, lev, lx10, on10⟩ := Ly.lexed hsaid hB9
                have Y6 := Lib.hid (Y5.out.read lx10 on10)
                have LI6 := Lib.hid (LI5.out.only on10 hPB)
                have LK6 := Lib.hid (LK5.out.only on10 hPB)
                have LV6 := Lib.hid lv10
                have LEV := Lib.hid lev
                have pp8 := lev.2.1 hp8
                clear hsaid EV Y5 LI5 LK5 lx10 on10 lv10 lev
                have q11 : w10.cell? ⟨B, 11, none⟩ = some (.int .i64 0) := Y6.out.c 11
                have f11 := Y6.out.f 11
                have q12 : w10.cell? ⟨B, 12, none⟩ = some (.int .i64 0) := Y6.out.c 12
                have f12 := Y6.out.f 12
                have q13 : w10.cell? ⟨B, 13, none⟩ = some (.string ⟨#[]⟩) := Y6.out.c 13
                have f13 := Y6.out.f 13
                have q14 : w10.cell? ⟨B, 14, none⟩ = some (.slice none 0 0) := Y6.out.c 14
                have f14 := Y6.out.f 14
                obtain ⟨w11, hw11⟩ : ∃ x, x = (((w10.setCell ⟨B, 11, none⟩ (.int .i64 val.k)).setCell ⟨B, 12, none⟩ (.int .i64 val.n)).setCell ⟨B, 13, none⟩ (.string (bs val.s))).setCell ⟨B, 14, none⟩ (.slice av val.a.length cv) := ⟨_, rfl⟩
                have Y7 : Hid (YL P B line p8 b8 #[.bool e0, .int .i64 wn, .int .i64 iff.k, .int .i64 iff.n, .string (bs iff.s), .slice ai iff.a.length ci, .string (bs S), .int .i64 key.k, .int .i64 key.n, .string (bs key.s), .slice ak key.a.length ck, .int .i64 val.k, .int .i64 val.n, .string (bs val.s), .slice av val.a.length cv] wa w11) := by
                  rw [hw11]
                  exact (((Y6.out.put 11 rfl).put 12 rfl).put 13 rfl).put 14 rfl
                have LI7 : Hid (Ly B w11 (.slice ai iff.a.length ci) iff) := by
                  rw [hw11]
                  exact (((LI6.out.put (Nat.le_refl _)).put (Nat.le_refl _)).put (Nat.le_refl _)).put (Nat.le_refl _)
                have LK7 : Hid (Ly B w11 (.slice ak key.a.length ck) key) := by
                  rw [hw11]
                  exact (((LK6.out.put (Nat.le_refl _)).put (Nat.le_refl _)).put (Nat.le_refl _)).put (Nat.le_refl _)
                have LV7 : Hid (Ly B w11 (.slice av val.a.length cv) val) := by
                  rw [hw11]
                  exact (((LV6.out.put (Nat.le_refl _)).put (Nat.le_refl _)).put (Nat.le_refl _)).put (Nat.le_refl _)
                have HW_w11 := Lib.hid hw11
                go_upto_region 43 with fail
                rw [← HW_w11.out]
                clear q11 q12 q13 q14 f11 f12 f13 f14 HW_w11 Y6 LI6 LK6 LV6 hw11
                have l2 : w11.cell? ⟨P, 2, none⟩ = some (.bool b8) := Y7.out.lx.at (i := 2) rfl
                have J7 := Lib.hid (JA.out.lower Y7.out.bel)
                cases b8 with
                | true =>
                  have NF : Hid (NoRule line) := noR_val HH.out LEK.out LEV.out
                  have J6 := J7
                  have hz := J6.out.res
                  have p0 : w11.cell? ⟨RB, 0, none⟩ = some (.slice none 0 0) := by rw [cell_of_row _ _ _ _ _ _ hz]; rfl
                  have e0_ := frozen_of_row w11 RB 0 _ _ hz
                  have p1 : w11.cell? ⟨RB, 1, none⟩ = some (.int .i64 0) := by rw [cell_of_row _ _ _ _ _ _ hz]; rfl
                  have e1_ := frozen_of_row w11 RB 1 _ _ hz
                  have p2 : w11.cell? ⟨RB, 2, none⟩ = some (.bool false) := by rw [cell_of_row _ _ _ _ _ _ hz]; rfl
                  have e2_ := frozen_of_row w11 RB 2 _ _ hz
                  have p3 : w11.cell? ⟨RB, 3, none⟩ = some (.int .i64 0) := by rw [cell_of_row _ _ _ _ _ _ hz]; rfl
                  have e3_ := frozen_of_row w11 RB 3 _ _ hz
                  have g1 := heap_set (j := 0) hz (.slice none 0 0)
                  have g2 := heap_set (j := 1) g1 (.int .i64 0)
                  have g3 := heap_set (j := 2) g2 (.bool false)
                  have g4 := Lib.hid (heap_set (j := 3) g3 (.int .i64 0))
                  have hbz : Hid (Below w.heap.size w w11) := below_trans hbw.out J6.out.bel
                  have hb5 := Lib.hid ((((hbz.out.setCell (p := ⟨RB, 0, none⟩) hRB (.slice none 0 0)).setCell (p := ⟨RB, 1, none⟩) hRB (.int .i64 0)).setCell (p := ⟨RB, 2, none⟩) hRB (.bool false)).setCell (p := ⟨RB, 3, none⟩) hRB (.int .i64 0))
                  clear g1 g2 g3 hz
                  go_wp2
                  show KR _ _
                  exact HKR.out _ _ _ _ _ _ _ _ _ _ _ _ _ _ _ _ _ _ _ _ _ _ _ _ _ _ _ _ _ _ _ _ _ _ _ _ _ _ _ _ _ _ _ _ _ _ _ _ _ _ _ _ _ _ _ _ _ _ _ _ _ _ _ _ _ _ _ _ _ _ _ _ _ _ _ _ _ NF.out g4.out hb5.out
                | false =>
                  have HLX : Hid (LexR line ⟨e0, wn, iff, S, key, val⟩) := lexR_of HH.out LEK.out LEV.out pp8.1
                  have R7 := Lib.hid (RA.out.lower Y7.out.bel)
                  go_upto_region 45 with fail
                  have v0 : w11.cell? ⟨JB, 0, none⟩ = some rv := by rw [cell_of_row _ _ _ _ _ _ J7.out.ex]; rfl
                  have v_0 : w11.cell? ⟨B, 0, none⟩ = some (.bool e0) := Y7.out.c 0
                  have v_1 : w11.cell? ⟨B, 1, none⟩ = some (.int .i64 wn) := Y7.out.c 1
                  have v_2 : w11.cell? ⟨B, 2, none⟩ = some (.int .i64 iff.k) := Y7.out.c 2
                  have v_3 : w11.cell? ⟨B, 3, none⟩ = some (.int .i64 iff.n) := Y7.out.c 3
                  have v_4 : w11.cell? ⟨B, 4, none⟩ = some (.string (bs iff.s)) := Y7.out.c 4
                  have v_5 : w11.cell? ⟨B, 5, none⟩ = some (.slice ai iff.a.length ci) := Y7.out.c 5
                  have v_6 : w11.cell? ⟨B, 6, none⟩ = some (.string (bs S)) := Y7.out.c 6
                  have v_7 : w11.cell? ⟨B, 7, none⟩ = some (.int .i64 key.k) := Y7.out.c 7
                  have v_8 : w11.cell? ⟨B, 8, none⟩ = some (.int .i64 key.n) := Y7.out.c 8
                  have v_9 : w11.cell? ⟨B, 9, none⟩ = some (.string (bs key.s)) := Y7.out.c 9
                  have v_10 : w11.cell? ⟨B, 10, none⟩ = some (.slice ak key.a.length ck) := Y7.out.c 10
                  have v_11 : w11.cell? ⟨B, 11, none⟩ = some (.int .i64 val.k) := Y7.out.c 11
                  have v_12 : w11.cell? ⟨B, 12, none⟩ = some (.int .i64 val.n) := Y7.out.c 12
                  have v_13 : w11.cell? ⟨B, 13, none⟩ = some (.string (bs val.s)) := Y7.out.c 13
                  have v_14 : w11.cell? ⟨B, 14, none⟩ = some (.slice av val.a.length cv) := Y7.out.c 14
                  clear l2
                  obtain ⟨w12, hw12⟩ : ∃ x, x = w11.alloc (.cells #[.bool e0, .int .i64 wn, .int .i64 iff.k, .int .i64 iff.n, .string (bs iff.s), .slice ai iff.a.length ci, .string (bs S), .int .i64 key.k, .int .i64 key.n, .string (bs key.s), .slice ak key.a.length ck, .int .i64 val.k, .int .i64 val.n, .string (bs val.s), .slice av val.a.length cv] 46) := ⟨_, rfl⟩
                  have hb12 : Below w11.heap.size w11 w12 := by rw [hw12]; exact below_box _
                  have C12 : w12.heap[w11.heap.size]? = some (.cells #[.bool e0, .int .i64 wn, .int .i64 iff.k, .int .i64 iff.n, .string (bs iff.s), .slice ai iff.a.length ci, .string (bs S), .int .i64 key.k, .int .i64 key.n, .string (bs key.s), .slice ak key.a.length ck, .int .i64 val.k, .int .i64 val.n, .string (bs val.s), .slice av val.a.length cv] 46 (0, 0)) := by rw [hw12]; exact heap_alloc_new _ _
                  have J12 := Lib.hid (J7.out.lower hb12)
                  have R12 := Lib.hid (R7.out.lower hb12)
                  have hs12 : w12.heap.size = w11.heap.size + 1 := by rw [hw12]; simp
                  have hle : w2.heap.size ≤ w11.heap.size := J7.out.bel.size
                  have hJB : JB < w12.heap.size := blockLt J12.out.ex
                  have hJA : JB < wa.heap.size := blockLt JA.out.ex
                  have HB12 := Lib.hid hb12
                  have HW12 := Lib.hid hw12
                  obtain ⟨A9, lo9, hi9, own9', bb9', -⟩ := R12.out
                  have own9 := Lib.hid own9'
                  have bb9 := Lib.hid bb9'
                  obtain ⟨i0, hi, hz0, hz1, hz2⟩ := info_parts ruleInfo
                  clear hw12 hb12 own9' bb9'
                  go_wp2_with (at_builtin; refine Hid.out ?_)

                  refine Lib.hid ?_
                  rw [← HW12.out]
                  refine wpList_append_lies _ rfl (.tmp 156) (.tmp 158) 22 rfl w2.heap.size 46 i0 (.agg zeroR) 15 200 Tryz.underlying22 hi hz0 hz1 hz2 rfl (by decide) rv rs.length (cellsR rs A9) (by simp [Act.eval]) own9.out ⟨w11.heap.size, 0, none⟩ 1 1 [.bool e0, .int .i64 wn, .int .i64 iff.k, .int .i64 iff.n, .string (bs iff.s), .slice ai iff.a.length ci, .string (bs S), .int .i64 key.k, .int .i64 key.n, .string (bs key.s), .slice ak key.a.length ck, .int .i64 val.k, .int .i64 val.n, .string (bs val.s), .slice av val.a.length cv] (by simp [Act.eval]) rfl (World.news_of_block C12) (fun u hu => by simp only [List.mem_cons, List.not_mem_nil, or_false] at hu; rcases hu with rfl | rfl | rfl | rfl | rfl | rfl | rfl | rfl | rfl | rfl | rfl | rfl | rfl | rfl | rfl <;> rfl) (by decide) (by unfold maxLen; omega) (by omega) (by omega) _ rfl ?_
                  intro g cap w13 hown hgrow hat hlt
                  have J13 := Lib.hid (J12.out.grown hgrow bb9.out)
                  have c13 : w13.cell? ⟨JB, 0, none⟩ = some rv := by rw [cell_of_row _ _ _ _ _ _ J13.out.ex]; rfl
                  have f13 := frozen_of_row w13 JB 0 _ _ J13.out.ex
                  have R13 : Hid (RulesAt JB w2.heap.size w13 (.slice (some ⟨g, 0, none⟩) (rs.length + 1) cap) (rs ++ [⟨e0, wn, iff, S, key, val⟩])) := by
                    have hB1 := HBB.out
                    have hP1 := HP.out
                    have hkp : ∀ lo, Keeps lo w11.heap.size w11 w12 := fun lo => Keeps.of_below HB12.out (Nat.le_refl _)
                    obtain ⟨lo1, hi1, a1, b1, x1⟩ := LI7.out
                    obtain ⟨lo2, hi2, a2, b2', x2⟩ := LK7.out
                    obtain ⟨lo3, hi3, a3, b3', x3⟩ := LV7.out
                    refine RulesAt.more (w1 := wa) (w2 := w12) (H := w11.heap.size) RA.out hJA R12.out ((x1.wide (by omega) b1).carry (hkp _)) ((x2.wide (by omega) b2').carry (hkp _)) ((x3.wide (by omega) b3').carry (hkp _)) (by omega) (fun A hA => ?_) hgrow ?_ hJB
                    · rw [owns_unique hA own9.out]; exact hown
                    · rcases hat with h | h
                      · exact .inl h
                      · exact .inr h
                  have J14 : Hid (JSt JB (.slice (some ⟨g, 0, none⟩) (rs.length + 1) cap) fo ea sl RB w2 (w13.setCell ⟨JB, 0, none⟩ (.slice (some ⟨g, 0, none⟩) (rs.length + 1) cap))) := J13.out.put
                  have R14 : Hid (RulesAt JB w2.heap.size (w13.setCell ⟨JB, 0, none⟩ (.slice (some ⟨g, 0, none⟩) (rs.length + 1) cap)) (.slice (some ⟨g, 0, none⟩) (rs.length + 1) cap) (rs ++ [⟨e0, wn, iff, S, key, val⟩])) := R13.out.put
                  clear hown hgrow hat hlt J13 R13
                  go_wp2
                  exact HK.out _ _ _ _ _ _ _ _ _ _ _ _ _ _ _ _ _ _ _ _ _ _ _ _ _ _ _ _ _ _ _ _ _ _ _ _ _ _ _ _ _ _ _ _ _ _ _ _ _ _ _ _ _ _ _ _ _ _ _ _ _ _ _ _ _ _ _ _ _ _ _ _ _ _ _ _ ⟨e0, wn, iff, S, key, val⟩ _ _ HLX.out J14.out R14.out
              · have NF : Hid (NoRule line) := noR_key HH.out LEK.out (.inr (by rw [← HW2.out]; exact hv))
                have J6 := Lib.hid (JA.out.lower Y5.out.bel)
                have vw : ¬ (bs W2).toList = [118, 97, 108] := by rw [bs_toList]; exact hv
                have vwb : ((bs W2).toList == [118, 97, 108]) = false := by rw [bs_toList]; simpa using hv
                have vwc : ((bs W2).toList == (⟨#[118, 97, 108]⟩ : ByteArray).toList) = false := by rw [show (⟨#[118, 97, 108]⟩ : ByteArray) = bs [118, 97, 108] from rfl, bs_toList, bs_toList]; simpa using hv
                clear hv
                have hz := J6.out.res
                have p0 : w9.cell? ⟨RB, 0, none⟩ = some (.slice none 0 0) := by rw [cell_of_row _ _ _ _ _ _ hz]; rfl
                have e0_ := frozen_of_row w9 RB 0 _ _ hz
                have p1 : w9.cell? ⟨RB, 1, none⟩ = some (.int .i64 0) := by rw [cell_of_row _ _ _ _ _ _ hz]; rfl
                have e1_ := frozen_of_row w9 RB 1 _ _ hz
                have p2 : w9.cell? ⟨RB, 2, none⟩ = some (.bool false) := by rw [cell_of_row _ _ _ _ _ _ hz]; rfl
                have e2_ := frozen_of_row w9 RB 2 _ _ hz
                have p3 : w9.cell? ⟨RB, 3, none⟩ = some (.int .i64 0) := by rw [cell_of_row _ _ _ _ _ _ hz]; rfl
                have e3_ := frozen_of_row w9 RB 3 _ _ hz
                have g1 := heap_set (j := 0) hz (.slice none 0 0)
                have g2 := heap_set (j := 1) g1 (.int .i64 0)
                have g3 := heap_set (j := 2) g2 (.bool false)
                have g4 := Lib.hid (heap_set (j := 3) g3 (.int .i64 0))
                have hbz : Hid (Below w.heap.size w w9) := below_trans hbw.out J6.out.bel
                have hb5 := Lib.hid ((((hbz.out.setCell (p := ⟨RB, 0, none⟩) hRB (.slice none 0 0)).setCell (p := ⟨RB, 1, none⟩) hRB (.int .i64 0)).setCell (p := ⟨RB, 2, none⟩) hRB (.bool false)).setCell (p := ⟨RB, 3, none⟩) hRB (.int .i64 0))
                clear g1 g2 g3 hz
                go_wp2
                show KR _ _
                exact HKR.out _ _ _ _ _ _ _ _ _ _ _ _ _ _ _ _ _ _ _ _ _ _ _ _ _ _ _ _ _ _ _ _ _ _ _ _ _ _ _ _ _ _ _ _ _ _ _ _ _ _ _ _ _ _ _ _ _ _ _ _ _ _ _ _ _ _ _ _ _ _ _ _ _ _ _ _ _ NF.out g4.out hb5.out
        · have NF : Hid (NoRule line) := noR_head HH.out (.inr (by rw [← HW1.out]; exact hk))
          have J6 := Lib.hid (JA.out.lower Y2.out.bel)
          have kw : ¬ (bs W1).toList = [107, 101, 121] := by rw [bs_toList]; exact hk
          clear hk
          have hz := J6.out.res
          have p0 : w6.cell? ⟨RB, 0, none⟩ = some (.slice none 0 0) := by rw [cell_of_row _ _ _ _ _ _ hz]; rfl
          have e0_ := frozen_of_row w6 RB 0 _ _ hz
          have p1 : w6.cell? ⟨RB, 1, none⟩ = some (.int .i64 0) := by rw [cell_of_row _ _ _ _ _ _ hz]; rfl
          have e1_ := frozen_of_row w6 RB 1 _ _ hz
          have p2 : w6.cell? ⟨RB, 2, none⟩ = some (.bool false) := by rw [cell_of_row _ _ _ _ _ _ hz]; rfl
          have e2_ := frozen_of_row w6 RB 2 _ _ hz
          have p3 : w6.cell? ⟨RB, 3, none⟩ = some (.int .i64 0) := by rw [cell_of_row _ _ _ _ _ _ hz]; rfl
          have e3_ := frozen_of_row w6 RB 3 _ _ hz
          have g1 := heap_set (j := 0) hz (.slice none 0 0)
          have g2 := heap_set (j := 1) g1 (.int .i64 0)
          have g3 := heap_set (j := 2) g2 (.bool false)
          have g4 := Lib.hid (heap_set (j := 3) g3 (.int .i64 0))
          have hbz : Hid (Below w.heap.size w w6) := below_trans hbw.out J6.out.bel
          have hb5 := Lib.hid ((((hbz.out.setCell (p := ⟨RB, 0, none⟩) hRB (.slice none 0 0)).setCell (p := ⟨RB, 1, none⟩) hRB (.int .i64 0)).setCell (p := ⟨RB, 2, none⟩) hRB (.bool false)).setCell (p := ⟨RB, 3, none⟩) hRB (.int .i64 0))
          clear g1 g2 g3 hz
          go_wp2
          show KR _ _
          exact HKR.out _ _ _ _ _ _ _ _ _ _ _ _ _ _ _ _ _ _ _ _ _ _ _ _ _ _ _ _ _ _ _ _ _ _ _ _ _ _ _ _ _ _ _ _ _ _ _ _ _ _ _ _ _ _ _ _ _ _ _ _ _ _ _ _ _ _ _ _ _ _ _ _ _ _ _ _ _ NF.out g4.out hb5.out
end Go.Proofs.YtfjpgjkfmcedoaaGreatDoor
