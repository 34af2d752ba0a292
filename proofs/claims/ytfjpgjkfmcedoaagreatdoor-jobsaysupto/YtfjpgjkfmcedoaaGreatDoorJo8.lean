/- JobOf: the lines, one by one. Written by tpl/mk_jo8.py. -/
import Derived.Test.YtfjpgjkfmcedoaaGreatDoorJo7
import Derived.Deep.LoopGhost
namespace Go.Proofs.YtfjpgjkfmcedoaaGreatDoor
open Go.ChangeShapes Go.WideShapes Go.ChangeAt Go.RowKit
theorem joined_nil {l : List (List UInt8)} (h : ([] : List UInt8) = joined l) : l = [] := by
  cases l with
  | nil => rfl
  | cons x l => simp [joined] at h
/-- What the first line says of any job whose first line it is. -/
def HeadIs (head : List UInt8) (fo : Int) (ea : Bool) (sl : Int) : Prop := ∀ j, jobFault j = 0 → head = lineH j → fo = j.fold ∧ ea = j.early ∧ sl = j.slices
theorem jobOf_uniq {j : Jb} {head s : List UInt8} {done : List (List UInt8)} {rs : List Rl} {fo sl : Int} {ea : Bool} (hf : jobFault j = 0) (hj : jobL j = s) (hs : s = joined (head :: done)) (hp : ∀ x ∈ head :: done, ∀ b ∈ x, b ≠ 10) (hx : LexRs done rs) (hH : HeadIs head fo ea sl) :
    (⟨rs, fo, ea, sl⟩ : Jb) = j := by
  obtain ⟨B', e, e2⟩ := job_prefix (R := []) hf (by rw [List.append_nil]; exact hs) hp hj
  rw [joined_nil e2, List.append_nil] at e
  injection e with h1 h2
  obtain ⟨a, b, c⟩ := hH j hf h1.symm
  have hr : rs = j.rules := lexRs_back (rulesFault_all (jobFault_rules hf)) (by rw [h2]; exact hx)
  obtain ⟨l, f, e, sl'⟩ := j
  simp only at a b c hr
  rw [a, b, c, hr]
/-- The lines that have been gone through, and what they gave. -/
structure Ls (s head : List UInt8) (rest : List UInt8) (done : List (List UInt8)) (rs : List Rl) : Prop where
  all : s = joined (head :: done) ++ rest
  plain : ∀ x ∈ head :: done, ∀ b ∈ x, b ≠ 10
  ends : rest = [] ∨ rest.getLast? = some 10
  lex : LexRs done rs
theorem Ls.count {s head rest : List UInt8} {done : List (List UInt8)} {rs : List Rl} (h : Ls s head rest done rs) : rs.length + rest.length ≤ s.length := by
  obtain ⟨-, -, h3⟩ := lexRs_wt h.lex
  have hl : done.length ≤ (joined done).length := by
    have : ∀ l : List (List UInt8), l.length ≤ (joined l).length := by
      intro l
      induction l with
      | nil => simp
      | cons a l ih =>
        have e : (joined (a :: l)).length = a.length + 1 + (joined l).length := by simp [joined]; omega
        rw [e]; simp; omega
    exact this done
  have e : (joined (head :: done)).length = head.length + 1 + (joined done).length := by simp [joined]; omega
  rw [h.all, List.length_append, e]
  omega
theorem Ls.cut {s head rest : List UInt8} {done : List (List UInt8)} {rs : List Rl} (h : Ls s head rest done rs) (hr : rest ≠ []) :
    ∃ x r, Pp.cutAt 10 rest = (x, r, true) ∧ r.length < rest.length ∧ x.length ≤ rest.length ∧ (∀ y, LexR x y → Ls s head r (done ++ [x]) (rs ++ [y])) ∧ (NoRule x → ∀ j, jobFault j = 0 → jobL j ≠ s) := by
  rcases h.ends with h0 | h0
  · exact absurd h0 hr
  obtain ⟨x, r, h1, h2, h3, h4⟩ := cut_line h0
  have hl := congrArg List.length h2
  rw [List.length_append, List.length_cons] at hl
  have e : joined (head :: (done ++ [x])) = joined (head :: done) ++ (x ++ [10]) := by
    rw [← List.cons_append, joined_snoc]
  have hs : s = joined (head :: done ++ [x]) ++ r := by
    rw [List.cons_append, e, h.all, h2]
    simp
  have hp : ∀ y ∈ head :: done ++ [x], ∀ b ∈ y, b ≠ 10 := by
    intro y hy
    rcases List.mem_append.1 hy with hy | hy
    · exact h.plain y hy
    · rw [List.mem_singleton] at hy
      rw [hy]
      exact h3
  refine ⟨x, r, h1, by omega, by omega, fun y hy => ⟨hs, hp, h4, lexRs_snoc h.lex hy⟩, fun hn j hf => job_no hf hs hp hn⟩
set_option maxRecDepth 1000000 in
set_option maxHeartbeats 8000000 in
theorem jo_b2 (JB RB : Nat) (s head rest : List UInt8) (fo sl : Int) (ea : Bool) (w w2 : World) (w0 : World) (K KR : Act → World → Prop) (s0 s1 s3 s4 s5 s7 s9 s10 s11 s12 s13 s14 s15 s16 s17 s18 s19 s20 s21 s22 s23 s24 s25 s26 s27 s28 s29 s30 s31 s32 s33 s34 s35 s36 s37 s38 s39 s40 s41 s42 s43 s44 s45 s46 s47 s48 s49 s50 s51 s52 s53 s54 s55 s56 s57 s58 s59 s60 s61 s62 s63 s64 s65 s66 s67 s68 s69 s70 s71 s72 s73 s74 s75 s76 s77 s78 s79 s80 s81 s82 s83 s84 s85 s86 s87 s88 s89 s90 s91 s92 s93 s94 s95 s96 s97 s98 s99 s100 s101 s102 s103 s104 s105 s106 s107 s108 s109 s110 s111 s112 s113 s114 s115 s116 s117 s118 s119 s120 s121 s122 s123 s124 s125 s126 s127 s128 s129 s130 s131 s132 s133 s134 s135 s136 s137 s138 s139 s140 s141 s142 s143 s144 s145 s146 s147 s148 s149 s150 s151 s152 s153 s154 s155 s156 s157 s158 s159 s160 s161 s162 s163 s164 s165 s166 s167 s168 s169 s170 s171 s172 s173 s174 s175 s176 s177 s178 : Value)
    (J0 : Hid (JSt JB (.slice none 0 0) fo ea sl RB w2 w0))
    (L0 : Hid (Ls s head rest [] []))
    (hl : Hid (s.length ≤ 1000))
    (hbw : Hid (Below w.heap.size w w2))
    (hRB : w.heap.size ≤ RB)
    (HK : Hid (∀ (z3 z6 z14 z15 z16 z17 z18 z88 z89 z90 z91 z92 z93 z94 z95 z96 z97 z98 z99 z100 z101 z102 z103 z104 z105 z106 z107 z108 z109 z110 z111 z112 z113 z114 z115 z116 z117 z118 z119 z120 z121 z122 z123 z124 z125 z126 z127 z128 z129 z130 z131 z132 z133 z134 z135 z136 z137 z138 z139 z140 z141 z142 z143 z144 z145 z146 z147 z148 z149 z150 z151 z152 z153 z154 z155 z156 z157 z158 z159 z160 : Value) (done : List (List UInt8)) (rs : List Rl) (rv2 : Value) (wx : World), Ls s head [] done rs → JSt JB rv2 fo ea sl RB w2 wx → RulesAt JB w2.heap.size wx rv2 rs → K ⟨#[s0, s1, .pointer (some ⟨RB, 0, none⟩), z3, s4, s5, z6, s7, .pointer (some ⟨JB, 0, none⟩), s9, s10, s11, s12, s13, z14, z15, z16, z17, z18, s19, s20, s21, s22, s23, s24, s25, s26, s27, s28, s29, s30, s31, s32, s33, s34, s35, s36, s37, s38, s39, s40, s41, s42, s43, s44, s45, s46, s47, s48, s49, s50, s51, s52, s53, s54, s55, s56, s57, s58, s59, s60, s61, s62, s63, s64, s65, s66, s67, s68, s69, s70, s71, s72, s73, s74, s75, s76, s77, s78, s79, s80, s81, s82, s83, s84, s85, s86, s87, z88, z89, z90, z91, z92, z93, z94, z95, z96, z97, z98, z99, z100, z101, z102, z103, z104, z105, z106, z107, z108, z109, z110, z111, z112, z113, z114, z115, z116, z117, z118, z119, z120, z121, z122, z123, z124, z125, z126, z127, z128, z129, z130, z131, z132, z133, z134, z135, z136, z137, z138, z139, z140, z141, z142, z143, z144, z145, z146, z147, z148, z149, z150, z151, z152, z153, z154, z155, z156, z157, z158, z159, z160, s161, s162, s163, s164, s165, s166, s167, s168, s169, s170, s171, s172, s173, s174, s175, s176, s177, s178], []⟩ wx))
    (HKR : Hid (∀ (z6 z14 z15 z16 z17 z18 z88 z89 z90 z91 z92 z93 z94 z95 z96 z97 z98 z99 z100 z101 z102 z103 z104 z105 z106 z107 z108 z109 z110 z111 z112 z113 z114 z115 z116 z117 z118 z119 z120 z121 z122 z123 z124 z125 z126 z127 z128 z129 z130 z131 z132 z133 z134 z135 z136 z137 z138 z139 z140 z141 z142 z143 z144 z145 z146 z147 z148 z149 z150 z151 z152 z153 z154 z155 z156 z157 z158 z159 z160 : Value) (wx : World), (∀ j, jobFault j = 0 → jobL j ≠ s) → wx.heap[RB]? = some (.cells #[.slice none 0 0, .int .i64 0, .bool false, .int .i64 0] 24 (0, 0)) → Below w.heap.size w wx → KR ⟨#[s0, s1, .pointer (some ⟨RB, 0, none⟩), .int .i64 4, s4, s5, z6, s7, .pointer (some ⟨JB, 0, none⟩), s9, s10, s11, s12, s13, z14, z15, z16, z17, z18, s19, s20, s21, s22, s23, s24, s25, s26, s27, s28, s29, s30, s31, s32, s33, s34, s35, s36, s37, s38, s39, s40, s41, s42, s43, s44, s45, s46, s47, s48, s49, s50, s51, s52, s53, s54, s55, s56, s57, s58, s59, s60, s61, s62, s63, s64, s65, s66, s67, s68, s69, s70, s71, s72, s73, s74, s75, s76, s77, s78, s79, s80, s81, s82, s83, s84, s85, s86, s87, z88, z89, z90, z91, z92, z93, z94, z95, z96, z97, z98, z99, z100, z101, z102, z103, z104, z105, z106, z107, z108, z109, z110, z111, z112, z113, z114, z115, z116, z117, z118, z119, z120, z121, z122, z123, z124, z125, z126, z127, z128, z129, z130, z131, z132, z133, z134, z135, z136, z137, z138, z139, z140, z141, z142, z143, z144, z145, z146, z147, z148, z149, z150, z151, z152, z153, z154, z155, z156, z157, z158, z159, z160, s161, s162, s163, s164, s165, s166, s167, s168, s169, s170, s171, s172, s173, s174, s175, s176, s177, s178], []⟩ wx)) :
    Code.wp Tryz.prog (pieceIn Tryz.f12.body 2) (Exit.then K (retQ KR)) ⟨#[s0, s1, .pointer (some ⟨RB, 0, none⟩), s3, s4, s5, .string (bs rest), s7, .pointer (some ⟨JB, 0, none⟩), s9, s10, s11, s12, s13, s14, s15, s16, s17, s18, s19, s20, s21, s22, s23, s24, s25, s26, s27, s28, s29, s30, s31, s32, s33, s34, s35, s36, s37, s38, s39, s40, s41, s42, s43, s44, s45, s46, s47, s48, s49, s50, s51, s52, s53, s54, s55, s56, s57, s58, s59, s60, s61, s62, s63, s64, s65, s66, s67, s68, s69, s70, s71, s72, s73, s74, s75, s76, s77, s78, s79, s80, s81, s82, s83, s84, s85, s86, s87, s88, s89, s90, s91, s92, s93, s94, s95, s96, s97, s98, s99, s100, s101, s102, s103, s104, s105, s106, s107, s108, s109, s110, s111, s112, s113, s114, s115, s116, s117, s118, s119, s120, s121, s122, s123, s124, s125, s126, s127, s128, s129, s130, s131, s132, s133, s134, s135, s136, s137, s138, s139, s140, s141, s142, s143, s144, s145, s146, s147, s148, s149, s150, s151, s152, s153, s154, s155, s156, s157, s158, s159, s160, s161, s162, s163, s164, s165, s166, s167, s168, s169, s170, s171, s172, s173, s174, s175, s176, s177, s178], []⟩ w0 := by
  obtain ⟨n0, hn0⟩ : ∃ n, n = rest.length := ⟨_, rfl⟩
  have HN0 := Lib.hid hn0
  clear hn0
  have R0 := Lib.hid (RulesAt.zero JB w2.heap.size w0)
  conv => arg 2; whnf
  go_wp2_with fail
  go_loopg [6] n0 (fun gg tv wr => ∃ (rest2 : List UInt8) (done : List (List UInt8)) (rs : List Rl) (rv : Value), gg = rest2.length ∧ tv = .string (bs rest2) ∧ Hid (Ls s head rest2 done rs) ∧ Hid (JSt JB rv fo ea sl RB w2 wr) ∧ Hid (RulesAt JB w2.heap.size wr rv rs))
  case atStart => exact ⟨rest, [], [], .slice none 0 0, HN0.out, rfl, L0, J0, R0⟩
  case round =>
    clear J0 R0 L0
    obtain ⟨rest2, done, rs, rv, hgg, rfl, L, J, R⟩ := hrel
    have HGG := Lib.hid hgg
    have hsz : (bs rest2).size = rest2.length := bs_size rest2
    have hct := L.out.count
    have hl2 := hl.out
    clear hgg
    by_cases h0 : rest2 = []
    · have hz : (bs rest2).size = 0 := by rw [hsz, h0]; rfl
      have LF : Hid (Ls s head [] done rs) := by
        show Ls _ _ _ _ _
        have h := L.out
        rw [h0] at h
        exact h
      clear h0 hct hl2 L HGG hsz
      go_wp2
      exact HK.out _ _ _ _ _ _ _ _ _ _ _ _ _ _ _ _ _ _ _ _ _ _ _ _ _ _ _ _ _ _ _ _ _ _ _ _ _ _ _ _ _ _ _ _ _ _ _ _ _ _ _ _ _ _ _ _ _ _ _ _ _ _ _ _ _ _ _ _ _ _ _ _ _ _ _ _ _ _ _ _ done rs rv wr LF.out J.out R.out
    · obtain ⟨x, r, hcut, hlt, hxl, hgo, hno⟩ := L.out.cut h0
      have hpos : 0 < (bs rest2).size := by
        rw [hsz]
        exact List.length_pos_iff.2 h0
      have UP : Hid (∀ w', Calls Tryz.prog 24 #[.string (bs rest2), .int .u8 10] w' fun e w'' => e = .returned (.tuple #[.string (bs x), .string (bs r), .bool true]) ∧ Below w'.heap.size w' w'') := fun w' => by
        have h := Pp.upTo_any (bs rest2) 10 w' (by rw [hsz]; unfold maxLen; omega)
        rw [bs_data, hcut] at h
        refine h.mono ?_
        rintro e w'' ⟨rfl, n, rfl⟩
        exact ⟨rfl, below_drewN _ _⟩
      have HLT := Lib.hid hlt
      have HGO := Lib.hid hgo
      have HNO := Lib.hid hno
      have hxl2 : x.length ≤ 1000 := by omega
      have hrs2 : rs.length ≤ 1000 := by omega
      clear h0 hct hl2 hcut hlt hxl hgo hno hsz L
      go_upto_block 3 with fail
      refine wp_normR (jo_b3 JB RB rest2 x r rs rv fo sl ea w w2 _ _ _ _ _ _ _ _ _ _ _ _ _ _ _ _ _ _ _ _ _ _ _ _ _ _ _ _ _ _ _ _ _ _ _ _ _ _ _ _ _ _ _ _ _ _ _ _ _ _ _ _ _ _ _ _ _ _ _ _ _ _ _ _ _ _ _ _ _ _ _ _ _ _ _ _ _ _ _ _ _ _ _ _ _ _ _ _ _ _ _ _ _ _ _ _ _ _ _ _ _ _ _ _ _ _ _ _ _ _ _ _ _ _ _ _ _ _ _ _ _ _ _ _ _ _ _ _ _ _ _ _ _ _ _ _ _ _ _ _ _ _ _ _ _ _ _ _ _ _ _ _ _ _ _ _ _ _ _ _ _ _ _ _ _ _ _ _ _ _ _ _ _ _ _ _ _ _ _ J R UP hxl2 hrs2 hbw hRB ?_ ?_)
      · refine Lib.hid ?_
        intro z3 z14 z15 z16 z17 z18 z91 z92 z93 z94 z95 z96 z97 z98 z99 z100 z101 z102 z103 z104 z105 z106 z107 z108 z109 z110 z111 z112 z113 z114 z115 z116 z117 z118 z119 z120 z121 z122 z123 z124 z125 z126 z127 z128 z129 z130 z131 z132 z133 z134 z135 z136 z137 z138 z139 z140 z141 z142 z143 z144 z145 z146 z147 z148 z149 z150 z151 z152 z153 z154 z155 z156 z157 z158 z159 z160 y rv2 wx hy hJ hR
        have L2 := Lib.hid (HGO.out y hy)
        have J2 := Lib.hid hJ
        have R2 := Lib.hid hR
        clear hy hJ hR
        go_wp2
        go_roundg r.length
        case measure => have := HGG.out; have := HLT.out; omega
        case rel => exact ⟨r, _, _, rv2, rfl, rfl, L2, J2, R2⟩
      · refine Lib.hid ?_
        intro z6 z14 z15 z16 z17 z18 z91 z92 z93 z94 z95 z96 z97 z98 z99 z100 z101 z102 z103 z104 z105 z106 z107 z108 z109 z110 z111 z112 z113 z114 z115 z116 z117 z118 z119 z120 z121 z122 z123 z124 z125 z126 z127 z128 z129 z130 z131 z132 z133 z134 z135 z136 z137 z138 z139 z140 z141 z142 z143 z144 z145 z146 z147 z148 z149 z150 z151 z152 z153 z154 z155 z156 z157 z158 z159 z160 wx hn hz hb
        (try simp only [Exit.then, Exit.inBlock])
        exact HKR.out _ _ _ _ _ _ _ _ _ _ _ _ _ _ _ _ _ _ _ _ _ _ _ _ _ _ _ _ _ _ _ _ _ _ _ _ _ _ _ _ _ _ _ _ _ _ _ _ _ _ _ _ _ _ _ _ _ _ _ _ _ _ _ _ _ _ _ _ _ _ _ _ _ _ _ _ _ _ _ wx (HNO.out hn) hz hb
end Go.Proofs.YtfjpgjkfmcedoaaGreatDoor
