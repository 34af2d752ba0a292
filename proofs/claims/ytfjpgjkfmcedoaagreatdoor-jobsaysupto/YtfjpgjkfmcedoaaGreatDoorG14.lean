/- Put together of Lx7, Lx8. -/
import Derived.Test.YtfjpgjkfmcedoaaGreatDoorG13
import Derived.Test.YtfjpgjkfmcedoaaGreatDoorRdE
/- The document's lexer: an expression's parts. Written by tpl/mk_lx7.py. -/
namespace Go.Proofs.YtfjpgjkfmcedoaaGreatDoor
open Go.ChangeShapes Go.WideShapes Go.ChangeAt Go.RowKit
set_option maxRecDepth 1000000 in
set_option maxHeartbeats 4000000 in
theorem lx_b3 (P B : Nat) (s : List UInt8) (a3 d m2 : Nat) (b3 : Bool) (k n : Int) (t : List UInt8) (w : World) (w0 : World) (K : Act → World → Prop) (s2 s3 s4 s5 s7 s8 s9 s10 s13 s14 s15 s16 s17 s18 s19 s20 s21 s22 s23 s24 s25 s26 s27 s28 s29 s30 s31 s32 s33 s34 s35 s36 s37 s38 s39 s40 s41 s42 s43 s44 s45 s46 s47 s48 s49 s50 s51 s52 s53 s54 s55 s56 s57 s58 s59 s60 s61 s62 s63 s64 s65 s66 s67 s68 s69 s70 s71 s72 s73 s74 s75 s76 s77 s78 s79 s80 s81 s82 s83 s84 s85 s86 s87 s88 s89 s90 s91 s92 s93 s94 s95 s96 s97 s98 s99 s100 s101 s102 s103 s104 : Value)
    (X7 : Hid (LSt P B s a3 b3 k n t (.slice none 0 0) w w0))
    (hd : d ≤ 5)
    (hm22 : m2 ≤ 2)
    (hpos : Hid (PosL s a3 b3))
    (IH : Hid (∀ a w1, Blk w1 P 64 (lexC s a false) → a ≤ s.length + 1 → Calls Tryz.prog 28 #[.pointer (some ⟨P, 0, none⟩), .int .i64 ((d + 1 : Nat) : Int)] w1 (LexSaid P s a (d + 1) w1)))
    (HK : Hid (∀ (z12 z13 z82 z83 z84 z85 z86 z87 z88 z89 z90 z91 z92 z93 z94 z95 z96 z97 z98 z99 z100 z101 z102 z103 : Value) (i : Nat) (ks : List Ex) (ai : Nat) (bi : Bool) (sv : Value) (wx : World), LSt P B s ai bi k n t sv w wx → KidsAt B w wx sv ks → LexK s a3 (d + 1) b3 i ks ai bi → i ≤ m2 → (bi = false → i = m2) → K ⟨#[.pointer (some ⟨P, 0, none⟩), .int .i64 (d : Int), s2, s3, s4, s5, .pointer (some ⟨B, 0, none⟩), s7, s8, s9, s10, .int .i64 (m2 : Int), z12, z13, s14, s15, s16, s17, s18, s19, s20, s21, s22, s23, s24, s25, s26, s27, s28, s29, s30, s31, s32, s33, s34, s35, s36, s37, s38, s39, s40, s41, s42, s43, s44, s45, s46, s47, s48, s49, s50, s51, s52, s53, s54, s55, s56, s57, s58, s59, s60, s61, s62, s63, s64, s65, s66, s67, s68, s69, s70, s71, s72, s73, s74, s75, s76, s77, s78, s79, s80, s81, z82, z83, z84, z85, z86, z87, z88, z89, z90, z91, z92, z93, z94, z95, z96, z97, z98, z99, z100, z101, z102, z103, s104], []⟩ wx)) :
    Code.wp Tryz.prog (pieceIn Tryz.f28.body 3) (Exit.then K fun _ _ _ => False) ⟨#[.pointer (some ⟨P, 0, none⟩), .int .i64 (d : Int), s2, s3, s4, s5, .pointer (some ⟨B, 0, none⟩), s7, s8, s9, s10, .int .i64 (m2 : Int), .int .i64 0, s13, s14, s15, s16, s17, s18, s19, s20, s21, s22, s23, s24, s25, s26, s27, s28, s29, s30, s31, s32, s33, s34, s35, s36, s37, s38, s39, s40, s41, s42, s43, s44, s45, s46, s47, s48, s49, s50, s51, s52, s53, s54, s55, s56, s57, s58, s59, s60, s61, s62, s63, s64, s65, s66, s67, s68, s69, s70, s71, s72, s73, s74, s75, s76, s77, s78, s79, s80, s81, s82, s83, s84, s85, s86, s87, s88, s89, s90, s91, s92, s93, s94, s95, s96, s97, s98, s99, s100, s101, s102, s103, s104], []⟩ w0 := by
  obtain ⟨d1, hd1⟩ : ∃ n, n = d + 1 := ⟨_, rfl⟩
  rw [← hd1] at IH HK
  have hdd : (d : Int) + 1 = (d1 : Int) := by omega
  have hwd : wrap64 (d1 : Int) = (d1 : Int) := by unfold wrap64; omega
  have HD1 := Lib.hid hd1
  clear hd1
  conv => arg 2; whnf
  go_wp2_with fail
  go_loopw [12] (fun iv wr => ∃ (i : Nat) (ks : List Ex) (ai : Nat) (bi : Bool) (sv : Value), iv = .int .i64 i ∧ i ≤ m2 ∧ Hid (LSt P B s ai bi k n t sv w wr) ∧ Hid (KidsAt B w wr sv ks) ∧ Hid (LexK s a3 d1 b3 i ks ai bi)) (fun iv _ => m2 - (intOf iv).toNat)
  case atStart => exact ⟨0, [], a3, b3, .slice none 0 0, by go_num, Nat.zero_le _, X7, KidsAt.zero _ _ _, lexK_zero _ _ _ _⟩
  case round =>
    clear X7
    obtain ⟨i, ks, ai, bi, sv, rfl, him, X, KD, LK⟩ := hrel
    have l2 := X.out.lx.at (i := 2) (v := .bool bi) rfl
    by_cases hlt : i < m2
    · cases bi with
      | true =>
        go_wp2
        exact HK.out _ _ _ _ _ _ _ _ _ _ _ _ _ _ _ _ _ _ _ _ _ _ _ _ i ks ai true sv wr X.out KD.out LK.out him (fun e => by cases e)
      | false =>
        have hpa : ai ≤ s.length + 1 := (LK.out.2.2.1 hpos.out).2 rfl
        have IHC : Hid (∀ w1, Blk w1 P 64 (lexC s ai false) → Calls Tryz.prog 28 #[.pointer (some ⟨P, 0, none⟩), .int .i64 (d1 : Int)] w1 (LexSaid P s ai d1 w1)) := fun w1 h1 => IH.out ai w1 h1 hpa
        go_upto_region 31 with fail
        go_wp2_with (go_at_call 28; refine Hid.out ?_)
        refine Lib.hid ?_
        refine (IHC.out _ X.out.lx).mono ?_
        rintro _ w9 ⟨x, a9, b9, xv, rfl, hx9, le9, lx9⟩
        obtain ⟨xa, xc, rfl⟩ := hx9.self.slice
        unfold Ex.val
        have X9 : Hid (LSt P B s a9 b9 k n t sv w w9) := X.out.read lx9.at' lx9.only
        have K9 : Hid (KidsAt B w w9 sv ks) := KD.out.only lx9.only X.out.ltP X.out.ltB
        clear l2
        go_upto_region 32 with fail
        obtain ⟨w10, hw10⟩ : ∃ w10, w10 = w9.alloc (.cells #[.int .i64 x.k, .int .i64 x.n, .string (bs x.s), .slice xa x.a.length xc] 44) := ⟨_, rfl⟩
        have hb10 : Below w9.heap.size w9 w10 := by rw [hw10]; exact below_box _
        have C10 : Blk w10 w9.heap.size 44 [.int .i64 x.k, .int .i64 x.n, .string (bs x.s), .slice xa x.a.length xc] := by rw [hw10]; exact Blk.new _ _ _
        rw [← hw10]
        obtain ⟨C, hC⟩ : ∃ C, C = w9.heap.size := ⟨_, rfl⟩
        rw [← hC] at C10 ⊢
        have hs9 : wr.heap.size ≤ w9.heap.size := lx9.only.size
        have X10 : Hid (LSt P B s a9 b9 k n t sv w w10) := X9.out.lower hb10
        have K10 : Hid (KidsAt B w w10 sv ks) := K9.out.only (P := P) (Only.of_below hb10) X.out.ltP X.out.ltB
        have hx10 : Hid (IsExW wr.heap.size w9.heap.size w10 (.slice xa x.a.length xc) x) := hx9.carry (Keeps.of_below hb10 (Nat.le_refl _))
        have hs10 := hb10.size
        have q0 := C10.at (i := 0) (v := .int .i64 x.k) rfl
        have q1 := C10.at (i := 1) (v := .int .i64 x.n) rfl
        have q2 := C10.at (i := 2) (v := .string (bs x.s)) rfl
        have q3 := C10.at (i := 3) (v := .slice xa x.a.length xc) rfl
        have c10 : w10.cell? ⟨B, 3, none⟩ = some sv := X10.out.c 3
        have LE9 := Lib.hid le9
        have hBr : B < wr.heap.size := blockLt X.out.ex
        have hww : w.heap.size ≤ w10.heap.size := X10.out.only.size
        clear X9 K9 hx9 lx9 hw10 hb10 C10 hC le9
        go_wp2_with (at_builtin; refine Hid.out ?_)
        obtain ⟨w11, hw11⟩ : ∃ w11, w11 = w10.alloc (.cells #[.int .i64 x.k, .int .i64 x.n, .string (bs x.s), .slice xa x.a.length xc] 44) := ⟨_, rfl⟩
        have hb11 : Below w10.heap.size w10 w11 := by rw [hw11]; exact below_box _
        have C11 : w11.heap[w10.heap.size]? = some (.cells #[.int .i64 x.k, .int .i64 x.n, .string (bs x.s), .slice xa x.a.length xc] 44 (0, 0)) := by rw [hw11]; exact heap_alloc_new _ _
        rw [← hw11]
        have hs11 : w11.heap.size = w10.heap.size + 1 := by rw [hw11]; simp
        have X11 : Hid (LSt P B s a9 b9 k n t sv w w11) := X10.out.lower hb11
        have K11 : Hid (KidsAt B w w11 sv ks) := K10.out.only (P := P) (Only.of_below hb11) X.out.ltP X.out.ltB
        have hx11 : Hid (IsExW wr.heap.size w9.heap.size w11 (.slice xa x.a.length xc) x) := hx10.out.carry (Keeps.of_below hb11 hs10)
        obtain ⟨A9, lo9, hi9, own9, bb9, -⟩ := K11.out
        have hks : ks.length = i := LK.out.1
        obtain ⟨i0, hi, hz0, hz1, hz2⟩ := info_parts exprInfo
        clear hw11 c10 q0 q1 q2 q3
        refine Lib.hid ?_
        refine wpList_append_lies _ rfl (.tmp 99) (.tmp 101) 42 rfl w.heap.size 44 i0 (.agg #[.int .i64 0, .int .i64 0, .string ⟨#[]⟩, .slice none 0 0]) 4 56 Tryz.underlying42 hi hz0 hz1 hz2 rfl (by decide) sv ks.length (cellsE ks A9) (by simp [Act.eval]) own9 ⟨w10.heap.size, 0, none⟩ 1 1 [.int .i64 x.k, .int .i64 x.n, .string (bs x.s), .slice xa x.a.length xc] (by simp [Act.eval]) rfl (World.news_of_block C11) (fun u hu => by simp only [List.mem_cons, List.not_mem_nil, or_false] at hu; rcases hu with rfl | rfl | rfl | rfl <;> rfl) (by decide) (by unfold maxLen; omega) (by omega) (by omega) _ rfl ?_
        intro g cap w12 hown12 hgrow12 hat12 hlt12
        have X12 : Hid (LSt P B s a9 b9 k n t sv w w12) := X11.out.grown hgrow12 bb9
        have c12 : w12.cell? ⟨B, 3, none⟩ = some sv := X12.out.c 3
        have f12 := X12.out.f 3
        have K12 : Hid (KidsAt B w w12 (.slice (some ⟨g, 0, none⟩) (ks.length + 1) cap) (ks ++ [x])) := by
          refine KidsAt.more (w1 := wr) (w2 := w11) (H := w9.heap.size) KD.out hBr K11.out hx11.out (by omega) hs9 (fun A hA => ?_) hgrow12 ?_
          · rw [owns_unique hA own9]; exact hown12
          · rcases hat12 with h | h
            · exact .inl h
            · exact .inr h
        have X13 : Hid (LSt P B s a9 b9 k n t (.slice (some ⟨g, 0, none⟩) (ks.length + 1) cap) w (w12.setCell ⟨B, 3, none⟩ (.slice (some ⟨g, 0, none⟩) (ks.length + 1) cap))) := X12.out.put (by rfl)
        have K13 : Hid (KidsAt B w (w12.setCell ⟨B, 3, none⟩ (.slice (some ⟨g, 0, none⟩) (ks.length + 1) cap)) (.slice (some ⟨g, 0, none⟩) (ks.length + 1) cap) (ks ++ [x])) := K12.out.put
        have LK13 : Hid (LexK s a3 d1 b3 (i + 1) (ks ++ [x]) a9 b9) := lexK_step LK.out LE9.out
        clear K12 X12 hown12 hgrow12 hat12 hlt12 own9 bb9 K11 X11 hx11 K10 X10 hx10 C11
        rw [hks] at X13 K13
        rw [hks]
        go_wp2
        go_roundw
        case rel => exact ⟨i + 1, ks ++ [x], a9, b9, _, by go_num, by omega, X13, K13, LK13⟩
        case measure => simp [intOf]; omega
    · have hi2 : i = m2 := by omega
      go_wp2
      exact HK.out _ _ _ _ _ _ _ _ _ _ _ _ _ _ _ _ _ _ _ _ _ _ _ _ i ks ai bi sv wr X.out KD.out LK.out him (fun _ => hi2)
end Go.Proofs.YtfjpgjkfmcedoaaGreatDoor
/- The document's lexer: how many parts. Written by tpl/mk_lx8.py. -/
namespace Go.Proofs.YtfjpgjkfmcedoaaGreatDoor
open Go.ChangeShapes Go.WideShapes Go.ChangeAt Go.RowKit
set_option maxRecDepth 1000000 in
set_option maxHeartbeats 4000000 in
theorem lx_b2 (k : Int) (w0 : World) (K : Act → World → Prop) (s0 s1 s2 s3 s4 s5 s6 s7 s8 s9 s10 s12 s13 s14 s15 s16 s17 s18 s19 s20 s21 s22 s23 s24 s25 s26 s27 s28 s29 s30 s31 s32 s33 s34 s35 s36 s37 s38 s39 s40 s41 s42 s43 s44 s45 s46 s47 s48 s49 s50 s51 s52 s53 s54 s55 s56 s57 s58 s59 s60 s61 s62 s63 s64 s65 s66 s67 s68 s69 s70 s71 s72 s73 s74 s76 s77 s78 s79 s80 s81 s82 s83 s84 s85 s86 s87 s88 s89 s90 s91 s92 s93 s94 s95 s96 s97 s98 s99 s100 s101 s102 s103 s104 : Value)

    (HK : Hid (∀ (z76 z77 z78 z79 z80 z81 : Value) (wx : World), wx = w0 → K ⟨#[s0, s1, s2, s3, s4, s5, s6, s7, s8, s9, s10, .int .i64 (partsK k : Int), s12, s13, s14, s15, s16, s17, s18, s19, s20, s21, s22, s23, s24, s25, s26, s27, s28, s29, s30, s31, s32, s33, s34, s35, s36, s37, s38, s39, s40, s41, s42, s43, s44, s45, s46, s47, s48, s49, s50, s51, s52, s53, s54, s55, s56, s57, s58, s59, s60, s61, s62, s63, s64, s65, s66, s67, s68, s69, s70, s71, s72, s73, s74, .int .i64 k, z76, z77, z78, z79, z80, z81, s82, s83, s84, s85, s86, s87, s88, s89, s90, s91, s92, s93, s94, s95, s96, s97, s98, s99, s100, s101, s102, s103, s104], []⟩ wx)) :
    Code.wp Tryz.prog (pieceIn Tryz.f28.body 2) (Exit.then K fun _ _ _ => False) ⟨#[s0, s1, s2, s3, s4, s5, s6, s7, s8, s9, s10, .int .i64 0, s12, s13, s14, s15, s16, s17, s18, s19, s20, s21, s22, s23, s24, s25, s26, s27, s28, s29, s30, s31, s32, s33, s34, s35, s36, s37, s38, s39, s40, s41, s42, s43, s44, s45, s46, s47, s48, s49, s50, s51, s52, s53, s54, s55, s56, s57, s58, s59, s60, s61, s62, s63, s64, s65, s66, s67, s68, s69, s70, s71, s72, s73, s74, .int .i64 k, s76, s77, s78, s79, s80, s81, s82, s83, s84, s85, s86, s87, s88, s89, s90, s91, s92, s93, s94, s95, s96, s97, s98, s99, s100, s101, s102, s103, s104], []⟩ w0 := by
  conv => arg 2; whnf
  by_cases h5 : k = 5
  · subst h5
    go_wp2
    exact HK.out _ _ _ _ _ _ w0 rfl
  · have g5 : (k == 5) = false := by rw [beq_eq_false_iff_ne]; exact h5
    by_cases h10 : k = 10
    · subst h10
      go_wp2
      exact HK.out _ _ _ _ _ _ w0 rfl
    · have g10 : (k == 10) = false := by rw [beq_eq_false_iff_ne]; exact h10
      by_cases h6 : k = 6
      · subst h6
        go_wp2
        exact HK.out _ _ _ _ _ _ w0 rfl
      · have g6 : (k == 6) = false := by rw [beq_eq_false_iff_ne]; exact h6
        by_cases h8 : k = 8
        · subst h8
          go_wp2
          exact HK.out _ _ _ _ _ _ w0 rfl
        · have g8 : (k == 8) = false := by rw [beq_eq_false_iff_ne]; exact h8
          have hp : partsK k = 0 := by unfold partsK; simp [h5, h10, h6, h8]
          rw [hp] at HK
          go_wp2
          exact HK.out _ _ _ _ _ _ w0 rfl
end Go.Proofs.YtfjpgjkfmcedoaaGreatDoor
