/- Journals: the law TopJournal: one entry is written. -/
import Derived.Test.YtifbjngkdifenaaDoorJ11
import Derived.Test.YtifbjngkdifenaaDoorJ2
namespace Go.Proofs.YtifbjngkdifenaaDoor
open Go.ChangeShapes Go.WideShapes Go.ChangeAt Go.RowKit
open Num
theorem numsT_len (ns : List Int) (h : ∀ n ∈ ns, Fit n) : (numsT ns).length ≤ 21 * ns.length := by
  induction ns with
  | nil => exact Nat.le_refl _
  | cons n ns ih =>
    have h1 := itoa_len n (h n List.mem_cons_self)
    have h2 := ih (fun m hm => h m (List.mem_cons_of_mem _ hm))
    have e : numsT (n :: ns) = numT n ++ numsT ns := by unfold numsT; rw [List.flatMap_cons]
    rw [e, List.length_append, List.length_cons]
    unfold numT
    rw [List.length_cons]
    omega
theorem flat_len (ts : List (List UInt8)) (m : Nat) (h : ∀ t ∈ ts, t.length ≤ m) : ts.flatten.length ≤ ts.length * m := by
  induction ts with
  | nil => simp
  | cons t ts ih =>
    have h1 := h t List.mem_cons_self
    have h2 := ih (fun x hx => h x (List.mem_cons_of_mem _ hx))
    rw [List.flatten_cons, List.length_append, List.length_cons, Nat.succ_mul]
    omega
theorem ent_small {k : List UInt8} {ns : List Int} {ts : List (List UInt8)} (h1 : k.length ≤ 20) (h2 : ns.length ≤ 10) (hf : ∀ n ∈ ns, Fit n) (h3 : ts.length ≤ 5) (h4 : ∀ t ∈ ts, t.length ≤ 200) : (entT k ns ts).length ≤ 2000 := by
  rw [ent_parts]
  have a1 := numsT_len ns hf
  have a2 := numsT_len (lens ts) (fun n hn => by
    unfold lens at hn
    rw [List.mem_map] at hn
    obtain ⟨t, ht, rfl⟩ := hn
    have := h4 t ht
    exact ⟨by omega, by omega⟩)
  rw [← sizes_nums] at a2
  have a3 : (lens ts).length = ts.length := by unfold lens; simp
  have a4 := flat_len ts 200 h4
  omega
set_option maxRecDepth 1000000 in
set_option maxHeartbeats 4000000 in
theorem b1_any (ga off q cap i B : Nat) (sx k : List UInt8) (ns r : List Int) (ts : List (List UInt8)) (an at' : Option Addr) (cn ct : Nat) (lv : Value) (w : World) (K : Act → World → Prop) (Q0 : Exit → Act → World → Prop) (s1 s2 s3 s4 s8 s9 s10 s11 s12 s13 s14 s15 s16 s17 s18 s19 s20 s21 s22 s23 s24 s25 s26 s27 s28 s29 s30 s31 s32 s33 s34 s35 s36 s37 s38 s39 s40 s41 s42 s43 s44 s45 s46 s47 s48 s49 s50 s51 s52 s53 s54 s55 s56 s57 s58 s59 s60 s61 s62 s63 s64 s65 s66 s67 s68 s69 s70 s71 s72 s73 s74 s75 s76 s77 s78 s79 s80 s81 s82 s83 s84 s85 s86 s87 s88 s89 s90 s91 s92 s93 s94 s95 s96 s97 s98 s99 s100 s101 s102 s103 s104 s105 s106 s107 s108 s109 s110 s111 s112 s113 s114 s115 s116 s117 s118 s119 s120 s121 s122 s123 s124 s125 s126 s127 s128 s129 s130 s131 s132 s133 s134 s135 s136 s137 s138 s139 s140 s141 s142 s143 s144 s145 s146 s147 s148 s149 s150 s151 s152 s153 s154 : Value)
    (hi : i < q) (c0 : w.cell? ⟨ga, off + i * 3, none⟩ = some (.string (bs k))) (c1 : w.cell? ⟨ga, off + i * 3 + 1, none⟩ = some (.slice an ns.length cn)) (c2 : w.cell? ⟨ga, off + i * 3 + 2, none⟩ = some (.slice at' ts.length ct))
    (hIs : IsIs w (.slice an ns.length cn) ns) (hTs : IsTexts w (.slice at' ts.length ct) (ts.map bs)) (hf : ∀ n ∈ ns, Fit n) (hb : B ≤ w.heap.size) (E : Env w)
    (hkl : k.length ≤ maxLen) (hnl : ns.length ≤ maxLen) (htl : ts.length ≤ maxLen) (hsx : sx.length ≤ 100000) (hr : r.length ≤ 10)
    (HO : Hid (w.ownsRow B 3 1 lv r.length (cellsI r)))
    (HK : Hid (Plain ⟨k, ns, ts⟩ → (entT k ns ts).length ≤ 2000 → ∀ (z4 z8 z9 z26 z27 z28 z29 z30 z31 z32 z33 z34 z35 z36 z37 z38 z39 z40 z41 z42 z43 z44 z45 z46 z47 z48 z49 z50 z51 z52 z53 z54 z55 z56 z57 z58 z59 z60 z61 z62 z63 z64 z65 z66 z67 z68 z69 z70 z71 z72 z73 z74 z75 z76 z77 z78 z79 : Value) (lv' : Value) (wx : World), Below B w wx → wx.ownsRow B 3 1 lv' (r ++ [((sx ++ entT k ns ts).length : Int)]).length (cellsI (r ++ [((sx ++ entT k ns ts).length : Int)])) → K ⟨#[.slice (some ⟨ga, off, none⟩) q cap, s1, s2, s3, z4, .string (bs (sx ++ entT k ns ts)), lv', .int .i64 i, z8, z9, s10, s11, s12, s13, s14, s15, s16, s17, s18, s19, s20, s21, s22, s23, s24, s25, z26, z27, z28, z29, z30, z31, z32, z33, z34, z35, z36, z37, z38, z39, z40, z41, z42, z43, z44, z45, z46, z47, z48, z49, z50, z51, z52, z53, z54, z55, z56, z57, z58, z59, z60, z61, z62, z63, z64, z65, z66, z67, z68, z69, z70, z71, z72, z73, z74, z75, z76, z77, z78, z79, s80, s81, s82, s83, s84, s85, s86, s87, s88, s89, s90, s91, s92, s93, s94, s95, s96, s97, s98, s99, s100, s101, s102, s103, s104, s105, s106, s107, s108, s109, s110, s111, s112, s113, s114, s115, s116, s117, s118, s119, s120, s121, s122, s123, s124, s125, s126, s127, s128, s129, s130, s131, s132, s133, s134, s135, s136, s137, s138, s139, s140, s141, s142, s143, s144, s145, s146, s147, s148, s149, s150, s151, s152, s153, s154], []⟩ wx))
    (HR : Hid (∀ (z5 z6 z8 z9 z26 z27 z28 z29 z30 z31 z32 z33 z34 z35 z36 z37 z38 z39 z40 z41 z42 z43 z44 z45 z46 z47 z48 z49 z50 z51 z52 z53 z54 z55 z56 z57 z58 z59 z60 z61 z62 z63 z64 z65 z66 z67 z68 z69 z70 z71 z72 z73 z74 z75 z76 z77 z78 z79 : Value) (wx : World), Below B w wx → Q0 .ret ⟨#[.slice (some ⟨ga, off, none⟩) q cap, s1, s2, s3, .bool true, z5, z6, .int .i64 i, z8, z9, s10, s11, s12, s13, s14, s15, s16, s17, s18, s19, s20, s21, s22, s23, s24, s25, z26, z27, z28, z29, z30, z31, z32, z33, z34, z35, z36, z37, z38, z39, z40, z41, z42, z43, z44, z45, z46, z47, z48, z49, z50, z51, z52, z53, z54, z55, z56, z57, z58, z59, z60, z61, z62, z63, z64, z65, z66, z67, z68, z69, z70, z71, z72, z73, z74, z75, z76, z77, z78, z79, s80, s81, s82, s83, s84, s85, s86, s87, s88, s89, s90, s91, s92, s93, s94, s95, s96, s97, s98, s99, s100, s101, s102, s103, s104, s105, s106, s107, s108, s109, s110, s111, s112, s113, s114, s115, s116, s117, s118, s119, s120, s121, s122, s123, s124, s125, s126, s127, s128, s129, s130, s131, s132, s133, s134, s135, s136, s137, s138, s139, s140, s141, s142, s143, s144, s145, s146, s147, s148, s149, s150, s151, s152, s153, s154], []⟩ wx)) :
    Code.wp Tryd.prog (pieceIn Tryd.f4.body 1) (Exit.then K Q0) ⟨#[.slice (some ⟨ga, off, none⟩) q cap, s1, s2, s3, s4, .string (bs sx), lv, .int .i64 i, s8, s9, s10, s11, s12, s13, s14, s15, s16, s17, s18, s19, s20, s21, s22, s23, s24, s25, s26, s27, s28, s29, s30, s31, s32, s33, s34, s35, s36, s37, s38, s39, s40, s41, s42, s43, s44, s45, s46, s47, s48, s49, s50, s51, s52, s53, s54, s55, s56, s57, s58, s59, s60, s61, s62, s63, s64, s65, s66, s67, s68, s69, s70, s71, s72, s73, s74, s75, s76, s77, s78, s79, s80, s81, s82, s83, s84, s85, s86, s87, s88, s89, s90, s91, s92, s93, s94, s95, s96, s97, s98, s99, s100, s101, s102, s103, s104, s105, s106, s107, s108, s109, s110, s111, s112, s113, s114, s115, s116, s117, s118, s119, s120, s121, s122, s123, s124, s125, s126, s127, s128, s129, s130, s131, s132, s133, s134, s135, s136, s137, s138, s139, s140, s141, s142, s143, s144, s145, s146, s147, s148, s149, s150, s151, s152, s153, s154], []⟩ w := by
  obtain ⟨i0, hi0, hz0, hz1, hz2⟩ := info_parts infoInt
  obtain ⟨w1, hw1⟩ : ∃ w1, w1 = w.alloc (.cells #[.string (bs k), .slice an ns.length cn, .slice at' ts.length ct] 25) := ⟨_, rfl⟩
  have hb1 : Below w.heap.size w w1 := by rw [hw1]; exact (Below.refl _ _).alloc (Nat.le_refl _) _
  have A1 : Blk w1 w.heap.size 25 [.string (bs k), .slice an ns.length cn, .slice at' ts.length ct] := by rw [hw1]; exact Blk.new w _ _
  have hsz := bs_size k
  unfold maxLen at hkl hnl htl
  have LT : Hid (∀ w', Below w.heap.size w w' → Calls Tryd.prog 6 #[.slice at' ts.length ct, .int .i64 5, .int .i64 200] w' fun e w'' => e = .returned (.bool (decide ((ts.length : Int) ≤ 5) && lightT (ts.map bs) 200)) ∧ w'' = w') := fun w' h' => by
    have h := lightTexts_any _ (ts.map bs) 5 200 w' (hTs.below h') (by unfold maxLen; rw [List.length_map]; omega)
    rw [List.length_map] at h
    exact h
  have HR1 : Hid (∀ (z5 z6 z8 z9 z26 z27 z28 z29 z30 z31 z32 z33 z34 z35 z36 z37 z38 z39 z40 z41 z42 z43 z44 z45 z46 z47 z48 z49 z50 z51 z52 z53 z54 z55 z56 z57 z58 z59 z60 z61 z62 z63 z64 z65 z66 z67 z68 z69 z70 z71 z72 z73 z74 z75 z76 z77 z78 z79 : Value), Q0 .ret ⟨#[.slice (some ⟨ga, off, none⟩) q cap, s1, s2, s3, .bool true, z5, z6, .int .i64 i, z8, z9, s10, s11, s12, s13, s14, s15, s16, s17, s18, s19, s20, s21, s22, s23, s24, s25, z26, z27, z28, z29, z30, z31, z32, z33, z34, z35, z36, z37, z38, z39, z40, z41, z42, z43, z44, z45, z46, z47, z48, z49, z50, z51, z52, z53, z54, z55, z56, z57, z58, z59, z60, z61, z62, z63, z64, z65, z66, z67, z68, z69, z70, z71, z72, z73, z74, z75, z76, z77, z78, z79, s80, s81, s82, s83, s84, s85, s86, s87, s88, s89, s90, s91, s92, s93, s94, s95, s96, s97, s98, s99, s100, s101, s102, s103, s104, s105, s106, s107, s108, s109, s110, s111, s112, s113, s114, s115, s116, s117, s118, s119, s120, s121, s122, s123, s124, s125, s126, s127, s128, s129, s130, s131, s132, s133, s134, s135, s136, s137, s138, s139, s140, s141, s142, s143, s144, s145, s146, s147, s148, s149, s150, s151, s152, s153, s154], []⟩ w1) := fun z5 z6 z8 z9 z26 z27 z28 z29 z30 z31 z32 z33 z34 z35 z36 z37 z38 z39 z40 z41 z42 z43 z44 z45 z46 z47 z48 z49 z50 z51 z52 z53 z54 z55 z56 z57 z58 z59 z60 z61 z62 z63 z64 z65 z66 z67 z68 z69 z70 z71 z72 z73 z74 z75 z76 z77 z78 z79 => HR.out z5 z6 z8 z9 z26 z27 z28 z29 z30 z31 z32 z33 z34 z35 z36 z37 z38 z39 z40 z41 z42 z43 z44 z45 z46 z47 z48 z49 z50 z51 z52 z53 z54 z55 z56 z57 z58 z59 z60 z61 z62 z63 z64 z65 z66 z67 z68 z69 z70 z71 z72 z73 z74 z75 z76 z77 z78 z79 w1 (hb1.mono hb)
  have LT1 := Lib.hid (LT.out w1 hb1)
  have TX := Lib.hid (fun (hl : (entT k ns ts).length ≤ 10000000) (h1 : ns.length ≤ 10000000) (h2 : ts.length ≤ 10000000) => jtext_any k ns ts _ _ w1 (E.below hb1) (hIs.below hb1) hf (hTs.below hb1) hl h1 h2)
  have HA1 := Lib.hid A1
  have HO1 := Lib.hid (owns_below HO.out hb1)
  have HF := Lib.hid hf
  have hbw1 : B ≤ w1.heap.size := Nat.le_trans hb hb1.size
  have HB1 := Lib.hid (hb1.mono hb)
  have HSZ := Lib.hid hsz
  subst hw1
  clear LT A1 hIs hTs E hf hb1 HO HR
  conv => arg 2; whnf
  by_cases h1 : k.length < 1
  · go_wp2
    exact HR1.out _ _ _ _ _ _ _ _ _ _ _ _ _ _ _ _ _ _ _ _ _ _ _ _ _ _ _ _ _ _ _ _ _ _ _ _ _ _ _ _ _ _ _ _ _ _ _ _ _ _ _ _ _ _ _ _ _ _
  · by_cases h2 : 20 < k.length
    · go_wp2
      exact HR1.out _ _ _ _ _ _ _ _ _ _ _ _ _ _ _ _ _ _ _ _ _ _ _ _ _ _ _ _ _ _ _ _ _ _ _ _ _ _ _ _ _ _ _ _ _ _ _ _ _ _ _ _ _ _ _ _ _ _
    · by_cases h3 : 10 < ns.length
      · go_wp2
        exact HR1.out _ _ _ _ _ _ _ _ _ _ _ _ _ _ _ _ _ _ _ _ _ _ _ _ _ _ _ _ _ _ _ _ _ _ _ _ _ _ _ _ _ _ _ _ _ _ _ _ _ _ _ _ _ _ _ _ _ _
      · cases hlt : (decide ((ts.length : Int) ≤ 5) && lightT (ts.map bs) 200) with
        | false =>
          rw [hlt] at LT1
          clear hlt
          go_wp2_with (go_at_call 6; refine LT1.out.mono ?_; rintro _ w9 ⟨rfl, h9⟩; rw [h9]; clear h9 w9)
          exact HR1.out _ _ _ _ _ _ _ _ _ _ _ _ _ _ _ _ _ _ _ _ _ _ _ _ _ _ _ _ _ _ _ _ _ _ _ _ _ _ _ _ _ _ _ _ _ _ _ _ _ _ _ _ _ _ _ _ _ _
        | true =>
          rw [hlt] at LT1
          rw [Bool.and_eq_true, decide_eq_true_eq] at hlt
          obtain ⟨ht5, hl2⟩ := hlt
          have htx : ∀ t ∈ ts, t.length ≤ 200 := fun t ht => by
            unfold lightT at hl2
            rw [List.all_eq_true] at hl2
            have h := hl2 (bs t) (List.mem_map_of_mem ht)
            rw [decide_eq_true_eq, bs_size] at h
            omega
          have hsm := ent_small (k := k) (ns := ns) (ts := ts) (by omega) (by omega) HF.out (by omega) htx
          have TX1 := Lib.hid (TX.out (by omega) (by omega) (by omega))
          have HPL : Hid ((∀ c ∈ k, 97 ≤ c.toNat ∧ c.toNat ≤ 122) → Plain ⟨k, ns, ts⟩) := fun hkd => ⟨fun e => by rw [show k = [] from e] at h1; simp at h1, hkd, HF.out, fun t ht => by have := htx t ht; omega⟩
          clear hl2 htx TX
          go_upto_block 2 with (go_at_call 6; refine LT1.out.mono ?_; rintro _ w9 ⟨rfl, h9⟩; rw [h9]; clear h9 w9)
          refine b2_any w.heap.size k _ _ _ _ _ _ _ _ _ _ _ _ _ _ _ _ _ _ _ _ _ _ _ _ _ _ _ _ _ _ _ _ _ _ _ _ _ _ _ _ _ _ _ _ _ _ _ _ _ _ _ _ _ _ _ _ _ _ _ _ _ _ _ _ _ _ _ _ _ _ _ _ _ _ _ _ _ _ _ _ _ _ _ _ _ _ _ _ _ _ _ _ _ _ _ _ _ _ _ _ _ _ _ _ _ _ _ _ _ _ _ _ _ _ _ _ _ _ _ _ _ _ _ _ _ _ _ _ _ _ _ _ _ _ _ _ _ _ _ _ _ _ _ _ _ _ _ _ _ _ _ _ _ _ _ _ (by omega) (HA1.out.at (i := 0) rfl) ?_ ?_
          · refine Lib.hid ?_
            intro hkd z4 z9 z52 z53 z54 z55 z56 z57 z58 z59 z60 z61 z62 z63 z64 z65 z66 z67 z68 z69 z70
            have HPL1 := Lib.hid (HPL.out hkd)
            have z0 := HA1.out.at (i := 0) (v := .string (bs k)) rfl
            obtain ⟨et, het⟩ : ∃ et, et = entT k ns ts := ⟨_, rfl⟩
            rw [← het] at TX1 HK hsm
            have happ : bs sx ++ bs et = bs (sx ++ et) := bs_append sx et
            have hs1 : (bs sx).size ≤ 100000 := by rw [bs_size]; exact hsx
            have hs2 : (bs et).size ≤ 2000 := by rw [bs_size]; exact hsm
            obtain ⟨tot, htot⟩ : ∃ tot, tot = (sx ++ et).length := ⟨_, rfl⟩
            have hs3 : (bs (sx ++ et)).size = tot := by rw [bs_size, htot]
            have htot2 : tot ≤ 200000 := by rw [htot, List.length_append]; omega
            rw [← htot] at HK
            clear hkd HPL LT1 het htot hsx
            generalize bs (sx ++ et) = sxe at *
            generalize bs et = se at *
            go_wp2_with (first | (go_at_call 7; refine TX1.out.mono ?_; rintro _ w2 ⟨rfl, hb2⟩; have HO2 := Lib.hid (owns_below HO1.out hb2); have hbs2 := hb2.size; have HB2 := Lib.hid (HB1.out.trans (hb2.mono hbw1)); dsimp only) | (at_builtin; refine Hid.out ?_))
            refine Lib.hid ?_
            refine wpList_append_own _ rfl (.tmp 75) (.tmp 78) 22 rfl B 3 i0 (.int .i64 0) 1 8 Tryd.underlying22 hi0 hz0 hz1 hz2 rfl (by decide) _ _ _ rfl (HO2.out.alloc _) ⟨w2.heap.size, 0, none⟩ 1 1 (cellsI [(tot : Int)]) rfl rfl ?c1 (cellsI_one _) ?c2 ?c3 ?c4 ?_
            case c1 => exact lit_cells rfl (show 1 ≤ maxLen by decide)
            case c2 => unfold maxLen; omega
            case c3 => omega
            case c4 => simp; omega
            intro v4 w4 hown4 hg4 _
            have hb4 : Below B w w4 := (HB2.out.alloc (by omega) _).grown hg4 (by simp; omega) (fun k hk => (HO2.out.lt k hk).1)
            have HO4 : Hid (w4.ownsRow B 3 1 v4 (r ++ [(tot : Int)]).length (cellsI (r ++ [(tot : Int)]))) := by
              show World.ownsRow _ _ _ _ _ _ _
              rw [cellsI_append, List.length_append]
              exact hown4
            have HB4 := Lib.hid hb4
            clear hown4 hg4 hb4
            go_wp2
            exact HK.out HPL1.out hsm _ _ _ _ _ _ _ _ _ _ _ _ _ _ _ _ _ _ _ _ _ _ _ _ _ _ _ _ _ _ _ _ _ _ _ _ _ _ _ _ _ _ _ _ _ _ _ _ _ _ _ _ _ _ _ _ _ v4 w4 HB4.out HO4.out
          · refine Lib.hid ?_
            intro z9 z52 z53 z54 z55 z56 z57 z58 z59 z60 z61 z62 z63 z64 z65 z66 z67 z68 z69 z70
            exact HR1.out _ _ _ _ _ _ _ _ _ _ _ _ _ _ _ _ _ _ _ _ _ _ _ _ _ _ _ _ _ _ _ _ _ _ _ _ _ _ _ _ _ _ _ _ _ _ _ _ _ _ _ _ _ _ _ _ _ _
end Go.Proofs.YtifbjngkdifenaaDoor
