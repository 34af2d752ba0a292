/- The document's JobFault: when a rule makes a pair. Written by tpl/mk_jf.py. -/
import Derived.Test.YtfjpgjkfmcedoaaGreatDoorG17
import Derived.Test.YtfjpgjkfmcedoaaGreatDoorG8
import Derived.Test.YtfjpgjkfmcedoaaGreatDoorG9
import Derived.Deep.LoopGhost
namespace Go.Proofs.YtfjpgjkfmcedoaaGreatDoor
open Go.ChangeShapes Go.WideShapes Go.ChangeAt Go.RowKit
/-- What a way out by return asks. -/
def retQ (R : Act → World → Prop) (e : Exit) (a : Act) (w : World) : Prop := match e with
  | .ret => R a w
  | _ => False
theorem wp_normR {c : Code} {K : Act → World → Prop} {Q0 : Exit → Act → World → Prop} {a : Act} {w : World} (h : c.wp Tryz.prog (Exit.then K (retQ fun a w => Q0 .ret a w)) a w) : c.wp Tryz.prog (Exit.then K Q0) a w :=
  wp_mono h fun e a w hq => by
    cases e with
    | normal => exact hq
    | exit id => exact False.elim hq
    | goto l => exact False.elim hq
    | ret => exact hq
    | panic ch => exact False.elim hq
    | outgrown => exact False.elim hq
set_option maxRecDepth 1000000 in
set_option maxHeartbeats 4000000 in
theorem jf_b2 (r : Rl) (B W : Nat) (wn : Int) (ai ak av : Option Addr) (ci ck cv : Nat) (w0 : World) (K KR : Act → World → Prop) (s0 s1 s2 s3 s5 s6 s7 s8 s9 s10 s11 s12 s13 s14 s15 s16 s17 s18 s19 s20 s21 s22 s23 s24 s25 s26 s27 s28 s29 s30 s31 s32 s33 s34 s35 s36 s37 s38 s39 s40 s41 s42 s43 s44 s45 s46 s47 s49 s50 s51 s52 s53 s54 s55 s56 s57 s58 s59 s60 s61 s62 s63 s64 s65 s66 s67 s68 s69 s70 s71 s72 s73 s74 s75 s76 s77 s78 s79 s80 s81 s82 s83 s84 s85 s86 s87 s88 s89 s90 s91 s92 s93 s94 s95 s96 s97 s98 s99 s100 s101 s102 s103 s104 s105 s106 s107 s108 s109 s110 s111 s112 s113 s114 s115 s116 : Value)
    (HW : Hid (W = whenFault r))
    (HWN : Hid (wn = r.when))
    (RU : Hid (∀ w', Below w0.heap.size w0 w' → Blk w' B 46 (ruleCells r ai ak av ci ck cv)))
    (XI : Hid (∀ w', Below w0.heap.size w0 w' → IsEx w' (.slice ai r.iff.a.length ci) r.iff))
    (hw : r.wt ≤ 1000000000)
    (HK : Hid (∀ (z2 z5 z6 z49 z50 z51 z52 z53 z54 z55 z56 z57 z58 z59 z60 z61 z62 z63 z64 z65 z66 z67 z68 z69 z70 z71 z72 z73 z74 z75 z76 z77 z78 z79 z80 z81 z82 z83 z84 z85 z86 z87 z88 z89 z90 z91 z92 z93 z94 z95 z96 z97 z98 z99 z100 : Value) (wx : World), W = 0 → Below w0.heap.size w0 wx → K ⟨#[s0, s1, z2, s3, .pointer (some ⟨B, 0, none⟩), z5, z6, s7, s8, s9, s10, s11, s12, s13, s14, s15, s16, s17, s18, s19, s20, s21, s22, s23, s24, s25, s26, s27, s28, s29, s30, s31, s32, s33, s34, s35, s36, s37, s38, s39, s40, s41, s42, s43, s44, s45, s46, s47, .int .i64 wn, z49, z50, z51, z52, z53, z54, z55, z56, z57, z58, z59, z60, z61, z62, z63, z64, z65, z66, z67, z68, z69, z70, z71, z72, z73, z74, z75, z76, z77, z78, z79, z80, z81, z82, z83, z84, z85, z86, z87, z88, z89, z90, z91, z92, z93, z94, z95, z96, z97, z98, z99, z100, s101, s102, s103, s104, s105, s106, s107, s108, s109, s110, s111, s112, s113, s114, s115, s116], []⟩ wx))
    (HKR : Hid (∀ (z5 z6 z49 z50 z51 z52 z53 z54 z55 z56 z57 z58 z59 z60 z61 z62 z63 z64 z65 z66 z67 z68 z69 z70 z71 z72 z73 z74 z75 z76 z77 z78 z79 z80 z81 z82 z83 z84 z85 z86 z87 z88 z89 z90 z91 z92 z93 z94 z95 z96 z97 z98 z99 z100 : Value) (wx : World), W ≠ 0 → Below w0.heap.size w0 wx → KR ⟨#[s0, s1, .int .i64 (W : Int), s3, .pointer (some ⟨B, 0, none⟩), z5, z6, s7, s8, s9, s10, s11, s12, s13, s14, s15, s16, s17, s18, s19, s20, s21, s22, s23, s24, s25, s26, s27, s28, s29, s30, s31, s32, s33, s34, s35, s36, s37, s38, s39, s40, s41, s42, s43, s44, s45, s46, s47, .int .i64 wn, z49, z50, z51, z52, z53, z54, z55, z56, z57, z58, z59, z60, z61, z62, z63, z64, z65, z66, z67, z68, z69, z70, z71, z72, z73, z74, z75, z76, z77, z78, z79, z80, z81, z82, z83, z84, z85, z86, z87, z88, z89, z90, z91, z92, z93, z94, z95, z96, z97, z98, z99, z100, s101, s102, s103, s104, s105, s106, s107, s108, s109, s110, s111, s112, s113, s114, s115, s116], []⟩ wx)) :
    Code.wp Tryz.prog (pieceIn Tryz.f6.body 2) (Exit.then K (retQ KR)) ⟨#[s0, s1, s2, s3, .pointer (some ⟨B, 0, none⟩), s5, s6, s7, s8, s9, s10, s11, s12, s13, s14, s15, s16, s17, s18, s19, s20, s21, s22, s23, s24, s25, s26, s27, s28, s29, s30, s31, s32, s33, s34, s35, s36, s37, s38, s39, s40, s41, s42, s43, s44, s45, s46, s47, .int .i64 wn, s49, s50, s51, s52, s53, s54, s55, s56, s57, s58, s59, s60, s61, s62, s63, s64, s65, s66, s67, s68, s69, s70, s71, s72, s73, s74, s75, s76, s77, s78, s79, s80, s81, s82, s83, s84, s85, s86, s87, s88, s89, s90, s91, s92, s93, s94, s95, s96, s97, s98, s99, s100, s101, s102, s103, s104, s105, s106, s107, s108, s109, s110, s111, s112, s113, s114, s115, s116], []⟩ w0 := by
  have hw2 := hw
  unfold Rl.wt at hw2
  have hln : r.iff.a.length ≤ 1000000000 := by
    have h1 : r.iff.wt ≤ 1000000000 := by omega
    cases hr : r.iff with
    | mk k n s a =>
      rw [hr] at h1
      simp only [Ex.wt] at h1
      have := len_wtL a
      simp only [Ex.a]; omega
  have NE := Lib.hid (fun w => noEnd_any r.s w (by omega))
  have EF : Hid (∀ w', Below w0.heap.size w0 w' → Calls Tryz.prog 16 #[r.iff.val (.slice ai r.iff.a.length ci), .bool true, .bool r.each] w' fun q w'' => q = .returned (.int .i64 (faultE r.iff true r.each : Nat)) ∧ Below w'.heap.size w' w'') := fun w' hb => exprFault_any (XI.out w' hb) (by omega) true r.each
  unfold Ex.val at EF
  have hW := HW.out
  unfold whenFault fitsB Ex.zero at hW
  have HWD := Lib.hid hW
  have hsz : (bs r.s).size = r.s.length := bs_size r.s
  have t1 : (bs r.s).toList.isEmpty = r.s.isEmpty := by rw [bs_toList]
  have t2 : (bs r.iff.s).toList.isEmpty = r.iff.s.isEmpty := by rw [bs_toList]
  obtain ⟨q0, q1, q2, q3, q4, q5, q6, q7, q8, q9, q10, q11, q12, q13, q14⟩ := ruleAt (RU.out w0 (Below.refl _ _))
  have Q0 := Lib.hid q0
  have HSB : Hid (r.s.length ≤ 1000000000) := by show _ ≤ _; omega
  clear hW hw hw2
  rw [← HWN.out] at HWD q1
  by_cases h0 : wn = 0
  · have HWD2 : Hid (W = if ((decide (r.iff.k = 0) && decide (r.iff.n = 0) && r.iff.s.isEmpty && decide (r.iff.a.length = 0)) && r.s.isEmpty) = true then 0 else 3) := by
      show _ = _
      have h := HWD.out
      rw [if_pos h0] at h
      exact h
    subst h0
    clear HWD
    obtain ⟨K0, hK0⟩ : ∃ x, x = r.iff.k := ⟨_, rfl⟩
    obtain ⟨N0, hN0⟩ : ∃ x, x = r.iff.n := ⟨_, rfl⟩
    obtain ⟨LA, hLA⟩ : ∃ x, x = r.iff.a.length := ⟨_, rfl⟩
    rw [← hK0, ← hN0, ← hLA] at HWD2
    rw [← hK0] at q2
    rw [← hN0] at q3
    rw [← hLA] at q5 hln
    generalize r.s.isEmpty = e1 at *
    generalize r.iff.s.isEmpty = e2 at *
    clear hK0 hN0 hLA EF NE
    conv => arg 2; whnf
    cases e1 with
    | false =>
      have HF3 : Hid (W = 3) := by show _ = _; rw [HWD2.out]; simp
      go_wp2
      (have e := HF3.out; subst e; exact HKR.out _ _ _ _ _ _ _ _ _ _ _ _ _ _ _ _ _ _ _ _ _ _ _ _ _ _ _ _ _ _ _ _ _ _ _ _ _ _ _ _ _ _ _ _ _ _ _ _ _ _ _ _ _ _ _ (by decide) (Below.refl _ _))
    | true =>
      by_cases hk : K0 = 0
      · subst hk
        by_cases hn : N0 = 0
        · subst hn
          cases e2 with
          | false =>
            have HF3 : Hid (W = 3) := by show _ = _; rw [HWD2.out]; simp
            go_wp2
            (have e := HF3.out; subst e; exact HKR.out _ _ _ _ _ _ _ _ _ _ _ _ _ _ _ _ _ _ _ _ _ _ _ _ _ _ _ _ _ _ _ _ _ _ _ _ _ _ _ _ _ _ _ _ _ _ _ _ _ _ _ _ _ _ _ (by decide) (Below.refl _ _))
          | true =>
            by_cases hl : 0 < LA
            · have HF3 : Hid (W = 3) := by
                show _ = _
                rw [HWD2.out, decide_eq_false (show ¬ LA = 0 by omega)]
                simp
              have hl2 : (0 : Int) < (LA : Int) := by omega
              go_wp2
              (have e := HF3.out; subst e; exact HKR.out _ _ _ _ _ _ _ _ _ _ _ _ _ _ _ _ _ _ _ _ _ _ _ _ _ _ _ _ _ _ _ _ _ _ _ _ _ _ _ _ _ _ _ _ _ _ _ _ _ _ _ _ _ _ _ (by decide) (Below.refl _ _))
            · have HF0 : Hid (W = 0) := by
                show _ = _
                rw [HWD2.out, decide_eq_true (show LA = 0 by omega)]
                simp
              have hl2 : ¬ (0 : Int) < (LA : Int) := by omega
              go_wp2
              exact HK.out _ _ _ _ _ _ _ _ _ _ _ _ _ _ _ _ _ _ _ _ _ _ _ _ _ _ _ _ _ _ _ _ _ _ _ _ _ _ _ _ _ _ _ _ _ _ _ _ _ _ _ _ _ _ _ _ HF0.out (Below.refl _ _)
        · have HF3 : Hid (W = 3) := by
            show _ = _
            rw [HWD2.out, decide_eq_false hn]
            simp
          have hn2 : (N0 == 0) = false := by simpa using hn
          go_wp2
          (have e := HF3.out; subst e; exact HKR.out _ _ _ _ _ _ _ _ _ _ _ _ _ _ _ _ _ _ _ _ _ _ _ _ _ _ _ _ _ _ _ _ _ _ _ _ _ _ _ _ _ _ _ _ _ _ _ _ _ _ _ _ _ _ _ (by decide) (Below.refl _ _))
      · have HF3 : Hid (W = 3) := by
          show _ = _
          rw [HWD2.out, decide_eq_false hk]
          simp
        have hk2 : (K0 == 0) = false := by simpa using hk
        go_wp2
        (have e := HF3.out; subst e; exact HKR.out _ _ _ _ _ _ _ _ _ _ _ _ _ _ _ _ _ _ _ _ _ _ _ _ _ _ _ _ _ _ _ _ _ _ _ _ _ _ _ _ _ _ _ _ _ _ _ _ _ _ _ _ _ _ _ (by decide) (Below.refl _ _))
  · have h0' : (wn == 0) = false := by simpa using h0
    by_cases h12 : ¬ (wn = 1 ∨ wn = 2)
    · have h1 : ¬ wn = 1 := fun h => h12 (.inl h)
      have h2 : ¬ wn = 2 := fun h => h12 (.inr h)
      have h1' : (wn == 1) = false := by simpa using h1
      have h2' : (wn == 2) = false := by simpa using h2
      have HF3 : Hid (W = 3) := by
        show _ = _
        rw [HWD.out, if_neg h0, if_neg h12]
      clear h12 h0 h1 h2 HWD
      conv => arg 2; whnf
      go_wp2
      (have e := HF3.out; subst e; exact HKR.out _ _ _ _ _ _ _ _ _ _ _ _ _ _ _ _ _ _ _ _ _ _ _ _ _ _ _ _ _ _ _ _ _ _ _ _ _ _ _ _ _ _ _ _ _ _ _ _ _ _ _ _ _ _ _ (by decide) (Below.refl _ _))
    · replace h12 := Decidable.not_not.1 h12
      have HWD2 : Hid (W = if (decide (r.s.length ≤ 20) && !r.s.contains 10) = true then faultE r.iff true r.each else 3) := by
        show _ = _
        have h := HWD.out
        rw [if_neg h0, if_pos h12] at h
        exact h
      obtain ⟨sl, hsl⟩ : ∃ x, x = r.s.length := ⟨_, rfl⟩
      rw [← hsl] at HWD2 hsz
      have hslb : sl ≤ 1000000000 := by rw [hsl]; exact HSB.out
      generalize (!r.s.contains 10) = nb at *
      generalize faultE r.iff true r.each = fe at *
      clear HWD h0 hsl hln
      rcases h12 with rfl | rfl
      · have gA : ((1 : Int) == 0) = false := by decide
        conv => arg 2; whnf
        go_wp2_with (go_at_call 15; refine Hid.out ?_)
        refine Lib.hid ?_
        refine (NE.out _).mono ?_
        rintro _ w2 ⟨rfl, rfl⟩
        by_cases hl20 : 20 < sl
        · have HF3 : Hid (W = 3) := by
            show _ = _
            rw [HWD2.out, decide_eq_false (show ¬ sl ≤ 20 by omega)]
            simp
          have hl21 : (20 : Int) < (sl : Int) := by omega
          go_wp2
          (have e := HF3.out; subst e; exact HKR.out _ _ _ _ _ _ _ _ _ _ _ _ _ _ _ _ _ _ _ _ _ _ _ _ _ _ _ _ _ _ _ _ _ _ _ _ _ _ _ _ _ _ _ _ _ _ _ _ _ _ _ _ _ _ _ (by decide) (Below.refl _ _))
        · have hl21 : ¬ (20 : Int) < (sl : Int) := by omega
          cases nb with
          | false =>
            have HF3 : Hid (W = 3) := by
              show _ = _
              rw [HWD2.out]
              simp
            go_wp2
            (have e := HF3.out; subst e; exact HKR.out _ _ _ _ _ _ _ _ _ _ _ _ _ _ _ _ _ _ _ _ _ _ _ _ _ _ _ _ _ _ _ _ _ _ _ _ _ _ _ _ _ _ _ _ _ _ _ _ _ _ _ _ _ _ _ (by decide) (Below.refl _ _))
          | true =>
            have HFE : Hid (W = fe) := by
              show _ = _
              rw [HWD2.out, decide_eq_true (show sl ≤ 20 by omega)]
              rfl
            go_wp2_with (go_at_call 16; refine Hid.out ?_)
            refine Lib.hid ?_
            refine (EF.out _ (Below.refl _ _)).mono ?_
            rintro _ w3 ⟨rfl, hb3⟩
            have HB3 := Lib.hid hb3
            clear hb3
            by_cases hfe : fe = 0
            · have hf1 : ¬ (0 : Int) < (fe : Int) := by omega
              go_wp2
              exact HK.out _ _ _ _ _ _ _ _ _ _ _ _ _ _ _ _ _ _ _ _ _ _ _ _ _ _ _ _ _ _ _ _ _ _ _ _ _ _ _ _ _ _ _ _ _ _ _ _ _ _ _ _ _ _ _ _ (by rw [HFE.out]; exact hfe) HB3.out
            · have hf1 : (0 : Int) < (fe : Int) := by omega
              go_wp2
              have e := HFE.out
              subst e
              exact HKR.out _ _ _ _ _ _ _ _ _ _ _ _ _ _ _ _ _ _ _ _ _ _ _ _ _ _ _ _ _ _ _ _ _ _ _ _ _ _ _ _ _ _ _ _ _ _ _ _ _ _ _ _ _ _ _ hfe HB3.out
      · have gA : ((1 : Int) == 0) = false := by decide
        conv => arg 2; whnf
        go_wp2_with (go_at_call 15; refine Hid.out ?_)
        refine Lib.hid ?_
        refine (NE.out _).mono ?_
        rintro _ w2 ⟨rfl, rfl⟩
        by_cases hl20 : 20 < sl
        · have HF3 : Hid (W = 3) := by
            show _ = _
            rw [HWD2.out, decide_eq_false (show ¬ sl ≤ 20 by omega)]
            simp
          have hl21 : (20 : Int) < (sl : Int) := by omega
          go_wp2
          (have e := HF3.out; subst e; exact HKR.out _ _ _ _ _ _ _ _ _ _ _ _ _ _ _ _ _ _ _ _ _ _ _ _ _ _ _ _ _ _ _ _ _ _ _ _ _ _ _ _ _ _ _ _ _ _ _ _ _ _ _ _ _ _ _ (by decide) (Below.refl _ _))
        · have hl21 : ¬ (20 : Int) < (sl : Int) := by omega
          cases nb with
          | false =>
            have HF3 : Hid (W = 3) := by
              show _ = _
              rw [HWD2.out]
              simp
            go_wp2
            (have e := HF3.out; subst e; exact HKR.out _ _ _ _ _ _ _ _ _ _ _ _ _ _ _ _ _ _ _ _ _ _ _ _ _ _ _ _ _ _ _ _ _ _ _ _ _ _ _ _ _ _ _ _ _ _ _ _ _ _ _ _ _ _ _ (by decide) (Below.refl _ _))
          | true =>
            have HFE : Hid (W = fe) := by
              show _ = _
              rw [HWD2.out, decide_eq_true (show sl ≤ 20 by omega)]
              rfl
            go_wp2_with (go_at_call 16; refine Hid.out ?_)
            refine Lib.hid ?_
            refine (EF.out _ (Below.refl _ _)).mono ?_
            rintro _ w3 ⟨rfl, hb3⟩
            have HB3 := Lib.hid hb3
            clear hb3
            by_cases hfe : fe = 0
            · have hf1 : ¬ (0 : Int) < (fe : Int) := by omega
              go_wp2
              exact HK.out _ _ _ _ _ _ _ _ _ _ _ _ _ _ _ _ _ _ _ _ _ _ _ _ _ _ _ _ _ _ _ _ _ _ _ _ _ _ _ _ _ _ _ _ _ _ _ _ _ _ _ _ _ _ _ _ (by rw [HFE.out]; exact hfe) HB3.out
            · have hf1 : (0 : Int) < (fe : Int) := by omega
              go_wp2
              have e := HFE.out
              subst e
              exact HKR.out _ _ _ _ _ _ _ _ _ _ _ _ _ _ _ _ _ _ _ _ _ _ _ _ _ _ _ _ _ _ _ _ _ _ _ _ _ _ _ _ _ _ _ _ _ _ _ _ _ _ _ _ _ _ _ hfe HB3.out
end Go.Proofs.YtfjpgjkfmcedoaaGreatDoor
