/- The document's JobText: a rule. Written by tpl/mk_jt4.py. -/
import Derived.Test.YtfjpgjkfmcedoaaGreatDoorJt3
import Derived.Test.YtfjpgjkfmcedoaaGreatDoorXR
import Derived.Test.YtfjpgjkfmcedoaaGreatDoorRd2
import Derived.Test.YtfjpgjkfmcedoaaGreatDoorG8
import Derived.Lib.QuietBelow
namespace Go.Proofs.YtfjpgjkfmcedoaaGreatDoor
open Go.ChangeShapes Go.WideShapes Go.ChangeAt Go.RowKit
set_option maxRecDepth 1000000 in
set_option maxHeartbeats 4000000 in
theorem jt_b1 (wE : World) (P i rn rcap : Nat) (fo sl : Int) (eb : Bool) (r : Rl) (ra : Option Addr) (l : List Rl) (T : List UInt8) (w0 : World) (K : Act → World → Prop) (s0 s2 s3 s4 s7 s8 s9 s10 s11 s12 s13 s14 s15 s16 s17 s18 s19 s20 s21 s22 s23 s24 s25 s26 s27 s28 s29 s30 s31 s32 s33 s34 s35 s36 s37 s38 s39 s40 s41 s42 s43 s44 s45 s46 s47 s48 s49 s50 s51 s52 s53 s54 s55 s56 s57 s58 s59 s60 s61 s62 s63 s64 s65 s66 s67 s68 s69 s70 s71 s72 s73 s74 s75 s76 s77 s78 s79 s80 s81 s82 s83 s84 s85 s86 : Value)
    (HBE : Hid (Below wE.heap.size wE w0))
    (HJ : Hid (Blk w0 P 24 [.slice ra rn rcap, .int .i64 fo, .bool eb, .int .i64 sl]))
    (HRS : Hid (IsRules wE (.slice ra rn rcap) l))
    (hrn : rn = l.length)
    (hr : l[i]? = some r)
    (hrf : ruleFault r = 0)
    (hfit : r.fit)
    (hwt : r.wt ≤ 1100000)
    (hT : T.length ≤ 1000000000)
    (hrn4 : rn ≤ 4)
    (HK : Hid (∀ (z7 z32 z33 z34 z35 z36 z37 z38 z39 z40 z41 z42 z43 z44 z45 z46 z47 z48 z49 z50 z51 z52 z53 z54 z55 z56 z57 z58 z59 z60 z61 z62 z63 z64 z65 z66 z67 z68 z69 z70 z71 z72 z73 z74 z75 z76 z77 z78 z79 z80 z81 z82 : Value) (wx : World), Below w0.heap.size w0 wx → K ⟨#[s0, .pointer (some ⟨P, 0, none⟩), s2, s3, s4, .string (bs (T ++ ruleL r)), .int .i64 (i : Int), z7, s8, s9, s10, s11, s12, s13, s14, s15, s16, s17, s18, s19, s20, s21, s22, s23, s24, s25, s26, s27, s28, s29, s30, s31, z32, z33, z34, z35, z36, z37, z38, z39, z40, z41, z42, z43, z44, z45, z46, z47, z48, z49, z50, z51, z52, z53, z54, z55, z56, z57, z58, z59, z60, z61, z62, z63, z64, z65, z66, z67, z68, z69, z70, z71, z72, z73, z74, z75, z76, z77, z78, z79, z80, z81, z82, s83, s84, s85, s86], []⟩ wx)) :
    Code.wp Tryz.prog (pieceIn Tryz.f10.body 1) (Exit.then K fun _ _ _ => False) ⟨#[s0, .pointer (some ⟨P, 0, none⟩), s2, s3, s4, .string (bs T), .int .i64 (i : Int), s7, s8, s9, s10, s11, s12, s13, s14, s15, s16, s17, s18, s19, s20, s21, s22, s23, s24, s25, s26, s27, s28, s29, s30, s31, s32, s33, s34, s35, s36, s37, s38, s39, s40, s41, s42, s43, s44, s45, s46, s47, s48, s49, s50, s51, s52, s53, s54, s55, s56, s57, s58, s59, s60, s61, s62, s63, s64, s65, s66, s67, s68, s69, s70, s71, s72, s73, s74, s75, s76, s77, s78, s79, s80, s81, s82, s83, s84, s85, s86], []⟩ w0 := by
  have hmix : Tryz.prog.follows .mixedOrders = true := by kernel_rfl
  have hil : i < l.length := (List.getElem?_eq_some_iff.1 hr).1
  have hii : (i : Int) < (rn : Int) := by omega
  obtain ⟨a', cap', b, off, AI, AK, AV, e, ha, hc⟩ := HRS.out
  have ea := ha (by omega)
  rw [Value.slice.injEq] at e
  obtain ⟨e1, -, -⟩ := e
  rw [ea] at e1
  subst e1
  obtain ⟨⟨c0, c1, c2, c3, c4, c5, c6, c7, c8, c9, c10, c11, c12, c13, c14⟩, xi, xk, xv⟩ := hc i r hr
  obtain ⟨ai, ci, ei⟩ := xi.slice
  obtain ⟨ak, ck, ek⟩ := xk.slice
  obtain ⟨av, cv, ev⟩ := xv.slice
  rw [ei] at c5 xi
  rw [ek] at c10 xk
  rw [ev] at c14 xv
  have hbw := HBE.out
  replace c0 := cell_below c0 hbw
  replace c1 := cell_below c1 hbw
  replace c2 := cell_below c2 hbw
  replace c3 := cell_below c3 hbw
  replace c4 := cell_below c4 hbw
  replace c5 := cell_below c5 hbw
  replace c6 := cell_below c6 hbw
  replace c7 := cell_below c7 hbw
  replace c8 := cell_below c8 hbw
  replace c9 := cell_below c9 hbw
  replace c10 := cell_below c10 hbw
  replace c11 := cell_below c11 hbw
  replace c12 := cell_below c12 hbw
  replace c13 := cell_below c13 hbw
  replace c14 := cell_below c14 hbw
  obtain ⟨w4, hw4⟩ : ∃ w4, w4 = w0.alloc (.cells #[.bool r.each, .int .i64 r.when, .int .i64 r.iff.k, .int .i64 r.iff.n, .string (bs r.iff.s), .slice ai r.iff.a.length ci, .string (bs r.s), .int .i64 r.key.k, .int .i64 r.key.n, .string (bs r.key.s), .slice ak r.key.a.length ck, .int .i64 r.val.k, .int .i64 r.val.n, .string (bs r.val.s), .slice av r.val.a.length cv] 46) := ⟨_, rfl⟩
  obtain ⟨B, hB⟩ : ∃ B, B = w0.heap.size := ⟨_, rfl⟩
  have RU : Hid (Blk w4 B 46 [.bool r.each, .int .i64 r.when, .int .i64 r.iff.k, .int .i64 r.iff.n, .string (bs r.iff.s), .slice ai r.iff.a.length ci, .string (bs r.s), .int .i64 r.key.k, .int .i64 r.key.n, .string (bs r.key.s), .slice ak r.key.a.length ck, .int .i64 r.val.k, .int .i64 r.val.n, .string (bs r.val.s), .slice av r.val.a.length cv]) := by show Blk _ _ _ _; rw [hw4, hB]; exact Blk.new _ _ _
  have hb4 : Below w0.heap.size w0 w4 := by rw [hw4]; exact below_box _
  have k0 := HJ.out.at (i := 0) (v := .slice (some ⟨b, off, none⟩) rn rcap) rfl
  have hbe4 : Below wE.heap.size wE w4 := below_trans hbw hb4
  obtain ⟨okk, okv, owh⟩ := rule_parts hrf
  have hwt2 := hwt
  unfold Rl.wt at hwt2
  have DK : Hid (∀ W, Below w4.heap.size w4 W → ∀ d os, Calls Tryz.prog 21 #[r.key.val (.slice ak r.key.a.length ck)] (Sort.grow (redrawn W d) os) fun e w'' => e = .returned (.string (bs r.key.txt)) ∧ ∃ p : Regrown, w'' = Sort.grow (redrawn W p.d) p.os) := fun W hW d os => Calls.regrown_of (rexprText_any xk ⟨_, _, okk⟩ hfit.2.1 (by omega) _ (below_trans (below_trans hbe4 hW) (below_regrown _ _ _)))
  have DV : Hid (∀ W, Below w4.heap.size w4 W → ∀ d os, Calls Tryz.prog 21 #[r.val.val (.slice av r.val.a.length cv)] (Sort.grow (redrawn W d) os) fun e w'' => e = .returned (.string (bs r.val.txt)) ∧ ∃ p : Regrown, w'' = Sort.grow (redrawn W p.d) p.os) := fun W hW d os => Calls.regrown_of (rexprText_any xv ⟨_, _, okv⟩ hfit.2.2 (by omega) _ (below_trans (below_trans hbe4 hW) (below_regrown _ _ _)))
  have DQ : Hid (∀ W d os, Calls Tryz.prog 22 #[.string (bs r.s)] (Sort.grow (redrawn W d) os) fun e w'' => e = .returned (.string (bs (quoteL r.s))) ∧ ∃ p : Regrown, w'' = Sort.grow (redrawn W p.d) p.os) := fun W d os => Calls.regrown_of ((rquoted_any r.s _ (by omega)).mono fun _ _ ⟨h1, h2⟩ => ⟨h1, by rw [h2]; exact Below.refl _ _⟩)
  have DI : Hid (r.when = 1 ∨ r.when = 2 → ∀ W, Below w4.heap.size w4 W → ∀ d os, Calls Tryz.prog 21 #[r.iff.val (.slice ai r.iff.a.length ci)] (Sort.grow (redrawn W d) os) fun e w'' => e = .returned (.string (bs r.iff.txt)) ∧ ∃ p : Regrown, w'' = Sort.grow (redrawn W p.d) p.os) := fun hwh W hW d os => by
    have oki : r.iff.ok true r.each = true := by
      rcases owh with ⟨h, _⟩ | ⟨_, h, _⟩
      · rw [h] at hwh; omega
      · exact h
    exact Calls.regrown_of (rexprText_any xi ⟨_, _, oki⟩ hfit.1 (by omega) _ (below_trans (below_trans hbe4 hW) (below_regrown _ _ _)))
  have qK : r.key.txt.length ≤ 49000000 := by have := txt_len r.key hfit.2.1; have := cnt_wt r.key; omega
  have qV : r.val.txt.length ≤ 49000000 := by have := txt_len r.val hfit.2.2; have := cnt_wt r.val; omega
  have qI : r.iff.txt.length ≤ 49000000 := by have := txt_len r.iff hfit.1; have := cnt_wt r.iff; omega
  have qQ : (quoteL r.s).length ≤ 49000000 := by have := quoL_len r.s; simp only [quoteL, List.length_cons, List.length_append, List.length_nil]; omega
  obtain ⟨TK, hTK⟩ : ∃ X, X = r.key.txt := ⟨_, rfl⟩
  obtain ⟨TV, hTV⟩ : ∃ X, X = r.val.txt := ⟨_, rfl⟩
  obtain ⟨TI, hTI⟩ : ∃ X, X = r.iff.txt := ⟨_, rfl⟩
  obtain ⟨TQ, hTQ⟩ : ∃ X, X = quoteL r.s := ⟨_, rfl⟩
  have hRL : ruleL r = ruleHd r ++ [107, 101, 121, 32] ++ TK ++ [32, 118, 97, 108, 32] ++ TV ++ [10] := by rw [hTK, hTV]; rfl
  have hHD : ruleHd r = (if r.each then [101, 97, 99, 104, 32] else []) ++ (if r.when = 1 then [115, 97, 109, 101, 32] ++ TI ++ [32] ++ TQ ++ [32] else if r.when = 2 then [111, 116, 104, 101, 114, 32] ++ TI ++ [32] ++ TQ ++ [32] else []) := by rw [hTI, hTQ]; rfl
  rw [← hTK] at DK qK
  rw [← hTV] at DV qV
  rw [← hTI] at DI qI
  rw [← hTQ] at DQ qQ
  unfold Ex.val at DK DV DI
  have HRL := Lib.hid hRL
  have HHD := Lib.hid hHD
  have HW4 := Lib.hid hw4
  have HBB := Lib.hid hB
  have HB4 : Hid (Below w0.heap.size w0 w4) := hb4
  have HREF : Hid (Below w4.heap.size w4 w4) := Below.refl _ _
  have HRN := Lib.hid hrn
  clear hrn hc xi xk xv ei ek ev okk okv owh hwt2 hwt hfit hrf hr hRL hHD hw4 hB hb4 hbe4 hbw hTK hTV hTI hTQ ha ea
  conv => arg 2; whnf
  go_upto_region 10 with fail
  rw [← HW4.out, ← HBB.out]
  clear HW4 HBB c0 c1 c2 c3 c4 c5 c6 c7 c8 c9 c10 c11 c12 c13 c14 k0
  rcases Bool.eq_false_or_eq_true r.each with g0 | g0
  · by_cases h1 : r.when = 1
    · have HWN := Lib.hid h1
      clear h1
      have q0 := RU.out.at (i := 0) (v := .bool r.each) rfl
      have q1 := RU.out.at (i := 1) (v := .int .i64 r.when) rfl
      have q2 := RU.out.at (i := 2) (v := .int .i64 r.iff.k) rfl
      have q3 := RU.out.at (i := 3) (v := .int .i64 r.iff.n) rfl
      have q4 := RU.out.at (i := 4) (v := .string (bs r.iff.s)) rfl
      have q5 := RU.out.at (i := 5) (v := .slice ai r.iff.a.length ci) rfl
      have q6 := RU.out.at (i := 6) (v := .string (bs r.s)) rfl
      have q7 := RU.out.at (i := 7) (v := .int .i64 r.key.k) rfl
      have q8 := RU.out.at (i := 8) (v := .int .i64 r.key.n) rfl
      have q9 := RU.out.at (i := 9) (v := .string (bs r.key.s)) rfl
      have q10 := RU.out.at (i := 10) (v := .slice ak r.key.a.length ck) rfl
      have q11 := RU.out.at (i := 11) (v := .int .i64 r.val.k) rfl
      have q12 := RU.out.at (i := 12) (v := .int .i64 r.val.n) rfl
      have q13 := RU.out.at (i := 13) (v := .string (bs r.val.s)) rfl
      have q14 := RU.out.at (i := 14) (v := .slice av r.val.a.length cv) rfl
      obtain ⟨E0, hE0⟩ : ∃ X, X = T ++ [101, 97, 99, 104, 32] := ⟨_, rfl⟩
      have rE0 : bs T ++ (⟨#[101, 97, 99, 104, 32]⟩ : ByteArray) = bs E0 := by rw [hE0]; apply ByteArray.ext; simp [bs]
      have zE0 : ¬ 9223372036854775807 < (bs T).size + ((⟨#[101, 97, 99, 104, 32]⟩ : ByteArray)).size := by rw [bs_size]; simp [ByteArray.size]; omega
      have yE0 : ¬ 9223372036854775807 < (bs T).size + 5 := by rw [bs_size]; omega
      have lE0 : E0.length ≤ 1000000005 := by rw [hE0, List.length_append]; simp; omega
      have HE0 := Lib.hid hE0
      clear hE0
      have g1 : (r.when == 1) = true := by rw [beq_iff_eq]; exact HWN.out
      have g2 : (r.when == 2) = false := by rw [beq_eq_false_iff_ne, HWN.out]; decide
      have cI := Lib.hid (fun d os => DI.out (.inl HWN.out) w4 HREF.out d os)
      have cQ := Lib.hid (fun d os => DQ.out w4 d os)
      obtain ⟨M0, hM0⟩ : ∃ X, X = E0 ++ [115, 97, 109, 101, 32] := ⟨_, rfl⟩
      have rM0 : bs E0 ++ (⟨#[115, 97, 109, 101, 32]⟩ : ByteArray) = bs M0 := by rw [hM0]; apply ByteArray.ext; simp [bs]
      have zM0 : ¬ 9223372036854775807 < (bs E0).size + ((⟨#[115, 97, 109, 101, 32]⟩ : ByteArray)).size := by rw [bs_size]; simp [ByteArray.size]; omega
      have yM0 : ¬ 9223372036854775807 < (bs E0).size + 5 := by rw [bs_size]; omega
      have lM0 : M0.length ≤ 1000000010 := by rw [hM0, List.length_append]; simp; omega
      have HM0 := Lib.hid hM0
      clear hM0
      obtain ⟨M1, hM1⟩ : ∃ X, X = M0 ++ TI := ⟨_, rfl⟩
      have rM1 : bs M0 ++ bs TI = bs M1 := by rw [hM1]; rw [bs_append]
      have zM1 : ¬ 9223372036854775807 < (bs M0).size + (bs TI).size := by rw [bs_size]; rw [bs_size]; omega
      have lM1 : M1.length ≤ 1049000010 := by rw [hM1, List.length_append]; omega
      have HM1 := Lib.hid hM1
      clear hM1
      obtain ⟨M2, hM2⟩ : ∃ X, X = M1 ++ [32] := ⟨_, rfl⟩
      have rM2 : bs M1 ++ (⟨#[32]⟩ : ByteArray) = bs M2 := by rw [hM2]; apply ByteArray.ext; simp [bs]
      have zM2 : ¬ 9223372036854775807 < (bs M1).size + ((⟨#[32]⟩ : ByteArray)).size := by rw [bs_size]; simp [ByteArray.size]; omega
      have yM2 : ¬ 9223372036854775807 < (bs M1).size + 1 := by rw [bs_size]; omega
      have lM2 : M2.length ≤ 1049000011 := by rw [hM2, List.length_append]; simp; omega
      have HM2 := Lib.hid hM2
      clear hM2
      obtain ⟨M3, hM3⟩ : ∃ X, X = M2 ++ TQ := ⟨_, rfl⟩
      have rM3 : bs M2 ++ bs TQ = bs M3 := by rw [hM3]; rw [bs_append]
      have zM3 : ¬ 9223372036854775807 < (bs M2).size + (bs TQ).size := by rw [bs_size]; rw [bs_size]; omega
      have lM3 : M3.length ≤ 1098000011 := by rw [hM3, List.length_append]; omega
      have HM3 := Lib.hid hM3
      clear hM3
      obtain ⟨M4, hM4⟩ : ∃ X, X = M3 ++ [32] := ⟨_, rfl⟩
      have rM4 : bs M3 ++ (⟨#[32]⟩ : ByteArray) = bs M4 := by rw [hM4]; apply ByteArray.ext; simp [bs]
      have zM4 : ¬ 9223372036854775807 < (bs M3).size + ((⟨#[32]⟩ : ByteArray)).size := by rw [bs_size]; simp [ByteArray.size]; omega
      have yM4 : ¬ 9223372036854775807 < (bs M3).size + 1 := by rw [bs_size]; omega
      have lM4 : M4.length ≤ 1098000012 := by rw [hM4, List.length_append]; simp; omega
      have HM4 := Lib.hid hM4
      clear hM4
      have k0 := cell_regrown q0
      have k1 := cell_regrown q1
      have k2 := cell_regrown q2
      have k3 := cell_regrown q3
      have k4 := cell_regrown q4
      have k5 := cell_regrown q5
      have k6 := cell_regrown q6
      have k7 := cell_regrown q7
      have k8 := cell_regrown q8
      have k9 := cell_regrown q9
      have k10 := cell_regrown q10
      have k11 := cell_regrown q11
      have k12 := cell_regrown q12
      have k13 := cell_regrown q13
      have k14 := cell_regrown q14

      go_upto_region 13 with fail
      refine wp_region_quiet_below hmix (by kernel_rfl) ?_
      repeat (quiet_step (first | (go_at_call 21; exact cI.out _ _) | (go_at_call 22; exact cQ.out _ _)))
      refine wpQuiet_nil ?_
      intro _ hw'
      obtain ⟨⟨dq, osq⟩, hw''⟩ := hw'
      subst hw''
      have HB5 : Hid (Below w4.heap.size w4 (Sort.grow (redrawn w4 dq) osq)) := below_regrown _ _ _
      generalize Sort.grow (redrawn w4 dq) osq = w5 at *
      clear k0 k1 k2 k3 k4 k5 k6 k7 k8 k9 k10 k11 k12 k13 k14
      clear q0 q1 q2 q3 q4 q5 q6 q7 q8 q9 q10 q11 q12 q13 q14
      have RU5 := Lib.hid (RU.out.blw HB5.out)
      have q0 := RU5.out.at (i := 0) (v := .bool r.each) rfl
      have q1 := RU5.out.at (i := 1) (v := .int .i64 r.when) rfl
      have q2 := RU5.out.at (i := 2) (v := .int .i64 r.iff.k) rfl
      have q3 := RU5.out.at (i := 3) (v := .int .i64 r.iff.n) rfl
      have q4 := RU5.out.at (i := 4) (v := .string (bs r.iff.s)) rfl
      have q5 := RU5.out.at (i := 5) (v := .slice ai r.iff.a.length ci) rfl
      have q6 := RU5.out.at (i := 6) (v := .string (bs r.s)) rfl
      have q7 := RU5.out.at (i := 7) (v := .int .i64 r.key.k) rfl
      have q8 := RU5.out.at (i := 8) (v := .int .i64 r.key.n) rfl
      have q9 := RU5.out.at (i := 9) (v := .string (bs r.key.s)) rfl
      have q10 := RU5.out.at (i := 10) (v := .slice ak r.key.a.length ck) rfl
      have q11 := RU5.out.at (i := 11) (v := .int .i64 r.val.k) rfl
      have q12 := RU5.out.at (i := 12) (v := .int .i64 r.val.n) rfl
      have q13 := RU5.out.at (i := 13) (v := .string (bs r.val.s)) rfl
      have q14 := RU5.out.at (i := 14) (v := .slice av r.val.a.length cv) rfl
      have cK := Lib.hid (fun d os => DK.out w5 HB5.out d os)
      have cV := Lib.hid (fun d os => DV.out w5 HB5.out d os)
      obtain ⟨D0, hD0⟩ : ∃ X, X = M4 ++ [107, 101, 121, 32] := ⟨_, rfl⟩
      have rD0 : bs M4 ++ (⟨#[107, 101, 121, 32]⟩ : ByteArray) = bs D0 := by rw [hD0]; apply ByteArray.ext; simp [bs]
      have zD0 : ¬ 9223372036854775807 < (bs M4).size + ((⟨#[107, 101, 121, 32]⟩ : ByteArray)).size := by rw [bs_size]; simp [ByteArray.size]; omega
      have yD0 : ¬ 9223372036854775807 < (bs M4).size + 4 := by rw [bs_size]; omega
      have lD0 : D0.length ≤ 1098000016 := by rw [hD0, List.length_append]; simp; omega
      have HD0 := Lib.hid hD0
      clear hD0
      obtain ⟨D1, hD1⟩ : ∃ X, X = D0 ++ TK := ⟨_, rfl⟩
      have rD1 : bs D0 ++ bs TK = bs D1 := by rw [hD1]; rw [bs_append]
      have zD1 : ¬ 9223372036854775807 < (bs D0).size + (bs TK).size := by rw [bs_size]; rw [bs_size]; omega
      have lD1 : D1.length ≤ 1147000016 := by rw [hD1, List.length_append]; omega
      have HD1 := Lib.hid hD1
      clear hD1
      obtain ⟨D2, hD2⟩ : ∃ X, X = D1 ++ [32, 118, 97, 108, 32] := ⟨_, rfl⟩
      have rD2 : bs D1 ++ (⟨#[32, 118, 97, 108, 32]⟩ : ByteArray) = bs D2 := by rw [hD2]; apply ByteArray.ext; simp [bs]
      have zD2 : ¬ 9223372036854775807 < (bs D1).size + ((⟨#[32, 118, 97, 108, 32]⟩ : ByteArray)).size := by rw [bs_size]; simp [ByteArray.size]; omega
      have yD2 : ¬ 9223372036854775807 < (bs D1).size + 5 := by rw [bs_size]; omega
      have lD2 : D2.length ≤ 1147000021 := by rw [hD2, List.length_append]; simp; omega
      have HD2 := Lib.hid hD2
      clear hD2
      obtain ⟨D3, hD3⟩ : ∃ X, X = D2 ++ TV := ⟨_, rfl⟩
      have rD3 : bs D2 ++ bs TV = bs D3 := by rw [hD3]; rw [bs_append]
      have zD3 : ¬ 9223372036854775807 < (bs D2).size + (bs TV).size := by rw [bs_size]; rw [bs_size]; omega
      have lD3 : D3.length ≤ 1196000021 := by rw [hD3, List.length_append]; omega
      have HD3 := Lib.hid hD3
      clear hD3
      obtain ⟨D4, hD4⟩ : ∃ X, X = D3 ++ [10] := ⟨_, rfl⟩
      have rD4 : bs D3 ++ (⟨#[10]⟩ : ByteArray) = bs D4 := by rw [hD4]; apply ByteArray.ext; simp [bs]
      have zD4 : ¬ 9223372036854775807 < (bs D3).size + ((⟨#[10]⟩ : ByteArray)).size := by rw [bs_size]; simp [ByteArray.size]; omega
      have yD4 : ¬ 9223372036854775807 < (bs D3).size + 1 := by rw [bs_size]; omega
      have lD4 : D4.length ≤ 1196000022 := by rw [hD4, List.length_append]; simp; omega
      have HD4 := Lib.hid hD4
      clear hD4
      have k0 := cell_regrown q0
      have k1 := cell_regrown q1
      have k2 := cell_regrown q2
      have k3 := cell_regrown q3
      have k4 := cell_regrown q4
      have k5 := cell_regrown q5
      have k6 := cell_regrown q6
      have k7 := cell_regrown q7
      have k8 := cell_regrown q8
      have k9 := cell_regrown q9
      have k10 := cell_regrown q10
      have k11 := cell_regrown q11
      have k12 := cell_regrown q12
      have k13 := cell_regrown q13
      have k14 := cell_regrown q14

      go_upto_region 16 with fail
      refine wp_region_quiet_below hmix (by kernel_rfl) ?_
      repeat (quiet_step (first | (go_at_call_of 21 (Value.agg #[.int .i64 r.key.k, .int .i64 r.key.n, .string (bs r.key.s), .slice ak r.key.a.length ck]); exact cK.out _ _) | (go_at_call_of 21 (Value.agg #[.int .i64 r.val.k, .int .i64 r.val.n, .string (bs r.val.s), .slice av r.val.a.length cv]); exact cV.out _ _)))
      refine wpQuiet_nil ?_
      intro _ hw'
      obtain ⟨⟨dq, osq⟩, hw''⟩ := hw'
      subst hw''
      have HB8 : Hid (Below w4.heap.size w4 (Sort.grow (redrawn w5 dq) osq)) := below_trans HB5.out (below_regrown _ _ _)
      generalize Sort.grow (redrawn w5 dq) osq = w8 at *
      clear k0 k1 k2 k3 k4 k5 k6 k7 k8 k9 k10 k11 k12 k13 k14
      have HEQ : Hid (D4 = T ++ ruleL r) := by
        show _ = _
        rw [HD4.out, HD3.out, HD2.out, HD1.out, HD0.out, HM4.out, HM3.out, HM2.out, HM1.out, HM0.out, HE0.out, HRL.out, HHD.out]
        simp [g0, HWN.out]
      have heq := HEQ.out
      clear HD0 HD1 HD2 HD3 HD4
      subst heq
      go_wp2
      exact HK.out _ _ _ _ _ _ _ _ _ _ _ _ _ _ _ _ _ _ _ _ _ _ _ _ _ _ _ _ _ _ _ _ _ _ _ _ _ _ _ _ _ _ _ _ _ _ _ _ _ _ _ _ _ (below_trans HB4.out HB8.out)
    · by_cases h2 : r.when = 2
      · have HWN := Lib.hid h2
        clear h1 h2
        have q0 := RU.out.at (i := 0) (v := .bool r.each) rfl
        have q1 := RU.out.at (i := 1) (v := .int .i64 r.when) rfl
        have q2 := RU.out.at (i := 2) (v := .int .i64 r.iff.k) rfl
        have q3 := RU.out.at (i := 3) (v := .int .i64 r.iff.n) rfl
        have q4 := RU.out.at (i := 4) (v := .string (bs r.iff.s)) rfl
        have q5 := RU.out.at (i := 5) (v := .slice ai r.iff.a.length ci) rfl
        have q6 := RU.out.at (i := 6) (v := .string (bs r.s)) rfl
        have q7 := RU.out.at (i := 7) (v := .int .i64 r.key.k) rfl
        have q8 := RU.out.at (i := 8) (v := .int .i64 r.key.n) rfl
        have q9 := RU.out.at (i := 9) (v := .string (bs r.key.s)) rfl
        have q10 := RU.out.at (i := 10) (v := .slice ak r.key.a.length ck) rfl
        have q11 := RU.out.at (i := 11) (v := .int .i64 r.val.k) rfl
        have q12 := RU.out.at (i := 12) (v := .int .i64 r.val.n) rfl
        have q13 := RU.out.at (i := 13) (v := .string (bs r.val.s)) rfl
        have q14 := RU.out.at (i := 14) (v := .slice av r.val.a.length cv) rfl
        obtain ⟨E0, hE0⟩ : ∃ X, X = T ++ [101, 97, 99, 104, 32] := ⟨_, rfl⟩
        have rE0 : bs T ++ (⟨#[101, 97, 99, 104, 32]⟩ : ByteArray) = bs E0 := by rw [hE0]; apply ByteArray.ext; simp [bs]
        have zE0 : ¬ 9223372036854775807 < (bs T).size + ((⟨#[101, 97, 99, 104, 32]⟩ : ByteArray)).size := by rw [bs_size]; simp [ByteArray.size]; omega
        have yE0 : ¬ 9223372036854775807 < (bs T).size + 5 := by rw [bs_size]; omega
        have lE0 : E0.length ≤ 1000000005 := by rw [hE0, List.length_append]; simp; omega
        have HE0 := Lib.hid hE0
        clear hE0
        have g1 : (r.when == 1) = false := by rw [beq_eq_false_iff_ne, HWN.out]; decide
        have g2 : (r.when == 2) = true := by rw [beq_iff_eq]; exact HWN.out
        have cI := Lib.hid (fun d os => DI.out (.inr HWN.out) w4 HREF.out d os)
        have cQ := Lib.hid (fun d os => DQ.out w4 d os)
        obtain ⟨M0, hM0⟩ : ∃ X, X = E0 ++ [111, 116, 104, 101, 114, 32] := ⟨_, rfl⟩
        have rM0 : bs E0 ++ (⟨#[111, 116, 104, 101, 114, 32]⟩ : ByteArray) = bs M0 := by rw [hM0]; apply ByteArray.ext; simp [bs]
        have zM0 : ¬ 9223372036854775807 < (bs E0).size + ((⟨#[111, 116, 104, 101, 114, 32]⟩ : ByteArray)).size := by rw [bs_size]; simp [ByteArray.size]; omega
        have yM0 : ¬ 9223372036854775807 < (bs E0).size + 6 := by rw [bs_size]; omega
        have lM0 : M0.length ≤ 1000000011 := by rw [hM0, List.length_append]; simp; omega
        have HM0 := Lib.hid hM0
        clear hM0
        obtain ⟨M1, hM1⟩ : ∃ X, X = M0 ++ TI := ⟨_, rfl⟩
        have rM1 : bs M0 ++ bs TI = bs M1 := by rw [hM1]; rw [bs_append]
        have zM1 : ¬ 9223372036854775807 < (bs M0).size + (bs TI).size := by rw [bs_size]; rw [bs_size]; omega
        have lM1 : M1.length ≤ 1049000011 := by rw [hM1, List.length_append]; omega
        have HM1 := Lib.hid hM1
        clear hM1
        obtain ⟨M2, hM2⟩ : ∃ X, X = M1 ++ [32] := ⟨_, rfl⟩
        have rM2 : bs M1 ++ (⟨#[32]⟩ : ByteArray) = bs M2 := by rw [hM2]; apply ByteArray.ext; simp [bs]
        have zM2 : ¬ 9223372036854775807 < (bs M1).size + ((⟨#[32]⟩ : ByteArray)).size := by rw [bs_size]; simp [ByteArray.size]; omega
        have yM2 : ¬ 9223372036854775807 < (bs M1).size + 1 := by rw [bs_size]; omega
        have lM2 : M2.length ≤ 1049000012 := by rw [hM2, List.length_append]; simp; omega
        have HM2 := Lib.hid hM2
        clear hM2
        obtain ⟨M3, hM3⟩ : ∃ X, X = M2 ++ TQ := ⟨_, rfl⟩
        have rM3 : bs M2 ++ bs TQ = bs M3 := by rw [hM3]; rw [bs_append]
        have zM3 : ¬ 9223372036854775807 < (bs M2).size + (bs TQ).size := by rw [bs_size]; rw [bs_size]; omega
        have lM3 : M3.length ≤ 1098000012 := by rw [hM3, List.length_append]; omega
        have HM3 := Lib.hid hM3
        clear hM3
        obtain ⟨M4, hM4⟩ : ∃ X, X = M3 ++ [32] := ⟨_, rfl⟩
        have rM4 : bs M3 ++ (⟨#[32]⟩ : ByteArray) = bs M4 := by rw [hM4]; apply ByteArray.ext; simp [bs]
        have zM4 : ¬ 9223372036854775807 < (bs M3).size + ((⟨#[32]⟩ : ByteArray)).size := by rw [bs_size]; simp [ByteArray.size]; omega
        have yM4 : ¬ 9223372036854775807 < (bs M3).size + 1 := by rw [bs_size]; omega
        have lM4 : M4.length ≤ 1098000013 := by rw [hM4, List.length_append]; simp; omega
        have HM4 := Lib.hid hM4
        clear hM4
        have k0 := cell_regrown q0
        have k1 := cell_regrown q1
        have k2 := cell_regrown q2
        have k3 := cell_regrown q3
        have k4 := cell_regrown q4
        have k5 := cell_regrown q5
        have k6 := cell_regrown q6
        have k7 := cell_regrown q7
        have k8 := cell_regrown q8
        have k9 := cell_regrown q9
        have k10 := cell_regrown q10
        have k11 := cell_regrown q11
        have k12 := cell_regrown q12
        have k13 := cell_regrown q13
        have k14 := cell_regrown q14

        go_upto_region 15 with fail
        refine wp_region_quiet_below hmix (by kernel_rfl) ?_
        repeat (quiet_step (first | (go_at_call 21; exact cI.out _ _) | (go_at_call 22; exact cQ.out _ _)))
        refine wpQuiet_nil ?_
        intro _ hw'
        obtain ⟨⟨dq, osq⟩, hw''⟩ := hw'
        subst hw''
        have HB5 : Hid (Below w4.heap.size w4 (Sort.grow (redrawn w4 dq) osq)) := below_regrown _ _ _
        generalize Sort.grow (redrawn w4 dq) osq = w5 at *
        clear k0 k1 k2 k3 k4 k5 k6 k7 k8 k9 k10 k11 k12 k13 k14
        clear q0 q1 q2 q3 q4 q5 q6 q7 q8 q9 q10 q11 q12 q13 q14
        have RU5 := Lib.hid (RU.out.blw HB5.out)
        have q0 := RU5.out.at (i := 0) (v := .bool r.each) rfl
        have q1 := RU5.out.at (i := 1) (v := .int .i64 r.when) rfl
        have q2 := RU5.out.at (i := 2) (v := .int .i64 r.iff.k) rfl
        have q3 := RU5.out.at (i := 3) (v := .int .i64 r.iff.n) rfl
        have q4 := RU5.out.at (i := 4) (v := .string (bs r.iff.s)) rfl
        have q5 := RU5.out.at (i := 5) (v := .slice ai r.iff.a.length ci) rfl
        have q6 := RU5.out.at (i := 6) (v := .string (bs r.s)) rfl
        have q7 := RU5.out.at (i := 7) (v := .int .i64 r.key.k) rfl
        have q8 := RU5.out.at (i := 8) (v := .int .i64 r.key.n) rfl
        have q9 := RU5.out.at (i := 9) (v := .string (bs r.key.s)) rfl
        have q10 := RU5.out.at (i := 10) (v := .slice ak r.key.a.length ck) rfl
        have q11 := RU5.out.at (i := 11) (v := .int .i64 r.val.k) rfl
        have q12 := RU5.out.at (i := 12) (v := .int .i64 r.val.n) rfl
        have q13 := RU5.out.at (i := 13) (v := .string (bs r.val.s)) rfl
        have q14 := RU5.out.at (i := 14) (v := .slice av r.val.a.length cv) rfl
        have cK := Lib.hid (fun d os => DK.out w5 HB5.out d os)
        have cV := Lib.hid (fun d os => DV.out w5 HB5.out d os)
        obtain ⟨D0, hD0⟩ : ∃ X, X = M4 ++ [107, 101, 121, 32] := ⟨_, rfl⟩
        have rD0 : bs M4 ++ (⟨#[107, 101, 121, 32]⟩ : ByteArray) = bs D0 := by rw [hD0]; apply ByteArray.ext; simp [bs]
        have zD0 : ¬ 9223372036854775807 < (bs M4).size + ((⟨#[107, 101, 121, 32]⟩ : ByteArray)).size := by rw [bs_size]; simp [ByteArray.size]; omega
        have yD0 : ¬ 9223372036854775807 < (bs M4).size + 4 := by rw [bs_size]; omega
        have lD0 : D0.length ≤ 1098000017 := by rw [hD0, List.length_append]; simp; omega
        have HD0 := Lib.hid hD0
        clear hD0
        obtain ⟨D1, hD1⟩ : ∃ X, X = D0 ++ TK := ⟨_, rfl⟩
        have rD1 : bs D0 ++ bs TK = bs D1 := by rw [hD1]; rw [bs_append]
        have zD1 : ¬ 9223372036854775807 < (bs D0).size + (bs TK).size := by rw [bs_size]; rw [bs_size]; omega
        have lD1 : D1.length ≤ 1147000017 := by rw [hD1, List.length_append]; omega
        have HD1 := Lib.hid hD1
        clear hD1
        obtain ⟨D2, hD2⟩ : ∃ X, X = D1 ++ [32, 118, 97, 108, 32] := ⟨_, rfl⟩
        have rD2 : bs D1 ++ (⟨#[32, 118, 97, 108, 32]⟩ : ByteArray) = bs D2 := by rw [hD2]; apply ByteArray.ext; simp [bs]
        have zD2 : ¬ 9223372036854775807 < (bs D1).size + ((⟨#[32, 118, 97, 108, 32]⟩ : ByteArray)).size := by rw [bs_size]; simp [ByteArray.size]; omega
        have yD2 : ¬ 9223372036854775807 < (bs D1).size + 5 := by rw [bs_size]; omega
        have lD2 : D2.length ≤ 1147000022 := by rw [hD2, List.length_append]; simp; omega
        have HD2 := Lib.hid hD2
        clear hD2
        obtain ⟨D3, hD3⟩ : ∃ X, X = D2 ++ TV := ⟨_, rfl⟩
        have rD3 : bs D2 ++ bs TV = bs D3 := by rw [hD3]; rw [bs_append]
        have zD3 : ¬ 9223372036854775807 < (bs D2).size + (bs TV).size := by rw [bs_size]; rw [bs_size]; omega
        have lD3 : D3.length ≤ 1196000022 := by rw [hD3, List.length_append]; omega
        have HD3 := Lib.hid hD3
        clear hD3
        obtain ⟨D4, hD4⟩ : ∃ X, X = D3 ++ [10] := ⟨_, rfl⟩
        have rD4 : bs D3 ++ (⟨#[10]⟩ : ByteArray) = bs D4 := by rw [hD4]; apply ByteArray.ext; simp [bs]
        have zD4 : ¬ 9223372036854775807 < (bs D3).size + ((⟨#[10]⟩ : ByteArray)).size := by rw [bs_size]; simp [ByteArray.size]; omega
        have yD4 : ¬ 9223372036854775807 < (bs D3).size + 1 := by rw [bs_size]; omega
        have lD4 : D4.length ≤ 1196000023 := by rw [hD4, List.length_append]; simp; omega
        have HD4 := Lib.hid hD4
        clear hD4
        have k0 := cell_regrown q0
        have k1 := cell_regrown q1
        have k2 := cell_regrown q2
        have k3 := cell_regrown q3
        have k4 := cell_regrown q4
        have k5 := cell_regrown q5
        have k6 := cell_regrown q6
        have k7 := cell_regrown q7
        have k8 := cell_regrown q8
        have k9 := cell_regrown q9
        have k10 := cell_regrown q10
        have k11 := cell_regrown q11
        have k12 := cell_regrown q12
        have k13 := cell_regrown q13
        have k14 := cell_regrown q14

        go_upto_region 16 with fail
        refine wp_region_quiet_below hmix (by kernel_rfl) ?_
        repeat (quiet_step (first | (go_at_call_of 21 (Value.agg #[.int .i64 r.key.k, .int .i64 r.key.n, .string (bs r.key.s), .slice ak r.key.a.length ck]); exact cK.out _ _) | (go_at_call_of 21 (Value.agg #[.int .i64 r.val.k, .int .i64 r.val.n, .string (bs r.val.s), .slice av r.val.a.length cv]); exact cV.out _ _)))
        refine wpQuiet_nil ?_
        intro _ hw'
        obtain ⟨⟨dq, osq⟩, hw''⟩ := hw'
        subst hw''
        have HB8 : Hid (Below w4.heap.size w4 (Sort.grow (redrawn w5 dq) osq)) := below_trans HB5.out (below_regrown _ _ _)
        generalize Sort.grow (redrawn w5 dq) osq = w8 at *
        clear k0 k1 k2 k3 k4 k5 k6 k7 k8 k9 k10 k11 k12 k13 k14
        have HEQ : Hid (D4 = T ++ ruleL r) := by
          show _ = _
          rw [HD4.out, HD3.out, HD2.out, HD1.out, HD0.out, HM4.out, HM3.out, HM2.out, HM1.out, HM0.out, HE0.out, HRL.out, HHD.out]
          simp [g0, HWN.out]
        have heq := HEQ.out
        clear HD0 HD1 HD2 HD3 HD4
        subst heq
        go_wp2
        exact HK.out _ _ _ _ _ _ _ _ _ _ _ _ _ _ _ _ _ _ _ _ _ _ _ _ _ _ _ _ _ _ _ _ _ _ _ _ _ _ _ _ _ _ _ _ _ _ _ _ _ _ _ _ _ (below_trans HB4.out HB8.out)
      · have HWN := Lib.hid (And.intro h1 h2)
        clear h1 h2
        have q0 := RU.out.at (i := 0) (v := .bool r.each) rfl
        have q1 := RU.out.at (i := 1) (v := .int .i64 r.when) rfl
        have q2 := RU.out.at (i := 2) (v := .int .i64 r.iff.k) rfl
        have q3 := RU.out.at (i := 3) (v := .int .i64 r.iff.n) rfl
        have q4 := RU.out.at (i := 4) (v := .string (bs r.iff.s)) rfl
        have q5 := RU.out.at (i := 5) (v := .slice ai r.iff.a.length ci) rfl
        have q6 := RU.out.at (i := 6) (v := .string (bs r.s)) rfl
        have q7 := RU.out.at (i := 7) (v := .int .i64 r.key.k) rfl
        have q8 := RU.out.at (i := 8) (v := .int .i64 r.key.n) rfl
        have q9 := RU.out.at (i := 9) (v := .string (bs r.key.s)) rfl
        have q10 := RU.out.at (i := 10) (v := .slice ak r.key.a.length ck) rfl
        have q11 := RU.out.at (i := 11) (v := .int .i64 r.val.k) rfl
        have q12 := RU.out.at (i := 12) (v := .int .i64 r.val.n) rfl
        have q13 := RU.out.at (i := 13) (v := .string (bs r.val.s)) rfl
        have q14 := RU.out.at (i := 14) (v := .slice av r.val.a.length cv) rfl
        obtain ⟨E0, hE0⟩ : ∃ X, X = T ++ [101, 97, 99, 104, 32] := ⟨_, rfl⟩
        have rE0 : bs T ++ (⟨#[101, 97, 99, 104, 32]⟩ : ByteArray) = bs E0 := by rw [hE0]; apply ByteArray.ext; simp [bs]
        have zE0 : ¬ 9223372036854775807 < (bs T).size + ((⟨#[101, 97, 99, 104, 32]⟩ : ByteArray)).size := by rw [bs_size]; simp [ByteArray.size]; omega
        have yE0 : ¬ 9223372036854775807 < (bs T).size + 5 := by rw [bs_size]; omega
        have lE0 : E0.length ≤ 1000000005 := by rw [hE0, List.length_append]; simp; omega
        have HE0 := Lib.hid hE0
        clear hE0
        have g1 : (r.when == 1) = false := by rw [beq_eq_false_iff_ne]; exact HWN.out.1
        have g2 : (r.when == 2) = false := by rw [beq_eq_false_iff_ne]; exact HWN.out.2
        have cK := Lib.hid (fun d os => DK.out w4 HREF.out d os)
        have cV := Lib.hid (fun d os => DV.out w4 HREF.out d os)
        obtain ⟨D0, hD0⟩ : ∃ X, X = E0 ++ [107, 101, 121, 32] := ⟨_, rfl⟩
        have rD0 : bs E0 ++ (⟨#[107, 101, 121, 32]⟩ : ByteArray) = bs D0 := by rw [hD0]; apply ByteArray.ext; simp [bs]
        have zD0 : ¬ 9223372036854775807 < (bs E0).size + ((⟨#[107, 101, 121, 32]⟩ : ByteArray)).size := by rw [bs_size]; simp [ByteArray.size]; omega
        have yD0 : ¬ 9223372036854775807 < (bs E0).size + 4 := by rw [bs_size]; omega
        have lD0 : D0.length ≤ 1000000009 := by rw [hD0, List.length_append]; simp; omega
        have HD0 := Lib.hid hD0
        clear hD0
        obtain ⟨D1, hD1⟩ : ∃ X, X = D0 ++ TK := ⟨_, rfl⟩
        have rD1 : bs D0 ++ bs TK = bs D1 := by rw [hD1]; rw [bs_append]
        have zD1 : ¬ 9223372036854775807 < (bs D0).size + (bs TK).size := by rw [bs_size]; rw [bs_size]; omega
        have lD1 : D1.length ≤ 1049000009 := by rw [hD1, List.length_append]; omega
        have HD1 := Lib.hid hD1
        clear hD1
        obtain ⟨D2, hD2⟩ : ∃ X, X = D1 ++ [32, 118, 97, 108, 32] := ⟨_, rfl⟩
        have rD2 : bs D1 ++ (⟨#[32, 118, 97, 108, 32]⟩ : ByteArray) = bs D2 := by rw [hD2]; apply ByteArray.ext; simp [bs]
        have zD2 : ¬ 9223372036854775807 < (bs D1).size + ((⟨#[32, 118, 97, 108, 32]⟩ : ByteArray)).size := by rw [bs_size]; simp [ByteArray.size]; omega
        have yD2 : ¬ 9223372036854775807 < (bs D1).size + 5 := by rw [bs_size]; omega
        have lD2 : D2.length ≤ 1049000014 := by rw [hD2, List.length_append]; simp; omega
        have HD2 := Lib.hid hD2
        clear hD2
        obtain ⟨D3, hD3⟩ : ∃ X, X = D2 ++ TV := ⟨_, rfl⟩
        have rD3 : bs D2 ++ bs TV = bs D3 := by rw [hD3]; rw [bs_append]
        have zD3 : ¬ 9223372036854775807 < (bs D2).size + (bs TV).size := by rw [bs_size]; rw [bs_size]; omega
        have lD3 : D3.length ≤ 1098000014 := by rw [hD3, List.length_append]; omega
        have HD3 := Lib.hid hD3
        clear hD3
        obtain ⟨D4, hD4⟩ : ∃ X, X = D3 ++ [10] := ⟨_, rfl⟩
        have rD4 : bs D3 ++ (⟨#[10]⟩ : ByteArray) = bs D4 := by rw [hD4]; apply ByteArray.ext; simp [bs]
        have zD4 : ¬ 9223372036854775807 < (bs D3).size + ((⟨#[10]⟩ : ByteArray)).size := by rw [bs_size]; simp [ByteArray.size]; omega
        have yD4 : ¬ 9223372036854775807 < (bs D3).size + 1 := by rw [bs_size]; omega
        have lD4 : D4.length ≤ 1098000015 := by rw [hD4, List.length_append]; simp; omega
        have HD4 := Lib.hid hD4
        clear hD4
        have k0 := cell_regrown q0
        have k1 := cell_regrown q1
        have k2 := cell_regrown q2
        have k3 := cell_regrown q3
        have k4 := cell_regrown q4
        have k5 := cell_regrown q5
        have k6 := cell_regrown q6
        have k7 := cell_regrown q7
        have k8 := cell_regrown q8
        have k9 := cell_regrown q9
        have k10 := cell_regrown q10
        have k11 := cell_regrown q11
        have k12 := cell_regrown q12
        have k13 := cell_regrown q13
        have k14 := cell_regrown q14

        go_upto_region 16 with fail
        refine wp_region_quiet_below hmix (by kernel_rfl) ?_
        repeat (quiet_step (first | (go_at_call_of 21 (Value.agg #[.int .i64 r.key.k, .int .i64 r.key.n, .string (bs r.key.s), .slice ak r.key.a.length ck]); exact cK.out _ _) | (go_at_call_of 21 (Value.agg #[.int .i64 r.val.k, .int .i64 r.val.n, .string (bs r.val.s), .slice av r.val.a.length cv]); exact cV.out _ _)))
        refine wpQuiet_nil ?_
        intro _ hw'
        obtain ⟨⟨dq, osq⟩, hw''⟩ := hw'
        subst hw''
        have HB8 : Hid (Below w4.heap.size w4 (Sort.grow (redrawn w4 dq) osq)) := below_trans HREF.out (below_regrown _ _ _)
        generalize Sort.grow (redrawn w4 dq) osq = w8 at *
        clear k0 k1 k2 k3 k4 k5 k6 k7 k8 k9 k10 k11 k12 k13 k14
        have HEQ : Hid (D4 = T ++ ruleL r) := by
          show _ = _
          rw [HD4.out, HD3.out, HD2.out, HD1.out, HD0.out, HE0.out, HRL.out, HHD.out]
          simp [g0, HWN.out.1, HWN.out.2]
        have heq := HEQ.out
        clear HD0 HD1 HD2 HD3 HD4
        subst heq
        go_wp2
        exact HK.out _ _ _ _ _ _ _ _ _ _ _ _ _ _ _ _ _ _ _ _ _ _ _ _ _ _ _ _ _ _ _ _ _ _ _ _ _ _ _ _ _ _ _ _ _ _ _ _ _ _ _ _ _ (below_trans HB4.out HB8.out)
  · by_cases h1 : r.when = 1
    · have HWN := Lib.hid h1
      clear h1
      have q0 := RU.out.at (i := 0) (v := .bool r.each) rfl
      have q1 := RU.out.at (i := 1) (v := .int .i64 r.when) rfl
      have q2 := RU.out.at (i := 2) (v := .int .i64 r.iff.k) rfl
      have q3 := RU.out.at (i := 3) (v := .int .i64 r.iff.n) rfl
      have q4 := RU.out.at (i := 4) (v := .string (bs r.iff.s)) rfl
      have q5 := RU.out.at (i := 5) (v := .slice ai r.iff.a.length ci) rfl
      have q6 := RU.out.at (i := 6) (v := .string (bs r.s)) rfl
      have q7 := RU.out.at (i := 7) (v := .int .i64 r.key.k) rfl
      have q8 := RU.out.at (i := 8) (v := .int .i64 r.key.n) rfl
      have q9 := RU.out.at (i := 9) (v := .string (bs r.key.s)) rfl
      have q10 := RU.out.at (i := 10) (v := .slice ak r.key.a.length ck) rfl
      have q11 := RU.out.at (i := 11) (v := .int .i64 r.val.k) rfl
      have q12 := RU.out.at (i := 12) (v := .int .i64 r.val.n) rfl
      have q13 := RU.out.at (i := 13) (v := .string (bs r.val.s)) rfl
      have q14 := RU.out.at (i := 14) (v := .slice av r.val.a.length cv) rfl
      have g1 : (r.when == 1) = true := by rw [beq_iff_eq]; exact HWN.out
      have g2 : (r.when == 2) = false := by rw [beq_eq_false_iff_ne, HWN.out]; decide
      have cI := Lib.hid (fun d os => DI.out (.inl HWN.out) w4 HREF.out d os)
      have cQ := Lib.hid (fun d os => DQ.out w4 d os)
      obtain ⟨M0, hM0⟩ : ∃ X, X = T ++ [115, 97, 109, 101, 32] := ⟨_, rfl⟩
      have rM0 : bs T ++ (⟨#[115, 97, 109, 101, 32]⟩ : ByteArray) = bs M0 := by rw [hM0]; apply ByteArray.ext; simp [bs]
      have zM0 : ¬ 9223372036854775807 < (bs T).size + ((⟨#[115, 97, 109, 101, 32]⟩ : ByteArray)).size := by rw [bs_size]; simp [ByteArray.size]; omega
      have yM0 : ¬ 9223372036854775807 < (bs T).size + 5 := by rw [bs_size]; omega
      have lM0 : M0.length ≤ 1000000005 := by rw [hM0, List.length_append]; simp; omega
      have HM0 := Lib.hid hM0
      clear hM0
      obtain ⟨M1, hM1⟩ : ∃ X, X = M0 ++ TI := ⟨_, rfl⟩
      have rM1 : bs M0 ++ bs TI = bs M1 := by rw [hM1]; rw [bs_append]
      have zM1 : ¬ 9223372036854775807 < (bs M0).size + (bs TI).size := by rw [bs_size]; rw [bs_size]; omega
      have lM1 : M1.length ≤ 1049000005 := by rw [hM1, List.length_append]; omega
      have HM1 := Lib.hid hM1
      clear hM1
      obtain ⟨M2, hM2⟩ : ∃ X, X = M1 ++ [32] := ⟨_, rfl⟩
      have rM2 : bs M1 ++ (⟨#[32]⟩ : ByteArray) = bs M2 := by rw [hM2]; apply ByteArray.ext; simp [bs]
      have zM2 : ¬ 9223372036854775807 < (bs M1).size + ((⟨#[32]⟩ : ByteArray)).size := by rw [bs_size]; simp [ByteArray.size]; omega
      have yM2 : ¬ 9223372036854775807 < (bs M1).size + 1 := by rw [bs_size]; omega
      have lM2 : M2.length ≤ 1049000006 := by rw [hM2, List.length_append]; simp; omega
      have HM2 := Lib.hid hM2
      clear hM2
      obtain ⟨M3, hM3⟩ : ∃ X, X = M2 ++ TQ := ⟨_, rfl⟩
      have rM3 : bs M2 ++ bs TQ = bs M3 := by rw [hM3]; rw [bs_append]
      have zM3 : ¬ 9223372036854775807 < (bs M2).size + (bs TQ).size := by rw [bs_size]; rw [bs_size]; omega
      have lM3 : M3.length ≤ 1098000006 := by rw [hM3, List.length_append]; omega
      have HM3 := Lib.hid hM3
      clear hM3
      obtain ⟨M4, hM4⟩ : ∃ X, X = M3 ++ [32] := ⟨_, rfl⟩
      have rM4 : bs M3 ++ (⟨#[32]⟩ : ByteArray) = bs M4 := by rw [hM4]; apply ByteArray.ext; simp [bs]
      have zM4 : ¬ 9223372036854775807 < (bs M3).size + ((⟨#[32]⟩ : ByteArray)).size := by rw [bs_size]; simp [ByteArray.size]; omega
      have yM4 : ¬ 9223372036854775807 < (bs M3).size + 1 := by rw [bs_size]; omega
      have lM4 : M4.length ≤ 1098000007 := by rw [hM4, List.length_append]; simp; omega
      have HM4 := Lib.hid hM4
      clear hM4
      have k0 := cell_regrown q0
      have k1 := cell_regrown q1
      have k2 := cell_regrown q2
      have k3 := cell_regrown q3
      have k4 := cell_regrown q4
      have k5 := cell_regrown q5
      have k6 := cell_regrown q6
      have k7 := cell_regrown q7
      have k8 := cell_regrown q8
      have k9 := cell_regrown q9
      have k10 := cell_regrown q10
      have k11 := cell_regrown q11
      have k12 := cell_regrown q12
      have k13 := cell_regrown q13
      have k14 := cell_regrown q14

      go_upto_region 13 with fail
      refine wp_region_quiet_below hmix (by kernel_rfl) ?_
      repeat (quiet_step (first | (go_at_call 21; exact cI.out _ _) | (go_at_call 22; exact cQ.out _ _)))
      refine wpQuiet_nil ?_
      intro _ hw'
      obtain ⟨⟨dq, osq⟩, hw''⟩ := hw'
      subst hw''
      have HB5 : Hid (Below w4.heap.size w4 (Sort.grow (redrawn w4 dq) osq)) := below_regrown _ _ _
      generalize Sort.grow (redrawn w4 dq) osq = w5 at *
      clear k0 k1 k2 k3 k4 k5 k6 k7 k8 k9 k10 k11 k12 k13 k14
      clear q0 q1 q2 q3 q4 q5 q6 q7 q8 q9 q10 q11 q12 q13 q14
      have RU5 := Lib.hid (RU.out.blw HB5.out)
      have q0 := RU5.out.at (i := 0) (v := .bool r.each) rfl
      have q1 := RU5.out.at (i := 1) (v := .int .i64 r.when) rfl
      have q2 := RU5.out.at (i := 2) (v := .int .i64 r.iff.k) rfl
      have q3 := RU5.out.at (i := 3) (v := .int .i64 r.iff.n) rfl
      have q4 := RU5.out.at (i := 4) (v := .string (bs r.iff.s)) rfl
      have q5 := RU5.out.at (i := 5) (v := .slice ai r.iff.a.length ci) rfl
      have q6 := RU5.out.at (i := 6) (v := .string (bs r.s)) rfl
      have q7 := RU5.out.at (i := 7) (v := .int .i64 r.key.k) rfl
      have q8 := RU5.out.at (i := 8) (v := .int .i64 r.key.n) rfl
      have q9 := RU5.out.at (i := 9) (v := .string (bs r.key.s)) rfl
      have q10 := RU5.out.at (i := 10) (v := .slice ak r.key.a.length ck) rfl
      have q11 := RU5.out.at (i := 11) (v := .int .i64 r.val.k) rfl
      have q12 := RU5.out.at (i := 12) (v := .int .i64 r.val.n) rfl
      have q13 := RU5.out.at (i := 13) (v := .string (bs r.val.s)) rfl
      have q14 := RU5.out.at (i := 14) (v := .slice av r.val.a.length cv) rfl
      have cK := Lib.hid (fun d os => DK.out w5 HB5.out d os)
      have cV := Lib.hid (fun d os => DV.out w5 HB5.out d os)
      obtain ⟨D0, hD0⟩ : ∃ X, X = M4 ++ [107, 101, 121, 32] := ⟨_, rfl⟩
      have rD0 : bs M4 ++ (⟨#[107, 101, 121, 32]⟩ : ByteArray) = bs D0 := by rw [hD0]; apply ByteArray.ext; simp [bs]
      have zD0 : ¬ 9223372036854775807 < (bs M4).size + ((⟨#[107, 101, 121, 32]⟩ : ByteArray)).size := by rw [bs_size]; simp [ByteArray.size]; omega
      have yD0 : ¬ 9223372036854775807 < (bs M4).size + 4 := by rw [bs_size]; omega
      have lD0 : D0.length ≤ 1098000011 := by rw [hD0, List.length_append]; simp; omega
      have HD0 := Lib.hid hD0
      clear hD0
      obtain ⟨D1, hD1⟩ : ∃ X, X = D0 ++ TK := ⟨_, rfl⟩
      have rD1 : bs D0 ++ bs TK = bs D1 := by rw [hD1]; rw [bs_append]
      have zD1 : ¬ 9223372036854775807 < (bs D0).size + (bs TK).size := by rw [bs_size]; rw [bs_size]; omega
      have lD1 : D1.length ≤ 1147000011 := by rw [hD1, List.length_append]; omega
      have HD1 := Lib.hid hD1
      clear hD1
      obtain ⟨D2, hD2⟩ : ∃ X, X = D1 ++ [32, 118, 97, 108, 32] := ⟨_, rfl⟩
      have rD2 : bs D1 ++ (⟨#[32, 118, 97, 108, 32]⟩ : ByteArray) = bs D2 := by rw [hD2]; apply ByteArray.ext; simp [bs]
      have zD2 : ¬ 9223372036854775807 < (bs D1).size + ((⟨#[32, 118, 97, 108, 32]⟩ : ByteArray)).size := by rw [bs_size]; simp [ByteArray.size]; omega
      have yD2 : ¬ 9223372036854775807 < (bs D1).size + 5 := by rw [bs_size]; omega
      have lD2 : D2.length ≤ 1147000016 := by rw [hD2, List.length_append]; simp; omega
      have HD2 := Lib.hid hD2
      clear hD2
      obtain ⟨D3, hD3⟩ : ∃ X, X = D2 ++ TV := ⟨_, rfl⟩
      have rD3 : bs D2 ++ bs TV = bs D3 := by rw [hD3]; rw [bs_append]
      have zD3 : ¬ 9223372036854775807 < (bs D2).size + (bs TV).size := by rw [bs_size]; rw [bs_size]; omega
      have lD3 : D3.length ≤ 1196000016 := by rw [hD3, List.length_append]; omega
      have HD3 := Lib.hid hD3
      clear hD3
      obtain ⟨D4, hD4⟩ : ∃ X, X = D3 ++ [10] := ⟨_, rfl⟩
      have rD4 : bs D3 ++ (⟨#[10]⟩ : ByteArray) = bs D4 := by rw [hD4]; apply ByteArray.ext; simp [bs]
      have zD4 : ¬ 9223372036854775807 < (bs D3).size + ((⟨#[10]⟩ : ByteArray)).size := by rw [bs_size]; simp [ByteArray.size]; omega
      have yD4 : ¬ 9223372036854775807 < (bs D3).size + 1 := by rw [bs_size]; omega
      have lD4 : D4.length ≤ 1196000017 := by rw [hD4, List.length_append]; simp; omega
      have HD4 := Lib.hid hD4
      clear hD4
      have k0 := cell_regrown q0
      have k1 := cell_regrown q1
      have k2 := cell_regrown q2
      have k3 := cell_regrown q3
      have k4 := cell_regrown q4
      have k5 := cell_regrown q5
      have k6 := cell_regrown q6
      have k7 := cell_regrown q7
      have k8 := cell_regrown q8
      have k9 := cell_regrown q9
      have k10 := cell_regrown q10
      have k11 := cell_regrown q11
      have k12 := cell_regrown q12
      have k13 := cell_regrown q13
      have k14 := cell_regrown q14

      go_upto_region 16 with fail
      refine wp_region_quiet_below hmix (by kernel_rfl) ?_
      repeat (quiet_step (first | (go_at_call_of 21 (Value.agg #[.int .i64 r.key.k, .int .i64 r.key.n, .string (bs r.key.s), .slice ak r.key.a.length ck]); exact cK.out _ _) | (go_at_call_of 21 (Value.agg #[.int .i64 r.val.k, .int .i64 r.val.n, .string (bs r.val.s), .slice av r.val.a.length cv]); exact cV.out _ _)))
      refine wpQuiet_nil ?_
      intro _ hw'
      obtain ⟨⟨dq, osq⟩, hw''⟩ := hw'
      subst hw''
      have HB8 : Hid (Below w4.heap.size w4 (Sort.grow (redrawn w5 dq) osq)) := below_trans HB5.out (below_regrown _ _ _)
      generalize Sort.grow (redrawn w5 dq) osq = w8 at *
      clear k0 k1 k2 k3 k4 k5 k6 k7 k8 k9 k10 k11 k12 k13 k14
      have HEQ : Hid (D4 = T ++ ruleL r) := by
        show _ = _
        rw [HD4.out, HD3.out, HD2.out, HD1.out, HD0.out, HM4.out, HM3.out, HM2.out, HM1.out, HM0.out, HRL.out, HHD.out]
        simp [g0, HWN.out]
      have heq := HEQ.out
      clear HD0 HD1 HD2 HD3 HD4
      subst heq
      go_wp2
      exact HK.out _ _ _ _ _ _ _ _ _ _ _ _ _ _ _ _ _ _ _ _ _ _ _ _ _ _ _ _ _ _ _ _ _ _ _ _ _ _ _ _ _ _ _ _ _ _ _ _ _ _ _ _ _ (below_trans HB4.out HB8.out)
    · by_cases h2 : r.when = 2
      · have HWN := Lib.hid h2
        clear h1 h2
        have q0 := RU.out.at (i := 0) (v := .bool r.each) rfl
        have q1 := RU.out.at (i := 1) (v := .int .i64 r.when) rfl
        have q2 := RU.out.at (i := 2) (v := .int .i64 r.iff.k) rfl
        have q3 := RU.out.at (i := 3) (v := .int .i64 r.iff.n) rfl
        have q4 := RU.out.at (i := 4) (v := .string (bs r.iff.s)) rfl
        have q5 := RU.out.at (i := 5) (v := .slice ai r.iff.a.length ci) rfl
        have q6 := RU.out.at (i := 6) (v := .string (bs r.s)) rfl
        have q7 := RU.out.at (i := 7) (v := .int .i64 r.key.k) rfl
        have q8 := RU.out.at (i := 8) (v := .int .i64 r.key.n) rfl
        have q9 := RU.out.at (i := 9) (v := .string (bs r.key.s)) rfl
        have q10 := RU.out.at (i := 10) (v := .slice ak r.key.a.length ck) rfl
        have q11 := RU.out.at (i := 11) (v := .int .i64 r.val.k) rfl
        have q12 := RU.out.at (i := 12) (v := .int .i64 r.val.n) rfl
        have q13 := RU.out.at (i := 13) (v := .string (bs r.val.s)) rfl
        have q14 := RU.out.at (i := 14) (v := .slice av r.val.a.length cv) rfl
        have g1 : (r.when == 1) = false := by rw [beq_eq_false_iff_ne, HWN.out]; decide
        have g2 : (r.when == 2) = true := by rw [beq_iff_eq]; exact HWN.out
        have cI := Lib.hid (fun d os => DI.out (.inr HWN.out) w4 HREF.out d os)
        have cQ := Lib.hid (fun d os => DQ.out w4 d os)
        obtain ⟨M0, hM0⟩ : ∃ X, X = T ++ [111, 116, 104, 101, 114, 32] := ⟨_, rfl⟩
        have rM0 : bs T ++ (⟨#[111, 116, 104, 101, 114, 32]⟩ : ByteArray) = bs M0 := by rw [hM0]; apply ByteArray.ext; simp [bs]
        have zM0 : ¬ 9223372036854775807 < (bs T).size + ((⟨#[111, 116, 104, 101, 114, 32]⟩ : ByteArray)).size := by rw [bs_size]; simp [ByteArray.size]; omega
        have yM0 : ¬ 9223372036854775807 < (bs T).size + 6 := by rw [bs_size]; omega
        have lM0 : M0.length ≤ 1000000006 := by rw [hM0, List.length_append]; simp; omega
        have HM0 := Lib.hid hM0
        clear hM0
        obtain ⟨M1, hM1⟩ : ∃ X, X = M0 ++ TI := ⟨_, rfl⟩
        have rM1 : bs M0 ++ bs TI = bs M1 := by rw [hM1]; rw [bs_append]
        have zM1 : ¬ 9223372036854775807 < (bs M0).size + (bs TI).size := by rw [bs_size]; rw [bs_size]; omega
        have lM1 : M1.length ≤ 1049000006 := by rw [hM1, List.length_append]; omega
        have HM1 := Lib.hid hM1
        clear hM1
        obtain ⟨M2, hM2⟩ : ∃ X, X = M1 ++ [32] := ⟨_, rfl⟩
        have rM2 : bs M1 ++ (⟨#[32]⟩ : ByteArray) = bs M2 := by rw [hM2]; apply ByteArray.ext; simp [bs]
        have zM2 : ¬ 9223372036854775807 < (bs M1).size + ((⟨#[32]⟩ : ByteArray)).size := by rw [bs_size]; simp [ByteArray.size]; omega
        have yM2 : ¬ 9223372036854775807 < (bs M1).size + 1 := by rw [bs_size]; omega
        have lM2 : M2.length ≤ 1049000007 := by rw [hM2, List.length_append]; simp; omega
        have HM2 := Lib.hid hM2
        clear hM2
        obtain ⟨M3, hM3⟩ : ∃ X, X = M2 ++ TQ := ⟨_, rfl⟩
        have rM3 : bs M2 ++ bs TQ = bs M3 := by rw [hM3]; rw [bs_append]
        have zM3 : ¬ 9223372036854775807 < (bs M2).size + (bs TQ).size := by rw [bs_size]; rw [bs_size]; omega
        have lM3 : M3.length ≤ 1098000007 := by rw [hM3, List.length_append]; omega
        have HM3 := Lib.hid hM3
        clear hM3
        obtain ⟨M4, hM4⟩ : ∃ X, X = M3 ++ [32] := ⟨_, rfl⟩
        have rM4 : bs M3 ++ (⟨#[32]⟩ : ByteArray) = bs M4 := by rw [hM4]; apply ByteArray.ext; simp [bs]
        have zM4 : ¬ 9223372036854775807 < (bs M3).size + ((⟨#[32]⟩ : ByteArray)).size := by rw [bs_size]; simp [ByteArray.size]; omega
        have yM4 : ¬ 9223372036854775807 < (bs M3).size + 1 := by rw [bs_size]; omega
        have lM4 : M4.length ≤ 1098000008 := by rw [hM4, List.length_append]; simp; omega
        have HM4 := Lib.hid hM4
        clear hM4
        have k0 := cell_regrown q0
        have k1 := cell_regrown q1
        have k2 := cell_regrown q2
        have k3 := cell_regrown q3
        have k4 := cell_regrown q4
        have k5 := cell_regrown q5
        have k6 := cell_regrown q6
        have k7 := cell_regrown q7
        have k8 := cell_regrown q8
        have k9 := cell_regrown q9
        have k10 := cell_regrown q10
        have k11 := cell_regrown q11
        have k12 := cell_regrown q12
        have k13 := cell_regrown q13
        have k14 := cell_regrown q14

        go_upto_region 15 with fail
        refine wp_region_quiet_below hmix (by kernel_rfl) ?_
        repeat (quiet_step (first | (go_at_call 21; exact cI.out _ _) | (go_at_call 22; exact cQ.out _ _)))
        refine wpQuiet_nil ?_
        intro _ hw'
        obtain ⟨⟨dq, osq⟩, hw''⟩ := hw'
        subst hw''
        have HB5 : Hid (Below w4.heap.size w4 (Sort.grow (redrawn w4 dq) osq)) := below_regrown _ _ _
        generalize Sort.grow (redrawn w4 dq) osq = w5 at *
        clear k0 k1 k2 k3 k4 k5 k6 k7 k8 k9 k10 k11 k12 k13 k14
        clear q0 q1 q2 q3 q4 q5 q6 q7 q8 q9 q10 q11 q12 q13 q14
        have RU5 := Lib.hid (RU.out.blw HB5.out)
        have q0 := RU5.out.at (i := 0) (v := .bool r.each) rfl
        have q1 := RU5.out.at (i := 1) (v := .int .i64 r.when) rfl
        have q2 := RU5.out.at (i := 2) (v := .int .i64 r.iff.k) rfl
        have q3 := RU5.out.at (i := 3) (v := .int .i64 r.iff.n) rfl
        have q4 := RU5.out.at (i := 4) (v := .string (bs r.iff.s)) rfl
        have q5 := RU5.out.at (i := 5) (v := .slice ai r.iff.a.length ci) rfl
        have q6 := RU5.out.at (i := 6) (v := .string (bs r.s)) rfl
        have q7 := RU5.out.at (i := 7) (v := .int .i64 r.key.k) rfl
        have q8 := RU5.out.at (i := 8) (v := .int .i64 r.key.n) rfl
        have q9 := RU5.out.at (i := 9) (v := .string (bs r.key.s)) rfl
        have q10 := RU5.out.at (i := 10) (v := .slice ak r.key.a.length ck) rfl
        have q11 := RU5.out.at (i := 11) (v := .int .i64 r.val.k) rfl
        have q12 := RU5.out.at (i := 12) (v := .int .i64 r.val.n) rfl
        have q13 := RU5.out.at (i := 13) (v := .string (bs r.val.s)) rfl
        have q14 := RU5.out.at (i := 14) (v := .slice av r.val.a.length cv) rfl
        have cK := Lib.hid (fun d os => DK.out w5 HB5.out d os)
        have cV := Lib.hid (fun d os => DV.out w5 HB5.out d os)
        obtain ⟨D0, hD0⟩ : ∃ X, X = M4 ++ [107, 101, 121, 32] := ⟨_, rfl⟩
        have rD0 : bs M4 ++ (⟨#[107, 101, 121, 32]⟩ : ByteArray) = bs D0 := by rw [hD0]; apply ByteArray.ext; simp [bs]
        have zD0 : ¬ 9223372036854775807 < (bs M4).size + ((⟨#[107, 101, 121, 32]⟩ : ByteArray)).size := by rw [bs_size]; simp [ByteArray.size]; omega
        have yD0 : ¬ 9223372036854775807 < (bs M4).size + 4 := by rw [bs_size]; omega
        have lD0 : D0.length ≤ 1098000012 := by rw [hD0, List.length_append]; simp; omega
        have HD0 := Lib.hid hD0
        clear hD0
        obtain ⟨D1, hD1⟩ : ∃ X, X = D0 ++ TK := ⟨_, rfl⟩
        have rD1 : bs D0 ++ bs TK = bs D1 := by rw [hD1]; rw [bs_append]
        have zD1 : ¬ 9223372036854775807 < (bs D0).size + (bs TK).size := by rw [bs_size]; rw [bs_size]; omega
        have lD1 : D1.length ≤ 1147000012 := by rw [hD1, List.length_append]; omega
        have HD1 := Lib.hid hD1
        clear hD1
        obtain ⟨D2, hD2⟩ : ∃ X, X = D1 ++ [32, 118, 97, 108, 32] := ⟨_, rfl⟩
        have rD2 : bs D1 ++ (⟨#[32, 118, 97, 108, 32]⟩ : ByteArray) = bs D2 := by rw [hD2]; apply ByteArray.ext; simp [bs]
        have zD2 : ¬ 9223372036854775807 < (bs D1).size + ((⟨#[32, 118, 97, 108, 32]⟩ : ByteArray)).size := by rw [bs_size]; simp [ByteArray.size]; omega
        have yD2 : ¬ 9223372036854775807 < (bs D1).size + 5 := by rw [bs_size]; omega
        have lD2 : D2.length ≤ 1147000017 := by rw [hD2, List.length_append]; simp; omega
        have HD2 := Lib.hid hD2
        clear hD2
        obtain ⟨D3, hD3⟩ : ∃ X, X = D2 ++ TV := ⟨_, rfl⟩
        have rD3 : bs D2 ++ bs TV = bs D3 := by rw [hD3]; rw [bs_append]
        have zD3 : ¬ 9223372036854775807 < (bs D2).size + (bs TV).size := by rw [bs_size]; rw [bs_size]; omega
        have lD3 : D3.length ≤ 1196000017 := by rw [hD3, List.length_append]; omega
        have HD3 := Lib.hid hD3
        clear hD3
        obtain ⟨D4, hD4⟩ : ∃ X, X = D3 ++ [10] := ⟨_, rfl⟩
        have rD4 : bs D3 ++ (⟨#[10]⟩ : ByteArray) = bs D4 := by rw [hD4]; apply ByteArray.ext; simp [bs]
        have zD4 : ¬ 9223372036854775807 < (bs D3).size + ((⟨#[10]⟩ : ByteArray)).size := by rw [bs_size]; simp [ByteArray.size]; omega
        have yD4 : ¬ 9223372036854775807 < (bs D3).size + 1 := by rw [bs_size]; omega
        have lD4 : D4.length ≤ 1196000018 := by rw [hD4, List.length_append]; simp; omega
        have HD4 := Lib.hid hD4
        clear hD4
        have k0 := cell_regrown q0
        have k1 := cell_regrown q1
        have k2 := cell_regrown q2
        have k3 := cell_regrown q3
        have k4 := cell_regrown q4
        have k5 := cell_regrown q5
        have k6 := cell_regrown q6
        have k7 := cell_regrown q7
        have k8 := cell_regrown q8
        have k9 := cell_regrown q9
        have k10 := cell_regrown q10
        have k11 := cell_regrown q11
        have k12 := cell_regrown q12
        have k13 := cell_regrown q13
        have k14 := cell_regrown q14

        go_upto_region 16 with fail
        refine wp_region_quiet_below hmix (by kernel_rfl) ?_
        repeat (quiet_step (first | (go_at_call_of 21 (Value.agg #[.int .i64 r.key.k, .int .i64 r.key.n, .string (bs r.key.s), .slice ak r.key.a.length ck]); exact cK.out _ _) | (go_at_call_of 21 (Value.agg #[.int .i64 r.val.k, .int .i64 r.val.n, .string (bs r.val.s), .slice av r.val.a.length cv]); exact cV.out _ _)))
        refine wpQuiet_nil ?_
        intro _ hw'
        obtain ⟨⟨dq, osq⟩, hw''⟩ := hw'
        subst hw''
        have HB8 : Hid (Below w4.heap.size w4 (Sort.grow (redrawn w5 dq) osq)) := below_trans HB5.out (below_regrown _ _ _)
        generalize Sort.grow (redrawn w5 dq) osq = w8 at *
        clear k0 k1 k2 k3 k4 k5 k6 k7 k8 k9 k10 k11 k12 k13 k14
        have HEQ : Hid (D4 = T ++ ruleL r) := by
          show _ = _
          rw [HD4.out, HD3.out, HD2.out, HD1.out, HD0.out, HM4.out, HM3.out, HM2.out, HM1.out, HM0.out, HRL.out, HHD.out]
          simp [g0, HWN.out]
        have heq := HEQ.out
        clear HD0 HD1 HD2 HD3 HD4
        subst heq
        go_wp2
        exact HK.out _ _ _ _ _ _ _ _ _ _ _ _ _ _ _ _ _ _ _ _ _ _ _ _ _ _ _ _ _ _ _ _ _ _ _ _ _ _ _ _ _ _ _ _ _ _ _ _ _ _ _ _ _ (below_trans HB4.out HB8.out)
      · have HWN := Lib.hid (And.intro h1 h2)
        clear h1 h2
        have q0 := RU.out.at (i := 0) (v := .bool r.each) rfl
        have q1 := RU.out.at (i := 1) (v := .int .i64 r.when) rfl
        have q2 := RU.out.at (i := 2) (v := .int .i64 r.iff.k) rfl
        have q3 := RU.out.at (i := 3) (v := .int .i64 r.iff.n) rfl
        have q4 := RU.out.at (i := 4) (v := .string (bs r.iff.s)) rfl
        have q5 := RU.out.at (i := 5) (v := .slice ai r.iff.a.length ci) rfl
        have q6 := RU.out.at (i := 6) (v := .string (bs r.s)) rfl
        have q7 := RU.out.at (i := 7) (v := .int .i64 r.key.k) rfl
        have q8 := RU.out.at (i := 8) (v := .int .i64 r.key.n) rfl
        have q9 := RU.out.at (i := 9) (v := .string (bs r.key.s)) rfl
        have q10 := RU.out.at (i := 10) (v := .slice ak r.key.a.length ck) rfl
        have q11 := RU.out.at (i := 11) (v := .int .i64 r.val.k) rfl
        have q12 := RU.out.at (i := 12) (v := .int .i64 r.val.n) rfl
        have q13 := RU.out.at (i := 13) (v := .string (bs r.val.s)) rfl
        have q14 := RU.out.at (i := 14) (v := .slice av r.val.a.length cv) rfl
        have g1 : (r.when == 1) = false := by rw [beq_eq_false_iff_ne]; exact HWN.out.1
        have g2 : (r.when == 2) = false := by rw [beq_eq_false_iff_ne]; exact HWN.out.2
        have cK := Lib.hid (fun d os => DK.out w4 HREF.out d os)
        have cV := Lib.hid (fun d os => DV.out w4 HREF.out d os)
        obtain ⟨D0, hD0⟩ : ∃ X, X = T ++ [107, 101, 121, 32] := ⟨_, rfl⟩
        have rD0 : bs T ++ (⟨#[107, 101, 121, 32]⟩ : ByteArray) = bs D0 := by rw [hD0]; apply ByteArray.ext; simp [bs]
        have zD0 : ¬ 9223372036854775807 < (bs T).size + ((⟨#[107, 101, 121, 32]⟩ : ByteArray)).size := by rw [bs_size]; simp [ByteArray.size]; omega
        have yD0 : ¬ 9223372036854775807 < (bs T).size + 4 := by rw [bs_size]; omega
        have lD0 : D0.length ≤ 1000000004 := by rw [hD0, List.length_append]; simp; omega
        have HD0 := Lib.hid hD0
        clear hD0
        obtain ⟨D1, hD1⟩ : ∃ X, X = D0 ++ TK := ⟨_, rfl⟩
        have rD1 : bs D0 ++ bs TK = bs D1 := by rw [hD1]; rw [bs_append]
        have zD1 : ¬ 9223372036854775807 < (bs D0).size + (bs TK).size := by rw [bs_size]; rw [bs_size]; omega
        have lD1 : D1.length ≤ 1049000004 := by rw [hD1, List.length_append]; omega
        have HD1 := Lib.hid hD1
        clear hD1
        obtain ⟨D2, hD2⟩ : ∃ X, X = D1 ++ [32, 118, 97, 108, 32] := ⟨_, rfl⟩
        have rD2 : bs D1 ++ (⟨#[32, 118, 97, 108, 32]⟩ : ByteArray) = bs D2 := by rw [hD2]; apply ByteArray.ext; simp [bs]
        have zD2 : ¬ 9223372036854775807 < (bs D1).size + ((⟨#[32, 118, 97, 108, 32]⟩ : ByteArray)).size := by rw [bs_size]; simp [ByteArray.size]; omega
        have yD2 : ¬ 9223372036854775807 < (bs D1).size + 5 := by rw [bs_size]; omega
        have lD2 : D2.length ≤ 1049000009 := by rw [hD2, List.length_append]; simp; omega
        have HD2 := Lib.hid hD2
        clear hD2
        obtain ⟨D3, hD3⟩ : ∃ X, X = D2 ++ TV := ⟨_, rfl⟩
        have rD3 : bs D2 ++ bs TV = bs D3 := by rw [hD3]; rw [bs_append]
        have zD3 : ¬ 9223372036854775807 < (bs D2).size + (bs TV).size := by rw [bs_size]; rw [bs_size]; omega
        have lD3 : D3.length ≤ 1098000009 := by rw [hD3, List.length_append]; omega
        have HD3 := Lib.hid hD3
        clear hD3
        obtain ⟨D4, hD4⟩ : ∃ X, X = D3 ++ [10] := ⟨_, rfl⟩
        have rD4 : bs D3 ++ (⟨#[10]⟩ : ByteArray) = bs D4 := by rw [hD4]; apply ByteArray.ext; simp [bs]
        have zD4 : ¬ 9223372036854775807 < (bs D3).size + ((⟨#[10]⟩ : ByteArray)).size := by rw [bs_size]; simp [ByteArray.size]; omega
        have yD4 : ¬ 9223372036854775807 < (bs D3).size + 1 := by rw [bs_size]; omega
        have lD4 : D4.length ≤ 1098000010 := by rw [hD4, List.length_append]; simp; omega
        have HD4 := Lib.hid hD4
        clear hD4
        have k0 := cell_regrown q0
        have k1 := cell_regrown q1
        have k2 := cell_regrown q2
        have k3 := cell_regrown q3
        have k4 := cell_regrown q4
        have k5 := cell_regrown q5
        have k6 := cell_regrown q6
        have k7 := cell_regrown q7
        have k8 := cell_regrown q8
        have k9 := cell_regrown q9
        have k10 := cell_regrown q10
        have k11 := cell_regrown q11
        have k12 := cell_regrown q12
        have k13 := cell_regrown q13
        have k14 := cell_regrown q14

        go_upto_region 16 with fail
        refine wp_region_quiet_below hmix (by kernel_rfl) ?_
        repeat (quiet_step (first | (go_at_call_of 21 (Value.agg #[.int .i64 r.key.k, .int .i64 r.key.n, .string (bs r.key.s), .slice ak r.key.a.length ck]); exact cK.out _ _) | (go_at_call_of 21 (Value.agg #[.int .i64 r.val.k, .int .i64 r.val.n, .string (bs r.val.s), .slice av r.val.a.length cv]); exact cV.out _ _)))
        refine wpQuiet_nil ?_
        intro _ hw'
        obtain ⟨⟨dq, osq⟩, hw''⟩ := hw'
        subst hw''
        have HB8 : Hid (Below w4.heap.size w4 (Sort.grow (redrawn w4 dq) osq)) := below_trans HREF.out (below_regrown _ _ _)
        generalize Sort.grow (redrawn w4 dq) osq = w8 at *
        clear k0 k1 k2 k3 k4 k5 k6 k7 k8 k9 k10 k11 k12 k13 k14
        have HEQ : Hid (D4 = T ++ ruleL r) := by
          show _ = _
          rw [HD4.out, HD3.out, HD2.out, HD1.out, HD0.out, HRL.out, HHD.out]
          simp [g0, HWN.out.1, HWN.out.2]
        have heq := HEQ.out
        clear HD0 HD1 HD2 HD3 HD4
        subst heq
        go_wp2
        exact HK.out _ _ _ _ _ _ _ _ _ _ _ _ _ _ _ _ _ _ _ _ _ _ _ _ _ _ _ _ _ _ _ _ _ _ _ _ _ _ _ _ _ _ _ _ _ _ _ _ _ _ _ _ _ (below_trans HB4.out HB8.out)
end Go.Proofs.YtfjpgjkfmcedoaaGreatDoor
