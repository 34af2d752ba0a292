/- Put together of Tp2, Tp3, Tp4, Tp5, Tp6, Mp5, Mp6, PpSrt, PpSliceP, Mp1, Y0, St8, Mp7, Mp8, Mp2. -/
import Derived.Test.YtmgpacenooncjaaGreatDoorG3
import Derived.Lib.QuietBelow
import Derived.Deep.LoopGhost
import Derived.Test.YtmgpacenooncjaaGreatDoorN2
import Derived.Test.YtmgpacenooncjaaGreatDoorPcs
import Derived.Deep.RegionHeld3
import Derived.Test.YtmgpacenooncjaaGreatDoorPpSort
import Derived.Laws.NewBlocks
import Derived.Test.YtmgpacenooncjaaGreatDoorG2
import Derived.Test.YtmgpacenooncjaaGreatDoorG1
import Derived.Test.YtmgpacenooncjaaGreatDoorTxt
import Derived.Test.YtmgpacenooncjaaGreatDoorOw
/- The document's pairs of a record: a look, if something is so. Written by tpl/mk_tp.py. -/
namespace Go.Proofs.YtmgpacenooncjaaGreatDoor
open Go.ChangeShapes Go.WideShapes Go.ChangeAt Go.RowKit
set_option maxRecDepth 1000000 in
set_option maxHeartbeats 4000000 in
theorem made_b3_1 (w : World) (P B k tn tc an ac : Nat) (fo sl : Int) (eb : Bool) (jr : Value) (r : Rl) (ai ak av ta aa : Option Addr) (ci ck cv : Nat) (line it : List UInt8) (its : List (List UInt8)) (acc : List (ByteArray × Int)) (w0 : World) (K : Act → World → Prop) (s0 s3 s4 s6 s10 s11 s12 s13 s14 s15 s16 s17 s18 s19 s20 s21 s22 s23 s24 s25 s26 s27 s28 s29 s30 s31 s32 s33 s34 s35 s36 s37 s38 s39 s40 s41 s42 s43 s44 s45 s46 s47 s48 s49 s50 s51 s52 s53 s54 s55 s56 s57 s58 s59 s60 s61 s62 s63 s64 s65 s66 s67 s68 s69 s70 s71 s72 s73 s74 s75 s76 s77 s78 s79 s80 s81 s82 s83 s84 s85 : Value)
    (hI : Pk w w0 P B [jr, .int .i64 fo, .bool eb, .int .i64 sl] (ruleCells r ai ak av ci ck cv) (.slice aa an ac) acc)
    (han : an = acc.length)
    (hal : acc.length ≤ 500000)
    (hT : IsTexts w0 (.slice ta tn tc) (its.map bs))
    (hit : its[k]? = some it)
    (htn : tn = its.length)
    (hX : Hid (∀ w', Below w.heap.size w w' → IsEx w' (.slice ai r.iff.a.length ci) r.iff ∧ IsEx w' (.slice ak r.key.a.length ck) r.key ∧ IsEx w' (.slice av r.val.a.length cv) r.val))
    (hR : Hid (RlIn r))
    (hline : line.length ≤ 100000)
    (hrc : Hid (RcIn (rc line it) 100000))
    (hwn : r.when = 1)
    (HK : Hid (∀ (z10 z11 z12 z36 z37 z38 z39 z40 z41 z42 z43 z44 z45 z46 z47 z48 z49 z50 z51 z52 z53 z54 z55 z56 z57 z58 z59 z60 z61 z62 z63 z64 z65 z66 z67 z68 z69 z70 z71 z72 z73 z74 z75 z76 z77 z78 z79 z80 z81 z82 z83 z84 : Value) (v2 : Value) (wx : World), Pk w wx P B [jr, .int .i64 fo, .bool eb, .int .i64 sl] (ruleCells r ai ak av ci ck cv) v2 (acc ++ (if holdsB r (rc line it) = true then [pairL r fo (rc line it)] else [])) → (∀ B v m ys, w0.ownsRow B 9 1 v m ys → wx.ownsRow B 9 1 v m ys) → K ⟨#[s0, .string (bs line), .pointer (some ⟨P, 0, none⟩), s3, s4, v2, s6, .pointer (some ⟨B, 0, none⟩), .slice ta tn tc, .int .i64 (k : Int), z10, z11, z12, s13, s14, s15, s16, s17, s18, s19, s20, s21, s22, s23, s24, s25, s26, s27, s28, s29, s30, s31, s32, s33, s34, s35, z36, z37, z38, z39, z40, z41, z42, z43, z44, z45, z46, z47, z48, z49, z50, z51, z52, z53, z54, z55, z56, z57, z58, z59, z60, z61, z62, z63, z64, z65, z66, z67, z68, z69, z70, z71, z72, z73, z74, z75, z76, z77, z78, z79, z80, z81, z82, z83, z84, s85], []⟩ wx)) :
    Code.wp Tryz.prog (pieceIn Tryz.f16.body 3) (Exit.then K fun _ _ _ => False) ⟨#[s0, .string (bs line), .pointer (some ⟨P, 0, none⟩), s3, s4, .slice aa an ac, s6, .pointer (some ⟨B, 0, none⟩), .slice ta tn tc, .int .i64 (k : Int), s10, s11, s12, s13, s14, s15, s16, s17, s18, s19, s20, s21, s22, s23, s24, s25, s26, s27, s28, s29, s30, s31, s32, s33, s34, s35, s36, s37, s38, s39, s40, s41, s42, s43, s44, s45, s46, s47, s48, s49, s50, s51, s52, s53, s54, s55, s56, s57, s58, s59, s60, s61, s62, s63, s64, s65, s66, s67, s68, s69, s70, s71, s72, s73, s74, s75, s76, s77, s78, s79, s80, s81, s82, s83, s84, s85], []⟩ w0 := by
  obtain ⟨ip, hp0, hp1, hp2, hp3⟩ := info_parts pairInfo2
  have hmix : Tryz.prog.follows .mixedOrders = true := by kernel_rfl
  have HI := Lib.hid hI
  have STR : Hid (∀ (e : Ex) (sv : Value) (w' : World), Below w.heap.size w w' → IsEx w' sv e → faultE e true true = 0 → Calls Tryz.prog 44 #[e.val sv, .string (bs line), .string (bs it)] w' fun q w'' => q = .returned (.string (bs (e.str (rc line it)))) ∧ Below w'.heap.size w' w'') := fun e sv w' hb he hf =>
    rstr_any line it (by omega) true he (fault_ok hf) (by have := fault_len hf hrc.out; omega) w' (Below.refl _ _)
  have INT : Hid (∀ (w' : World), Below w.heap.size w w' → Calls Tryz.prog 45 #[r.val.val (.slice av r.val.a.length cv), .string (bs line), .string (bs it)] w' fun q w'' => q = .returned (.int .i64 (r.val.num (rc line it))) ∧ Below w'.heap.size w' w'') := fun w' hb =>
    rint_any line it (by omega) true (hX.out w' hb).2.2 (fault_ok hR.out.val) (by have := fault_far hR.out.val hrc.out; omega) w' (Below.refl _ _)
  have hkt : k < its.length := (List.getElem?_eq_some_iff.1 hit).1
  obtain ⟨tb, toff, rfl, t0⟩ : ∃ tb toff, ta = some ⟨tb, toff, none⟩ ∧ w0.cell? ⟨tb, toff + k, none⟩ = some (.string (bs it)) := by
    obtain ⟨a', c', e, hc⟩ := hT
    obtain ⟨b, off, ea, c0⟩ := hc k (by rw [List.length_map]; exact hkt)
    injection e with e1
    refine ⟨b, off, e1.trans ea, ?_⟩
    rw [List.getElem_map, (List.getElem?_eq_some_iff.1 hit).2] at c0
    exact c0
  have HT0 : Hid (∀ w', Below w0.heap.size w0 w' → w'.cell? ⟨tb, toff + k, none⟩ = some (.string (bs it))) := fun w' hb => cell_below t0 hb
  have hki : (k : Int) < (tn : Int) := by omega
  have hktn : k < tn := by omega
  have HAN := Lib.hid han
  have ORG := Lib.hid hI.org
  obtain ⟨q0, q1, q2, q3, q4, q5, q6, q7, q8, q9, q10, q11, q12, q13, q14⟩ := ruleAt hI.rule
  have kf := hI.job.at (i := 1) (v := .int .i64 fo) rfl
  clear hI hT htn hit han
  conv => arg 2; whnf
  have hfi : faultE r.iff true true = 0 := by
    rcases hR.out.when with h | ⟨_, h⟩
    · omega
    · exact h
  rw [hwn] at q1
  have IFS : Hid (∀ w', Below w0.heap.size w0 w' → Calls Tryz.prog 44 #[r.iff.val (.slice ai r.iff.a.length ci), .string (bs line), .string (bs it)] w' fun q w'' => q = .returned (.string (bs (r.iff.str (rc line it)))) ∧ Below w'.heap.size w' w'') := fun w' hb => STR.out r.iff _ w' (ORG.out.trans (hb.mono ORG.out.size)) (hX.out w' (ORG.out.trans (hb.mono ORG.out.size))).1 hfi
  unfold Ex.val at IFS
  obtain ⟨ifs, hifs⟩ : ∃ ifs, ifs = r.iff.str (rc line it) := ⟨_, rfl⟩
  rw [← hifs] at IFS
  obtain ⟨ib, hib⟩ : ∃ ib, ((bs ifs).toList == (bs r.s).toList) = ib := ⟨_, rfl⟩
  have HIE : Hid (decide (r.iff.str (rc line it) = r.s) = ib) := by
    show _ = _
    rw [← hib, ← hifs, ByteArray.toList_eq, ByteArray.toList_eq]
    simp [bs]
    by_cases h : ifs = r.s
    · simp [h]
    · simp [h]
  clear hifs hfi
  have k2 := cell_regrown q2
  have k3 := cell_regrown q3
  have k4 := cell_regrown q4
  have k5 := cell_regrown q5
  have k6 := cell_regrown q6
  have kt := cell_regrown t0
  have cI : Hid (∀ d os, Calls Tryz.prog 44 #[.agg #[.int .i64 r.iff.k, .int .i64 r.iff.n, .string (bs r.iff.s), .slice ai r.iff.a.length ci], .string (bs line), .string (bs it)] (Sort.grow (redrawn w0 d) os) fun q w'' => q = .returned (.string (bs ifs)) ∧ ∃ p : Regrown, w'' = Sort.grow (redrawn w0 p.d) p.os) := fun d os => Calls.regrown_of (IFS.out _ (below_regrown w0 d os))
  go_upto_region 13 with fail
  refine wp_region_quiet_below hmix (by kernel_rfl) ?_
  repeat (quiet_step (first | (go_at_call 44; exact cI.out _ _)))
  refine wpQuiet_nil ?_
  intro _ hw'
  obtain ⟨⟨dq0, osq0⟩, hw''⟩ := hw'
  subst hw''
  have HB2 : Hid (Below w0.heap.size w0 (Sort.grow (redrawn w0 dq0) osq0)) := below_regrown w0 dq0 osq0
  generalize Sort.grow (redrawn w0 dq0) osq0 = w2 at *
  obtain ⟨d0, d1, d2, d3, d4, d5, d6, d7, d8, d9, d10, d11, d12, d13, d14⟩ := ruleAt (HI.out.below HB2.out).rule
  clear q0 q1 q2 q3 q4 q5 q6 q7 q8 q9 q10 q11 q12 q13 q14 t0 kf k2 k3 k4 k5 k6 kt cI
  all_goals
    rw [hwn] at d1
    cases ib with
    | false =>
      have HOLD : Hid (holdsB r (rc line it) = false) := by
        show _ = _
        have h := HIE.out
        rw [decide_eq_false_iff_not] at h
        unfold holdsB; rw [hwn]; simp [h]
      have I2 := HI.out.below HB2.out
      go_wp2
      exact HK.out _ _ _ _ _ _ _ _ _ _ _ _ _ _ _ _ _ _ _ _ _ _ _ _ _ _ _ _ _ _ _ _ _ _ _ _ _ _ _ _ _ _ _ _ _ _ _ _ _ _ _ _ _ w2 (by rw [if_neg (by rw [HOLD.out]; decide), List.append_nil]; exact I2) (fun B v m ys h => ow_below h HB2.out)
    | true =>
      have HOLD : Hid (holdsB r (rc line it) = true) := by
        show _ = _
        have h := HIE.out
        rw [decide_eq_true_eq] at h
        unfold holdsB; rw [hwn]; simp [h]
      have kf : 0 = 0 := rfl
      go_upto_region 15 with fail
      clear d0 d1 d2 d3 d4 d5 d6 d7 d8 d9 d10 d11 d12 d13 d14
      have HIZ : Hid (Pk w w2 P B [jr, .int .i64 fo, .bool eb, .int .i64 sl] (ruleCells r ai ak av ci ck cv) (.slice aa an ac) acc) := (HI.out.below HB2.out)
      have HBZ : Hid (Below w0.heap.size w0 w2) := HB2.out
      obtain ⟨q0, q1, q2, q3, q4, q5, q6, q7, q8, q9, q10, q11, q12, q13, q14⟩ := ruleAt HIZ.out.rule
      have t0 := HT0.out w2 HBZ.out
      have KEY : Hid (∀ w', Below w2.heap.size w2 w' → Calls Tryz.prog 44 #[r.key.val (.slice ak r.key.a.length ck), .string (bs line), .string (bs it)] w' fun q w'' => q = .returned (.string (bs (r.key.str (rc line it)))) ∧ Below w'.heap.size w' w'') := fun w' hb => STR.out r.key _ w' (HIZ.out.org.trans (hb.mono HIZ.out.org.size)) (hX.out w' (HIZ.out.org.trans (hb.mono HIZ.out.org.size))).2.1 hR.out.key
      unfold Ex.val at KEY
      obtain ⟨ks, hks⟩ : ∃ ks, ks = r.key.str (rc line it) := ⟨_, rfl⟩
      rw [← hks] at KEY
      have HKS := Lib.hid hks
      have hsz : (bs ks).size = ks.length := bs_size ks
      clear hks
      have k7 := cell_regrown q7
      have k8 := cell_regrown q8
      have k9 := cell_regrown q9
      have k10 := cell_regrown q10
      have kt := cell_regrown t0
      have cK : Hid (∀ d os, Calls Tryz.prog 44 #[.agg #[.int .i64 r.key.k, .int .i64 r.key.n, .string (bs r.key.s), .slice ak r.key.a.length ck], .string (bs line), .string (bs it)] (Sort.grow (redrawn w2 d) os) fun q w'' => q = .returned (.string (bs ks)) ∧ ∃ p : Regrown, w'' = Sort.grow (redrawn w2 p.d) p.os) := fun d os => Calls.regrown_of (KEY.out _ (below_regrown w2 d os))
      go_upto_region 15 with fail
      refine wp_region_quiet_below hmix (by kernel_rfl) ?_
      repeat (quiet_step (first | (go_at_call 44; exact cK.out _ _)))
      refine wpQuiet_nil ?_
      intro _ hw'
      obtain ⟨⟨dq, osq⟩, hw''⟩ := hw'
      subst hw''
      have HB3 : Hid (Below w2.heap.size w2 (Sort.grow (redrawn w2 dq) osq)) := below_regrown w2 dq osq
      generalize Sort.grow (redrawn w2 dq) osq = w3 at *
      clear q0 q1 q2 q3 q4 q5 q6 q7 q8 q9 q10 q11 q12 q13 q14 t0 kf k7 k8 k9 k10 kt cK
      all_goals
        have HI3 := Lib.hid (HIZ.out.below HB3.out)
        have HKT : Hid (bs (ks.take 20) = (pairL r fo (rc line it)).1) := by show _ = _; rw [HKS.out]; rfl
        by_cases h20 : 20 < ks.length
        case' pos =>
          have h20i : (20 : Int) < (ks.length : Int) := by omega
          have hex : (bs ks).extract 0 20 = bs (ks.take 20) := bs_cut ks 20
          have HEX := Lib.hid hex
          clear hex
          go_upto_region 18 with fail
          rw [HEX.out]
        case' neg =>
          have h20i : ¬ (20 : Int) < (ks.length : Int) := by omega
          have hex : ks = ks.take 20 := (List.take_of_length_le (by omega)).symm
          have HEX : Hid (bs ks = bs (ks.take 20)) := by show _ = _; rw [← hex]
          clear hex
          go_upto_region 18 with fail
          rw [HEX.out]
        all_goals
          obtain ⟨p0, p1, p2, p3, p4, p5, p6, p7, p8, p9, p10, p11, p12, p13, p14⟩ := ruleAt HI3.out.rule
          have t1 := HT0.out w3 (below_trans HBZ.out HB3.out)
          have INT3 : Hid (∀ w', Below w3.heap.size w3 w' → Calls Tryz.prog 45 #[r.val.val (.slice av r.val.a.length cv), .string (bs line), .string (bs it)] w' fun q w'' => q = .returned (.int .i64 (r.val.num (rc line it))) ∧ Below w'.heap.size w' w'') := fun w' hb => INT.out w' (HI3.out.org.trans (hb.mono HI3.out.org.size))
          unfold Ex.val at INT3
          have k11 := cell_regrown p11
          have k12 := cell_regrown p12
          have k13 := cell_regrown p13
          have k14 := cell_regrown p14
          have ku := cell_regrown t1
          have cV : Hid (∀ d os, Calls Tryz.prog 45 #[.agg #[.int .i64 r.val.k, .int .i64 r.val.n, .string (bs r.val.s), .slice av r.val.a.length cv], .string (bs line), .string (bs it)] (Sort.grow (redrawn w3 d) os) fun q w'' => q = .returned (.int .i64 (r.val.num (rc line it))) ∧ ∃ p : Regrown, w'' = Sort.grow (redrawn w3 p.d) p.os) := fun d os => Calls.regrown_of (INT3.out _ (below_regrown w3 d os))
          refine wp_region_quiet_below hmix (by kernel_rfl) ?_
          repeat (quiet_step (first | (go_at_call 45; exact cV.out _ _)))
          refine wpQuiet_nil ?_
          intro _ hw'
          obtain ⟨⟨dq2, osq2⟩, hw''⟩ := hw'
          subst hw''
          have HB4 : Hid (Below w3.heap.size w3 (Sort.grow (redrawn w3 dq2) osq2)) := below_regrown w3 dq2 osq2
          generalize Sort.grow (redrawn w3 dq2) osq2 = w4 at *
          clear p0 p1 p2 p3 p4 p5 p6 p7 p8 p9 p10 p11 p12 p13 p14 t1 k11 k12 k13 k14 ku cV
          all_goals
            have HI4 := Lib.hid (HI3.out.below HB4.out)
            have kf := HI4.out.job.at (i := 1) (v := .int .i64 fo) rfl
            have HFV : Hid ((pairL r fo (rc line it)).2 = Pp.firstI fo (r.val.num (rc line it))) := (show _ = _ from rfl)
            generalize r.val.num (rc line it) = nv at *
            by_cases h4 : fo = 4
            · have h4i : (fo == 4) = true := by simp [h4]
              have HPV : Hid (pairL r fo (rc line it) = (bs (ks.take 20), 1)) := by show _ = _; rw [HKT.out]; exact Prod.ext rfl (by rw [HFV.out]; simp [Pp.firstI, h4])
              clear h4
              go_upto_region 21 with fail
              clear kf h4i
              go_wp2_with (at_builtin; refine Hid.out ?_)
              refine Lib.hid ?_
              refine wpList_append_own _ rfl (.tmp 79) (.tmp 83) 42 rfl w.heap.size 67 ip (.agg #[.string ⟨#[]⟩, .int .i64 0]) 2 24 Tryz.underlying42 hp0 hp1 hp2 hp3 rfl (by decide) (.slice aa an ac) acc.length (Pp.cellsP acc) rfl (HI4.out.row.alloc _) ⟨w4.heap.size, 0, none⟩ 1 1 [.string (bs (ks.take 20)), .int .i64 1] rfl rfl ?c1 ?c5 ?c2 ?c3 ?c4 ?_
              case c1 => exact lit_cells rfl (show 2 ≤ maxLen by decide)
              case c5 => intro u hu; simp at hu; rcases hu with rfl | rfl <;> rfl
              case c2 => unfold maxLen; omega
              case c3 => omega
              case c4 => have := HI4.out.org.size; simp; omega
              intro v2 w9 hown9 hg9 _
              have I9 : Pk w w9 P B [jr, .int .i64 fo, .bool eb, .int .i64 sl] (ruleCells r ai ak av ci ck cv) v2 (acc ++ (if holdsB r (rc line it) = true then [pairL r fo (rc line it)] else [])) := by
                rw [if_pos HOLD.out, HPV.out]
                refine (HI4.out.below (below_box _)).grown ?_ hg9
                rw [List.length_append, Pp.cellsP_append]
                exact hown9
              go_wp2
              exact HK.out _ _ _ _ _ _ _ _ _ _ _ _ _ _ _ _ _ _ _ _ _ _ _ _ _ _ _ _ _ _ _ _ _ _ _ _ _ _ _ _ _ _ _ _ _ _ _ _ _ _ _ _ v2 w9 I9 (fun B v m ys h => ow_grown (ow_below h (below_trans (below_trans (below_trans HBZ.out HB3.out) HB4.out) (below_box _))) (HI4.out.row.alloc _) (by decide) hg9)
            · have h4i : (fo == 4) = false := by simp [h4]
              have HPV : Hid (pairL r fo (rc line it) = (bs (ks.take 20), nv)) := by show _ = _; rw [HKT.out]; exact Prod.ext rfl (by rw [HFV.out]; simp [Pp.firstI, h4])
              clear h4
              go_upto_region 21 with fail
              clear kf h4i
              go_wp2_with (at_builtin; refine Hid.out ?_)
              refine Lib.hid ?_
              refine wpList_append_own _ rfl (.tmp 79) (.tmp 83) 42 rfl w.heap.size 67 ip (.agg #[.string ⟨#[]⟩, .int .i64 0]) 2 24 Tryz.underlying42 hp0 hp1 hp2 hp3 rfl (by decide) (.slice aa an ac) acc.length (Pp.cellsP acc) rfl (HI4.out.row.alloc _) ⟨w4.heap.size, 0, none⟩ 1 1 [.string (bs (ks.take 20)), .int .i64 nv] rfl rfl ?c1 ?c5 ?c2 ?c3 ?c4 ?_
              case c1 => exact lit_cells rfl (show 2 ≤ maxLen by decide)
              case c5 => intro u hu; simp at hu; rcases hu with rfl | rfl <;> rfl
              case c2 => unfold maxLen; omega
              case c3 => omega
              case c4 => have := HI4.out.org.size; simp; omega
              intro v2 w9 hown9 hg9 _
              have I9 : Pk w w9 P B [jr, .int .i64 fo, .bool eb, .int .i64 sl] (ruleCells r ai ak av ci ck cv) v2 (acc ++ (if holdsB r (rc line it) = true then [pairL r fo (rc line it)] else [])) := by
                rw [if_pos HOLD.out, HPV.out]
                refine (HI4.out.below (below_box _)).grown ?_ hg9
                rw [List.length_append, Pp.cellsP_append]
                exact hown9
              go_wp2
              exact HK.out _ _ _ _ _ _ _ _ _ _ _ _ _ _ _ _ _ _ _ _ _ _ _ _ _ _ _ _ _ _ _ _ _ _ _ _ _ _ _ _ _ _ _ _ _ _ _ _ _ _ _ _ v2 w9 I9 (fun B v m ys h => ow_grown (ow_below h (below_trans (below_trans (below_trans HBZ.out HB3.out) HB4.out) (below_box _))) (HI4.out.row.alloc _) (by decide) hg9)
end Go.Proofs.YtmgpacenooncjaaGreatDoor
/- The document's pairs of a record: a look, if something is not so. Written by tpl/mk_tp.py. -/
namespace Go.Proofs.YtmgpacenooncjaaGreatDoor
open Go.ChangeShapes Go.WideShapes Go.ChangeAt Go.RowKit
set_option maxRecDepth 1000000 in
set_option maxHeartbeats 4000000 in
theorem made_b3_2 (w : World) (P B k tn tc an ac : Nat) (fo sl : Int) (eb : Bool) (jr : Value) (r : Rl) (ai ak av ta aa : Option Addr) (ci ck cv : Nat) (line it : List UInt8) (its : List (List UInt8)) (acc : List (ByteArray × Int)) (w0 : World) (K : Act → World → Prop) (s0 s3 s4 s6 s10 s11 s12 s13 s14 s15 s16 s17 s18 s19 s20 s21 s22 s23 s24 s25 s26 s27 s28 s29 s30 s31 s32 s33 s34 s35 s36 s37 s38 s39 s40 s41 s42 s43 s44 s45 s46 s47 s48 s49 s50 s51 s52 s53 s54 s55 s56 s57 s58 s59 s60 s61 s62 s63 s64 s65 s66 s67 s68 s69 s70 s71 s72 s73 s74 s75 s76 s77 s78 s79 s80 s81 s82 s83 s84 s85 : Value)
    (hI : Pk w w0 P B [jr, .int .i64 fo, .bool eb, .int .i64 sl] (ruleCells r ai ak av ci ck cv) (.slice aa an ac) acc)
    (han : an = acc.length)
    (hal : acc.length ≤ 500000)
    (hT : IsTexts w0 (.slice ta tn tc) (its.map bs))
    (hit : its[k]? = some it)
    (htn : tn = its.length)
    (hX : Hid (∀ w', Below w.heap.size w w' → IsEx w' (.slice ai r.iff.a.length ci) r.iff ∧ IsEx w' (.slice ak r.key.a.length ck) r.key ∧ IsEx w' (.slice av r.val.a.length cv) r.val))
    (hR : Hid (RlIn r))
    (hline : line.length ≤ 100000)
    (hrc : Hid (RcIn (rc line it) 100000))
    (hwn : r.when = 2)
    (HK : Hid (∀ (z10 z11 z12 z36 z37 z38 z39 z40 z41 z42 z43 z44 z45 z46 z47 z48 z49 z50 z51 z52 z53 z54 z55 z56 z57 z58 z59 z60 z61 z62 z63 z64 z65 z66 z67 z68 z69 z70 z71 z72 z73 z74 z75 z76 z77 z78 z79 z80 z81 z82 z83 z84 : Value) (v2 : Value) (wx : World), Pk w wx P B [jr, .int .i64 fo, .bool eb, .int .i64 sl] (ruleCells r ai ak av ci ck cv) v2 (acc ++ (if holdsB r (rc line it) = true then [pairL r fo (rc line it)] else [])) → (∀ B v m ys, w0.ownsRow B 9 1 v m ys → wx.ownsRow B 9 1 v m ys) → K ⟨#[s0, .string (bs line), .pointer (some ⟨P, 0, none⟩), s3, s4, v2, s6, .pointer (some ⟨B, 0, none⟩), .slice ta tn tc, .int .i64 (k : Int), z10, z11, z12, s13, s14, s15, s16, s17, s18, s19, s20, s21, s22, s23, s24, s25, s26, s27, s28, s29, s30, s31, s32, s33, s34, s35, z36, z37, z38, z39, z40, z41, z42, z43, z44, z45, z46, z47, z48, z49, z50, z51, z52, z53, z54, z55, z56, z57, z58, z59, z60, z61, z62, z63, z64, z65, z66, z67, z68, z69, z70, z71, z72, z73, z74, z75, z76, z77, z78, z79, z80, z81, z82, z83, z84, s85], []⟩ wx)) :
    Code.wp Tryz.prog (pieceIn Tryz.f16.body 3) (Exit.then K fun _ _ _ => False) ⟨#[s0, .string (bs line), .pointer (some ⟨P, 0, none⟩), s3, s4, .slice aa an ac, s6, .pointer (some ⟨B, 0, none⟩), .slice ta tn tc, .int .i64 (k : Int), s10, s11, s12, s13, s14, s15, s16, s17, s18, s19, s20, s21, s22, s23, s24, s25, s26, s27, s28, s29, s30, s31, s32, s33, s34, s35, s36, s37, s38, s39, s40, s41, s42, s43, s44, s45, s46, s47, s48, s49, s50, s51, s52, s53, s54, s55, s56, s57, s58, s59, s60, s61, s62, s63, s64, s65, s66, s67, s68, s69, s70, s71, s72, s73, s74, s75, s76, s77, s78, s79, s80, s81, s82, s83, s84, s85], []⟩ w0 := by
  obtain ⟨ip, hp0, hp1, hp2, hp3⟩ := info_parts pairInfo2
  have hmix : Tryz.prog.follows .mixedOrders = true := by kernel_rfl
  have HI := Lib.hid hI
  have STR : Hid (∀ (e : Ex) (sv : Value) (w' : World), Below w.heap.size w w' → IsEx w' sv e → faultE e true true = 0 → Calls Tryz.prog 44 #[e.val sv, .string (bs line), .string (bs it)] w' fun q w'' => q = .returned (.string (bs (e.str (rc line it)))) ∧ Below w'.heap.size w' w'') := fun e sv w' hb he hf =>
    rstr_any line it (by omega) true he (fault_ok hf) (by have := fault_len hf hrc.out; omega) w' (Below.refl _ _)
  have INT : Hid (∀ (w' : World), Below w.heap.size w w' → Calls Tryz.prog 45 #[r.val.val (.slice av r.val.a.length cv), .string (bs line), .string (bs it)] w' fun q w'' => q = .returned (.int .i64 (r.val.num (rc line it))) ∧ Below w'.heap.size w' w'') := fun w' hb =>
    rint_any line it (by omega) true (hX.out w' hb).2.2 (fault_ok hR.out.val) (by have := fault_far hR.out.val hrc.out; omega) w' (Below.refl _ _)
  have hkt : k < its.length := (List.getElem?_eq_some_iff.1 hit).1
  obtain ⟨tb, toff, rfl, t0⟩ : ∃ tb toff, ta = some ⟨tb, toff, none⟩ ∧ w0.cell? ⟨tb, toff + k, none⟩ = some (.string (bs it)) := by
    obtain ⟨a', c', e, hc⟩ := hT
    obtain ⟨b, off, ea, c0⟩ := hc k (by rw [List.length_map]; exact hkt)
    injection e with e1
    refine ⟨b, off, e1.trans ea, ?_⟩
    rw [List.getElem_map, (List.getElem?_eq_some_iff.1 hit).2] at c0
    exact c0
  have HT0 : Hid (∀ w', Below w0.heap.size w0 w' → w'.cell? ⟨tb, toff + k, none⟩ = some (.string (bs it))) := fun w' hb => cell_below t0 hb
  have hki : (k : Int) < (tn : Int) := by omega
  have hktn : k < tn := by omega
  have HAN := Lib.hid han
  have ORG := Lib.hid hI.org
  obtain ⟨q0, q1, q2, q3, q4, q5, q6, q7, q8, q9, q10, q11, q12, q13, q14⟩ := ruleAt hI.rule
  have kf := hI.job.at (i := 1) (v := .int .i64 fo) rfl
  clear hI hT htn hit han
  conv => arg 2; whnf
  have hfi : faultE r.iff true true = 0 := by
    rcases hR.out.when with h | ⟨_, h⟩
    · omega
    · exact h
  rw [hwn] at q1
  have IFS : Hid (∀ w', Below w0.heap.size w0 w' → Calls Tryz.prog 44 #[r.iff.val (.slice ai r.iff.a.length ci), .string (bs line), .string (bs it)] w' fun q w'' => q = .returned (.string (bs (r.iff.str (rc line it)))) ∧ Below w'.heap.size w' w'') := fun w' hb => STR.out r.iff _ w' (ORG.out.trans (hb.mono ORG.out.size)) (hX.out w' (ORG.out.trans (hb.mono ORG.out.size))).1 hfi
  unfold Ex.val at IFS
  obtain ⟨ifs, hifs⟩ : ∃ ifs, ifs = r.iff.str (rc line it) := ⟨_, rfl⟩
  rw [← hifs] at IFS
  obtain ⟨ib, hib⟩ : ∃ ib, ((bs ifs).toList == (bs r.s).toList) = ib := ⟨_, rfl⟩
  have HIE : Hid (decide (r.iff.str (rc line it) = r.s) = ib) := by
    show _ = _
    rw [← hib, ← hifs, ByteArray.toList_eq, ByteArray.toList_eq]
    simp [bs]
    by_cases h : ifs = r.s
    · simp [h]
    · simp [h]
  clear hifs hfi
  have k2 := cell_regrown q2
  have k3 := cell_regrown q3
  have k4 := cell_regrown q4
  have k5 := cell_regrown q5
  have k6 := cell_regrown q6
  have kt := cell_regrown t0
  have cI : Hid (∀ d os, Calls Tryz.prog 44 #[.agg #[.int .i64 r.iff.k, .int .i64 r.iff.n, .string (bs r.iff.s), .slice ai r.iff.a.length ci], .string (bs line), .string (bs it)] (Sort.grow (redrawn w0 d) os) fun q w'' => q = .returned (.string (bs ifs)) ∧ ∃ p : Regrown, w'' = Sort.grow (redrawn w0 p.d) p.os) := fun d os => Calls.regrown_of (IFS.out _ (below_regrown w0 d os))
  go_upto_region 13 with fail
  refine wp_region_quiet_below hmix (by kernel_rfl) ?_
  repeat (quiet_step (first | (go_at_call 44; exact cI.out _ _)))
  refine wpQuiet_nil ?_
  intro _ hw'
  obtain ⟨⟨dq0, osq0⟩, hw''⟩ := hw'
  subst hw''
  have HB2 : Hid (Below w0.heap.size w0 (Sort.grow (redrawn w0 dq0) osq0)) := below_regrown w0 dq0 osq0
  generalize Sort.grow (redrawn w0 dq0) osq0 = w2 at *
  obtain ⟨d0, d1, d2, d3, d4, d5, d6, d7, d8, d9, d10, d11, d12, d13, d14⟩ := ruleAt (HI.out.below HB2.out).rule
  clear q0 q1 q2 q3 q4 q5 q6 q7 q8 q9 q10 q11 q12 q13 q14 t0 kf k2 k3 k4 k5 k6 kt cI
  all_goals
    rw [hwn] at d1
    cases ib with
    | true =>
      have HOLD : Hid (holdsB r (rc line it) = false) := by
        show _ = _
        have h := HIE.out
        rw [decide_eq_true_eq] at h
        unfold holdsB; rw [hwn]; simp [h]
      have I2 := HI.out.below HB2.out
      go_wp2
      exact HK.out _ _ _ _ _ _ _ _ _ _ _ _ _ _ _ _ _ _ _ _ _ _ _ _ _ _ _ _ _ _ _ _ _ _ _ _ _ _ _ _ _ _ _ _ _ _ _ _ _ _ _ _ _ w2 (by rw [if_neg (by rw [HOLD.out]; decide), List.append_nil]; exact I2) (fun B v m ys h => ow_below h HB2.out)
    | false =>
      have HOLD : Hid (holdsB r (rc line it) = true) := by
        show _ = _
        have h := HIE.out
        rw [decide_eq_false_iff_not] at h
        unfold holdsB; rw [hwn]; simp [h]
      have kf : 0 = 0 := rfl
      go_upto_region 15 with fail
      clear d0 d1 d2 d3 d4 d5 d6 d7 d8 d9 d10 d11 d12 d13 d14
      have HIZ : Hid (Pk w w2 P B [jr, .int .i64 fo, .bool eb, .int .i64 sl] (ruleCells r ai ak av ci ck cv) (.slice aa an ac) acc) := (HI.out.below HB2.out)
      have HBZ : Hid (Below w0.heap.size w0 w2) := HB2.out
      obtain ⟨q0, q1, q2, q3, q4, q5, q6, q7, q8, q9, q10, q11, q12, q13, q14⟩ := ruleAt HIZ.out.rule
      have t0 := HT0.out w2 HBZ.out
      have KEY : Hid (∀ w', Below w2.heap.size w2 w' → Calls Tryz.prog 44 #[r.key.val (.slice ak r.key.a.length ck), .string (bs line), .string (bs it)] w' fun q w'' => q = .returned (.string (bs (r.key.str (rc line it)))) ∧ Below w'.heap.size w' w'') := fun w' hb => STR.out r.key _ w' (HIZ.out.org.trans (hb.mono HIZ.out.org.size)) (hX.out w' (HIZ.out.org.trans (hb.mono HIZ.out.org.size))).2.1 hR.out.key
      unfold Ex.val at KEY
      obtain ⟨ks, hks⟩ : ∃ ks, ks = r.key.str (rc line it) := ⟨_, rfl⟩
      rw [← hks] at KEY
      have HKS := Lib.hid hks
      have hsz : (bs ks).size = ks.length := bs_size ks
      clear hks
      have k7 := cell_regrown q7
      have k8 := cell_regrown q8
      have k9 := cell_regrown q9
      have k10 := cell_regrown q10
      have kt := cell_regrown t0
      have cK : Hid (∀ d os, Calls Tryz.prog 44 #[.agg #[.int .i64 r.key.k, .int .i64 r.key.n, .string (bs r.key.s), .slice ak r.key.a.length ck], .string (bs line), .string (bs it)] (Sort.grow (redrawn w2 d) os) fun q w'' => q = .returned (.string (bs ks)) ∧ ∃ p : Regrown, w'' = Sort.grow (redrawn w2 p.d) p.os) := fun d os => Calls.regrown_of (KEY.out _ (below_regrown w2 d os))
      go_upto_region 15 with fail
      refine wp_region_quiet_below hmix (by kernel_rfl) ?_
      repeat (quiet_step (first | (go_at_call 44; exact cK.out _ _)))
      refine wpQuiet_nil ?_
      intro _ hw'
      obtain ⟨⟨dq, osq⟩, hw''⟩ := hw'
      subst hw''
      have HB3 : Hid (Below w2.heap.size w2 (Sort.grow (redrawn w2 dq) osq)) := below_regrown w2 dq osq
      generalize Sort.grow (redrawn w2 dq) osq = w3 at *
      clear q0 q1 q2 q3 q4 q5 q6 q7 q8 q9 q10 q11 q12 q13 q14 t0 kf k7 k8 k9 k10 kt cK
      all_goals
        have HI3 := Lib.hid (HIZ.out.below HB3.out)
        have HKT : Hid (bs (ks.take 20) = (pairL r fo (rc line it)).1) := by show _ = _; rw [HKS.out]; rfl
        by_cases h20 : 20 < ks.length
        case' pos =>
          have h20i : (20 : Int) < (ks.length : Int) := by omega
          have hex : (bs ks).extract 0 20 = bs (ks.take 20) := bs_cut ks 20
          have HEX := Lib.hid hex
          clear hex
          go_upto_region 18 with fail
          rw [HEX.out]
        case' neg =>
          have h20i : ¬ (20 : Int) < (ks.length : Int) := by omega
          have hex : ks = ks.take 20 := (List.take_of_length_le (by omega)).symm
          have HEX : Hid (bs ks = bs (ks.take 20)) := by show _ = _; rw [← hex]
          clear hex
          go_upto_region 18 with fail
          rw [HEX.out]
        all_goals
          obtain ⟨p0, p1, p2, p3, p4, p5, p6, p7, p8, p9, p10, p11, p12, p13, p14⟩ := ruleAt HI3.out.rule
          have t1 := HT0.out w3 (below_trans HBZ.out HB3.out)
          have INT3 : Hid (∀ w', Below w3.heap.size w3 w' → Calls Tryz.prog 45 #[r.val.val (.slice av r.val.a.length cv), .string (bs line), .string (bs it)] w' fun q w'' => q = .returned (.int .i64 (r.val.num (rc line it))) ∧ Below w'.heap.size w' w'') := fun w' hb => INT.out w' (HI3.out.org.trans (hb.mono HI3.out.org.size))
          unfold Ex.val at INT3
          have k11 := cell_regrown p11
          have k12 := cell_regrown p12
          have k13 := cell_regrown p13
          have k14 := cell_regrown p14
          have ku := cell_regrown t1
          have cV : Hid (∀ d os, Calls Tryz.prog 45 #[.agg #[.int .i64 r.val.k, .int .i64 r.val.n, .string (bs r.val.s), .slice av r.val.a.length cv], .string (bs line), .string (bs it)] (Sort.grow (redrawn w3 d) os) fun q w'' => q = .returned (.int .i64 (r.val.num (rc line it))) ∧ ∃ p : Regrown, w'' = Sort.grow (redrawn w3 p.d) p.os) := fun d os => Calls.regrown_of (INT3.out _ (below_regrown w3 d os))
          refine wp_region_quiet_below hmix (by kernel_rfl) ?_
          repeat (quiet_step (first | (go_at_call 45; exact cV.out _ _)))
          refine wpQuiet_nil ?_
          intro _ hw'
          obtain ⟨⟨dq2, osq2⟩, hw''⟩ := hw'
          subst hw''
          have HB4 : Hid (Below w3.heap.size w3 (Sort.grow (redrawn w3 dq2) osq2)) := below_regrown w3 dq2 osq2
          generalize Sort.grow (redrawn w3 dq2) osq2 = w4 at *
          clear p0 p1 p2 p3 p4 p5 p6 p7 p8 p9 p10 p11 p12 p13 p14 t1 k11 k12 k13 k14 ku cV
          all_goals
            have HI4 := Lib.hid (HI3.out.below HB4.out)
            have kf := HI4.out.job.at (i := 1) (v := .int .i64 fo) rfl
            have HFV : Hid ((pairL r fo (rc line it)).2 = Pp.firstI fo (r.val.num (rc line it))) := (show _ = _ from rfl)
            generalize r.val.num (rc line it) = nv at *
            by_cases h4 : fo = 4
            · have h4i : (fo == 4) = true := by simp [h4]
              have HPV : Hid (pairL r fo (rc line it) = (bs (ks.take 20), 1)) := by show _ = _; rw [HKT.out]; exact Prod.ext rfl (by rw [HFV.out]; simp [Pp.firstI, h4])
              clear h4
              go_upto_region 21 with fail
              clear kf h4i
              go_wp2_with (at_builtin; refine Hid.out ?_)
              refine Lib.hid ?_
              refine wpList_append_own _ rfl (.tmp 79) (.tmp 83) 42 rfl w.heap.size 67 ip (.agg #[.string ⟨#[]⟩, .int .i64 0]) 2 24 Tryz.underlying42 hp0 hp1 hp2 hp3 rfl (by decide) (.slice aa an ac) acc.length (Pp.cellsP acc) rfl (HI4.out.row.alloc _) ⟨w4.heap.size, 0, none⟩ 1 1 [.string (bs (ks.take 20)), .int .i64 1] rfl rfl ?c1 ?c5 ?c2 ?c3 ?c4 ?_
              case c1 => exact lit_cells rfl (show 2 ≤ maxLen by decide)
              case c5 => intro u hu; simp at hu; rcases hu with rfl | rfl <;> rfl
              case c2 => unfold maxLen; omega
              case c3 => omega
              case c4 => have := HI4.out.org.size; simp; omega
              intro v2 w9 hown9 hg9 _
              have I9 : Pk w w9 P B [jr, .int .i64 fo, .bool eb, .int .i64 sl] (ruleCells r ai ak av ci ck cv) v2 (acc ++ (if holdsB r (rc line it) = true then [pairL r fo (rc line it)] else [])) := by
                rw [if_pos HOLD.out, HPV.out]
                refine (HI4.out.below (below_box _)).grown ?_ hg9
                rw [List.length_append, Pp.cellsP_append]
                exact hown9
              go_wp2
              exact HK.out _ _ _ _ _ _ _ _ _ _ _ _ _ _ _ _ _ _ _ _ _ _ _ _ _ _ _ _ _ _ _ _ _ _ _ _ _ _ _ _ _ _ _ _ _ _ _ _ _ _ _ _ v2 w9 I9 (fun B v m ys h => ow_grown (ow_below h (below_trans (below_trans (below_trans HBZ.out HB3.out) HB4.out) (below_box _))) (HI4.out.row.alloc _) (by decide) hg9)
            · have h4i : (fo == 4) = false := by simp [h4]
              have HPV : Hid (pairL r fo (rc line it) = (bs (ks.take 20), nv)) := by show _ = _; rw [HKT.out]; exact Prod.ext rfl (by rw [HFV.out]; simp [Pp.firstI, h4])
              clear h4
              go_upto_region 21 with fail
              clear kf h4i
              go_wp2_with (at_builtin; refine Hid.out ?_)
              refine Lib.hid ?_
              refine wpList_append_own _ rfl (.tmp 79) (.tmp 83) 42 rfl w.heap.size 67 ip (.agg #[.string ⟨#[]⟩, .int .i64 0]) 2 24 Tryz.underlying42 hp0 hp1 hp2 hp3 rfl (by decide) (.slice aa an ac) acc.length (Pp.cellsP acc) rfl (HI4.out.row.alloc _) ⟨w4.heap.size, 0, none⟩ 1 1 [.string (bs (ks.take 20)), .int .i64 nv] rfl rfl ?c1 ?c5 ?c2 ?c3 ?c4 ?_
              case c1 => exact lit_cells rfl (show 2 ≤ maxLen by decide)
              case c5 => intro u hu; simp at hu; rcases hu with rfl | rfl <;> rfl
              case c2 => unfold maxLen; omega
              case c3 => omega
              case c4 => have := HI4.out.org.size; simp; omega
              intro v2 w9 hown9 hg9 _
              have I9 : Pk w w9 P B [jr, .int .i64 fo, .bool eb, .int .i64 sl] (ruleCells r ai ak av ci ck cv) v2 (acc ++ (if holdsB r (rc line it) = true then [pairL r fo (rc line it)] else [])) := by
                rw [if_pos HOLD.out, HPV.out]
                refine (HI4.out.below (below_box _)).grown ?_ hg9
                rw [List.length_append, Pp.cellsP_append]
                exact hown9
              go_wp2
              exact HK.out _ _ _ _ _ _ _ _ _ _ _ _ _ _ _ _ _ _ _ _ _ _ _ _ _ _ _ _ _ _ _ _ _ _ _ _ _ _ _ _ _ _ _ _ _ _ _ _ _ _ _ _ v2 w9 I9 (fun B v m ys h => ow_grown (ow_below h (below_trans (below_trans (below_trans HBZ.out HB3.out) HB4.out) (below_box _))) (HI4.out.row.alloc _) (by decide) hg9)
end Go.Proofs.YtmgpacenooncjaaGreatDoor
/- The document's pairs of a record: all looks of a rule. Written by tpl/mk_tp.py. -/
namespace Go.Proofs.YtmgpacenooncjaaGreatDoor
open Go.ChangeShapes Go.WideShapes Go.ChangeAt Go.RowKit
set_option maxRecDepth 1000000 in
set_option maxHeartbeats 4000000 in
theorem made_b3 (w : World) (P B k tn tc an ac : Nat) (fo sl : Int) (eb : Bool) (jr : Value) (r : Rl) (ai ak av ta aa : Option Addr) (ci ck cv : Nat) (line it : List UInt8) (its : List (List UInt8)) (acc : List (ByteArray × Int)) (w0 : World) (K : Act → World → Prop) (s0 s3 s4 s6 s10 s11 s12 s13 s14 s15 s16 s17 s18 s19 s20 s21 s22 s23 s24 s25 s26 s27 s28 s29 s30 s31 s32 s33 s34 s35 s36 s37 s38 s39 s40 s41 s42 s43 s44 s45 s46 s47 s48 s49 s50 s51 s52 s53 s54 s55 s56 s57 s58 s59 s60 s61 s62 s63 s64 s65 s66 s67 s68 s69 s70 s71 s72 s73 s74 s75 s76 s77 s78 s79 s80 s81 s82 s83 s84 s85 : Value)
    (hI : Pk w w0 P B [jr, .int .i64 fo, .bool eb, .int .i64 sl] (ruleCells r ai ak av ci ck cv) (.slice aa an ac) acc)
    (han : an = acc.length)
    (hal : acc.length ≤ 500000)
    (hT : IsTexts w0 (.slice ta tn tc) (its.map bs))
    (hit : its[k]? = some it)
    (htn : tn = its.length)
    (hX : Hid (∀ w', Below w.heap.size w w' → IsEx w' (.slice ai r.iff.a.length ci) r.iff ∧ IsEx w' (.slice ak r.key.a.length ck) r.key ∧ IsEx w' (.slice av r.val.a.length cv) r.val))
    (hR : Hid (RlIn r))
    (hline : line.length ≤ 100000)
    (hrc : Hid (RcIn (rc line it) 100000))
    (HK : Hid (∀ (z10 z11 z12 z36 z37 z38 z39 z40 z41 z42 z43 z44 z45 z46 z47 z48 z49 z50 z51 z52 z53 z54 z55 z56 z57 z58 z59 z60 z61 z62 z63 z64 z65 z66 z67 z68 z69 z70 z71 z72 z73 z74 z75 z76 z77 z78 z79 z80 z81 z82 z83 z84 : Value) (v2 : Value) (wx : World), Pk w wx P B [jr, .int .i64 fo, .bool eb, .int .i64 sl] (ruleCells r ai ak av ci ck cv) v2 (acc ++ (if holdsB r (rc line it) = true then [pairL r fo (rc line it)] else [])) → (∀ B v m ys, w0.ownsRow B 9 1 v m ys → wx.ownsRow B 9 1 v m ys) → K ⟨#[s0, .string (bs line), .pointer (some ⟨P, 0, none⟩), s3, s4, v2, s6, .pointer (some ⟨B, 0, none⟩), .slice ta tn tc, .int .i64 (k : Int), z10, z11, z12, s13, s14, s15, s16, s17, s18, s19, s20, s21, s22, s23, s24, s25, s26, s27, s28, s29, s30, s31, s32, s33, s34, s35, z36, z37, z38, z39, z40, z41, z42, z43, z44, z45, z46, z47, z48, z49, z50, z51, z52, z53, z54, z55, z56, z57, z58, z59, z60, z61, z62, z63, z64, z65, z66, z67, z68, z69, z70, z71, z72, z73, z74, z75, z76, z77, z78, z79, z80, z81, z82, z83, z84, s85], []⟩ wx)) :
    Code.wp Tryz.prog (pieceIn Tryz.f16.body 3) (Exit.then K fun _ _ _ => False) ⟨#[s0, .string (bs line), .pointer (some ⟨P, 0, none⟩), s3, s4, .slice aa an ac, s6, .pointer (some ⟨B, 0, none⟩), .slice ta tn tc, .int .i64 (k : Int), s10, s11, s12, s13, s14, s15, s16, s17, s18, s19, s20, s21, s22, s23, s24, s25, s26, s27, s28, s29, s30, s31, s32, s33, s34, s35, s36, s37, s38, s39, s40, s41, s42, s43, s44, s45, s46, s47, s48, s49, s50, s51, s52, s53, s54, s55, s56, s57, s58, s59, s60, s61, s62, s63, s64, s65, s66, s67, s68, s69, s70, s71, s72, s73, s74, s75, s76, s77, s78, s79, s80, s81, s82, s83, s84, s85], []⟩ w0 := by
  rcases hR.out.when with h | ⟨h | h, _⟩
  · exact made_b3_0 w P B k tn tc an ac fo sl eb jr r ai ak av ta aa ci ck cv line it its acc w0 K s0 s3 s4 s6 s10 s11 s12 s13 s14 s15 s16 s17 s18 s19 s20 s21 s22 s23 s24 s25 s26 s27 s28 s29 s30 s31 s32 s33 s34 s35 s36 s37 s38 s39 s40 s41 s42 s43 s44 s45 s46 s47 s48 s49 s50 s51 s52 s53 s54 s55 s56 s57 s58 s59 s60 s61 s62 s63 s64 s65 s66 s67 s68 s69 s70 s71 s72 s73 s74 s75 s76 s77 s78 s79 s80 s81 s82 s83 s84 s85 hI han hal hT hit htn hX hR hline hrc h HK
  · exact made_b3_1 w P B k tn tc an ac fo sl eb jr r ai ak av ta aa ci ck cv line it its acc w0 K s0 s3 s4 s6 s10 s11 s12 s13 s14 s15 s16 s17 s18 s19 s20 s21 s22 s23 s24 s25 s26 s27 s28 s29 s30 s31 s32 s33 s34 s35 s36 s37 s38 s39 s40 s41 s42 s43 s44 s45 s46 s47 s48 s49 s50 s51 s52 s53 s54 s55 s56 s57 s58 s59 s60 s61 s62 s63 s64 s65 s66 s67 s68 s69 s70 s71 s72 s73 s74 s75 s76 s77 s78 s79 s80 s81 s82 s83 s84 s85 hI han hal hT hit htn hX hR hline hrc h HK
  · exact made_b3_2 w P B k tn tc an ac fo sl eb jr r ai ak av ta aa ci ck cv line it its acc w0 K s0 s3 s4 s6 s10 s11 s12 s13 s14 s15 s16 s17 s18 s19 s20 s21 s22 s23 s24 s25 s26 s27 s28 s29 s30 s31 s32 s33 s34 s35 s36 s37 s38 s39 s40 s41 s42 s43 s44 s45 s46 s47 s48 s49 s50 s51 s52 s53 s54 s55 s56 s57 s58 s59 s60 s61 s62 s63 s64 s65 s66 s67 s68 s69 s70 s71 s72 s73 s74 s75 s76 s77 s78 s79 s80 s81 s82 s83 s84 s85 hI han hal hT hit htn hX hR hline hrc h HK
set_option maxRecDepth 1000000 in
set_option maxHeartbeats 4000000 in
theorem made_b2 (w : World) (P B tn tc an ac : Nat) (fo sl : Int) (eb : Bool) (jr : Value) (r : Rl) (ai ak av ta aa : Option Addr) (ci ck cv : Nat) (line : List UInt8) (its : List (List UInt8)) (acc : List (ByteArray × Int)) (w0 : World) (K : Act → World → Prop) (s0 s3 s4 s6 s10 s11 s12 s13 s14 s15 s16 s17 s18 s19 s20 s21 s22 s23 s24 s25 s26 s27 s28 s29 s30 s31 s32 s33 s34 s35 s36 s37 s38 s39 s40 s41 s42 s43 s44 s45 s46 s47 s48 s49 s50 s51 s52 s53 s54 s55 s56 s57 s58 s59 s60 s61 s62 s63 s64 s65 s66 s67 s68 s69 s70 s71 s72 s73 s74 s75 s76 s77 s78 s79 s80 s81 s82 s83 s84 s85 : Value)
    (hI : Pk w w0 P B [jr, .int .i64 fo, .bool eb, .int .i64 sl] (ruleCells r ai ak av ci ck cv) (.slice aa an ac) acc)
    (hal : acc.length ≤ 400004)
    (hts : w0.ownsRow w.heap.size 9 1 (.slice ta tn tc) tn (strs its))
    (htn : tn = its.length)
    (hil : its.length ≤ 90000)
    (hX : Hid (∀ w', Below w.heap.size w w' → IsEx w' (.slice ai r.iff.a.length ci) r.iff ∧ IsEx w' (.slice ak r.key.a.length ck) r.key ∧ IsEx w' (.slice av r.val.a.length cv) r.val))
    (hR : Hid (RlIn r))
    (hline : line.length ≤ 100000)
    (hrc : Hid (∀ it ∈ its, RcIn (rc line it) 100000))
    (HK : Hid (∀ (z9 z10 z11 z12 z30 z31 z32 z33 z34 z35 z36 z37 z38 z39 z40 z41 z42 z43 z44 z45 z46 z47 z48 z49 z50 z51 z52 z53 z54 z55 z56 z57 z58 z59 z60 z61 z62 z63 z64 z65 z66 z67 z68 z69 z70 z71 z72 z73 z74 z75 z76 z77 z78 z79 z80 z81 z82 z83 z84 : Value) (v2 : Value) (wx : World), Pk w wx P B [jr, .int .i64 fo, .bool eb, .int .i64 sl] (ruleCells r ai ak av ci ck cv) v2 (acc ++ ((its.map (rc line)).filter (holdsB r)).map (pairL r fo)) → K ⟨#[s0, .string (bs line), .pointer (some ⟨P, 0, none⟩), s3, s4, v2, s6, .pointer (some ⟨B, 0, none⟩), .slice ta tn tc, z9, z10, z11, z12, s13, s14, s15, s16, s17, s18, s19, s20, s21, s22, s23, s24, s25, s26, s27, s28, s29, z30, z31, z32, z33, z34, z35, z36, z37, z38, z39, z40, z41, z42, z43, z44, z45, z46, z47, z48, z49, z50, z51, z52, z53, z54, z55, z56, z57, z58, z59, z60, z61, z62, z63, z64, z65, z66, z67, z68, z69, z70, z71, z72, z73, z74, z75, z76, z77, z78, z79, z80, z81, z82, z83, z84, s85], []⟩ wx)) :
    Code.wp Tryz.prog (pieceIn Tryz.f16.body 2) (Exit.then K fun _ _ _ => False) ⟨#[s0, .string (bs line), .pointer (some ⟨P, 0, none⟩), s3, s4, .slice aa an ac, s6, .pointer (some ⟨B, 0, none⟩), .slice ta tn tc, .int .i64 0, s10, s11, s12, s13, s14, s15, s16, s17, s18, s19, s20, s21, s22, s23, s24, s25, s26, s27, s28, s29, s30, s31, s32, s33, s34, s35, s36, s37, s38, s39, s40, s41, s42, s43, s44, s45, s46, s47, s48, s49, s50, s51, s52, s53, s54, s55, s56, s57, s58, s59, s60, s61, s62, s63, s64, s65, s66, s67, s68, s69, s70, s71, s72, s73, s74, s75, s76, s77, s78, s79, s80, s81, s82, s83, s84, s85], []⟩ w0 := by
  have HI : Hid (Pk w w0 P B [jr, .int .i64 fo, .bool eb, .int .i64 sl] (ruleCells r ai ak av ci ck cv) (.slice aa an ac) (acc ++ (((its.map (rc line)).take 0).filter (holdsB r)).map (pairL r fo))) := by
    show Pk _ _ _ _ _ _ _ _
    rw [List.take_zero, List.filter_nil, List.map_nil, List.append_nil]
    exact hI
  have HTS := Lib.hid hts
  have HTN := Lib.hid htn
  have htb : tn ≤ 90000 := by omega
  clear hI hts htn
  conv => arg 2; whnf
  go_wp2_with fail
  go_loopg [5, 9] tn (fun gg lv iv wr => ∃ k : Nat, gg = tn - k ∧ k ≤ tn ∧ iv = .int .i64 k ∧ Hid (Pk w wr P B [jr, .int .i64 fo, .bool eb, .int .i64 sl] (ruleCells r ai ak av ci ck cv) lv (acc ++ (((its.map (rc line)).take k).filter (holdsB r)).map (pairL r fo))) ∧ Hid (wr.ownsRow w.heap.size 9 1 (.slice ta tn tc) tn (strs its)))
  case atStart => exact ⟨0, rfl, Nat.zero_le _, rfl, HI, HTS⟩
  case round =>
    clear HI HTS
    obtain ⟨k, hgk, hk, rfl, HI, HTS⟩ := hrel
    have HGK := Lib.hid hgk
    clear hgk
    by_cases hlt : k < tn
    · obtain ⟨it, hit⟩ : ∃ it, its[k]? = some it := ⟨its[k]'(by have := HTN.out; omega), by simp⟩
      have hx : (its.map (rc line))[k]? = some (rc line it) := by rw [List.getElem?_map, hit]; rfl
      have HTK := Lib.hid (ruleP_take r fo (its.map (rc line)) k (rc line it) hx)
      have hlen : (acc ++ (((its.map (rc line)).take k).filter (holdsB r)).map (pairL r fo)).length ≤ 500000 := by
        rw [List.length_append, List.length_map]
        have h1 := List.length_filter_le (holdsB r) ((its.map (rc line)).take k)
        have h2 := List.length_take_le' k (its.map (rc line))
        rw [List.length_map] at h2
        omega
      obtain ⟨ak2, hak⟩ : ∃ l, l = acc ++ (((its.map (rc line)).take k).filter (holdsB r)).map (pairL r fo) := ⟨_, rfl⟩
      rw [← hak] at HI hlen
      obtain ⟨aa2, ac2, e⟩ : ∃ a c, u5 = .slice a ak2.length c := by
        rcases row_slice HI.out.row with ⟨h1, h2⟩ | ⟨g, c, h1, _⟩
        · exact ⟨none, 0, by rw [h1, h2]⟩
        · exact ⟨_, c, h1⟩
      have HAK : Hid (acc ++ (((its.map (rc line)).take (k + 1)).filter (holdsB r)).map (pairL r fo) = ak2 ++ (if holdsB r (rc line it) = true then [pairL r fo (rc line it)] else [])) := by
        show _ = _
        rw [HTK.out, hak, List.append_assoc]
      subst e
      have HIT := Lib.hid hit
      have HLEN := Lib.hid hlen
      have HLT := Lib.hid hlt
      obtain ⟨an2, han2⟩ : ∃ n, n = ak2.length := ⟨_, rfl⟩
      rw [← han2] at HI
      have HAN2 := Lib.hid han2
      rw [← han2]
      clear hit hx hlen hak HTK han2
      go_upto_block 3 with fail
      refine wp_norm (made_b3 w P B k tn tc an2 ac2 fo sl eb jr r ai ak av ta aa2 ci ck cv line it its ak2 _ _ _ _ _ _ _ _ _ _ _ _ _ _ _ _ _ _ _ _ _ _ _ _ _ _ _ _ _ _ _ _ _ _ _ _ _ _ _ _ _ _ _ _ _ _ _ _ _ _ _ _ _ _ _ _ _ _ _ _ _ _ _ _ _ _ _ _ _ _ _ _ _ _ _ _ _ _ _ _ _ _ HI.out HAN2.out HLEN.out (isTexts_of (by rw [← HTN.out]; exact HTS.out)) HIT.out HTN.out hX hR hline (hrc.out it (List.mem_of_getElem? HIT.out)) ?_)
      refine Lib.hid ?_
      intro z10 z11 z12 z36 z37 z38 z39 z40 z41 z42 z43 z44 z45 z46 z47 z48 z49 z50 z51 z52 z53 z54 z55 z56 z57 z58 z59 z60 z61 z62 z63 z64 z65 z66 z67 z68 z69 z70 z71 z72 z73 z74 z75 z76 z77 z78 z79 z80 z81 z82 z83 z84 v2 wx hIx hOx
      have HIX := Lib.hid hIx
      have HTX : Hid (wx.ownsRow w.heap.size 9 1 (.slice ta tn tc) tn (strs its)) := hOx _ _ _ _ HTS.out
      clear hIx hOx HI HTS
      go_wp2
      go_roundg (tn - (k + 1))
      case measure => have := HGK.out; have := HLT.out; omega
      case rel => exact ⟨k + 1, rfl, HLT.out, by have := HTN.out; have := HLT.out; go_num, by rw [HAK.out]; exact HIX.out, HTX⟩
    · have HF : Hid (Pk w wr P B [jr, .int .i64 fo, .bool eb, .int .i64 sl] (ruleCells r ai ak av ci ck cv) u5 (acc ++ ((its.map (rc line)).filter (holdsB r)).map (pairL r fo))) := by
        have h := HI.out
        rw [List.take_of_length_le (by rw [List.length_map]; have := HTN.out; omega)] at h
        exact h
      clear HI
      go_wp2
      exact HK.out _ _ _ _ _ _ _ _ _ _ _ _ _ _ _ _ _ _ _ _ _ _ _ _ _ _ _ _ _ _ _ _ _ _ _ _ _ _ _ _ _ _ _ _ _ _ _ _ _ _ _ _ _ _ _ _ _ _ _ _ wr HF.out
end Go.Proofs.YtmgpacenooncjaaGreatDoor
/- The document's pairs of a record: a rule. Written by tpl/mk_tp.py. -/
namespace Go.Proofs.YtmgpacenooncjaaGreatDoor
open Go.ChangeShapes Go.WideShapes Go.ChangeAt Go.RowKit
/-- What the document's PairsMade has made by now, beside its job. -/
structure Qk (w wr : World) (P : Nat) (jv : List Value) (lv : Value) (acc : List (ByteArray × Int)) : Prop where
  org : Below w.heap.size w wr
  row : wr.ownsRow w.heap.size 67 2 lv acc.length (Pp.cellsP acc)
  job : Blk wr P 24 jv
theorem Qk.below {w wr w' : World} {P : Nat} {jv : List Value} {lv : Value} {acc : List (ByteArray × Int)} (h : Qk w wr P jv lv acc) (hb : Below wr.heap.size wr w') : Qk w w' P jv lv acc :=
  ⟨h.org.trans (hb.mono h.org.size), ow_below h.row hb, h.job.blw hb⟩
theorem Pk.q {w wr : World} {P B : Nat} {jv cs : List Value} {lv : Value} {acc : List (ByteArray × Int)} (h : Pk w wr P B jv cs lv acc) : Qk w wr P jv lv acc := ⟨h.org, h.row, h.job⟩
theorem looks_its (r : Rl) (kind : Int) (line : List UInt8) : ruleP r kind (ofL line) = (((if r.each = true then wordsL line else [[]]).map (rc line)).filter (holdsB r)).map (pairL r kind) := by
  unfold ruleP looksL
  split <;> rfl
theorem wp_last {c : Code} {Q : Exit → Act → World → Prop} {a : Act} {w : World} (h : c.wp Tryz.prog (Exit.then (fun a w => Q .normal a w) fun _ _ _ => False) a w) : c.wp Tryz.prog Q a w :=
  wp_mono h fun e a w hq => by
    cases e with
    | normal => exact hq
    | exit id => exact False.elim hq
    | goto l => exact False.elim hq
    | ret => exact False.elim hq
    | panic ch => exact False.elim hq
    | outgrown => exact False.elim hq
set_option maxRecDepth 1000000 in
set_option maxHeartbeats 4000000 in
theorem made_b1 (w : World) (P i rn rcap an ac : Nat) (fo sl : Int) (eb : Bool) (r : Rl) (ra aa : Option Addr) (l : List Rl) (line : List UInt8) (acc : List (ByteArray × Int)) (w0 : World) (K : Act → World → Prop) (s0 s3 s4 s7 s8 s9 s10 s11 s12 s13 s14 s15 s16 s17 s18 s19 s20 s21 s22 s23 s24 s25 s26 s27 s28 s29 s30 s31 s32 s33 s34 s35 s36 s37 s38 s39 s40 s41 s42 s43 s44 s45 s46 s47 s48 s49 s50 s51 s52 s53 s54 s55 s56 s57 s58 s59 s60 s61 s62 s63 s64 s65 s66 s67 s68 s69 s70 s71 s72 s73 s74 s75 s76 s77 s78 s79 s80 s81 s82 s83 s84 s85 : Value)
    (hI : Qk w w0 P [.slice ra rn rcap, .int .i64 fo, .bool eb, .int .i64 sl] (.slice aa an ac) acc)
    (hal : acc.length ≤ 400004)
    (hr : l[i]? = some r)
    (hrn : rn = l.length)
    (HRS : Hid (∀ w', Below w.heap.size w w' → IsRules w' (.slice ra rn rcap) l))
    (hR : Hid (RlIn r))
    (hline : line.length ≤ 80000)
    (HK : Hid (∀ (z7 z8 z9 z10 z11 z12 z20 z21 z22 z23 z24 z25 z26 z27 z28 z29 z30 z31 z32 z33 z34 z35 z36 z37 z38 z39 z40 z41 z42 z43 z44 z45 z46 z47 z48 z49 z50 z51 z52 z53 z54 z55 z56 z57 z58 z59 z60 z61 z62 z63 z64 z65 z66 z67 z68 z69 z70 z71 z72 z73 z74 z75 z76 z77 z78 z79 z80 z81 z82 z83 z84 : Value) (v2 : Value) (wx : World), Qk w wx P [.slice ra rn rcap, .int .i64 fo, .bool eb, .int .i64 sl] v2 (acc ++ ruleP r fo (ofL line)) → K ⟨#[s0, .string (bs line), .pointer (some ⟨P, 0, none⟩), s3, s4, v2, .int .i64 (i : Int), z7, z8, z9, z10, z11, z12, s13, s14, s15, s16, s17, s18, s19, z20, z21, z22, z23, z24, z25, z26, z27, z28, z29, z30, z31, z32, z33, z34, z35, z36, z37, z38, z39, z40, z41, z42, z43, z44, z45, z46, z47, z48, z49, z50, z51, z52, z53, z54, z55, z56, z57, z58, z59, z60, z61, z62, z63, z64, z65, z66, z67, z68, z69, z70, z71, z72, z73, z74, z75, z76, z77, z78, z79, z80, z81, z82, z83, z84, s85], []⟩ wx)) :
    Code.wp Tryz.prog (pieceIn Tryz.f16.body 1) (Exit.then K fun _ _ _ => False) ⟨#[s0, .string (bs line), .pointer (some ⟨P, 0, none⟩), s3, s4, .slice aa an ac, .int .i64 (i : Int), s7, s8, s9, s10, s11, s12, s13, s14, s15, s16, s17, s18, s19, s20, s21, s22, s23, s24, s25, s26, s27, s28, s29, s30, s31, s32, s33, s34, s35, s36, s37, s38, s39, s40, s41, s42, s43, s44, s45, s46, s47, s48, s49, s50, s51, s52, s53, s54, s55, s56, s57, s58, s59, s60, s61, s62, s63, s64, s65, s66, s67, s68, s69, s70, s71, s72, s73, s74, s75, s76, s77, s78, s79, s80, s81, s82, s83, s84, s85], []⟩ w0 := by
  have HI := Lib.hid hI
  have hil : i < l.length := (List.getElem?_eq_some_iff.1 hr).1
  have hii : (i : Int) < (rn : Int) := by omega
  have hin : i < rn := by omega
  obtain ⟨a', cap', b, off, AI, AK, AV, e, ha, hc⟩ := HRS.out w (Below.refl _ _)
  have ea := ha (by omega)
  rw [Value.slice.injEq] at e
  obtain ⟨e1, -, -⟩ := e
  rw [ea] at e1
  subst e1
  obtain ⟨⟨c0, c1, c2, c3, c4, c5, c6, c7, c8, c9, c10, c11, c12, c13, c14⟩, xi, xk, xv⟩ := hc i r hr
  obtain ⟨ai, ci, ei⟩ := xi.slice
  obtain ⟨ak, ck, ek⟩ := xk.slice
  obtain ⟨av, cv, ev⟩ := xv.slice
  rw [ei] at c5 xi
  rw [ek] at c10 xk
  rw [ev] at c14 xv
  have HX : Hid (∀ w', Below w.heap.size w w' → IsEx w' (.slice ai r.iff.a.length ci) r.iff ∧ IsEx w' (.slice ak r.key.a.length ck) r.key ∧ IsEx w' (.slice av r.val.a.length cv) r.val) := fun w' hb => ⟨xi.lower hb, xk.lower hb, xv.lower hb⟩
  have hbw := hI.org
  replace c0 := cell_below c0 hbw
  replace c1 := cell_below c1 hbw
  replace c2 := cell_below c2 hbw
  replace c3 := cell_below c3 hbw
  replace c4 := cell_below c4 hbw
  replace c5 := cell_below c5 hbw
  replace c6 := cell_below c6 hbw
  replace c7 := cell_below c7 hbw
  replace c8 := cell_below c8 hbw
  replace c9 := cell_below c9 hbw
  replace c10 := cell_below c10 hbw
  replace c11 := cell_below c11 hbw
  replace c12 := cell_below c12 hbw
  replace c13 := cell_below c13 hbw
  replace c14 := cell_below c14 hbw
  obtain ⟨w4, hw4⟩ : ∃ w4, w4 = w0.alloc (.cells #[.bool r.each, .int .i64 r.when, .int .i64 r.iff.k, .int .i64 r.iff.n, .string (bs r.iff.s), .slice ai r.iff.a.length ci, .string (bs r.s), .int .i64 r.key.k, .int .i64 r.key.n, .string (bs r.key.s), .slice ak r.key.a.length ck, .int .i64 r.val.k, .int .i64 r.val.n, .string (bs r.val.s), .slice av r.val.a.length cv] 58) := ⟨_, rfl⟩
  obtain ⟨B, hB⟩ : ∃ B, B = w0.heap.size := ⟨_, rfl⟩
  have RU : Blk w4 B 58 (ruleCells r ai ak av ci ck cv) := by rw [hw4]; exact blk_new hB
  have hb4 : Below w0.heap.size w0 w4 := by rw [hw4]; exact below_box _
  have k0 := hI.job.at (i := 0) (v := .slice (some ⟨b, off, none⟩) rn rcap) rfl
  obtain ⟨w5, hw5⟩ : ∃ w5, w5 = w4.alloc (.cells #[.string ⟨#[]⟩] 9) := ⟨_, rfl⟩
  obtain ⟨T0, hT0⟩ : ∃ T0, T0 = w4.heap.size := ⟨_, rfl⟩
  have hb5 : Below w4.heap.size w4 w5 := by rw [hw5]; exact below_box _
  have hs4 : w4.heap.size = w0.heap.size + 1 := by rw [hw4]; simp
  have LIT : Hid (w5.ownsRow w.heap.size 9 1 (.slice (some ⟨T0, 0, none⟩) 1 1) 1 (strs [[]])) := by
    show World.ownsRow _ _ _ _ _ _ _
    rw [hw5, hT0]
    exact World.ownsRow_lit (base := w.heap.size) (size := 1) (e := 9) w4 #[.string ⟨#[]⟩] 1 (by have := hbw.size; omega) (by decide) rfl
  have P5 : Hid (Pk w w5 P B [.slice (some ⟨b, off, none⟩) rn rcap, .int .i64 fo, .bool eb, .int .i64 sl] (ruleCells r ai ak av ci ck cv) (.slice aa an ac) acc) := by
    have h := (HI.out.below hb4).below hb5
    exact ⟨h.org, h.row, h.job, RU.blw hb5⟩
  have RU5 := RU.blw hb5
  have each5 := RU5.at (i := 0) (v := .bool r.each) rfl
  have LK := Lib.hid (looks_its r fo line)
  rw [hs4] at hT0
  rw [hw4] at hw5
  have HW5 := Lib.hid hw5
  have HBB := Lib.hid hB
  have HT0 := Lib.hid hT0
  have HAN : Hid (an = acc.length) := by
    show _ = _
    rcases row_slice hI.row with ⟨h1, h2⟩ | ⟨g, c, h1, _⟩
    · injection h1 with _ h1 _; omega
    · injection h1 with _ h1 _
  have HORG := Lib.hid hbw
  obtain ⟨eb5, heb⟩ : ∃ x, x = r.each := ⟨_, rfl⟩
  rw [← heb] at each5 LK
  have HTN : Hid (∀ it, it ∈ wordsL line ∨ it = [] → RcIn (rc line it) 100000) := fun it h => by
    have h0 := rcIn_of line 100000 (by omega)
    rcases h with h | rfl
    · exact (rcIn_look (each := true) h0 (x := rc line it) (by unfold looksL; rw [if_pos rfl]; exact List.mem_map.2 ⟨it, h, rfl⟩)).1
    · exact h0
  have HWL : Hid ((wordsL line).length ≤ 90000) := Nat.le_trans (words_len line) (by omega)
  have WD : Hid (∀ w', Calls Tryz.prog 43 #[.string (bs line)] w' fun e w'' => ∃ a cap, e = .returned (.slice a (wordsL line).length cap) ∧ Hid (w''.ownsRow w'.heap.size 9 1 (.slice a (wordsL line).length cap) (wordsL line).length (strs (wordsL line))) ∧ Below w'.heap.size w' w'') := fun w' => rwords_own line w' (by omega)
  have HRN := Lib.hid hrn
  clear hI hw4 hw5 hB hT0 hb4 hb5 hs4 RU RU5 xi xk xv hc ha ei ek ev hbw heb hrn hil
  conv => arg 2; whnf
  go_upto_region 7 with fail
  rw [← HW5.out, ← HT0.out, ← HBB.out]
  clear HW5 c0 c1 c2 c3 c4 c5 c6 c7 c8 c9 c10 c11 c12 c13 c14 k0
  cases eb5 with
  | false =>
    clear WD
    go_upto_block 2 with fail
    refine wp_last (made_b2 w P B 1 1 an ac fo sl eb _ r ai ak av (some ⟨T0, 0, none⟩) aa ci ck cv line [[]] acc _ _ _ _ _ _ _ _ _ _ _ _ _ _ _ _ _ _ _ _ _ _ _ _ _ _ _ _ _ _ _ _ _ _ _ _ _ _ _ _ _ _ _ _ _ _ _ _ _ _ _ _ _ _ _ _ _ _ _ _ _ _ _ _ _ _ _ _ _ _ _ _ _ _ _ _ _ _ _ _ _ _ P5.out hal LIT.out rfl (by decide) HX hR (by omega) (fun it h => HTN.out it (.inr (List.mem_singleton.1 h))) ?_)
    refine Lib.hid ?_
    intro z9 z10 z11 z12 z30 z31 z32 z33 z34 z35 z36 z37 z38 z39 z40 z41 z42 z43 z44 z45 z46 z47 z48 z49 z50 z51 z52 z53 z54 z55 z56 z57 z58 z59 z60 z61 z62 z63 z64 z65 z66 z67 z68 z69 z70 z71 z72 z73 z74 z75 z76 z77 z78 z79 z80 z81 z82 z83 z84 v2 wx hIx
    refine HK.out _ _ _ _ _ _ _ _ _ _ _ _ _ _ _ _ _ _ _ _ _ _ _ _ _ _ _ _ _ _ _ _ _ _ _ _ _ _ _ _ _ _ _ _ _ _ _ _ _ _ _ _ _ _ _ _ _ _ _ _ _ _ _ _ _ _ _ _ _ _ _ v2 wx ?_
    rw [LK.out]
    exact hIx.q
  | true =>
    obtain ⟨nw, hnw⟩ : ∃ nw, nw = (wordsL line).length := ⟨_, rfl⟩
    rw [← hnw] at WD
    have HNW := Lib.hid hnw
    clear hnw
    go_wp2_with (go_at_call 43; refine Hid.out ?_)
    refine Lib.hid ?_
    refine (WD.out w5).mono ?_
    clear WD
    rintro _ w6 ⟨ta, tc, rfl, HTW, hb6⟩
    have P6 := Lib.hid (P5.out.below hb6)
    have HTL : Hid (w6.ownsRow w.heap.size 9 1 (.slice ta nw tc) nw (strs (wordsL line))) := ow_low HTW.out P5.out.org.size
    clear hb6 HTW each5
    go_upto_block 2 with fail
    refine wp_last (made_b2 w P B nw tc an ac fo sl eb _ r ai ak av ta aa ci ck cv line (wordsL line) acc _ _ _ _ _ _ _ _ _ _ _ _ _ _ _ _ _ _ _ _ _ _ _ _ _ _ _ _ _ _ _ _ _ _ _ _ _ _ _ _ _ _ _ _ _ _ _ _ _ _ _ _ _ _ _ _ _ _ _ _ _ _ _ _ _ _ _ _ _ _ _ _ _ _ _ _ _ _ _ _ _ _ P6.out hal HTL.out HNW.out HWL.out HX hR (by omega) (fun it h => HTN.out it (.inl h)) ?_)
    refine Lib.hid ?_
    intro z9 z10 z11 z12 z30 z31 z32 z33 z34 z35 z36 z37 z38 z39 z40 z41 z42 z43 z44 z45 z46 z47 z48 z49 z50 z51 z52 z53 z54 z55 z56 z57 z58 z59 z60 z61 z62 z63 z64 z65 z66 z67 z68 z69 z70 z71 z72 z73 z74 z75 z76 z77 z78 z79 z80 z81 z82 z83 z84 v2 wx hIx
    refine HK.out _ _ _ _ _ _ _ _ _ _ _ _ _ _ _ _ _ _ _ _ _ _ _ _ _ _ _ _ _ _ _ _ _ _ _ _ _ _ _ _ _ _ _ _ _ _ _ _ _ _ _ _ _ _ _ _ _ _ _ _ _ _ _ _ _ _ _ _ _ _ _ v2 wx ?_
    rw [LK.out]
    exact hIx.q
end Go.Proofs.YtmgpacenooncjaaGreatDoor
/- The document's pairs of a record. -/
namespace Go.Proofs.YtmgpacenooncjaaGreatDoor
open Go.ChangeShapes Go.WideShapes Go.ChangeAt Go.RowKit
set_option maxRecDepth 1000000 in
set_option maxHeartbeats 4000000 in
theorem pairsMade_any (j : Jb) (rv : Value) (line : List UInt8) (w : World) (h : IsRules w rv j.rules) (hf : jobFault j = 0) (hline : line.length ≤ 80000) :
    Calls Tryz.prog 16 #[j.value rv, .string (bs line)] w fun e w' => ∃ u, e = .returned u ∧ w'.ownsRow w.heap.size 67 2 u (rulesP j.rules j.fold line).length (Pp.cellsP (rulesP j.rules j.fold line)) ∧ Below w.heap.size w w' := by
  obtain ⟨hl1, hl4, -, -, -, -, hrf⟩ := jobFault_parts hf
  have HRF := Lib.hid (rulesFault_all hrf)
  clear hf hrf
  obtain ⟨l, fo, eb, sl⟩ := j
  simp only [Jb.value] at *
  obtain ⟨a, cap, rfl⟩ := h.slice
  obtain ⟨n, hn⟩ : ∃ n, n = l.length := ⟨_, rfl⟩
  rw [← hn] at h hl1 hl4 ⊢
  have HRS : Hid (∀ w', Below w.heap.size w w' → IsRules w' (.slice a n cap) l) := fun w' hb => h.lower hb
  have HN := Lib.hid hn
  clear h hn
  go_enter Tryz.func16, Tryz.ntmps16
  obtain ⟨w1, hw1⟩ : ∃ w1, w1 = w.alloc (.cells #[.slice a n cap, .int .i64 fo, .bool eb, .int .i64 sl] 24) := ⟨_, rfl⟩
  obtain ⟨P, hP⟩ : ∃ P, P = w.heap.size := ⟨_, rfl⟩
  have M0 : Hid (Qk w w1 P [.slice a n cap, .int .i64 fo, .bool eb, .int .i64 sl] (.slice none 0 0) (rulesP (l.take 0) fo line)) := by
    show Qk _ _ _ _ _ _
    rw [hw1]
    exact ⟨below_box _, World.ownsRow_nil _ _ _ _, blk_new hP⟩
  have HW1 := Lib.hid hw1
  have HPP := Lib.hid hP
  clear hw1 hP
  go_upto_block 0 with fail
  rw [← HW1.out, ← HPP.out]
  clear HW1 HPP
  go_wp2_with fail
  go_loopg [5, 6] n (fun gg lv iv wr => ∃ i : Nat, gg = n - i ∧ i ≤ n ∧ iv = .int .i64 i ∧ Hid (Qk w wr P [.slice a n cap, .int .i64 fo, .bool eb, .int .i64 sl] lv (rulesP (l.take i) fo line)))
  case atStart => exact ⟨0, rfl, Nat.zero_le _, rfl, M0⟩
  case round =>
    clear M0
    obtain ⟨i, hgi, hi, rfl, HM⟩ := hrel
    have HGI := Lib.hid hgi
    clear hgi
    have k0 := HM.out.job.at (i := 0) (v := .slice a n cap) rfl
    by_cases hlt : i < n
    · obtain ⟨r, hr⟩ : ∃ r, l[i]? = some r := ⟨l[i]'(by have := HN.out; omega), by simp⟩
      have HR := Lib.hid (rlIn_of (HRF.out r (List.mem_of_getElem? hr)))
      have HRR := Lib.hid hr
      have HRP : Hid (rulesP (l.take (i + 1)) fo line = rulesP (l.take i) fo line ++ ruleP r fo (ofL line)) := by
        show _ = _
        rw [take_snoc hr, rulesP_append, rulesP_one]
      have HAL : Hid ((rulesP (l.take i) fo line).length ≤ 400004) := by
        show _ ≤ _
        have h1 := rulesP_len (l.take i) fo line
        have h2 : (l.take i).length ≤ 4 := by rw [List.length_take]; omega
        have h3 := Nat.mul_le_mul h2 (show line.length + 1 ≤ 80001 by omega)
        omega
      clear hr
      generalize rulesP (l.take i) fo line = acc at *
      obtain ⟨aa, ac, e⟩ : ∃ a c, u5 = .slice a acc.length c := by
        rcases row_slice HM.out.row with ⟨h1, h2⟩ | ⟨g, c, h1, _⟩
        · exact ⟨none, 0, by rw [h1, h2]⟩
        · exact ⟨_, c, h1⟩
      subst e
      obtain ⟨an, han⟩ : ∃ n, n = acc.length := ⟨_, rfl⟩
      rw [← han] at HM
      rw [← han]
      clear han
      go_upto_block 1 with fail
      refine wp_norm (made_b1 w P i n cap an ac fo sl eb r a aa l line acc _ _ _ _ _ _ _ _ _ _ _ _ _ _ _ _ _ _ _ _ _ _ _ _ _ _ _ _ _ _ _ _ _ _ _ _ _ _ _ _ _ _ _ _ _ _ _ _ _ _ _ _ _ _ _ _ _ _ _ _ _ _ _ _ _ _ _ _ _ _ _ _ _ _ _ _ _ _ _ _ _ _ _ _ HM.out HAL.out HRR.out HN.out HRS HR hline ?_)
      refine Lib.hid ?_
      intro z7 z8 z9 z10 z11 z12 z20 z21 z22 z23 z24 z25 z26 z27 z28 z29 z30 z31 z32 z33 z34 z35 z36 z37 z38 z39 z40 z41 z42 z43 z44 z45 z46 z47 z48 z49 z50 z51 z52 z53 z54 z55 z56 z57 z58 z59 z60 z61 z62 z63 z64 z65 z66 z67 z68 z69 z70 z71 z72 z73 z74 z75 z76 z77 z78 z79 z80 z81 z82 z83 z84 v2 wx hIx
      have HIX := Lib.hid hIx
      clear hIx HM k0
      go_wp2
      go_roundg (n - (i + 1))
      case measure => have := HGI.out; omega
      case rel => exact ⟨i + 1, rfl, hlt, by go_num, by rw [HRP.out]; exact HIX.out⟩
    · have HF : Hid (Qk w wr P [.slice a n cap, .int .i64 fo, .bool eb, .int .i64 sl] u5 (rulesP l fo line)) := by
        have h := HM.out
        rw [List.take_of_length_le (by have := HN.out; omega)] at h
        exact h
      clear HM
      go_wp2
      go_ret
      exact ⟨_, rfl, HF.out.row, HF.out.org⟩
end Go.Proofs.YtmgpacenooncjaaGreatDoor
/- Mapping: a record. Written by tpl/mk_mp.py. -/
namespace Go.Proofs.YtmgpacenooncjaaGreatDoor
open Go.ChangeShapes Go.WideShapes Go.ChangeAt Go.RowKit
set_option maxRecDepth 1000000 in
set_option maxHeartbeats 4000000 in
theorem map_b3 (w : World) (P B R d a a1 an pn ns ln lc rn rc lb loff : Nat) (fo : Int) (ea : Bool) (l : List Rl) (ra : Option Addr) (rv lv mv av : Value) (lines : List (List UInt8)) (x : List UInt8) (L : List (ByteArray × Int)) (w0 : World) (K : Act → World → Prop) (s0 s1 s3 s4 s6 s7 s8 s9 s10 s11 s12 s13 s14 s17 s18 s19 s20 s21 s22 s23 s24 s25 s26 s27 s28 s29 s30 s31 s32 s33 s34 s35 s36 s37 s38 s39 s40 s41 s42 s43 s44 s45 s46 s47 s48 s49 s50 s51 s52 s53 s54 s55 s56 s57 s58 s59 s60 s61 s62 s63 s64 s65 s66 s67 s68 s69 s70 s71 s72 s73 s74 s75 s76 s77 s78 s79 s80 s81 s82 s83 s84 s85 s86 s87 s88 s89 s90 s91 s92 s93 s94 s95 s96 s97 s98 s99 s100 s101 s102 s103 s104 s105 s106 s107 s108 s109 s110 s111 s112 s113 s114 s115 s116 s117 s118 s119 s120 s121 s122 s123 s124 s125 s126 s127 s128 s129 s130 s131 s132 s133 s134 s135 s136 s137 s138 s139 s140 s141 s142 s143 s144 s145 s146 s147 s148 s149 s150 s151 s152 s153 s154 s155 s156 s157 s158 s159 s160 s161 s162 s163 s164 s165 s166 s167 s168 s169 s170 s171 s172 s173 s174 s175 s176 s177 s178 s179 s180 s181 s182 s183 s184 s185 s186 s187 s188 s189 s190 s191 s192 s193 s194 s195 : Value)
    (HE : Hid (∀ w', Below w.heap.size w w' → EnvS w'))
    (HR : Hid (∀ w', Below w.heap.size w w' → IsRules w' (.slice ra rn rc) l))
    (HWT : Hid (rulesWt l ≤ 1000000000))
    (HV : Hid (∀ w', Below w.heap.size w w' → IsTexts w' (.slice (some ⟨lb, loff, none⟩) ln lc) (lines.map bs)))
    (hln : Hid (ln = lines.length))
    (hJ : Hid (jobFault ⟨l, fo, ea, (ns : Int)⟩ = 0))
    (hLO : Hid (∀ x ∈ lines, x.length ≤ 150))
    (h60 : ln ≤ 60)
    (hM : MA w w0 P B R [.slice ra rn rc, .int .i64 fo, .bool ea, .int .i64 (ns : Int)] ⟨l, fo, ea, (ns : Int)⟩ rv lv mv lines d av a)
    (hx : Hid (lines[a]? = some x))
    (hL : Hid (L = rulesP l fo x))
    (hpn : Hid (pn = L.length))
    (han : Hid (an = (madeOf ⟨l, fo, ea, (ns : Int)⟩ (lines.take a)).length))
    (haln : a < ln)
    (ha1 : (a : Int) + 1 = (a1 : Int))
    (ha1n : Hid (a1 = a + 1))
    (HK : Hid (∀ (z8 z20 z123 z124 z125 z126 z127 z128 z129 z130 z131 z132 z133 z134 z135 z136 z137 z138 z139 z140 z141 z142 : Value) (av' : Value) (wx : World), MA w wx P B R [.slice ra rn rc, .int .i64 fo, .bool ea, .int .i64 (ns : Int)] ⟨l, fo, ea, (ns : Int)⟩ rv lv mv lines d av' a1 → K ⟨#[s0, s1, .slice (some ⟨lb, loff, none⟩) ln lc, s3, s4, .pointer (some ⟨P, 0, none⟩), s6, s7, z8, s9, s10, s11, s12, s13, s14, av', .int .i64 (a1 : Int), s17, s18, s19, z20, s21, s22, s23, s24, s25, s26, s27, s28, s29, s30, s31, s32, s33, s34, s35, s36, s37, s38, s39, s40, s41, s42, s43, s44, s45, s46, s47, s48, s49, s50, s51, s52, s53, s54, s55, s56, s57, s58, s59, s60, s61, s62, s63, s64, s65, s66, s67, s68, s69, s70, s71, s72, s73, s74, s75, s76, s77, s78, s79, s80, s81, s82, s83, s84, s85, s86, s87, s88, s89, s90, s91, s92, s93, s94, s95, s96, s97, s98, s99, s100, s101, s102, s103, s104, s105, s106, s107, s108, s109, s110, s111, s112, s113, s114, s115, s116, s117, s118, s119, s120, s121, s122, z123, z124, z125, z126, z127, z128, z129, z130, z131, z132, z133, z134, z135, z136, z137, z138, z139, z140, z141, z142, s143, s144, s145, s146, s147, s148, s149, s150, s151, s152, s153, s154, s155, s156, s157, s158, s159, s160, s161, s162, s163, s164, s165, s166, s167, s168, s169, s170, s171, s172, s173, s174, s175, s176, s177, s178, s179, s180, s181, s182, s183, s184, s185, s186, s187, s188, s189, s190, s191, s192, s193, s194, s195], []⟩ wx)) :
    Code.wp Tryz.prog (pieceIn Tryz.f3.body 3) (Exit.then K fun _ _ _ => False) ⟨#[s0, s1, .slice (some ⟨lb, loff, none⟩) ln lc, s3, s4, .pointer (some ⟨P, 0, none⟩), s6, s7, s8, s9, s10, s11, s12, s13, s14, av, .int .i64 (a : Int), s17, s18, s19, s20, s21, s22, s23, s24, s25, s26, s27, s28, s29, s30, s31, s32, s33, s34, s35, s36, s37, s38, s39, s40, s41, s42, s43, s44, s45, s46, s47, s48, s49, s50, s51, s52, s53, s54, s55, s56, s57, s58, s59, s60, s61, s62, s63, s64, s65, s66, s67, s68, s69, s70, s71, s72, s73, s74, s75, s76, s77, s78, s79, s80, s81, s82, s83, s84, s85, s86, s87, s88, s89, s90, s91, s92, s93, s94, s95, s96, s97, s98, s99, s100, s101, s102, s103, s104, s105, s106, s107, s108, s109, s110, s111, s112, s113, s114, s115, s116, s117, s118, s119, s120, s121, s122, s123, s124, s125, s126, s127, s128, s129, s130, s131, s132, s133, s134, s135, s136, s137, s138, s139, s140, s141, s142, s143, s144, s145, s146, s147, s148, s149, s150, s151, s152, s153, s154, s155, s156, s157, s158, s159, s160, s161, s162, s163, s164, s165, s166, s167, s168, s169, s170, s171, s172, s173, s174, s175, s176, s177, s178, s179, s180, s181, s182, s183, s184, s185, s186, s187, s188, s189, s190, s191, s192, s193, s194, s195], []⟩ w0 := by
  have HM := Lib.hid hM
  have hw1 : IntKind.i64.wrap (a1 : Int) = (a1 : Int) := by rw [IntKind.wrap_i64]; omega
  have HX0 : Hid (∀ w', Below w0.heap.size w0 w' → w'.cell? ⟨lb, loff + a, none⟩ = some (.string (bs x))) := fun w' hb => by
    have h := HV.out w' (HM.out.org.trans (hb.mono HM.out.org.size))
    rw [hln.out] at h
    obtain ⟨lb', loff', e, x0⟩ := texts_get h a x hx.out
    injection e with e
    injection e with e1 e2
    rw [e1, e2]
    exact x0
  have hxm : x ∈ lines := List.mem_of_getElem? hx.out
  have hxl := hLO.out x hxm
  have PM : Hid (∀ w', Below w0.heap.size w0 w' → Calls Tryz.prog 16 #[.agg #[.slice ra rn rc, .int .i64 fo, .bool ea, .int .i64 (ns : Int)], .string (bs x)] w' fun e w'' => ∃ ua uc, e = .returned (.slice ua pn uc) ∧ Hid (Pp.IsPairs w'' (.slice ua pn uc) L) ∧ Below w0.heap.size w0 w'') := fun w' hb => by
    refine (pairsMade_any ⟨l, fo, ea, (ns : Int)⟩ (.slice ra rn rc) x w' (HR.out w' (HM.out.org.trans (hb.mono HM.out.org.size))) hJ.out (by omega)).mono ?_
    rintro e w'' ⟨u, rfl, h1, h2⟩
    simp only at h1
    rw [← hL.out, ← hpn.out] at h1
    have h3 := Pp.owns_isPairs (by rw [← hpn.out]; exact h1 : w''.ownsRow w'.heap.size 67 2 u L.length (Pp.cellsP L))
    obtain ⟨ua, uc, e2, -⟩ := id h3
    rw [← hpn.out] at e2
    subst e2
    exact ⟨ua, uc, rfl, h3, below_trans hb h2⟩
  have hn6 : lines.length ≤ 60 := by rw [← hln.out]; exact h60
  have HLEN : Hid (∀ d, (madeOf ⟨l, fo, ea, (ns : Int)⟩ (lines.take d)).length ≤ 59999) := fun d => made_take_len2 hJ.out hLO.out hn6 d
  have HPLUS : Hid (madeOf ⟨l, fo, ea, (ns : Int)⟩ (lines.take a1) = madeOf ⟨l, fo, ea, (ns : Int)⟩ (lines.take a) ++ L) := by
    show _ = _
    rw [ha1n.out, take_snoc hx.out, madeOf_append, hL.out]
    simp [madeOf]
  have hLL : L.length ≤ 59999 := by
    have h := HLEN.out a1
    rw [HPLUS.out, List.length_append] at h
    omega
  have SPR : Hid (∀ u v w', Pp.IsPairs w' u L → Pp.IsPairs w' v L → Below w0.heap.size w0 w' → Calls Tryz.prog 17 #[u, v] w' fun e w'' => e = .returned (.bool true) ∧ Below w0.heap.size w0 w'' ∧ Below w'.heap.size w' w'') := fun u v w' h1 h2 hb => by
    refine (Pp.samePairs_any u v L L w' h1 h2 (by unfold maxLen; omega)).mono ?_
    rintro e w'' ⟨rfl, n, rfl⟩
    exact ⟨by simp, below_trans hb (below_drewN _ _), below_drewN _ _⟩
  have c0 := hM.job.at (i := 0) (v := .slice ra rn rc) rfl
  have c1 := hM.job.at (i := 1) (v := .int .i64 fo) rfl
  have c2 := hM.job.at (i := 2) (v := .bool ea) rfl
  have c3 := hM.job.at (i := 3) (v := .int .i64 (ns : Int)) rfl
  have x0 := HX0.out w0 (Below.refl _ _)
  have C0 := Lib.hid c0
  have C1 := Lib.hid c1
  have C2 := Lib.hid c2
  have C3 := Lib.hid c3
  have HML := HLEN.out a
  rw [← han.out] at HML
  have HLL := Lib.hid hLL
  have HXL := Lib.hid hxl
  clear hM hxm hxl hLL
  have hai : (a : Int) < (ln : Int) := by omega
  have hb00 : Below w0.heap.size w0 w0.drew := ⟨rfl, rfl, rfl, Nat.le_refl _, fun _ _ => rfl⟩
  conv => arg 2; whnf
  go_upto_region 25 with fail
  go_region_held3 (fun w' => Below w0.heap.size w0 w' ∧ w'.cell? ⟨P, 0, none⟩ = some (.slice ra rn rc) ∧ w'.cell? ⟨P, 1, none⟩ = some (.int .i64 fo) ∧ w'.cell? ⟨P, 2, none⟩ = some (.bool ea) ∧ w'.cell? ⟨P, 3, none⟩ = some (.int .i64 (ns : Int)) ∧ w'.cell? ⟨lb, loff + a, none⟩ = some (.string (bs x)))
    (refine ⟨?_, ?_, ?_, ?_, ?_, ?_⟩ <;> first | assumption | exact Below.refl _ _ | exact Pp.blw_drew (Below.refl _ _) | exact Pp.blw_drew (by assumption) | exact cell_below C0.out (by assumption) | exact cell_below C1.out (by assumption) | exact cell_below C2.out (by assumption) | exact cell_below C3.out (by assumption) | exact HX0.out _ (by assumption))
    (first
      | (go_at_call 16; refine (PM.out _ (by assumption)).mono ?_; rintro _ w1 ⟨ua, uc, rfl, HU, hb1⟩))
  (try simp only [Exit.then])
  rename_i hheld1
  have HB1 : Hid (Below w0.heap.size w0 w1) := hb1
  have HPU : Hid (∀ w', Below w1.heap.size w1 w' → Pp.IsPairs w' (.slice ua pn uc) L) := fun w' hb => Pp.isPairs_below HU.out hb
  clear hheld1 hb00 c0 c1 c2 c3 x0 PM
  have c0 := cell_below C0.out hb1
  have c1 := cell_below C1.out hb1
  have c2 := cell_below C2.out hb1
  have c3 := cell_below C3.out hb1
  have x0 := HX0.out w1 hb1
  clear hb1
  have MP1 : Hid (∀ w', Below w1.heap.size w1 w' → Calls Tryz.prog 18 #[.agg #[.slice ra rn rc, .int .i64 fo, .bool ea, .int .i64 (ns : Int)], .string (bs x)] w' fun e w'' => ∃ ua uc, e = .returned (.slice ua pn uc) ∧ Hid (Pp.IsPairs w'' (.slice ua pn uc) L) ∧ Below w1.heap.size w1 w'') := fun w' hb => by
    have hbw := HM.out.org.trans ((below_trans HB1.out hb).mono HM.out.org.size)
    refine (pairs_any ⟨l, fo, ea, (ns : Int)⟩ (.slice ra rn rc) x w' (HR.out w' hbw) HWT.out hJ.out (by have := HXL.out; omega) (HE.out w' hbw)).mono ?_
    rintro e w'' ⟨u, rfl, h1, h2⟩
    simp only at h1
    rw [← hL.out, ← hpn.out] at h1
    have h3 := Pp.owns_isPairs (by rw [← hpn.out]; exact h1 : w''.ownsRow w'.heap.size 67 2 u L.length (Pp.cellsP L))
    obtain ⟨ua, uc, e2, -⟩ := id h3
    rw [← hpn.out] at e2
    subst e2
    exact ⟨ua, uc, rfl, h3, below_trans hb h2⟩
  have SP1 : Hid (∀ va vc w', Hid (Pp.IsPairs w' (.slice va pn vc) L) → Below w1.heap.size w1 w' → Calls Tryz.prog 17 #[.slice va pn vc, .slice ua pn uc] w' fun e w'' => e = .returned (.bool true) ∧ Below w1.heap.size w1 w'') := fun va vc w' h hb => by
    refine (SPR.out _ _ w' h.out (HPU.out w' hb) (below_trans HB1.out hb)).mono ?_
    rintro e w'' ⟨rfl, -, h2⟩
    exact ⟨rfl, below_trans hb h2⟩
  have hb00 : Below w1.heap.size w1 w1.drew := ⟨rfl, rfl, rfl, Nat.le_refl _, fun _ _ => rfl⟩
  go_upto_region 26 with fail
  go_region_held3 (fun w' => Below w1.heap.size w1 w' ∧ w'.cell? ⟨P, 0, none⟩ = some (.slice ra rn rc) ∧ w'.cell? ⟨P, 1, none⟩ = some (.int .i64 fo) ∧ w'.cell? ⟨P, 2, none⟩ = some (.bool ea) ∧ w'.cell? ⟨P, 3, none⟩ = some (.int .i64 (ns : Int)) ∧ w'.cell? ⟨lb, loff + a, none⟩ = some (.string (bs x)))
    (refine ⟨?_, ?_, ?_, ?_, ?_, ?_⟩ <;> first | assumption | exact Below.refl _ _ | exact cell_below C0.out (below_trans HB1.out (by assumption)) | exact cell_below C1.out (below_trans HB1.out (by assumption)) | exact cell_below C2.out (below_trans HB1.out (by assumption)) | exact cell_below C3.out (below_trans HB1.out (by assumption)) | exact HX0.out _ (below_trans HB1.out (by assumption)))
    (first
      | (go_at_call 18; refine (MP1.out _ (by assumption)).mono ?_; rintro _ w2 ⟨va, vc, rfl, HU2, hb2⟩)
      | (go_at_call 17; refine (SP1.out _ _ _ HU2 (by assumption)).mono ?_; rintro _ w3 ⟨rfl, hb3⟩))
  (try simp only [Exit.then])
  rename_i hheld3
  have I3 := Lib.hid (HM.out.below (below_trans HB1.out hb3))
  have IP3 := Lib.hid (HPU.out w3 hb3)
  obtain ⟨N, hN⟩ : ∃ N, N = an + pn := ⟨_, rfl⟩
  have HN := Lib.hid hN
  clear hheld3 hb00 c0 c1 c2 c3 x0 MP1 SP1 hb2 HU2 hb3 hN
  go_wp2_with (at_builtin; refine Hid.out ?_)
  refine Lib.hid ?_
  refine wpList_append_prs rfl (.tmp 138) (.tmp 139) rfl (base := w.heap.size) (n := an) (v := av) (xv := .slice ua pn uc) (A := madeOf ⟨l, fo, ea, (ns : Int)⟩ (lines.take a)) (B := L) rfl (by rw [han.out]; exact I3.out.all) han.out rfl IP3.out (by have h1 := HML; have h2 := HLL.out; have h3 := han.out; omega) I3.out.org.size (N := N) (by rw [List.length_append, HN.out, han.out, hpn.out]) ?_
  intro aa ac w6 hown6 hg6 hat6
  have M6 : Hid (MA w w6 P B R [.slice ra rn rc, .int .i64 fo, .bool ea, .int .i64 (ns : Int)] ⟨l, fo, ea, (ns : Int)⟩ rv lv mv lines d (.slice aa N ac) a1) := I3.out.grow (by rw [HPLUS.out, List.length_append, ← han.out, ← hpn.out, ← HN.out]; exact hown6) hg6 (by rcases hat6 with h | h; exact .inl h; exact .inr (.inr ⟨_, h, Nat.le_refl _⟩))
  clear hown6 hg6 hat6 I3 IP3 HPU
  go_wp2
  exact HK.out _ _ _ _ _ _ _ _ _ _ _ _ _ _ _ _ _ _ _ _ _ _ _ w6 M6.out
end Go.Proofs.YtmgpacenooncjaaGreatDoor
/- Mapping: the records of a step. Written by tpl/mk_mp.py. -/
namespace Go.Proofs.YtmgpacenooncjaaGreatDoor
open Go.ChangeShapes Go.WideShapes Go.ChangeAt Go.RowKit
set_option maxRecDepth 1000000 in
set_option maxHeartbeats 4000000 in
theorem map_b2 (w : World) (P B R d a0 ns ln lc rn rc sb soff sn sc i : Nat) (nn fo : Int) (ea : Bool) (l : List Rl) (ra la : Option Addr) (rv lv mv av : Value) (lines : List (List UInt8)) (w0 : World) (K : Act → World → Prop) (s0 s1 s4 s6 s7 s8 s9 s10 s11 s12 s13 s14 s18 s20 s21 s22 s23 s24 s25 s26 s27 s28 s29 s30 s31 s32 s33 s34 s35 s36 s37 s38 s39 s40 s41 s42 s43 s44 s45 s46 s47 s48 s49 s50 s51 s52 s53 s54 s55 s56 s57 s58 s59 s60 s61 s62 s63 s64 s65 s66 s67 s68 s69 s70 s71 s72 s73 s74 s75 s76 s77 s78 s79 s80 s81 s82 s83 s84 s85 s86 s87 s88 s89 s90 s91 s92 s93 s94 s95 s96 s97 s98 s99 s100 s101 s102 s103 s104 s105 s106 s107 s108 s109 s110 s111 s112 s113 s114 s115 s116 s117 s118 s119 s120 s121 s122 s123 s124 s125 s126 s127 s128 s129 s130 s131 s132 s133 s134 s135 s136 s137 s138 s139 s140 s141 s142 s143 s144 s145 s146 s147 s148 s149 s150 s151 s152 s153 s154 s155 s156 s157 s158 s159 s160 s161 s162 s163 s164 s165 s166 s167 s168 s169 s170 s171 s172 s173 s174 s175 s176 s177 s178 s179 s180 s181 s182 s183 s184 s185 s186 s187 s188 s189 s190 s191 s192 s193 s194 s195 : Value)
    (HE : Hid (∀ w', Below w.heap.size w w' → EnvS w'))
    (HR : Hid (∀ w', Below w.heap.size w w' → IsRules w' (.slice ra rn rc) l))
    (HWT : Hid (rulesWt l ≤ 1000000000))
    (HV : Hid (∀ w', Below w.heap.size w w' → IsTexts w' (.slice la ln lc) (lines.map bs)))
    (hln : Hid (ln = lines.length))
    (hJ : Hid (jobFault ⟨l, fo, ea, (ns : Int)⟩ = 0))
    (hLO : Hid (∀ x ∈ lines, x.length ≤ 150))
    (h60 : ln ≤ 60)
    (hM : MA w w0 P B R [.slice ra rn rc, .int .i64 fo, .bool ea, .int .i64 (ns : Int)] ⟨l, fo, ea, (ns : Int)⟩ rv lv mv lines d av a0)
    (hst : Hid (∀ w', Below w.heap.size w w' → w'.cell? ⟨sb, soff + i, none⟩ = some (.int .i64 nn)))
    (his : i < sn)
    (hi30 : i < 30)
    (hd : Hid (d = a0 + min nn.toNat (ln - a0)))
    (ha0 : a0 ≤ ln)
    (HK : Hid (∀ (z8 z19 z20 z109 z110 z111 z112 z113 z114 z115 z116 z117 z118 z119 z120 z121 z122 z123 z124 z125 z126 z127 z128 z129 z130 z131 z132 z133 z134 z135 z136 z137 z138 z139 z140 z141 z142 : Value) (av' : Value) (wx : World), MA w wx P B R [.slice ra rn rc, .int .i64 fo, .bool ea, .int .i64 (ns : Int)] ⟨l, fo, ea, (ns : Int)⟩ rv lv mv lines d av' d → K ⟨#[s0, s1, .slice la ln lc, .slice (some ⟨sb, soff, none⟩) sn sc, s4, .pointer (some ⟨P, 0, none⟩), s6, s7, z8, s9, s10, s11, s12, s13, s14, av', .int .i64 (d : Int), .int .i64 (i : Int), s18, z19, z20, s21, s22, s23, s24, s25, s26, s27, s28, s29, s30, s31, s32, s33, s34, s35, s36, s37, s38, s39, s40, s41, s42, s43, s44, s45, s46, s47, s48, s49, s50, s51, s52, s53, s54, s55, s56, s57, s58, s59, s60, s61, s62, s63, s64, s65, s66, s67, s68, s69, s70, s71, s72, s73, s74, s75, s76, s77, s78, s79, s80, s81, s82, s83, s84, s85, s86, s87, s88, s89, s90, s91, s92, s93, s94, s95, s96, s97, s98, s99, s100, s101, s102, s103, s104, s105, s106, s107, s108, z109, z110, z111, z112, z113, z114, z115, z116, z117, z118, z119, z120, z121, z122, z123, z124, z125, z126, z127, z128, z129, z130, z131, z132, z133, z134, z135, z136, z137, z138, z139, z140, z141, z142, s143, s144, s145, s146, s147, s148, s149, s150, s151, s152, s153, s154, s155, s156, s157, s158, s159, s160, s161, s162, s163, s164, s165, s166, s167, s168, s169, s170, s171, s172, s173, s174, s175, s176, s177, s178, s179, s180, s181, s182, s183, s184, s185, s186, s187, s188, s189, s190, s191, s192, s193, s194, s195], []⟩ wx)) :
    Code.wp Tryz.prog (pieceIn Tryz.f3.body 2) (Exit.then K fun _ _ _ => False) ⟨#[s0, s1, .slice la ln lc, .slice (some ⟨sb, soff, none⟩) sn sc, s4, .pointer (some ⟨P, 0, none⟩), s6, s7, s8, s9, s10, s11, s12, s13, s14, av, .int .i64 (a0 : Int), .int .i64 (i : Int), s18, .int .i64 0, s20, s21, s22, s23, s24, s25, s26, s27, s28, s29, s30, s31, s32, s33, s34, s35, s36, s37, s38, s39, s40, s41, s42, s43, s44, s45, s46, s47, s48, s49, s50, s51, s52, s53, s54, s55, s56, s57, s58, s59, s60, s61, s62, s63, s64, s65, s66, s67, s68, s69, s70, s71, s72, s73, s74, s75, s76, s77, s78, s79, s80, s81, s82, s83, s84, s85, s86, s87, s88, s89, s90, s91, s92, s93, s94, s95, s96, s97, s98, s99, s100, s101, s102, s103, s104, s105, s106, s107, s108, s109, s110, s111, s112, s113, s114, s115, s116, s117, s118, s119, s120, s121, s122, s123, s124, s125, s126, s127, s128, s129, s130, s131, s132, s133, s134, s135, s136, s137, s138, s139, s140, s141, s142, s143, s144, s145, s146, s147, s148, s149, s150, s151, s152, s153, s154, s155, s156, s157, s158, s159, s160, s161, s162, s163, s164, s165, s166, s167, s168, s169, s170, s171, s172, s173, s174, s175, s176, s177, s178, s179, s180, s181, s182, s183, s184, s185, s186, s187, s188, s189, s190, s191, s192, s193, s194, s195], []⟩ w0 := by
  have HM0 : Hid (MA w w0 P B R [.slice ra rn rc, .int .i64 fo, .bool ea, .int .i64 (ns : Int)] ⟨l, fo, ea, (ns : Int)⟩ rv lv mv lines d av a0) := hM
  have HI30 := Lib.hid hi30
  clear hM hi30
  have hiI : (i : Int) < (sn : Int) := by omega
  conv => arg 2; whnf
  go_wp2_with fail
  go_loopg [15, 16, 19] (d - a0) (fun gg bv cv kv wr => ∃ (k a : Nat), gg = d - a ∧ k ≤ 60 ∧ a ≤ d ∧ cv = .int .i64 a ∧ kv = .int .i64 k ∧ Hid (a = a0 + k) ∧ Hid (MA w wr P B R [.slice ra rn rc, .int .i64 fo, .bool ea, .int .i64 (ns : Int)] ⟨l, fo, ea, (ns : Int)⟩ rv lv mv lines d bv a))
  case atStart => exact ⟨0, a0, rfl, by omega, by have := hd.out; omega, rfl, rfl, (show a0 = a0 + 0 from rfl), HM0⟩
  case round =>
    clear HM0
    obtain ⟨k, a, hga, hk, had, rfl, rfl, HAK, HM⟩ := hrel
    have HGA := Lib.hid hga
    clear hga
    have s0c := hst.out wr HM.out.org
    have hdl : d ≤ ln := by have := hd.out; omega
    by_cases hlt : a < d
    · have haln : a < ln := by omega
      have hkn : (k : Int) < nn := by have h1 := hd.out; have h2 := HAK.out; omega
      have hk60 : k + 1 ≤ 60 := by have h2 := HAK.out; omega
      have g1 : decide ((k : Int) < nn) = true := decide_eq_true hkn
      have g2 : decide ((a : Int) < (ln : Int)) = true := decide_eq_true (by omega)
      obtain ⟨x, hx⟩ : ∃ x, lines[a]? = some x := ⟨lines[a]'(by rw [← hln.out]; exact haln), by simp⟩
      obtain ⟨lb, loff, rfl⟩ : ∃ lb loff, la = some ⟨lb, loff, none⟩ := by
        have h := HV.out wr HM.out.org
        rw [hln.out] at h
        obtain ⟨lb, loff, e, _⟩ := texts_get h a x hx
        exact ⟨lb, loff, e⟩
      obtain ⟨a1, ha1n⟩ : ∃ a1, a1 = a + 1 := ⟨_, rfl⟩
      have ha1 : (a : Int) + 1 = (a1 : Int) := by omega
      have hadn : a1 ≤ d := by omega
      have HADN := Lib.hid hadn
      have HX := Lib.hid hx
      have HA1 := Lib.hid ha1n
      have HLT := Lib.hid hlt
      have HK60 := Lib.hid hk60
      have HHA := Lib.hid ha1
      have HALN := Lib.hid haln
      clear hx ha1n ha1 hlt hk60 haln hadn
      go_upto_block 3 with fail
      refine wp_norm (map_b3 w P B R d a a1 _ _ ns ln lc rn rc lb loff fo ea l ra rv lv mv _ lines x _ _ _ _ _ _ _ _ _ _ _ _ _ _ _ _ _ _ _ _ _ _ _ _ _ _ _ _ _ _ _ _ _ _ _ _ _ _ _ _ _ _ _ _ _ _ _ _ _ _ _ _ _ _ _ _ _ _ _ _ _ _ _ _ _ _ _ _ _ _ _ _ _ _ _ _ _ _ _ _ _ _ _ _ _ _ _ _ _ _ _ _ _ _ _ _ _ _ _ _ _ _ _ _ _ _ _ _ _ _ _ _ _ _ _ _ _ _ _ _ _ _ _ _ _ _ _ _ _ _ _ _ _ _ _ _ _ _ _ _ _ _ _ _ _ _ _ _ _ _ _ _ _ _ _ _ _ _ _ _ _ _ _ _ _ _ _ _ _ _ _ _ _ _ _ _ _ _ _ _ _ _ _ _ _ _ _ _ _ _ _ _ _ _ _ HE HR HWT HV hln hJ hLO h60 HM.out HX (Lib.hid rfl) (Lib.hid rfl) (Lib.hid rfl) HALN.out HHA.out HA1 ?_)
      refine Lib.hid ?_
      intro z8 z20 z123 z124 z125 z126 z127 z128 z129 z130 z131 z132 z133 z134 z135 z136 z137 z138 z139 z140 z141 z142 av' wx hMx
      have HMX := Lib.hid hMx
      clear hMx HM s0c g1 g2
      go_wp2
      go_roundg (d - a1)
      case measure => have h1 := HGA.out; have h2 := HLT.out; have h3 := HA1.out; omega
      case rel => exact ⟨k + 1, a1, rfl, HK60.out, HADN.out, rfl, by have := HK60.out; go_num, (by show a1 = a0 + (k + 1); rw [HA1.out, HAK.out]; rfl), HMX⟩
    · have e : a = d := by omega
      subst e
      by_cases hkn : (k : Int) < nn
      · have hal : (a : Int) = (ln : Int) := by have h1 := hd.out; have h2 := HAK.out; omega
        have g1 : decide ((k : Int) < nn) = true := decide_eq_true hkn
        have g2 : decide ((a : Int) < (ln : Int)) = false := decide_eq_false (by omega)
        go_wp2
        exact HK.out _ _ _ _ _ _ _ _ _ _ _ _ _ _ _ _ _ _ _ _ _ _ _ _ _ _ _ _ _ _ _ _ _ _ _ _ _ _ wr HM.out
      · have g1 : decide ((k : Int) < nn) = false := decide_eq_false hkn
        go_wp2
        exact HK.out _ _ _ _ _ _ _ _ _ _ _ _ _ _ _ _ _ _ _ _ _ _ _ _ _ _ _ _ _ _ _ _ _ _ _ _ _ _ wr HM.out
end Go.Proofs.YtmgpacenooncjaaGreatDoor
/- Contract of threshfloorref.Sorted. -/
namespace Go.Proofs.YtmgpacenooncjaaGreatDoor.Pp
open Go.ChangeShapes Go.WideShapes Go.ChangeAt Go.RowKit
open Stable
set_option maxRecDepth 100000 in
set_option maxHeartbeats 4000000 in
theorem sorted_any (v : Value) (l : List (ByteArray × Int)) (w : World) (h : IsPairs w v l) (hl : l.length ≤ 1000000) :
    Calls Tryz.prog 53 #[v] w fun e w' => ∃ u Z, e = .returned u ∧ Sorted Z ∧ SE l Z ∧ Z.length = l.length ∧ IsPairs w' u Z ∧ Below w.heap.size w w' := by
  have H := Lib.hid h
  have HLEN := Lib.hid hl
  obtain ⟨ao, cap, hv, _⟩ := h
  obtain ⟨n, hn⟩ : ∃ n, n = l.length := ⟨_, rfl⟩
  subst hv
  rw [← hn] at H hl ⊢
  have HN := Lib.hid hn
  clear hn
  go_enter Tryz.func53, Tryz.ntmps53
  go_wp2_with (at_builtin; refine Hid.out ?_)
  refine Lib.hid ?_
  refine wpList_append_pairs (w0 := w) rfl (.const (.slice none 0 0)) (.tmp 7) rfl (.slice none 0 0) [] rfl (owns_nil _ _) (.slice ao n cap) l rfl H.out (by have := HLEN.out; simp; omega) (Below.refl _ _) ?_
  intro v1 w1 hown hb1
  rw [List.nil_append] at hown
  cases l with
  | nil =>
    have hn0 : n = 0 := HN.out
    obtain ⟨a1, c1, rfl⟩ : ∃ a1 c1, v1 = .slice a1 0 c1 := by
      rcases owns_row hown with ⟨rfl, _⟩ | ⟨g, c, rfl, _⟩
      · exact ⟨_, _, rfl⟩
      · exact ⟨_, _, rfl⟩
    clear hown hn0
    go_wp2_with fail
    go_loopw [4, 5, 6] (fun iv _ _ wr => iv = .int .i64 1 ∧ wr = w1) (fun _ _ _ _ => 0)
    case atStart => exact ⟨rfl, rfl⟩
    case round =>
      obtain ⟨rfl, rfl⟩ := hrel
      go_wp2
      go_ret
      exact ⟨_, [], rfl, List.Pairwise.nil, SE.refl _, HN.out.symm, isPairs_zero _ _ _, hb1⟩
  | cons s0 S0 =>
    obtain ⟨g, cap1, rfl, hgw, hrow0⟩ : ∃ g cap1, v1 = .slice (some ⟨g, 0, none⟩) n cap1 ∧ w.heap.size ≤ g ∧ Row g (s0 :: S0) w1 := by
      rcases owns_row hown with ⟨_, h⟩ | ⟨g, c, h1, h2, h3⟩
      · cases h
      · exact ⟨g, c, by rw [HN.out]; exact h1, h2, h3⟩
    clear hown
    go_wp2_with fail
    go_loopw [4, 5, 6] (fun iv _ _ wr => ∃ (i : Nat) (E D R : List (ByteArray × Int)), iv = .int .i64 i ∧ i ≤ n ∧ Only g w1 wr ∧ Row g (D ++ R) wr ∧ Hid (s0 :: S0 = E ++ R ∧ SE E D ∧ Sorted D ∧ E.length = D.length ∧ i = 0 + D.length ∧ 0 < D.length)) (fun iv _ _ _ => n - (intOf iv).toNat)
    case atStart => exact ⟨1, [s0], [s0], S0, by go_num, by have := HN.out; simp at this; omega, Only.refl _ _, by simpa using hrow0, ⟨rfl, SE.refl _, List.pairwise_singleton _ _, rfl, rfl, by simp⟩⟩
    case round =>
      obtain ⟨i, E, D, R, rfl, hib, ho, hrow, HD⟩ := hrel
      clear hrow0
      by_cases hlt : i < n
      · obtain ⟨x, R', rfl⟩ : ∃ x R', R = x :: R' := by
          cases R with
          | nil =>
            have h1 := HD.out
            have h2 := congrArg List.length h1.1
            have h4 := HN.out
            simp at h2 h4
            omega
          | cons x R' => exact ⟨x, R', rfl⟩
        go_wp2_with fail
        go_loopw [5, 6] (fun jv _ wr2 => ∃ (j : Nat) (D1 D2 : List (ByteArray × Int)), jv = .int .i64 j ∧ j < n ∧ Only g w1 wr2 ∧ Row g (D1 ++ x :: D2 ++ R') wr2 ∧ Hid (D = D1 ++ D2 ∧ j = D1.length ∧ ∀ d ∈ D2, bl (key x) (key d) = true)) (fun jv _ _ => (intOf jv).toNat)
        case atStart => exact ⟨i, D, [], rfl, hlt, ho, by simpa using hrow, ⟨by simp, by have := HD.out.2.2.2.2.1; omega, by simp⟩⟩
        case round =>
          obtain ⟨j, D1, D2, rfl, hjn, ho2, hrow2, HD2⟩ := hrel
          clear hrow ho
          rcases List.eq_nil_or_concat D1 with hD1 | ⟨D3, d, hD1⟩
          · subst hD1
            have hj0 : j = 0 := by have := HD2.out.2.1; simpa using this
            have hg : decide (0 < j) = false := by simp; omega
            have HNX := Lib.hid (ins_step HD.out HD2.out.1 HD2.out.2.2 (by simp))
            subst hj0
            go_wp2
            go_quiet (fail)
            have HO : Only g w1 (wr.drewN nq) := ho2.trans (Only.of_below (below_drewNs wr nq))
            have HR : Row g (([] ++ x :: D2) ++ R') (wr.drewN nq) := hrow2.keep rfl
            generalize wr.drewN nq = w3 at *
            go_wp2
            go_roundw
            case rel => exact ⟨i + 1, E ++ [x], [] ++ x :: D2, R', by go_num, by omega, HO, HR, HNX⟩
            case measure => simp [intOf]; omega
          · rw [List.concat_eq_append] at hD1
            subst hD1
            have hd2 := HD2.out
            have hjl : j = D3.length + 1 := by have := hd2.2.1; simp at this; omega
            have hg : decide (0 < j) = true := by simp; omega
            have e1 : IntKind.i64.wrap ((j : Int) - 1) = ((j - 1 : Nat) : Int) := by rw [wrap_small _ (by omega) (by omega)]; omega
            have eR : D3 ++ [d] ++ x :: D2 ++ R' = D3 ++ d :: ([] ++ x :: (D2 ++ R')) := by simp
            rw [eR] at hrow2
            obtain ⟨⟨d0, d1, x0, x1⟩, _, hsw⟩ := hrow2.two (j - 1) j (by omega) (by simp; omega)
            have hj1 : j - 1 < n := by omega
            have hj0 : 0 < j := by omega
            have HJ := Lib.hid hjl
            clear hjl
            cases hc : bl (key x) (key d) with
            | false =>
              have hcm : Op.bytesLess x.1.toList d.1.toList = false := hc
              have HNX := Lib.hid (ins_step HD.out hd2.1 hd2.2.2 (last_le (by have h5 := HD.out.2.2.1; rw [hd2.1] at h5; exact (sorted_append.1 h5).1) hc))
              clear hd2 hsw
              go_wp2
              go_quiet (fail)
              have HO : Only g w1 (wr.drewN nq) := ho2.trans (Only.of_below (below_drewNs wr nq))
              have HR : Row g (((D3 ++ [d]) ++ x :: D2) ++ R') (wr.drewN nq) := by rw [eR]; exact hrow2.keep rfl
              generalize wr.drewN nq = w3 at *
              clear d0 d1 x0 x1 hrow2
              go_wp2
              go_roundw
              case rel => exact ⟨i + 1, E ++ [x], (D3 ++ [d]) ++ x :: D2, R', by go_num, by omega, HO, HR, HNX⟩
              case measure => simp [intOf]; omega
            | true =>
              have hcm : Op.bytesLess x.1.toList d.1.toList = true := hc
              clear hd2 hsw
              go_wp2
              go_quiet (fail)
              have HO : Only g w1 (wr.drewN nq) := ho2.trans (Only.of_below (below_drewNs wr nq))
              have HR : Row g (D3 ++ d :: ([] ++ x :: (D2 ++ R'))) (wr.drewN nq) := hrow2.keep rfl
              generalize wr.drewN nq = w3 at *
              clear d0 d1 x0 x1 hrow2 ho2
              have hgs : g < w3.heap.size := HR.lt
              obtain ⟨⟨d0, d1, x0, x1⟩, _, hsw⟩ := HR.two (j - 1) j (by have := HJ.out; omega) (by have := HJ.out; simp; omega)
              have fz := HR.frozen
              have hne : ¬ g = w3.heap.size := by omega
              have HS2 := Lib.hid (hsw.below ((Below.refl _ _).alloc (Nat.le_refl _) (.cells #[.string x.1, .int .i64 x.2] 67)))
              have HO2 := Lib.hid (((((HO.setCell (j * 2) (.string d.1)).setCell (j * 2 + 1) (.int .i64 d.2)).setCell ((j - 1) * 2) (.string x.1)).setCell ((j - 1) * 2 + 1) (.int .i64 x.2)).trans (Only.of_below ((Below.refl _ _).alloc (Nat.le_refl _) (.cells #[.string x.1, .int .i64 x.2] 67))))
              clear HR HO hsw
              go_wp2
              refine ⟨⟨j - 1, D3, d :: D2, rfl, by omega, HO2.out, by have h := HS2.out; simpa using h, ⟨by rw [HD2.out.1]; simp, by have := HJ.out; omega, fun y hy => (List.mem_cons.1 hy).elim (fun e => by rw [e]; exact hc) (fun h => HD2.out.2.2 y h)⟩⟩, ?_⟩
              simp [intOf]; omega
      · have hd := HD.out
        have hR : R = [] := by
          have h2 := congrArg List.length hd.1
          have h4 := HN.out
          simp at h2 h4
          exact List.eq_nil_of_length_eq_zero (by omega)
        subst hR
        have hfin : Hid (∃ S', Sorted S' ∧ SE (s0 :: S0) S' ∧ S'.length = n ∧ Row g S' wr) := by
          refine ⟨D, hd.2.2.1, ?_, ?_, by simpa using hrow⟩
          · rw [hd.1]; simpa using hd.2.1
          · have h4 := HN.out; rw [h4, hd.1]; simp; exact hd.2.2.2.1.symm
        clear hrow hd
        go_wp2
        go_ret
        obtain ⟨S', z1, z2, z3, z4⟩ := hfin.out
        exact ⟨_, S', rfl, z1, z2, z3, z4.isPairs z3.symm, below_of_only hb1 hgw ho⟩
end Go.Proofs.YtmgpacenooncjaaGreatDoor.Pp
/- The document's SliceOf, over the words of pair.Sum's contract. -/
namespace Go.Proofs.YtmgpacenooncjaaGreatDoor.Pp
open Go.ChangeShapes Go.WideShapes Go.ChangeAt Go.RowKit
open Num
theorem xor64 (a b : Int) (h1 : 0 ≤ a) (h2 : a < 4294967296) (h3 : 0 ≤ b) (h4 : b < 4294967296) : bits .xor .i64 a b = bits .xor .u32 a b := by
  obtain ⟨A, rfl⟩ := Int.eq_ofNat_of_zero_le h1
  obtain ⟨B, rfl⟩ := Int.eq_ofNat_of_zero_le h3
  have hx : A ^^^ B < 2 ^ 32 := Nat.xor_lt_two_pow (by omega) (by omega)
  have e1 : (BitVec.ofInt 64 (A : Int)).toNat = A := by
    rw [BitVec.ofInt_natCast, BitVec.toNat_ofNat]; exact Nat.mod_eq_of_lt (by omega)
  have e2 : (BitVec.ofInt 64 (B : Int)).toNat = B := by
    rw [BitVec.ofInt_natCast, BitVec.toNat_ofNat]; exact Nat.mod_eq_of_lt (by omega)
  rw [u32_xor_nat A B (by omega) (by omega)]
  show IntKind.i64.wrap ((BitVec.ofInt 64 (A : Int) ^^^ BitVec.ofInt 64 (B : Int)).toNat : Int) = _
  rw [BitVec.toNat_xor, e1, e2]
  exact wrap_small _ (by omega) (by omega)
theorem xor_bd (a b : Int) (h1 : 0 ≤ a) (h2 : a < 4294967296) (h3 : 0 ≤ b) (h4 : b < 4294967296) : 0 ≤ bits .xor .u32 a b ∧ bits .xor .u32 a b < 4294967296 := by
  rw [u32_xor a b h1 h2 h3 h4]
  have : a.toNat ^^^ b.toNat < 2 ^ 32 := Nat.xor_lt_two_pow (by omega) (by omega)
  omega
theorem key_step (x : Int) (c : UInt8) (h1 : 0 ≤ x) (h2 : x < 4294967296) : bits BinOp.xor IntKind.i64 x (c.toNat : Int) = bits BinOp.xor IntKind.u32 x ((c.toNat : Int) % 4294967296) ∧ 0 ≤ bits BinOp.xor IntKind.i64 x (c.toNat : Int) ∧ bits BinOp.xor IntKind.i64 x (c.toNat : Int) < 4294967296 := by
  have hc := c.toNat_lt
  have e : (c.toNat : Int) % 4294967296 = c.toNat := by omega
  rw [e, xor64 x _ h1 h2 (by omega) (by omega)]
  exact ⟨rfl, xor_bd x _ h1 h2 (by omega) (by omega)⟩
set_option maxHeartbeats 400000 in
theorem keySum_any (s : ByteArray) (w : World) (hs : s.size ≤ maxLen) :
    Calls Tryz.prog 84 #[.string s] w fun e w' => e = .returned (.int .i64 (ksum s.data.toList)) ∧ w' = w := by
  unfold maxLen at hs
  go_enter Tryz.func84, Tryz.ntmps84
  go_wp2
  go_loop [3, 4] (fun h j => ∃ k : Nat, k ≤ s.size ∧ j = .int .i64 k ∧ h = .int .i64 (ksum (s.data.toList.take k))) (fun _ i => s.size - (intOf i).toNat)
  case atStart => exact ⟨0, Nat.zero_le _, rfl, rfl⟩
  case round =>
    obtain ⟨k, hk, rfl, rfl⟩ := hrel
    have hbd := ksum_bd (s.data.toList.take k)
    by_cases hlt : k < s.size
    · obtain ⟨x1, x2, x3⟩ := key_step (ksum (s.data.toList.take k)) s[k] hbd.1 hbd.2
      have HS : Hid (ksum (s.data.toList.take (k + 1)) = bits BinOp.xor IntKind.i64 (ksum (s.data.toList.take k)) (s[k].toNat : Int) * 16777619 % 4294967296) := by
        show _ = _
        rw [x1, snocB s k hlt]; exact ksum_snoc _ _
      clear x1
      have hby : s[k].toNat < 256 := s[k].toNat_lt
      go_wp2
      go_round
      case rel => exact ⟨k + 1, by omega, by go_num, by rw [HS.out]⟩
      case measure => simp [intOf]; omega
    · go_wp2
      go_ret
      exact ⟨ret_int (by rw [List.take_of_length_le (by simp; omega)]), rfl⟩
set_option maxHeartbeats 400000 in
theorem sliceOf_any (s : ByteArray) (n : Int) (w : World) (hs : s.size ≤ maxLen) (h1 : 1 ≤ n) (h2 : n ≤ 1000) :
    Calls Tryz.prog 54 #[.string s, .int .i64 n] w fun e w' => e = .returned (.int .i64 (ksum s.data.toList % n)) ∧ w' = w := by
  have hb := ksum_bd s.data.toList
  have hm := Int.emod_nonneg (ksum s.data.toList) (show n ≠ 0 by omega)
  have hm2 := Int.emod_lt_of_pos (ksum s.data.toList) (show 0 < n by omega)
  go_enter Tryz.func54, Tryz.ntmps54
  go_wp2_with (go_at_call 84; refine (keySum_any _ _ hs).mono ?_; rintro e w' ⟨rfl, rfl⟩)
  all_goals
    go_ret
    refine ⟨ret_int ?_, rfl⟩
    first
    | rfl
    | omega
    | (rw [show max 1 n = n by omega])
    | (have h1 : n = 1 := by omega
       subst h1
       omega)
end Go.Proofs.YtmgpacenooncjaaGreatDoor.Pp
/- The document's Cut: slices of pairs. -/
namespace Go.Proofs.YtmgpacenooncjaaGreatDoor
open Go.ChangeShapes Go.WideShapes Go.ChangeAt Go.RowKit
set_option maxRecDepth 1000000 in
set_option maxHeartbeats 4000000 in
theorem cut_any (fo : Int) (ea : Bool) (ns : Nat) (rv mv : Value) (M : List (ByteArray × Int)) (w : World) (hp : Pp.IsPairs w mv M) (hs1 : 1 ≤ ns) (hs2 : ns ≤ 4) (hM : M.length ≤ 1000000) (hk : ∀ p ∈ M, p.1.size ≤ 1000) :
    Calls Tryz.prog 22 #[.agg #[rv, .int .i64 fo, .bool ea, .int .i64 (ns : Int)], mv] w fun e w' => ∃ u, e = .returned u ∧ Pp.IsLists w' u (slicesOf fo ea ns M) ∧ Below w.heap.size w w' := by
  obtain ⟨i0, hi0, hz0, hz1, hz2⟩ := info_parts infoLst
  have HMP : Hid (∀ w', Below w.heap.size w w' → Pp.IsPairs w' mv M) := fun w' hb => Pp.isPairs_below hp hb
  obtain ⟨ma, mc, rfl, -⟩ := hp
  obtain ⟨n, hn⟩ : ∃ n, n = M.length := ⟨_, rfl⟩
  rw [← hn] at HMP ⊢
  have HN := Lib.hid hn
  obtain ⟨w1, hw1⟩ : ∃ w1, w1 = w.alloc (.cells #[rv, .int .i64 fo, .bool ea, .int .i64 (ns : Int)] 24) := ⟨_, rfl⟩
  obtain ⟨P, hP⟩ : ∃ P, P = w.heap.size := ⟨_, rfl⟩
  have hb1 : Below w.heap.size w w1 := by rw [hw1]; exact below_box _
  have HJ : Hid (Blk w1 P 24 [rv, .int .i64 fo, .bool ea, .int .i64 (ns : Int)]) := by
    show Blk _ _ _ _
    rw [hw1]
    exact blk_new hP
  have hPl := HJ.out.lt
  have HW1 := Lib.hid hw1
  have HPP := Lib.hid hP
  clear hw1 hP hn
  go_enter Tryz.func22, Tryz.ntmps22
  go_upto_region 1 with fail
  rw [← HW1.out, ← HPP.out]
  clear HW1 HPP
  have k3 := HJ.out.at (i := 3) (v := .int .i64 (ns : Int)) rfl
  go_wp2_with (at_make; refine Hid.out ?_)
  refine Lib.hid ?_
  refine wpList_make_full w1 rfl (.tmp 11) (.tmp 11) 48 rfl w1.heap.size 42 i0 _ 1 Tryz.underlying48 hi0 hz0 hz1 _ _ _ _ ns rfl rfl rfl rfl (by rw [hz2]; omega) (by unfold maxLen; omega) (Nat.le_refl _) ?_
  intro w1b hown hgrow
  have hb1b : Below w1.heap.size w1 w1b := ⟨hgrow.os, hgrow.tape, hgrow.output, hgrow.size, fun k hk => hgrow.block k hk (by simp)⟩
  obtain ⟨hblk, -⟩ := owns_blk hown
  rw [made_nils ns] at hblk
  obtain ⟨g, hg⟩ : ∃ g, g = w1.heap.size := ⟨_, rfl⟩
  rw [← hg] at hblk ⊢
  have hb2 := below_trans hb1 hb1b
  have HGP : Hid (P < g ∧ w.heap.size ≤ g) := ⟨by omega, by have := hb1.size; omega⟩
  have SF := Lib.hid (Pp.sorted_any (.slice ma n mc) M w1b (HMP.out w1b hb2) hM)
  have HBLK := Lib.hid hblk
  have HJB := Lib.hid (HJ.out.blw hb1b)
  have HB2 := Lib.hid hb2
  have HK := Lib.hid hk
  have hnn : n ≤ 1000000 := by have := HN.out; omega
  clear hown hgrow hb1 hb1b hb2 hblk hk hg hz0 hz1 hz2 hi0 k3 HJ HMP hPl hM
  go_wp2_with (go_at_call 53; refine Hid.out ?_)
  refine Lib.hid ?_
  refine SF.out.mono ?_
  rintro _ w2 ⟨u, Z, rfl, hso, hse, hzl, hzp, hb12⟩
  obtain rfl := Pp.Tot.srt_eq hso hse
  rw [← HN.out] at hzl
  obtain ⟨ua, uc, rfl, hzc⟩ := hzp
  rw [hzl]
  have S0 : Hid (SL w2 w2 g (List.replicate ns (Value.slice none 0 0)) (partsL ns ((Pp.Tot.srt M).take 0))) := by
    refine ⟨HBLK.out.blw hb12, Nat.lt_of_lt_of_le HBLK.out.lt hb12.size, by rw [partsL_len, List.length_replicate], fun k v l hv hl => ?_, fun i j vi vj _ hvi _ q hq => ?_, Only.refl _ _⟩
    · rw [List.take_zero, partsL_nil, List.getElem?_replicate] at hl
      rw [List.getElem?_replicate] at hv
      split at hv
      · rename_i h
        rw [if_pos h, Option.some.injEq] at hl
        rw [Option.some.injEq] at hv
        subst hv hl
        exact World.ownsRow_nil _ _ _ _
      · cases hv
    · rw [List.getElem?_replicate] at hvi
      split at hvi
      · rw [Option.some.injEq] at hvi
        subst hvi
        cases hq
      · cases hvi
  have HZK : Hid (∀ (k : Nat) (p : ByteArray × Int), (Pp.Tot.srt M)[k]? = some p → p.1.size ≤ 1000) := fun k p hp => HK.out p (Pp.Tot.srt_mem.1 (List.mem_of_getElem? hp))
  have HJ2 := Lib.hid (HJB.out.blw hb12)
  have HB3 := Lib.hid (below_trans HB2.out hb12)
  have HZC := Lib.hid hzc
  have HZL := Lib.hid hzl
  have HGB : Hid (∀ k (hk : k < (Pp.Tot.srt M).length), ∃ b off, ua = some ⟨b, off, none⟩ ∧ b ≠ g ∧ w2.cell? ⟨b, off + k * 2, none⟩ = some (.string (Pp.Tot.srt M)[k].1) ∧ w2.cell? ⟨b, off + k * 2 + 1, none⟩ = some (.int .i64 (Pp.Tot.srt M)[k].2)) := fun k hk => by
    obtain ⟨b, off, e2, c0, c1⟩ := HZC.out k hk
    refine ⟨b, off, e2, fun e => ?_, c0, c1⟩
    rw [e] at c0
    rw [S0.out.lst.cell, List.getElem?_replicate] at c0
    split at c0 <;> cases c0
  obtain ⟨Z, hZ⟩ : ∃ Z, Z = Pp.Tot.srt M := ⟨_, rfl⟩
  have HZE : Hid (Pp.Tot.srt M = Z) := hZ.symm
  rw [← hZ] at S0 HZK HZL HGB
  clear hZ hso hse hzl hzc hb12 SF HBLK HB2 HJB HK HZC
  dsimp only
  go_wp2
  go_loopg [7] n (fun gg iv wr => ∃ (k : Nat) (vs : List Value), gg = n - k ∧ k ≤ n ∧ iv = .int .i64 k ∧ Hid (SL w2 wr g vs (partsL ns (Z.take k))))
  case atStart => exact ⟨0, _, rfl, Nat.zero_le _, rfl, S0⟩
  case round =>
    clear S0
    obtain ⟨k, vs, hgk, hk, rfl, HS⟩ := hrel
    have HGK := Lib.hid hgk
    clear hgk
    by_cases hlt : k < n
    · have hkz : k < Z.length := by rw [HZL.out]; exact hlt
      obtain ⟨b, off, e2, hgn, c0, c1⟩ := HGB.out k hkz
      subst e2
      replace c0 := only_cell HS.out.only c0 hgn
      replace c1 := only_cell HS.out.only c1 hgn
      have HPK : Hid (Z[k].1.size ≤ 1000) := HZK.out k Z[k] (by simp)
      have HSN : Hid (Z.take (k + 1) = Z.take k ++ [Z[k]]) := List.take_succ_eq_append_getElem hkz
      obtain ⟨i, hi⟩ : ∃ i, i = sliceN ns (Pp.Stable.key Z[k]) := ⟨_, rfl⟩
      obtain ⟨hi1, hi2⟩ := sliceN_lt (many := (ns : Int)) (by omega) (Pp.Stable.key Z[k])
      rw [← hi] at hi1 hi2
      have hin : i < ns := by simpa using hi2
      have SLC : Hid (∀ w', Calls Tryz.prog 54 #[.string Z[k].1, .int .i64 (ns : Int)] w' fun e w'' => e = .returned (.int .i64 (i : Int)) ∧ w'' = w') := fun w' => by
        have h := Pp.sliceOf_any Z[k].1 (ns : Int) w' (by unfold maxLen; have := HPK.out; omega) (by omega) (by omega)
        have e : Pp.ksum Z[k].1.data.toList % (ns : Int) = (i : Int) := by
          rw [hi1]
          unfold Pp.Stable.key
          rw [ByteArray.toList_eq]
        rw [e] at h
        exact h
      have HI := Lib.hid hi
      generalize Z[k] = p at *
      obtain ⟨ps, pv⟩ := p
      simp only at c0 c1 SLC HPK
      have k3 : wr.cell? ⟨P, 3, none⟩ = some (.int .i64 (ns : Int)) := only_cell HS.out.only (HJ2.out.at (i := 3) (v := .int .i64 (ns : Int)) rfl) (by have := HGP.out.1; show P ≠ g; omega)
      have hkn : (k : Int) < (n : Int) := by omega
      clear hi hi1 hi2 hgn
      go_upto_region 6 with fail
      go_quiet ((go_at_call 54; exact Calls.quiet_of_same (SLC.out _)))
      obtain ⟨w4, hw4⟩ : ∃ w4, w4 = wr.drewN nq := ⟨_, rfl⟩
      have hb34 : Below wr.heap.size wr w4 := by rw [hw4]; exact below_drewN _ _
      rw [← hw4]
      have S4 := Lib.hid (HS.out.below hb34)
      replace c0 := cell_below c0 hb34
      replace c1 := cell_below c1 hb34
      clear k3 HS
      obtain ⟨vi, hvi⟩ : ∃ vi, vs[i]? = some vi := ⟨vs[i]'(by rw [S4.out.len, partsL_len]; exact hin), by simp⟩
      have hLi := partsL_at hin (Z.take k)
      have hown := S4.out.each i vi _ hvi hLi
      have HLL : (inSlice ns i (Z.take k)).length ≤ 1000000 := by
        unfold inSlice
        have h1 := List.length_filter_le (fun p => decide (sliceN ns (Pp.Stable.key p) = i)) (Z.take k)
        have h2 := List.length_take_le' k Z
        have := HZL.out
        omega
      have HLK : (inSlice ns i (Z.take k)).length + 1 ≤ 1000000 := by
        unfold inSlice
        have h1 := List.length_filter_le (fun p => decide (sliceN ns (Pp.Stable.key p) = i)) (Z.take k)
        have h2 : (Z.take k).length ≤ k := List.length_take_le k Z
        have := HZL.out
        omega
      have HPS : Hid (partsL ns (Z.take (k + 1)) = (partsL ns (Z.take k)).set i (inSlice ns i (Z.take k) ++ [(ps, pv)])) := by
        show _ = _
        rw [HSN.out]
        exact partsL_snoc _ _ i HI.out.symm hin
      obtain ⟨via, vic, evi⟩ : ∃ va vc, vi = .slice va (inSlice ns i (Z.take k)).length vc := by
        rcases row_slice hown with ⟨h1, h2⟩ | ⟨g', c, h1, _⟩
        · exact ⟨_, _, by rw [h1, h2]⟩
        · exact ⟨_, _, h1⟩
      subst evi
      have HOWN := Lib.hid hown
      have HVI := Lib.hid hvi
      have HLI := Lib.hid hLi
      have HLKK := Lib.hid HLK
      generalize inSlice ns i (Z.take k) = L at *
      obtain ⟨ni, hni⟩ : ∃ ni, ni = L.length := ⟨_, rfl⟩
      rw [← hni] at HOWN HVI hvi
      have HNI := Lib.hid hni
      have l0 := S4.out.lst.at hvi
      have l0a : (w4.alloc (.cells #[.string ps, .int .i64 pv] 67)).cell? ⟨g, i, none⟩ = some (.slice via ni vic) := cell_below l0 (below_box _)
      have hsz4 := S4.out.only.size
      have HSZ4 := Lib.hid hsz4
      clear hw4 hb34 hLi hown hni HLL HLK hvi hsz4
      have HOWN4 : Hid (∀ wc, Below w4.heap.size w4 wc → wc.ownsRow w2.heap.size 67 2 (.slice via ni vic) ni (Pp.cellsP L)) := fun wc hb => ow_below HOWN.out hb
      have HPUT : Hid (∀ (wc w5 : World) (va : Option Addr) (vc : Nat), Below w4.heap.size w4 wc → w5.ownsRow w2.heap.size 67 2 (.slice va (ni + 1) vc) (ni + 1) (Pp.cellsP (L ++ [(ps, pv)])) → wc.grownBy w5 (Value.slice via ni vic).ownBlock → ((Value.slice va (ni + 1) vc).ownBlock = (Value.slice via ni vic).ownBlock ∨ (Value.slice va (ni + 1) vc).ownBlock = some wc.heap.size) → (w5.cell? ⟨g, i, none⟩ = some (.slice via ni vic) ∧ w5.frozen? ⟨g, i, none⟩ = false) ∧ Hid (SL w2 (w5.setCell ⟨g, i, none⟩ (.slice va (ni + 1) vc)) g (vs.set i (.slice va (ni + 1) vc)) (partsL ns (Z.take (k + 1))))) := fun wc w5 va vc hb ho hg hat => by
        have S5 := S4.out.below hb
        have hbk := blk_ow S5.lst (HOWN4.out wc hb) (by decide) hg
        refine ⟨⟨hbk.at HVI.out, hbk.frozen i⟩, ?_⟩
        show SL _ _ _ _ _
        rw [HPS.out]
        refine S5.put HVI.out HLI.out (by rw [List.length_append, ← HNI.out]; exact ho) hg ?_
        rcases hat with h | h
        · exact .inl h
        · exact .inr (.inr ⟨_, h, Nat.le_refl _⟩)
      go_wp2
      go_region_law (first | (refine step_append_prs rfl (.tmp 34) (.tmp 39) rfl (base := w2.heap.size) (n := ni) (v := .slice via ni vic) (xv := .slice (some ⟨w4.heap.size, 0, none⟩) 1 1) (A := L) (B := [(ps, pv)]) (N := ni + 1) (by simp [Act.eval]) (HOWN4.out _ (by first | exact below_box _ | exact below_trans (Pp.blw_drew (Below.refl _ w4)) (below_box _) | exact Pp.blw_drew (below_box _))) HNI.out (by simp [Act.eval]) (by first | exact Pp.isPairs_one ps pv 1 _ (by simp) | exact Pp.isPairs_below (Pp.isPairs_one ps pv 1 _ (by simp)) (Pp.blw_drew (Below.refl _ _))) HLKK.out (by have := HSZ4.out; simp; omega) (by rw [List.length_append, ← HNI.out]; rfl) ?_; intro va vc w5 hown5 hgrow5 hat5; obtain ⟨⟨l5, f5⟩, HP5⟩ := HPUT.out _ w5 va vc (by first | exact below_box _ | exact below_trans (Pp.blw_drew (Below.refl _ w4)) (below_box _) | exact Pp.blw_drew (below_box _)) hown5 hgrow5 hat5; clear hown5 hgrow5 hat5) | fail)
      all_goals
        generalize w5.setCell ⟨g, i, none⟩ (.slice va (ni + 1) vc) = w6 at *
        clear l0 l0a c0 c1 l5 f5 HPUT HOWN4 HOWN S4 SLC HPS
        (try simp only [Exit.inBlock, Exit.then])
        go_wp2
        go_roundg (n - (k + 1))
        case measure => have := HGK.out; omega
        case rel => exact ⟨k + 1, _, rfl, hlt, by go_num, HP5⟩
    · have hkn : k = n := by omega
      have HF0 : Hid (Z.take k = Z) := List.take_of_length_le (by have := HZL.out; omega)
      rw [HF0.out] at HS
      have hR2 : wr.cell? ⟨P, 2, none⟩ = some (.bool ea) := only_cell HS.out.only (HJ2.out.at (i := 2) (v := .bool ea) rfl) (by have := HGP.out.1; show P ≠ g; omega)
      have HBW : Hid (Below w.heap.size w wr) := ⟨HS.out.only.os.trans HB3.out.os, HS.out.only.tape.trans HB3.out.tape, HS.out.only.output.trans HB3.out.output, Nat.le_trans HB3.out.size HS.out.only.size, fun q hq => (HS.out.only.block q (Nat.lt_of_lt_of_le hq HB3.out.size) (fun e => by injection e with e; have := HGP.out.2; omega)).trans (HB3.out.block q hq)⟩
      clear hkn HF0
      cases ea with
      | false =>
        have HE : Hid (slicesOf fo false ns M = partsL ns Z) := by
          show _ = _
          unfold slicesOf
          rw [HZE.out]
          rfl
        go_wp2
        go_ret
        exact ⟨_, rfl, by rw [HE.out]; exact HS.out.isLists (by simp [partsL]), HBW.out⟩
      | true =>
        rw [← earlyL_zero fo] at HS
        have HIL : Hid (∀ k, (inSlice ns k Z).length ≤ 1000000) := fun k => by
          unfold inSlice
          have h1 := List.length_filter_le (fun p => decide (sliceN ns (Pp.Stable.key p) = k)) Z
          have := HZL.out
          omega
        have HFE : Hid (earlyL fo ns Z ns = slicesOf fo true ns M) := by
          show _ = _
          rw [← HZE.out]
          exact earlyL_all fo ns M
        go_wp2
        clear hR2 hlt HGK hk
        go_loopg [9] ns (fun gg iv wq => ∃ (i : Nat) (vs : List Value), gg = ns - i ∧ i ≤ ns ∧ iv = .int .i64 i ∧ Hid (SL w2 wq g vs (earlyL fo ns Z i)))
        case atStart => exact ⟨0, _, rfl, Nat.zero_le _, rfl, HS⟩
        case round =>
          clear HS HBW
          obtain ⟨i, vs, hgi, hi, rfl, HS⟩ := hrel
          have HGI := Lib.hid hgi
          clear hgi
          by_cases hlt : i < ns
          · obtain ⟨vi, hvi⟩ : ∃ vi, vs[i]? = some vi := ⟨vs[i]'(by rw [HS.out.len, earlyL_len]; exact hlt), by simp⟩
            have hLi := earlyL_at (fo := fo) hlt Z i
            rw [if_neg (Nat.lt_irrefl i)] at hLi
            have hown := HS.out.each i vi _ hvi hLi
            obtain ⟨via, vic, evi⟩ : ∃ va vc, vi = .slice va (inSlice ns i Z).length vc := by
              rcases row_slice hown with ⟨h1, h2⟩ | ⟨g', c, h1, _⟩
              · exact ⟨_, _, by rw [h1, h2]⟩
              · exact ⟨_, _, h1⟩
            subst evi
            have HSU : Hid (earlyL fo ns Z (i + 1) = (earlyL fo ns Z i).set i (Pp.Grp.grp fo (inSlice ns i Z))) := earlyL_succ hlt Z
            have hli := HIL.out i
            have GR : Hid (∀ wc, Below wr.heap.size wr wc → Calls Tryz.prog 55 #[.int .i64 fo, .slice via (inSlice ns i Z).length vic] wc fun e w' => ∃ ua uc, e = .returned (.slice ua (Pp.Grp.grp fo (inSlice ns i Z)).length uc) ∧ w'.ownsRow wc.heap.size 67 2 (.slice ua (Pp.Grp.grp fo (inSlice ns i Z)).length uc) (Pp.Grp.grp fo (inSlice ns i Z)).length (Pp.cellsP (Pp.Grp.grp fo (inSlice ns i Z))) ∧ Below wc.heap.size wc w') := fun wc hb => by
              refine (Pp.grouped_own fo _ (inSlice ns i Z) wc (Pp.isPairs_below (Pp.owns_isPairs hown) hb) hli).mono ?_
              rintro e w' ⟨u, rfl, h1, h2⟩
              obtain ⟨ua, uc, rfl⟩ : ∃ va vc, u = .slice va (Pp.Grp.grp fo (inSlice ns i Z)).length vc := by
                rcases row_slice h1 with ⟨h3, h4⟩ | ⟨g', c, h3, _⟩
                · exact ⟨_, _, by rw [h3, h4]⟩
                · exact ⟨_, _, h3⟩
              exact ⟨ua, uc, rfl, h1, h2⟩
            have HSC := Lib.hid HS.out
            have HVI := Lib.hid hvi
            have HLI := Lib.hid hLi
            have PUT : Hid (∀ (wc w' : World) (ua : Option Addr) (uc : Nat), Below wr.heap.size wr wc → w'.ownsRow wc.heap.size 67 2 (.slice ua (Pp.Grp.grp fo (inSlice ns i Z)).length uc) (Pp.Grp.grp fo (inSlice ns i Z)).length (Pp.cellsP (Pp.Grp.grp fo (inSlice ns i Z))) → Below wc.heap.size wc w' → (w'.cell? ⟨g, i, none⟩ = some (.slice via (inSlice ns i Z).length vic) ∧ w'.frozen? ⟨g, i, none⟩ = false) ∧ Hid (SL w2 (w'.setCell ⟨g, i, none⟩ (.slice ua (Pp.Grp.grp fo (inSlice ns i Z)).length uc)) g (vs.set i (.slice ua (Pp.Grp.grp fo (inSlice ns i Z)).length uc)) (earlyL fo ns Z (i + 1)))) := fun wc w' ua uc hb ho hb2 => by
              have S5 := HSC.out.below hb
              have hbk := S5.lst.blw hb2
              refine ⟨⟨hbk.at HVI.out, hbk.frozen i⟩, ?_⟩
              show SL _ _ _ _ _
              rw [HSU.out]
              refine S5.put HVI.out HLI.out (ow_low ho S5.only.size) ⟨hb2.os, hb2.tape, hb2.output, hb2.size, fun k hk _ => hb2.block k hk⟩ ?_
              cases hq : (Value.slice ua (Pp.Grp.grp fo (inSlice ns i Z)).length uc).ownBlock with
              | none => exact .inr (.inl rfl)
              | some b => exact .inr (.inr ⟨b, rfl, (ho.lt b hq).1⟩)
            have l0 := HS.out.lst.at hvi
            have hR1 : wr.cell? ⟨P, 1, none⟩ = some (.int .i64 fo) := only_cell HS.out.only (HJ2.out.at (i := 1) (v := .int .i64 fo) rfl) (by have := HGP.out.1; show P ≠ g; omega)
            generalize (Pp.Grp.grp fo (inSlice ns i Z)).length = gl at *
            generalize (inSlice ns i Z).length = il at *
            clear hown hvi hLi HS HSC HVI HLI HSU hli
            go_upto_region 12 with fail
            go_region_with (go_at_call 55; refine (GR.out _ (by first | exact Below.refl _ _ | exact Pp.blw_drew (Below.refl _ wr))).mono ?_; rintro _ w9 ⟨ua, uc, rfl, ho, hb9⟩; obtain ⟨⟨l9, f9⟩, HP9⟩ := PUT.out _ w9 ua uc (by first | exact Below.refl _ _ | exact Pp.blw_drew (Below.refl _ wr)) ho hb9; clear ho hb9 l0 hR1)
            all_goals
              generalize w9.setCell ⟨g, i, none⟩ (.slice ua gl uc) = w10 at *
              clear l9 f9 PUT GR
              (try simp only [Exit.inBlock, Exit.then])
              go_wp2
              go_roundg (ns - (i + 1))
              case measure => have := HGI.out; omega
              case rel => exact ⟨i + 1, _, rfl, by omega, by go_num, HP9⟩
          · have him : i = ns := by omega
            have HL : Hid (SL w2 wr g vs (slicesOf fo true ns M)) := by
              have h := HS.out
              rw [him, HFE.out] at h
              exact h
            have HBW : Hid (Below w.heap.size w wr) := ⟨HS.out.only.os.trans HB3.out.os, HS.out.only.tape.trans HB3.out.tape, HS.out.only.output.trans HB3.out.output, Nat.le_trans HB3.out.size HS.out.only.size, fun q hq => (HS.out.only.block q (Nat.lt_of_lt_of_le hq HB3.out.size) (fun e => by injection e with e; have := HGP.out.2; omega)).trans (HB3.out.block q hq)⟩
            clear him
            go_wp2
            go_ret
            exact ⟨_, rfl, HL.out.isLists (by simp [slicesOf]), HBW.out⟩
end Go.Proofs.YtmgpacenooncjaaGreatDoor
/- TopParts: plain facts: slices of a whole are those of its parts, merged; a part of a list of texts. -/
namespace Go.Proofs.YtmgpacenooncjaaGreatDoor
open Go.ChangeShapes Go.WideShapes Go.ChangeAt Go.RowKit
theorem inSlice_append (many : Int) (k : Nat) (a b : List (ByteArray × Int)) : inSlice many k (a ++ b) = inSlice many k a ++ inSlice many k b := by unfold inSlice; rw [List.filter_append]
theorem merge_slices (many : Int) (k : Nat) (A B Z : List (ByteArray × Int)) (hs : Pp.Stable.Sorted Z) (he : Pp.Stable.SE (inSlice many k (Pp.Tot.srt A) ++ inSlice many k (Pp.Tot.srt B)) Z) : Z = inSlice many k (Pp.Tot.srt (A ++ B)) := by
  have h1 : Pp.Stable.SE (Pp.Tot.srt A ++ Pp.Tot.srt B) (Pp.Tot.srt (A ++ B)) := ((Pp.Tot.se_srt A).append (Pp.Tot.se_srt B)).trans (Pp.Tot.srt_se (A ++ B))
  have h2 := Pp.Tot.SE.filter h1 (fun kk => decide (sliceN many kk = k))
  rw [← inSlice_append] at he
  have h3 : Pp.Stable.Sorted (inSlice many k (Pp.Tot.srt (A ++ B))) := Pp.Tot.Sorted.filter (Pp.Tot.srt_sorted _) _
  exact Pp.Stable.sorted_unique _ _ hs h3 (he.symm.trans h2)
theorem fault_early (l : List Rl) (fo : Int) (e e' : Bool) (sl : Int) : jobFault ⟨l, fo, e, sl⟩ = jobFault ⟨l, fo, e', sl⟩ := rfl
theorem made_early (l : List Rl) (fo : Int) (e e' : Bool) (sl : Int) (lines : List (List UInt8)) : madeOf ⟨l, fo, e, sl⟩ lines = madeOf ⟨l, fo, e', sl⟩ lines := rfl
theorem texts_take {w : World} {a : Option Addr} {n c c' k : Nat} {l : List (List UInt8)} (h : IsTexts w (.slice a n c) (l.map bs)) (hk : k ≤ l.length) : IsTexts w (.slice a k c') ((l.take k).map bs) := by
  obtain ⟨a', cap, e, hc⟩ := h
  injection e with e1 e2 e3
  subst e1
  refine ⟨a, c', by simp [Nat.min_eq_left hk], fun i hi => ?_⟩
  have hi2 : i < k := by simp at hi; omega
  obtain ⟨b, off, ea, c0⟩ := hc i (by simp; omega)
  exact ⟨b, off, ea, by simpa using c0⟩
theorem texts_drop {w : World} {b off n c c' k : Nat} {l : List (List UInt8)} (h : IsTexts w (.slice (some ⟨b, off, none⟩) n c) (l.map bs)) : IsTexts w (.slice (some ⟨b, off + k, none⟩) (l.length - k) c') ((l.drop k).map bs) := by
  obtain ⟨a', cap, e, hc⟩ := h
  injection e with e1 e2 e3
  subst e1
  refine ⟨some ⟨b, off + k, none⟩, c', by simp, fun i hi => ?_⟩
  have hi2 : k + i < (l.map bs).length := by simp at hi ⊢; omega
  obtain ⟨b', off', ea, c0⟩ := hc (k + i) hi2
  rw [Option.some.injEq, Addr.mk.injEq] at ea
  obtain ⟨rfl, rfl, -⟩ := ea
  refine ⟨b, off + k, rfl, ?_⟩
  rw [Nat.add_assoc, c0]
  simp
theorem lists_below {w w' : World} {v : Value} {ls : List (List (ByteArray × Int))} (h : Pp.IsLists w v ls) (hb : Below w.heap.size w w') : Pp.IsLists w' v ls := by
  obtain ⟨a, cap, rfl, hc⟩ := h
  refine ⟨a, cap, rfl, fun i hi => ?_⟩
  obtain ⟨b, off, u, e, c0, hu⟩ := hc i hi
  exact ⟨b, off, u, e, cell_below c0 hb, Pp.isPairs_below hu hb⟩
theorem lsAt_slices {fo : Int} {ns i : Nat} (h : i < ns) (M : List (ByteArray × Int)) : Pp.lsAt (slicesOf fo false ns M) i = inSlice ns i (Pp.Tot.srt M) := by
  unfold Pp.lsAt
  rw [slicesOf_at h]
  rfl
theorem slice_at {w : World} {a : Option Addr} {c ns : Nat} {fo : Int} {M : List (ByteArray × Int)} (h : Pp.IsLists w (.slice a ns c) (slicesOf fo false ns M)) (i : Nat) (hi : i < ns) : ∃ b off u, a = some ⟨b, off, none⟩ ∧ w.cell? ⟨b, off + i, none⟩ = some u ∧ Pp.IsPairs w u (inSlice ns i (Pp.Tot.srt M)) := by
  have h1 := Pp.isLists_at h i (by simp [slicesOf]; exact hi)
  rw [lsAt_slices hi] at h1
  exact h1
theorem inSlice_len (many : Int) (k : Nat) (M : List (ByteArray × Int)) : (inSlice many k (Pp.Tot.srt M)).length ≤ M.length := by
  unfold inSlice
  exact Nat.le_trans (List.length_filter_le _ _) (Nat.le_of_eq (Pp.Tot.srt_len M))
set_option maxRecDepth 100000 in
theorem merge_two {u1 u2 : Value} {L1 L2 L3 : List (ByteArray × Int)} {w' w2 : World} (hw2 : Below (w'.alloc (.cells #[u1, u2] 42)).heap.size (w'.alloc (.cells #[u1, u2] 42)) w2) (h1 : Pp.IsPairs w' u1 L1) (h2 : Pp.IsPairs w' u2 L2) (hl1 : L1.length ≤ 400000) (hl2 : L2.length ≤ 400000) (hM : ∀ Z, Pp.Stable.Sorted Z → Pp.Stable.SE (L1 ++ L2) Z → Z = L3) :
    Calls Tryz.prog 61 #[.slice (some ⟨w'.heap.size, 0, none⟩) 2 2] w2 fun e w'' => ∃ ma mc, e = .returned (.slice ma L3.length mc) ∧ Pp.IsPairs w'' (.slice ma L3.length mc) L3 ∧ Below w'.heap.size w' w'' := by
  have hB : Blk w2 w'.heap.size 42 [u1, u2] := (blk_new rfl).blw hw2
  have hb : Below w'.heap.size w' w2 := below_trans (below_box _) hw2
  have hL : Pp.IsLists w2 (.slice (some ⟨w'.heap.size, 0, none⟩) 2 2) [L1, L2] := by
    refine ⟨_, 2, rfl, fun i hi => ?_⟩
    match i, hi with
    | 0, _ => exact ⟨_, 0, u1, rfl, hB.at rfl, Pp.isPairs_below h1 hb⟩
    | 1, _ => exact ⟨_, 0, u2, rfl, hB.at rfl, Pp.isPairs_below h2 hb⟩
  refine (Pp.merge_any _ [L1, L2] _ hL (by simp) (by simp; omega)).mono ?_
  rintro e w'' ⟨u, Z, rfl, hs, he, _, hp, hb2⟩
  have e3 : Z = L3 := hM Z hs (by simpa using he)
  subst e3
  obtain ⟨ma, mc, rfl, hq⟩ := id hp
  exact ⟨ma, mc, rfl, hp, below_trans hb hb2⟩
theorem and1023 (x : Int) : 0 ≤ bits .and .i64 x 1023 ∧ bits .and .i64 x 1023 ≤ 1023 := by
  have h2 : (BitVec.ofInt 64 (1023 : Int)).toNat = 1023 := by decide
  have e : bits .and .i64 x 1023 = IntKind.i64.wrap ((BitVec.ofInt 64 x &&& BitVec.ofInt 64 1023).toNat : Int) := rfl
  have hle : (BitVec.ofInt 64 x &&& BitVec.ofInt 64 1023).toNat ≤ 1023 := by
    rw [BitVec.toNat_and, h2]; exact Nat.and_le_right
  rw [e, wrap_small _ (by omega) (by omega)]
  omega
end Go.Proofs.YtmgpacenooncjaaGreatDoor
/- Contract of threshfloorref.SameSlices: lists that are the same. -/
namespace Go.Proofs.YtmgpacenooncjaaGreatDoor
open Go.ChangeShapes Go.WideShapes Go.ChangeAt Go.RowKit
set_option maxRecDepth 100000 in
set_option maxHeartbeats 1000000 in
theorem sameSlices_same (v u : Value) (ls : List (List (ByteArray × Int))) (w : World) (h : Pp.IsLists w v ls) (h' : Pp.IsLists w u ls) (hl : ∀ l ∈ ls, l.length ≤ 1000000) (hn : ls.length ≤ 1000) :
    Calls Tryz.prog 20 #[v, u] w fun e w' => e = .returned (.bool true) ∧ Below w.heap.size w w' := by
  have H := Lib.hid h
  have H' := Lib.hid h'
  have HL := Lib.hid hl
  obtain ⟨a, c, rfl, -⟩ := h
  obtain ⟨a', c', rfl, -⟩ := h'
  obtain ⟨n, hnn⟩ : ∃ n, n = ls.length := ⟨_, rfl⟩
  rw [← hnn] at H H' hn ⊢
  have HN := Lib.hid hnn
  clear hl hnn
  go_enter Tryz.func20, Tryz.ntmps20
  go_wp2_with fail
  go_loopg [5] n (fun gg iv wr => ∃ i : Nat, gg = n - i ∧ i ≤ n ∧ iv = .int .i64 i ∧ Below w.heap.size w wr)
  case atStart => exact ⟨0, rfl, Nat.zero_le _, rfl, Below.refl _ _⟩
  case round =>
    obtain ⟨i, hgi, hi, rfl, hb⟩ := hrel
    have HGI := Lib.hid hgi
    have HB := Lib.hid hb
    clear hgi
    by_cases hlt : i < n
    · have hil : i < ls.length := by have := HN.out; omega
      obtain ⟨x1, y1, e1, hc1⟩ := lists_below H.out hb
      obtain ⟨x2, y2, e2, hc2⟩ := lists_below H'.out hb
      obtain ⟨b1, o1, u1, q1, c1, p1⟩ := hc1 i hil
      obtain ⟨b2, o2, u2, q2, c2, p2⟩ := hc2 i hil
      rw [Value.slice.injEq] at e1 e2
      obtain ⟨e1, -, -⟩ := e1
      obtain ⟨e2, -, -⟩ := e2
      rw [← e1] at q1
      rw [← e2] at q2
      subst q1 q2
      have SP : Hid (∀ w', Below wr.heap.size wr w' → Calls Tryz.prog 17 #[u1, u2] w' fun e w'' => e = .returned (.bool true) ∧ Below w'.heap.size w' w'') := fun w' hb' => by
        refine (Pp.samePairs_any u1 u2 ls[i] ls[i] w' (Pp.isPairs_below p1 hb') (Pp.isPairs_below p2 hb') (by have := HL.out _ (List.getElem_mem hil); unfold maxLen; omega)).mono ?_
        rintro e w'' ⟨rfl, k, rfl⟩
        exact ⟨by rw [decide_eq_true rfl], below_drewN _ _⟩
      obtain ⟨a1, d1, rfl, -⟩ := p1
      obtain ⟨a2, d2, rfl, -⟩ := p2
      have HLT := Lib.hid hlt
      clear hc1 hc2 hb e1 e2
      go_upto_region 6 with fail
      go_region_with (go_at_call 17; refine (SP.out _ (by first | exact Below.refl _ _ | exact Pp.blw_drew (Below.refl _ _))).mono ?_; rintro _ w1 ⟨rfl, hb1⟩; have HB1 : Hid (Below w.heap.size w w1) := (by first | exact below_trans HB.out hb1 | exact below_trans HB.out (below_trans (Pp.blw_drew (Below.refl _ _)) hb1)); clear hb1 c1 c2)
      all_goals
        (try simp only [Exit.then])
        go_wp2
        go_roundg (n - (i + 1))
        case measure => have := HGI.out; have := HLT.out; omega
        case rel => exact ⟨i + 1, rfl, HLT.out, by go_num, HB1.out⟩
    · go_wp2
      go_ret
      exact ⟨rfl, HB.out⟩
end Go.Proofs.YtmgpacenooncjaaGreatDoor
/- Mapping: a step, its check, a stop. Written by tpl/mk_mp.py. -/
namespace Go.Proofs.YtmgpacenooncjaaGreatDoor
open Go.ChangeShapes Go.WideShapes Go.ChangeAt Go.RowKit
set_option maxRecDepth 1000000 in
set_option maxHeartbeats 4000000 in
theorem map_b1 (SD : StepDoes) (w : World) (P B R d0 ns ln lc rn rc sb soff sn sc i : Nat) (nn fo : Int) (ea : Bool) (l : List Rl) (ra la : Option Addr) (rv lv mv av : Value) (lines : List (List UInt8)) (w0 : World) (K : Act → World → Prop) (s0 s1 s4 s6 s7 s8 s9 s10 s11 s12 s13 s18 s19 s20 s21 s22 s23 s24 s25 s26 s27 s28 s29 s30 s31 s32 s33 s34 s35 s36 s37 s38 s39 s40 s41 s42 s43 s44 s45 s46 s47 s48 s49 s50 s51 s52 s53 s54 s55 s56 s57 s58 s59 s60 s61 s62 s63 s64 s65 s66 s67 s68 s69 s70 s71 s72 s73 s74 s75 s76 s77 s78 s79 s80 s81 s82 s83 s84 s85 s86 s87 s88 s89 s90 s91 s92 s93 s94 s95 s96 s97 s98 s99 s100 s101 s102 s103 s104 s105 s106 s107 s108 s109 s110 s111 s112 s113 s114 s115 s116 s117 s118 s119 s120 s121 s122 s123 s124 s125 s126 s127 s128 s129 s130 s131 s132 s133 s134 s135 s136 s137 s138 s139 s140 s141 s142 s143 s144 s145 s146 s147 s148 s149 s150 s151 s152 s153 s154 s155 s156 s157 s158 s159 s160 s161 s162 s163 s164 s165 s166 s167 s168 s169 s170 s171 s172 s173 s174 s175 s176 s177 s178 s179 s180 s181 s182 s183 s184 s185 s186 s187 s188 s189 s190 s191 s192 s193 s194 s195 : Value)
    (HP : Hid (∀ w', Below w.heap.size w w' → Pp.Env w'))
    (HE : Hid (∀ w', Below w.heap.size w w' → EnvS w'))
    (HR : Hid (∀ w', Below w.heap.size w w' → IsRules w' (.slice ra rn rc) l))
    (HWT : Hid (rulesWt l ≤ 1000000000))
    (HV : Hid (∀ w', Below w.heap.size w w' → IsTexts w' (.slice la ln lc) (lines.map bs)))
    (hln : Hid (ln = lines.length))
    (hJ : Hid (jobFault ⟨l, fo, ea, (ns : Int)⟩ = 0))
    (hLO : Hid (∀ x ∈ lines, x.length ≤ 150))
    (h60 : ln ≤ 60)
    (hM : MA w w0 P B R [.slice ra rn rc, .int .i64 fo, .bool ea, .int .i64 (ns : Int)] ⟨l, fo, ea, (ns : Int)⟩ rv lv mv lines d0 av d0)
    (hst : Hid (∀ w', Below w.heap.size w w' → w'.cell? ⟨sb, soff + i, none⟩ = some (.int .i64 nn)))
    (his : i < sn)
    (hi30 : i < 30)
    (hnn : -9223372036854775808 ≤ nn ∧ nn ≤ 9223372036854775807)
    (HK : Hid (∀ (z8 z18 z19 z20 z21 z22 z103 z104 z105 z106 z107 z108 z109 z110 z111 z112 z113 z114 z115 z116 z117 z118 z119 z120 z121 z122 z123 z124 z125 z126 z127 z128 z129 z130 z131 z132 z133 z134 z135 z136 z137 z138 z139 z140 z141 z142 z143 z144 z145 z146 z147 z148 z149 z150 z151 z152 z153 z154 z155 z156 z157 z158 z159 z160 z161 z162 z163 z164 z165 z166 z167 z168 z169 z170 z171 z172 z173 z174 z175 z176 z177 z178 z179 z180 z181 z182 z183 : Value) (B2 R2 d2 : Nat) (rv2 lv2 mv2 av' : Value) (wx : World), MA w wx P B2 R2 [.slice ra rn rc, .int .i64 fo, .bool ea, .int .i64 (ns : Int)] ⟨l, fo, ea, (ns : Int)⟩ rv2 lv2 mv2 lines d2 av' d2 → K ⟨#[s0, s1, .slice la ln lc, .slice (some ⟨sb, soff, none⟩) sn sc, s4, .pointer (some ⟨P, 0, none⟩), s6, s7, z8, s9, s10, s11, s12, s13, .pointer (some ⟨R2, 0, none⟩), av', .int .i64 (d2 : Int), .int .i64 (i : Int), z18, z19, z20, z21, z22, s23, s24, s25, s26, s27, s28, s29, s30, s31, s32, s33, s34, s35, s36, s37, s38, s39, s40, s41, s42, s43, s44, s45, s46, s47, s48, s49, s50, s51, s52, s53, s54, s55, s56, s57, s58, s59, s60, s61, s62, s63, s64, s65, s66, s67, s68, s69, s70, s71, s72, s73, s74, s75, s76, s77, s78, s79, s80, s81, s82, s83, s84, s85, s86, s87, s88, s89, s90, s91, s92, s93, s94, s95, s96, s97, s98, s99, s100, s101, s102, z103, z104, z105, z106, z107, z108, z109, z110, z111, z112, z113, z114, z115, z116, z117, z118, z119, z120, z121, z122, z123, z124, z125, z126, z127, z128, z129, z130, z131, z132, z133, z134, z135, z136, z137, z138, z139, z140, z141, z142, z143, z144, z145, z146, z147, z148, z149, z150, z151, z152, z153, z154, z155, z156, z157, z158, z159, z160, z161, z162, z163, z164, z165, z166, z167, z168, z169, z170, z171, z172, z173, z174, z175, z176, z177, z178, z179, z180, z181, z182, z183, s184, s185, s186, s187, s188, s189, s190, s191, s192, s193, s194, s195], []⟩ wx)) :
    Code.wp Tryz.prog (pieceIn Tryz.f3.body 1) (Exit.then K fun _ _ _ => False) ⟨#[s0, s1, .slice la ln lc, .slice (some ⟨sb, soff, none⟩) sn sc, s4, .pointer (some ⟨P, 0, none⟩), s6, s7, s8, s9, s10, s11, s12, s13, .pointer (some ⟨R, 0, none⟩), av, .int .i64 (d0 : Int), .int .i64 (i : Int), s18, s19, s20, s21, s22, s23, s24, s25, s26, s27, s28, s29, s30, s31, s32, s33, s34, s35, s36, s37, s38, s39, s40, s41, s42, s43, s44, s45, s46, s47, s48, s49, s50, s51, s52, s53, s54, s55, s56, s57, s58, s59, s60, s61, s62, s63, s64, s65, s66, s67, s68, s69, s70, s71, s72, s73, s74, s75, s76, s77, s78, s79, s80, s81, s82, s83, s84, s85, s86, s87, s88, s89, s90, s91, s92, s93, s94, s95, s96, s97, s98, s99, s100, s101, s102, s103, s104, s105, s106, s107, s108, s109, s110, s111, s112, s113, s114, s115, s116, s117, s118, s119, s120, s121, s122, s123, s124, s125, s126, s127, s128, s129, s130, s131, s132, s133, s134, s135, s136, s137, s138, s139, s140, s141, s142, s143, s144, s145, s146, s147, s148, s149, s150, s151, s152, s153, s154, s155, s156, s157, s158, s159, s160, s161, s162, s163, s164, s165, s166, s167, s168, s169, s170, s171, s172, s173, s174, s175, s176, s177, s178, s179, s180, s181, s182, s183, s184, s185, s186, s187, s188, s189, s190, s191, s192, s193, s194, s195], []⟩ w0 := by
  have hn6 : lines.length ≤ 60 := by rw [← hln.out]; exact h60
  obtain ⟨-, -, -, -, hs1, hs4, -⟩ := jobFault_parts hJ.out
  simp only at hs1 hs4
  have hns1 : 1 ≤ ns := by omega
  have hns4 : ns ≤ 4 := by omega
  have HLEN : Hid (∀ d, (madeOf ⟨l, fo, ea, (ns : Int)⟩ (lines.take d)).length ≤ 59999 ∧ Pp.Fits (madeOf ⟨l, fo, ea, (ns : Int)⟩ (lines.take d))) := fun d => ⟨made_take_len2 hJ.out hLO.out hn6 d, made_fits hJ.out (fun x hx => by have := hLO.out x (List.mem_of_mem_take hx); omega)⟩
  have CKS : Hid (∀ (wx : World) (R B d : Nat) (rv lv mv av : Value), MA w wx P B R [.slice ra rn rc, .int .i64 fo, .bool ea, .int .i64 (ns : Int)] ⟨l, fo, ea, (ns : Int)⟩ rv lv mv lines d av d →
      (∀ w', Below wx.heap.size wx w' → Calls Tryz.prog 19 #[.pointer (some ⟨R, 0, none⟩)] w' fun e w'' => e = .returned (.int .i64 (d : Int)) ∧ Below wx.heap.size wx w'') ∧
      (∀ w', Below wx.heap.size wx w' → Calls Tryz.prog 21 #[.pointer (some ⟨R, 0, none⟩)] w' fun e w'' => ∃ ua uc, e = .returned (.slice ua ns uc) ∧ Hid (Pp.IsLists w'' (.slice ua ns uc) (slicesOf fo ea ns (madeOf ⟨l, fo, ea, (ns : Int)⟩ (lines.take d)))) ∧ Below wx.heap.size wx w'') ∧
      (∀ ua uc w', Hid (Pp.IsLists w' (.slice ua ns uc) (slicesOf fo ea ns (madeOf ⟨l, fo, ea, (ns : Int)⟩ (lines.take d)))) → Below wx.heap.size wx w' → Calls Tryz.prog 22 #[.agg #[.slice ra rn rc, .int .i64 fo, .bool ea, .int .i64 (ns : Int)], av] w' fun e w'' => ∃ va vc, e = .returned (.slice va ns vc) ∧ Hid (Pp.IsLists w'' (.slice ua ns uc) (slicesOf fo ea ns (madeOf ⟨l, fo, ea, (ns : Int)⟩ (lines.take d)))) ∧ Hid (Pp.IsLists w'' (.slice va ns vc) (slicesOf fo ea ns (madeOf ⟨l, fo, ea, (ns : Int)⟩ (lines.take d)))) ∧ Below wx.heap.size wx w'') ∧
      (∀ ua uc va vc w', Hid (Pp.IsLists w' (.slice ua ns uc) (slicesOf fo ea ns (madeOf ⟨l, fo, ea, (ns : Int)⟩ (lines.take d)))) → Hid (Pp.IsLists w' (.slice va ns vc) (slicesOf fo ea ns (madeOf ⟨l, fo, ea, (ns : Int)⟩ (lines.take d)))) → Below wx.heap.size wx w' → Calls Tryz.prog 20 #[.slice ua ns uc, .slice va ns vc] w' fun e w'' => e = .returned (.bool true) ∧ Below wx.heap.size wx w'')) := fun wx R B d rv lv mv av h => by
    have hml := (HLEN.out d).1
    have hmk : ∀ p ∈ madeOf ⟨l, fo, ea, (ns : Int)⟩ (lines.take d), p.1.size ≤ 1000 := fun p hp => by have := made_key hp; omega
    have hsl : (slicesOf fo ea ns (madeOf ⟨l, fo, ea, (ns : Int)⟩ (lines.take d))).length = ns := by simp [slicesOf]
    refine ⟨fun w' hb => ?_, fun w' hb => ?_, fun ua uc w' hu hb => ?_, fun ua uc va vc w' hu hv hb => ?_⟩
    · refine (at_any R d ⟨l, fo, ea, (ns : Int)⟩ rv lv mv lines _ w' (h.run.blw hb)).mono ?_
      rintro e w'' ⟨rfl, rfl⟩
      exact ⟨rfl, hb⟩
    · refine (slices_any R d l fo ea ns rv lv mv lines _ w' (h.run.blw hb) hns1 hns4 (by omega) hmk).mono ?_
      rintro e w'' ⟨u, rfl, hl, hb2⟩
      have hl2 := Lib.hid hl
      obtain ⟨ua, uc, e2, -⟩ := hl
      rw [hsl] at e2
      subst e2
      exact ⟨ua, uc, rfl, hl2, below_trans hb hb2⟩
    · refine (cut_any fo ea ns (.slice ra rn rc) av _ w' (Pp.owns_isPairs (h.below hb).all) hns1 hns4 (by omega) hmk).mono ?_
      rintro e w'' ⟨u, rfl, hl, hb2⟩
      have hl2 := Lib.hid hl
      obtain ⟨va, vc, e2, -⟩ := hl
      rw [hsl] at e2
      subst e2
      exact ⟨va, vc, rfl, lists_below hu.out hb2, hl2, below_trans hb hb2⟩
    · refine (sameSlices_same _ _ _ w' hu.out hv.out (fun L hL => ?_) (by rw [hsl]; omega)).mono ?_
      · unfold slicesOf at hL
        rw [List.mem_map] at hL
        obtain ⟨k, _, rfl⟩ := hL
        have h1 := part_len fo ea ns k ⟨l, fo, ea, (ns : Int)⟩ (lines.take d)
        unfold partOf at h1
        omega
      · rintro e w'' ⟨rfl, hb2⟩
        exact ⟨rfl, below_trans hb hb2⟩
  have HIN : Hid (MRin w0 R ⟨l, fo, ea, (ns : Int)⟩ lines) := ⟨hJ.out, by have h1 := HWT.out; simp only at h1 ⊢; omega, hn6, fun x hx => by have := hLO.out x hx; omega, fun w' hb' => HE.out w' (hM.org.trans (hb'.mono (by have := hM.low; omega)))⟩
  have NEW : Hid (∀ (wr : World), Below w.heap.size w wr → Calls Tryz.prog 14 #[.agg #[.slice ra rn rc, .int .i64 fo, .bool ea, .int .i64 (ns : Int)], .slice la ln lc] wr fun e w'' => ∃ R2 rv2 lv2, e = .returned (.tuple #[.pointer (some ⟨R2, 0, none⟩), .nilIface]) ∧ Hid (IsMR w'' R2 ⟨l, fo, ea, (ns : Int)⟩ rv2 lv2 lines 0 (.slice none 0 0) []) ∧ Hid (MRheld wr.heap.size w'' R2 ⟨l, fo, ea, (ns : Int)⟩ rv2 lv2 lines) ∧ Below wr.heap.size wr w'') := fun wr hbw => by
    refine (new_ok2 ⟨l, fo, ea, (ns : Int)⟩ (.slice ra rn rc) (.slice la ln lc) lines wr (HR.out wr hbw) (by have h1 := job_small hJ.out; simp only at h1 ⊢; omega) hJ.out (HV.out wr hbw) hn6 (HE.out wr hbw)).mono ?_
    rintro e w'' ⟨R2, rv2, lv2, rfl, h1, h2, h3⟩
    exact ⟨R2, rv2, lv2, rfl, h1, h2, h3⟩
  have SD1 := Lib.hid (SD R d0 nn ⟨l, fo, ea, (ns : Int)⟩ rv lv mv lines w0 hM.run HIN.out hM.din hnn.1 hnn.2)
  have HM := Lib.hid hM
  have HI30 := Lib.hid hi30
  have st0 := hst.out w0 hM.org
  have hiI : (i : Int) < (sn : Int) := by omega
  clear hM hnn SD HIN hs1 hs4 hi30
  conv => arg 2; whnf
  go_wp2_with (go_at_call 15; refine Hid.out ?_)
  refine Lib.hid ?_
  refine SD1.out.mono ?_
  clear SD1
  rintro _ w1 ⟨d1, mv1, hd1, rfl, hr1, hF1, ho1⟩
  have hd1n : d1 ≤ lines.length := by have := HM.out.din; omega
  have HM1 := Lib.hid (HM.out.step hr1 hd1n hF1 ho1)
  have HD1 : Hid (d1 = d0 + min nn.toNat (ln - d0)) := by show _ = _; rw [hln.out]; exact hd1
  have HDIN : Hid (d0 ≤ ln) := by show _ ≤ _; rw [hln.out]; exact HM.out.din
  obtain ⟨ov, hov⟩ : ∃ ov, decide (d1 = lines.length) = ov := ⟨_, rfl⟩
  rw [hov]
  have HOV : Hid (((d1 : Int) == (ln : Int)) = ov) := by
    show _ = _
    rw [← hov, hln.out]
    by_cases e : d1 = lines.length
    · rw [e]; simp
    · rw [decide_eq_false e, beq_eq_false_iff_ne]; omega
  clear hd1 hr1 hF1 ho1 hov hd1n HM st0
  go_upto_block 2 with fail
  refine wp_norm (map_b2 w P B R d1 d0 ns ln lc rn rc sb soff sn sc i nn fo ea l ra la rv lv mv1 _ lines _ _ _ _ _ _ _ _ _ _ _ _ _ _ _ _ _ _ _ _ _ _ _ _ _ _ _ _ _ _ _ _ _ _ _ _ _ _ _ _ _ _ _ _ _ _ _ _ _ _ _ _ _ _ _ _ _ _ _ _ _ _ _ _ _ _ _ _ _ _ _ _ _ _ _ _ _ _ _ _ _ _ _ _ _ _ _ _ _ _ _ _ _ _ _ _ _ _ _ _ _ _ _ _ _ _ _ _ _ _ _ _ _ _ _ _ _ _ _ _ _ _ _ _ _ _ _ _ _ _ _ _ _ _ _ _ _ _ _ _ _ _ _ _ _ _ _ _ _ _ _ _ _ _ _ _ _ _ _ _ _ _ _ _ _ _ _ _ _ _ _ _ _ _ _ _ _ _ _ _ _ _ _ _ _ _ _ _ _ _ _ HE HR HWT HV hln hJ hLO h60 HM1.out hst his HI30.out HD1 HDIN.out ?_)
  refine Lib.hid ?_
  intro z8 z19 z20 z109 z110 z111 z112 z113 z114 z115 z116 z117 z118 z119 z120 z121 z122 z123 z124 z125 z126 z127 z128 z129 z130 z131 z132 z133 z134 z135 z136 z137 z138 z139 z140 z141 z142 av' wx hMx
  have HMX := Lib.hid hMx
  clear hMx HM1
  have AT := Lib.hid (CKS.out _ _ _ _ _ _ _ _ HMX.out).1
  have SLS := Lib.hid (CKS.out _ _ _ _ _ _ _ _ HMX.out).2.1
  have CUT := Lib.hid (CKS.out _ _ _ _ _ _ _ _ HMX.out).2.2.1
  have SMS := Lib.hid (CKS.out _ _ _ _ _ _ _ _ HMX.out).2.2.2
  have c0 := HMX.out.job.at (i := 0) (v := .slice ra rn rc) rfl
  have c1 := HMX.out.job.at (i := 1) (v := .int .i64 fo) rfl
  have c2 := HMX.out.job.at (i := 2) (v := .bool ea) rfl
  have c3 := HMX.out.job.at (i := 3) (v := .int .i64 (ns : Int)) rfl
  have gov := HOV.out
  have gov2 : (ov != ov) = false := by simp
  have C0 := Lib.hid c0
  have C1 := Lib.hid c1
  have C2 := Lib.hid c2
  have C3 := Lib.hid c3
  have hb00 : Below wx.heap.size wx wx.drew := ⟨rfl, rfl, rfl, Nat.le_refl _, fun _ _ => rfl⟩
  go_upto_region 30 with fail
  go_region_held3 (fun w' => Below wx.heap.size wx w' ∧ w'.cell? ⟨P, 0, none⟩ = some (.slice ra rn rc) ∧ w'.cell? ⟨P, 1, none⟩ = some (.int .i64 fo) ∧ w'.cell? ⟨P, 2, none⟩ = some (.bool ea) ∧ w'.cell? ⟨P, 3, none⟩ = some (.int .i64 (ns : Int)))
    (refine ⟨?_, ?_, ?_, ?_, ?_⟩ <;> first | assumption | exact Below.refl _ _ | exact cell_below C0.out (by assumption) | exact cell_below C1.out (by assumption) | exact cell_below C2.out (by assumption) | exact cell_below C3.out (by assumption))
    (first
      | (go_at_call 19; refine (AT.out _ (by assumption)).mono ?_; rintro _ wa ⟨rfl, hba⟩)
      | (go_at_call 21; refine (SLS.out _ (by assumption)).mono ?_; rintro _ wc ⟨ua, uc, rfl, HU, hbc⟩)
      | (go_at_call 22; refine (CUT.out _ _ _ HU (by assumption)).mono ?_; rintro _ wd ⟨va, vc, rfl, HU2, HV2, hbd⟩)
      | (go_at_call 20; refine (SMS.out _ _ _ _ _ HU2 HV2 (by assumption)).mono ?_; rintro _ we ⟨rfl, hbe⟩))
  (try simp only [Exit.then])
  rename_i hheld
  have HB5 : Hid (Below wx.heap.size wx we) := hbe
  have HME := Lib.hid (HMX.out.below hbe)
  have NW := Lib.hid (NEW.out we HME.out.org)
  clear hheld hb00 c0 c1 c2 c3 hba hbc HU HU2 HV2 hbd hbe AT SLS CUT SMS CKS gov gov2 HOV C0 C1 C2 C3
  have c0 := HME.out.job.at (i := 0) (v := .slice ra rn rc) rfl
  have c1 := HME.out.job.at (i := 1) (v := .int .i64 fo) rfl
  have c2 := HME.out.job.at (i := 2) (v := .bool ea) rfl
  have c3 := HME.out.job.at (i := 3) (v := .int .i64 (ns : Int)) rfl
  go_wp2_with (go_at_call 14; refine Hid.out ?_)
  refine Lib.hid ?_
  refine NW.out.mono ?_
  clear NW
  rintro _ wf ⟨R2, rv2, lv2, rfl, HR2, HH2, hbf⟩
  have HMF := Lib.hid (HME.out.below hbf)
  have HSV := Lib.hid (msave_any R d1 ⟨l, fo, ea, (ns : Int)⟩ rv lv mv1 lines _ wf (HP.out wf HMF.out.org).t HMF.out.run (HLEN.out d1).2 (HLEN.out d1).1 (by have := HMF.out.din; omega))
  obtain ⟨tx, htx⟩ : ∃ tx, tx = bs (saveL d1 (madeOf ⟨l, fo, ea, (ns : Int)⟩ (lines.take d1))) := ⟨_, rfl⟩
  rw [← htx] at HSV
  have HTX := Lib.hid htx
  have HBF : Hid (Below we.heap.size we wf) := hbf
  clear htx c0 c1 c2 c3 hbf
  dsimp only
  go_wp2_with (go_at_call 24; refine Hid.out ?_)
  refine Lib.hid ?_
  refine HSV.out.mono ?_
  clear HSV
  rintro _ wg ⟨rfl, hbg⟩
  have HMG := Lib.hid (HMF.out.below hbg)
  obtain ⟨hrg, hhg⟩ := HR2.out.stay HH2.out hbg
  have HRG := Lib.hid hrg
  have HHG := Lib.hid hhg
  have HBG : Hid (Below we.heap.size we wg) := below_trans HBF.out hbg
  have LD := Lib.hid (mload_any R2 0 d1 ⟨l, fo, ea, (ns : Int)⟩ rv2 lv2 (.slice none 0 0) lines [] (madeOf ⟨l, fo, ea, (ns : Int)⟩ (lines.take d1)) wg (HP.out wg HMG.out.org) HRG.out (HLEN.out d1).2 (HLEN.out d1).1 HMG.out.din (by omega))
  rw [← HTX.out] at LD
  clear hbg hrg hhg HMF HR2 HH2
  go_wp2_with (go_at_call 23; refine Hid.out ?_)
  refine Lib.hid ?_
  refine LD.out.mono ?_
  clear LD
  rintro _ wh ⟨mv2, rfl, hrh, hFh, hownh⟩
  have HMH : Hid (MA w wh P we.heap.size R2 [.slice ra rn rc, .int .i64 fo, .bool ea, .int .i64 (ns : Int)] ⟨l, fo, ea, (ns : Int)⟩ rv2 lv2 mv2 lines d1 av' d1) := HME.out.swap HBG.out HHG.out HRG.out.blk.lt hrh hFh hownh
  clear hrh hFh hownh HMG HRG HHG HME
  go_wp2
  exact HK.out _ _ _ _ _ _ _ _ _ _ _ _ _ _ _ _ _ _ _ _ _ _ _ _ _ _ _ _ _ _ _ _ _ _ _ _ _ _ _ _ _ _ _ _ _ _ _ _ _ _ _ _ _ _ _ _ _ _ _ _ _ _ _ _ _ _ _ _ _ _ _ _ _ _ _ _ _ _ _ _ _ _ _ _ _ _ _ we.heap.size R2 d1 rv2 lv2 mv2 av' wh HMH.out
end Go.Proofs.YtmgpacenooncjaaGreatDoor
/- Mapping: all steps. Written by tpl/mk_mp.py. -/
namespace Go.Proofs.YtmgpacenooncjaaGreatDoor
open Go.ChangeShapes Go.WideShapes Go.ChangeAt Go.RowKit
set_option maxRecDepth 1000000 in
set_option maxHeartbeats 4000000 in
theorem map_b0 (SD : StepDoes) (w : World) (P B R ns ln lc rn rc sn sc : Nat) (fo : Int) (ea : Bool) (l : List Rl) (ra la sa : Option Addr) (rv lv mv av : Value) (lines : List (List UInt8)) (steps : List Int) (w0 : World) (K : Act → World → Prop) (s0 s1 s4 s6 s7 s8 s9 s10 s11 s12 s13 s18 s19 s20 s21 s22 s23 s24 s25 s26 s27 s28 s29 s30 s31 s32 s33 s34 s35 s36 s37 s38 s39 s40 s41 s42 s43 s44 s45 s46 s47 s48 s49 s50 s51 s52 s53 s54 s55 s56 s57 s58 s59 s60 s61 s62 s63 s64 s65 s66 s67 s68 s69 s70 s71 s72 s73 s74 s75 s76 s77 s78 s79 s80 s81 s82 s83 s84 s85 s86 s87 s88 s89 s90 s91 s92 s93 s94 s95 s96 s97 s98 s99 s100 s101 s102 s103 s104 s105 s106 s107 s108 s109 s110 s111 s112 s113 s114 s115 s116 s117 s118 s119 s120 s121 s122 s123 s124 s125 s126 s127 s128 s129 s130 s131 s132 s133 s134 s135 s136 s137 s138 s139 s140 s141 s142 s143 s144 s145 s146 s147 s148 s149 s150 s151 s152 s153 s154 s155 s156 s157 s158 s159 s160 s161 s162 s163 s164 s165 s166 s167 s168 s169 s170 s171 s172 s173 s174 s175 s176 s177 s178 s179 s180 s181 s182 s183 s184 s185 s186 s187 s188 s189 s190 s191 s192 s193 s194 s195 : Value)
    (HP : Hid (∀ w', Below w.heap.size w w' → Pp.Env w'))
    (HE : Hid (∀ w', Below w.heap.size w w' → EnvS w'))
    (HR : Hid (∀ w', Below w.heap.size w w' → IsRules w' (.slice ra rn rc) l))
    (HWT : Hid (rulesWt l ≤ 1000000000))
    (HV : Hid (∀ w', Below w.heap.size w w' → IsTexts w' (.slice la ln lc) (lines.map bs)))
    (hln : Hid (ln = lines.length))
    (hJ : Hid (jobFault ⟨l, fo, ea, (ns : Int)⟩ = 0))
    (hLO : Hid (∀ x ∈ lines, x.length ≤ 150))
    (h60 : ln ≤ 60)
    (hM : MA w w0 P B R [.slice ra rn rc, .int .i64 fo, .bool ea, .int .i64 (ns : Int)] ⟨l, fo, ea, (ns : Int)⟩ rv lv mv lines 0 av 0)
    (HN : Hid (∀ w', Below w.heap.size w w' → IsNums w' (.slice sa sn sc) steps))
    (hsn : Hid (sn = steps.length))
    (hsi : Hid (∀ n ∈ steps, -9223372036854775808 ≤ n ∧ n ≤ 9223372036854775807))
    (hs30 : sn ≤ 30)
    (HK : Hid (∀ (z8 z17 z18 z19 z20 z21 z22 z97 z98 z99 z100 z101 z102 z103 z104 z105 z106 z107 z108 z109 z110 z111 z112 z113 z114 z115 z116 z117 z118 z119 z120 z121 z122 z123 z124 z125 z126 z127 z128 z129 z130 z131 z132 z133 z134 z135 z136 z137 z138 z139 z140 z141 z142 z143 z144 z145 z146 z147 z148 z149 z150 z151 z152 z153 z154 z155 z156 z157 z158 z159 z160 z161 z162 z163 z164 z165 z166 z167 z168 z169 z170 z171 z172 z173 z174 z175 z176 z177 z178 z179 z180 z181 z182 z183 : Value) (B2 R2 d2 : Nat) (rv2 lv2 mv2 av' : Value) (wx : World), MA w wx P B2 R2 [.slice ra rn rc, .int .i64 fo, .bool ea, .int .i64 (ns : Int)] ⟨l, fo, ea, (ns : Int)⟩ rv2 lv2 mv2 lines d2 av' d2 → K ⟨#[s0, s1, .slice la ln lc, .slice sa sn sc, s4, .pointer (some ⟨P, 0, none⟩), s6, s7, z8, s9, s10, s11, s12, s13, .pointer (some ⟨R2, 0, none⟩), av', .int .i64 (d2 : Int), z17, z18, z19, z20, z21, z22, s23, s24, s25, s26, s27, s28, s29, s30, s31, s32, s33, s34, s35, s36, s37, s38, s39, s40, s41, s42, s43, s44, s45, s46, s47, s48, s49, s50, s51, s52, s53, s54, s55, s56, s57, s58, s59, s60, s61, s62, s63, s64, s65, s66, s67, s68, s69, s70, s71, s72, s73, s74, s75, s76, s77, s78, s79, s80, s81, s82, s83, s84, s85, s86, s87, s88, s89, s90, s91, s92, s93, s94, s95, s96, z97, z98, z99, z100, z101, z102, z103, z104, z105, z106, z107, z108, z109, z110, z111, z112, z113, z114, z115, z116, z117, z118, z119, z120, z121, z122, z123, z124, z125, z126, z127, z128, z129, z130, z131, z132, z133, z134, z135, z136, z137, z138, z139, z140, z141, z142, z143, z144, z145, z146, z147, z148, z149, z150, z151, z152, z153, z154, z155, z156, z157, z158, z159, z160, z161, z162, z163, z164, z165, z166, z167, z168, z169, z170, z171, z172, z173, z174, z175, z176, z177, z178, z179, z180, z181, z182, z183, s184, s185, s186, s187, s188, s189, s190, s191, s192, s193, s194, s195], []⟩ wx)) :
    Code.wp Tryz.prog (pieceIn Tryz.f3.body 0) (Exit.then K fun _ _ _ => False) ⟨#[s0, s1, .slice la ln lc, .slice sa sn sc, s4, .pointer (some ⟨P, 0, none⟩), s6, s7, s8, s9, s10, s11, s12, s13, .pointer (some ⟨R, 0, none⟩), av, .int .i64 0, .int .i64 0, s18, s19, s20, s21, s22, s23, s24, s25, s26, s27, s28, s29, s30, s31, s32, s33, s34, s35, s36, s37, s38, s39, s40, s41, s42, s43, s44, s45, s46, s47, s48, s49, s50, s51, s52, s53, s54, s55, s56, s57, s58, s59, s60, s61, s62, s63, s64, s65, s66, s67, s68, s69, s70, s71, s72, s73, s74, s75, s76, s77, s78, s79, s80, s81, s82, s83, s84, s85, s86, s87, s88, s89, s90, s91, s92, s93, s94, s95, s96, s97, s98, s99, s100, s101, s102, s103, s104, s105, s106, s107, s108, s109, s110, s111, s112, s113, s114, s115, s116, s117, s118, s119, s120, s121, s122, s123, s124, s125, s126, s127, s128, s129, s130, s131, s132, s133, s134, s135, s136, s137, s138, s139, s140, s141, s142, s143, s144, s145, s146, s147, s148, s149, s150, s151, s152, s153, s154, s155, s156, s157, s158, s159, s160, s161, s162, s163, s164, s165, s166, s167, s168, s169, s170, s171, s172, s173, s174, s175, s176, s177, s178, s179, s180, s181, s182, s183, s184, s185, s186, s187, s188, s189, s190, s191, s192, s193, s194, s195], []⟩ w0 := by
  have HM0 : Hid (MA w w0 P B R [.slice ra rn rc, .int .i64 fo, .bool ea, .int .i64 (ns : Int)] ⟨l, fo, ea, (ns : Int)⟩ rv lv mv lines 0 av 0) := hM
  have HSD := Lib.hid SD
  have HS30 := Lib.hid hs30
  clear hM SD hs30
  conv => arg 2; whnf
  go_wp2_with fail
  go_loopg [14, 15, 16, 17] sn (fun gg pv bv dv iv wr => ∃ (i B R d : Nat) (rv lv mv : Value), gg = sn - i ∧ i ≤ sn ∧ pv = .pointer (some ⟨R, 0, none⟩) ∧ dv = .int .i64 d ∧ iv = .int .i64 i ∧ Hid (MA w wr P B R [.slice ra rn rc, .int .i64 fo, .bool ea, .int .i64 (ns : Int)] ⟨l, fo, ea, (ns : Int)⟩ rv lv mv lines d bv d))
  case atStart => exact ⟨0, B, R, 0, rv, lv, mv, rfl, Nat.zero_le _, rfl, rfl, rfl, HM0⟩
  case round =>
    clear HM0
    obtain ⟨i, B, R, d, rv, lv, mv, hgi, hi, rfl, rfl, rfl, HM⟩ := hrel
    have HGI := Lib.hid hgi
    clear hgi
    by_cases hlt : i < sn
    · have hN := HN.out w (Below.refl _ _)
      obtain ⟨a', c', e, hc⟩ := hN
      obtain ⟨sb, soff, rfl, c0⟩ := hc i (by rw [← hsn.out]; exact hlt)
      injection e with e1 e2 e3
      subst e1 e3
      have hri := hsi.out _ (List.getElem_mem (by rw [← hsn.out]; exact hlt))
      obtain ⟨nn, hnn⟩ : ∃ nn, nn = steps[i]'(by rw [← hsn.out]; exact hlt) := ⟨_, rfl⟩
      rw [← hnn] at c0 hri
      have HC0 : Hid (∀ w', Below w.heap.size w w' → w'.cell? ⟨sb, soff + i, none⟩ = some (.int .i64 nn)) := fun w' hb => cell_below c0 hb
      have HRI := Lib.hid hri
      have HLT := Lib.hid hlt
      have HI30 : Hid (i < 30) := Nat.lt_of_lt_of_le hlt HS30.out
      clear hc c0 hri e2 hnn hlt
      go_upto_block 1 with fail
      refine wp_norm (map_b1 HSD.out w P B R d ns ln lc rn rc sb soff sn _ i _ fo ea l ra la rv lv mv _ lines _ _ _ _ _ _ _ _ _ _ _ _ _ _ _ _ _ _ _ _ _ _ _ _ _ _ _ _ _ _ _ _ _ _ _ _ _ _ _ _ _ _ _ _ _ _ _ _ _ _ _ _ _ _ _ _ _ _ _ _ _ _ _ _ _ _ _ _ _ _ _ _ _ _ _ _ _ _ _ _ _ _ _ _ _ _ _ _ _ _ _ _ _ _ _ _ _ _ _ _ _ _ _ _ _ _ _ _ _ _ _ _ _ _ _ _ _ _ _ _ _ _ _ _ _ _ _ _ _ _ _ _ _ _ _ _ _ _ _ _ _ _ _ _ _ _ _ _ _ _ _ _ _ _ _ _ _ _ _ _ _ _ _ _ _ _ _ _ _ _ _ _ _ _ _ _ _ _ _ _ _ _ _ _ _ _ _ _ _ _ _ HP HE HR HWT HV hln hJ hLO h60 HM.out HC0 HLT.out HI30.out HRI.out ?_)
      refine Lib.hid ?_
      intro z8 z18 z19 z20 z21 z22 z103 z104 z105 z106 z107 z108 z109 z110 z111 z112 z113 z114 z115 z116 z117 z118 z119 z120 z121 z122 z123 z124 z125 z126 z127 z128 z129 z130 z131 z132 z133 z134 z135 z136 z137 z138 z139 z140 z141 z142 z143 z144 z145 z146 z147 z148 z149 z150 z151 z152 z153 z154 z155 z156 z157 z158 z159 z160 z161 z162 z163 z164 z165 z166 z167 z168 z169 z170 z171 z172 z173 z174 z175 z176 z177 z178 z179 z180 z181 z182 z183 B2 R2 d2 rv2 lv2 mv2 av' wx hMx
      have HMX := Lib.hid hMx
      clear hMx HM
      go_wp2
      go_roundg (sn - (i + 1))
      case measure => have := HGI.out; have := HLT.out; omega
      case rel => exact ⟨i + 1, B2, R2, d2, rv2, lv2, mv2, rfl, HLT.out, rfl, rfl, by have h := HI30.out; congr 1; first | (unfold wrap64; omega) | (rw [IntKind.wrap_i64]; omega), HMX⟩
    · go_wp2
      exact HK.out _ _ _ _ _ _ _ _ _ _ _ _ _ _ _ _ _ _ _ _ _ _ _ _ _ _ _ _ _ _ _ _ _ _ _ _ _ _ _ _ _ _ _ _ _ _ _ _ _ _ _ _ _ _ _ _ _ _ _ _ _ _ _ _ _ _ _ _ _ _ _ _ _ _ _ _ _ _ _ _ _ _ _ _ _ _ _ _ _ _ _ _ _ _ B R d rv lv mv _ wr HM.out
end Go.Proofs.YtmgpacenooncjaaGreatDoor
/- The document's RecordsOf: records of an input. -/
namespace Go.Proofs.YtmgpacenooncjaaGreatDoor
open Go.ChangeShapes Go.WideShapes Go.ChangeAt Go.RowKit
/-- What stands ahead of the first sign, and the pieces behind it. -/
theorem spl_step (c : UInt8) : ∀ t : List UInt8, ∃ x u, Pp.cutAt c (t ++ [c]) = (x, u, true) ∧ ((u = [] ∧ spl c t = [x]) ∨ ∃ t', u = t' ++ [c] ∧ spl c t = x :: spl c t' ∧ t'.length < t.length) := by
  intro t
  induction t with
  | nil => exact ⟨[], [], by simp [Pp.cutAt], .inl ⟨rfl, rfl⟩⟩
  | cons b r ih =>
    by_cases h : b = c
    · subst h
      exact ⟨[], r ++ [b], by simp [Pp.cutAt], .inr ⟨r, rfl, by simp [spl], by simp⟩⟩
    · obtain ⟨x, u, h1, h2⟩ := ih
      refine ⟨b :: x, u, by rw [List.cons_append, Pp.cutAt, if_neg h, h1], ?_⟩
      rcases h2 with ⟨h2, h3⟩ | ⟨t', h2, h3, h4⟩
      · exact .inl ⟨h2, by rw [spl, if_neg h, h3]; rfl⟩
      · exact .inr ⟨t', h2, by rw [spl, if_neg h, h3]; rfl, by simp; omega⟩
theorem spl_lenR (c : UInt8) (t : List UInt8) : (spl c t).length ≤ t.length + 1 := by
  induction t with
  | nil => simp [spl]
  | cons b r ih =>
    unfold spl
    split
    · simp; omega
    · have := List.length_pos_iff.2 (spl_ne c r)
      simp; omega
theorem spl_mem_len (c : UInt8) : ∀ (t : List UInt8) (x : List UInt8), x ∈ spl c t → x.length ≤ t.length := by
  intro t
  induction t with
  | nil => intro x hx; simp [spl] at hx; subst hx; simp
  | cons b r ih =>
    intro x hx
    unfold spl at hx
    cases hs : spl c r with
    | nil => exact absurd hs (spl_ne c r)
    | cons y l =>
      rw [hs] at hx
      split at hx
      · rcases List.mem_cons.1 hx with rfl | hx
        · simp
        · have := ih x (by rw [hs]; exact hx)
          simp; omega
      · simp only [List.headD_cons, List.tail_cons] at hx
        rcases List.mem_cons.1 hx with rfl | hx
        · have := ih y (by rw [hs]; simp)
          simp; omega
        · have := ih x (by rw [hs]; simp [hx])
          simp; omega
/-- Records of an input, and what is wrong with it. -/
def recsF (s : List UInt8) : List (List UInt8) × Nat :=
  if s = [] then ([], 0) else if s.getLast? ≠ some 10 then ([], 4) else if 60 < (spl 10 s.dropLast).length then ([], 2) else if (spl 10 s.dropLast).any (fun x => decide (120 < x.length)) = true then ([], 1) else (spl 10 s.dropLast, 0)
/-- What is read by now, and what is still to be read. -/
structure RO (w wr : World) (t rest : List UInt8) (lv : Value) (done : List (List UInt8)) (long : Bool) : Prop where
  org : Below w.heap.size w wr
  row : wr.ownsRow w.heap.size 9 1 lv done.length (strs done)
  all : (rest = [] ∧ done = spl 10 t) ∨ ∃ t', rest = t' ++ [10] ∧ spl 10 t = done ++ spl 10 t'
  lng : long = done.any (fun x => decide (120 < x.length))
  len : done.length ≤ (spl 10 t).length
theorem nil_texts (w : World) : IsTexts w (.slice none 0 0) (([] : List (List UInt8)).map bs) := ⟨none, 0, rfl, fun i hi => absurd hi (by simp)⟩
theorem recsF_end (t : List UInt8) : recsF (t ++ [10]) = if 60 < (spl 10 t).length then ([], 2) else if (spl 10 t).any (fun x => decide (120 < x.length)) = true then ([], 1) else (spl 10 t, 0) := by
  unfold recsF
  rw [if_neg (by simp), if_neg (by simp), List.dropLast_concat]
theorem recsF_not (t : List UInt8) (c : UInt8) (h : c ≠ 10) : recsF (t ++ [c]) = ([], 4) := by
  unfold recsF
  rw [if_neg (by simp), if_pos (by simpa using h)]
set_option maxRecDepth 100000 in
set_option maxHeartbeats 4000000 in
theorem recordsOf_any (s : List UInt8) (w : World) (hs : s.length ≤ 100000) :
    Calls Tryz.prog 10 #[.string (bs s)] w fun e w' => ∃ v, e = .returned (.tuple #[v, .int .i64 ((recsF s).2 : Nat)]) ∧ IsTexts w' v ((recsF s).1.map bs) ∧ Below w.heap.size w w' := by
  obtain ⟨i0, hi0, hz0, hz1, hz2⟩ := info_parts infoStr
  by_cases h0 : s = []
  · subst h0
    have h1 : (bs []).toList.isEmpty = true := by rw [bs_toList]; rfl
    go_enter Tryz.func10, Tryz.ntmps10
    go_wp2
    go_ret2
    exact ⟨_, rfl, nil_texts _, Below.refl _ _⟩
  have h1 : (bs s).toList.isEmpty = false := by rw [bs_toList]; simpa using h0
  obtain ⟨t, c, rfl⟩ : ∃ t c, s = t ++ [c] := ⟨s.dropLast, s.getLast h0, (List.dropLast_concat_getLast h0).symm⟩
  have hsz : (bs (t ++ [c])).size = t.length + 1 := by rw [bs_size]; simp
  have hix : (bs (t ++ [c]))[t.length]'(by omega) = c := by
    have e : ((t ++ [c]).toArray)[t.length]'(by simp) = c := by simp
    exact e
  have htl : t.length ≤ 100000 := by simp at hs; omega
  obtain ⟨B, hB⟩ : ∃ B, B = bs (t ++ [c]) := ⟨_, rfl⟩
  rw [← hB] at h1 hsz
  obtain ⟨m, hm⟩ : ∃ m, m = t.length := ⟨_, rfl⟩
  have hix2 : ∀ h : m < B.size, B[m]'h = c := by
    subst hm hB
    exact fun _ => hix
  have hsm : B.size = m + 1 := by omega
  have hm1 : wrap64 ((B.size : Int) - 1) = (m : Int) := by rw [hsm]; unfold wrap64; omega
  have hm2 : (m : Int) < (B.size : Int) := by omega
  have HB := Lib.hid hB
  have HMT := Lib.hid hm
  rw [← hB]
  clear hix h0 hs hB hsz hsm hm
  by_cases hc : c = 10
  · have he : ((c.toNat : Int) == 10) = true := by rw [hc]; rfl
    have HC := Lib.hid hc
    clear hc
    have R0 : Hid (RO w w t (t ++ [10]) (.slice none 0 0) [] false) := ⟨Below.refl _ _, World.ownsRow_nil _ _ _ _, .inr ⟨t, rfl, rfl⟩, rfl, Nat.zero_le _⟩
    go_enter Tryz.func10, Tryz.ntmps10
    rw [HC.out] at HB
    have HRF := Lib.hid (recsF_end t)
    rw [HC.out]
    have HSL : Hid ((spl 10 t).length ≤ 100001) := by show _ ≤ _; have := spl_lenR 10 t; omega
    have HT := Lib.hid htl
    have HBS : Hid (B = bs (t ++ [10])) := HB.out
    have HRN : Hid ((t ++ [(10 : UInt8)]).length = m + 1) := by show _ = _; rw [HMT.out]; simp
    clear htl HB
    have hbv : Value.string B = Value.string (bs (t ++ [10])) := by rw [HBS.out]
    go_wp2
    go_loopg [0, 4, 5] (m + 1) (fun gg sv lv bv wr => ∃ (rest : List UInt8) (done : List (List UInt8)) (long : Bool), gg = rest.length ∧ rest.length ≤ m + 1 ∧ sv = .string (bs rest) ∧ bv = .bool long ∧ Hid (RO w wr t rest lv done long))
    case atStart => exact ⟨t ++ [10], [], false, HRN.out.symm, Nat.le_of_eq HRN.out, rfl, rfl, R0⟩
    case round =>
      clear R0
      obtain ⟨rest, done, long, hgg, hrl, rfl, rfl, HR⟩ := hrel
      have HGG := Lib.hid hgg
      clear hgg
      have HDL := HR.out.len
      have HDL2 : done.length ≤ 100001 := Nat.le_trans HDL HSL.out
      obtain ⟨lva, lvc, e⟩ : ∃ va vc, u4 = .slice va done.length vc := by
        rcases row_slice HR.out.row with ⟨h1, h2⟩ | ⟨g, c, h1, _⟩
        · exact ⟨none, 0, by rw [h1, h2]⟩
        · exact ⟨_, c, h1⟩
      subst e
      obtain ⟨dn, hdn⟩ : ∃ n, n = done.length := ⟨_, rfl⟩
      rw [← hdn]
      have HDN := Lib.hid hdn
      have hdn2 : dn ≤ 100001 := by omega
      by_cases hr0 : rest = []
      · have hsz0 : (bs rest).size = 0 := by rw [bs_size, hr0]; rfl
        have HD : Hid (done = spl 10 t) := by
          rcases HR.out.all with ⟨_, h⟩ | ⟨t', h, _⟩
          · exact h
          · rw [hr0] at h; simp at h
        have HRT : Hid (IsTexts wr (.slice lva dn lvc) (done.map bs)) := by
          have h := isTexts_of HR.out.row
          rw [← HDN.out] at h
          exact h
        have HO := Lib.hid HR.out.org
        have HLG := Lib.hid HR.out.lng
        rw [← HD.out] at HRF
        clear hr0 hdn HR HDL HDL2
        by_cases h60 : 60 < dn
        · go_wp2
          go_ret2
          rw [HRF.out, if_pos (by rw [← HDN.out]; exact h60)]
          exact ⟨_, rfl, nil_texts _, HO.out⟩
        · cases long with
          | true =>
            go_wp2
            go_ret2
            rw [HRF.out, if_neg (by rw [← HDN.out]; exact h60), if_pos HLG.out.symm]
            exact ⟨_, rfl, nil_texts _, HO.out⟩
          | false =>
            go_wp2
            go_ret2
            rw [HRF.out, if_neg (by rw [← HDN.out]; exact h60), if_neg (by rw [← HLG.out]; decide)]
            exact ⟨_, rfl, HRT.out, HO.out⟩
      · obtain ⟨t', hrt, hspl⟩ : ∃ t', rest = t' ++ [10] ∧ spl 10 t = done ++ spl 10 t' := by
          rcases HR.out.all with ⟨h, _⟩ | h
          · exact absurd h hr0
          · exact h
        obtain ⟨x, u, hcut, hcase⟩ := spl_step 10 t'
        have hpos : 0 < (bs rest).size := by rw [bs_size, hrt]; simp
        have hmt := HMT.out
        have hrl2 : rest.length ≤ 100001 := by have := HT.out; omega
        have UP : Hid (∀ w', Calls Tryz.prog 38 #[.string (bs rest), .int .u8 10] w' fun e w'' => e = .returned (.tuple #[.string (bs x), .string (bs u), .bool true]) ∧ Below w'.heap.size w' w'') := fun w' => by
          have h := Pp.upTo_any (bs rest) 10 w' (by rw [bs_size]; unfold maxLen; omega)
          rw [bs_data, hrt, hcut, ← hrt] at h
          refine h.mono ?_
          rintro e w'' ⟨rfl, n, rfl⟩
          exact ⟨rfl, below_drewN _ _⟩
        have hxs : x.length ≤ 100001 := by
          have hm : x ∈ spl 10 t := by
            rw [hspl]
            refine List.mem_append_right _ ?_
            rcases hcase with ⟨_, h⟩ | ⟨t2, _, h, _⟩
            · rw [h]; simp
            · rw [h]; simp
          have := spl_mem_len 10 t x hm
          have := HT.out
          omega
        have hul : u.length < rest.length := by
          rw [hrt]
          rcases hcase with ⟨h, _⟩ | ⟨t2, h, _, h2⟩
          · rw [h]; simp
          · rw [h]; simp; omega
        have HUL := Lib.hid hul
        have HRL := Lib.hid hrl
        have hbx : (bs x).size = x.length := bs_size x
        have NEXT : Hid (((u = [] ∧ done ++ [x] = spl 10 t) ∨ ∃ t', u = t' ++ [10] ∧ spl 10 t = (done ++ [x]) ++ spl 10 t') ∧ (done ++ [x]).length ≤ (spl 10 t).length) := by
          rcases hcase with ⟨h, h2⟩ | ⟨t2, h, h2, _⟩
          · rw [h2] at hspl
            exact ⟨.inl ⟨h, hspl.symm⟩, by rw [hspl]; exact Nat.le_refl _⟩
          · rw [h2] at hspl
            refine ⟨.inr ⟨t2, h, by rw [hspl]; simp⟩, by rw [hspl]; simp⟩
        have HORG := Lib.hid HR.out.org
        have HROW := Lib.hid HR.out.row
        have HLNG := Lib.hid HR.out.lng
        rw [← HDN.out] at HROW
        obtain ⟨lx, hlx⟩ : ∃ b, b = decide (120 < x.length) := ⟨_, rfl⟩
        have HLX := Lib.hid hlx
        have hlx2 : decide (120 < (bs x).size) = lx := by rw [hbx, hlx]
        clear hr0 hrt hspl hcut hcase hmt hdn HR HDL HDL2 hul hrl hlx
        go_wp2_with (go_at_call 38; refine Hid.out ?_)
        refine Lib.hid ?_
        refine (UP.out _).mono ?_
        rintro _ w2 ⟨rfl, hb2⟩
        have HROW2 := Lib.hid (ow_below HROW.out hb2)
        have HORG2 := Lib.hid (HORG.out.trans (hb2.mono HORG.out.size))
        have hsz2 := HORG2.out.size
        clear hb2 HROW HORG UP
        dsimp only
        go_wp2_with (at_builtin; refine Hid.out ?_)
        refine Lib.hid ?_
        refine wpList_append_own _ rfl (.tmp 26) (.tmp 28) 25 rfl w.heap.size 9 i0 (.string ⟨#[]⟩) 1 16 Tryz.underlying25 hi0 hz0 hz1 hz2 rfl (by decide) (.slice lva dn lvc) dn (strs done) rfl (HROW2.out.alloc _) ⟨w2.heap.size, 0, none⟩ 1 1 (strs [x]) rfl rfl ?c1 (strs_one _) ?c2 ?c3 ?c4 ?_
        case c1 => exact lit_cells rfl (show 1 ≤ maxLen by decide)
        case c2 => unfold maxLen; omega
        case c3 => omega
        case c4 => simp; omega
        intro v3 w6 hown6 hg6 _
        have HB6 : Hid (Below w.heap.size w w6) := (HORG2.out.alloc (by omega) _).grown hg6 (by simp; omega) (fun k hk => (HROW2.out.lt k hk).1)
        have HR6 : Hid (RO w w6 t u v3 (done ++ [x]) (long || lx)) := ⟨HB6.out, by rw [strs_append, List.length_append, ← HDN.out]; exact hown6, NEXT.out.1, by rw [HLNG.out, HLX.out, List.any_append]; simp, NEXT.out.2⟩
        clear hown6 hg6 HROW2 HORG2
        cases long with
        | true =>
          go_wp2
          go_roundg u.length
          case measure => have := HGG.out; have := HUL.out; omega
          case rel => exact ⟨u, done ++ [x], true, rfl, by have := HUL.out; have := HRL.out; omega, rfl, rfl, HR6⟩
        | false =>
          go_wp2
          go_roundg u.length
          case measure => have := HGG.out; have := HUL.out; omega
          case rel => exact ⟨u, done ++ [x], lx, rfl, by have := HUL.out; have := HRL.out; omega, rfl, by rw [← hlx2]; go_num, HR6⟩
  · have he : ((c.toNat : Int) == 10) = false := by
      simp only [beq_eq_false_iff_ne, ne_eq]
      intro e
      exact hc (UInt8.toNat_inj.1 (by show c.toNat = 10; omega))
    have HC := Lib.hid hc
    clear hc
    go_enter Tryz.func10, Tryz.ntmps10
    go_wp2
    go_ret2
    rw [recsF_not t c HC.out]
    exact ⟨_, rfl, nil_texts _, Below.refl _ _⟩
end Go.Proofs.YtmgpacenooncjaaGreatDoor
