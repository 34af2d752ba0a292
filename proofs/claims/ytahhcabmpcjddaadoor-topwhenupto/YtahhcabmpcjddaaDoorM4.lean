/- Mapper: Pairs. -/
import Derived.Test.YtahhcabmpcjddaaDoorM2
import Derived.Test.YtahhcabmpcjddaaDoorM3
import Derived.Deep.Cut
import Derived.Deep.LoopGhost
namespace Go.Proofs.YtahhcabmpcjddaaDoor
open Go.ChangeShapes Go.WideShapes Go.ChangeAt Go.RowKit
def ruleCells (r : Rl) (ai ak av : Option Addr) (ci ck cv : Nat) : List Value := [.bool r.each, .int .i64 r.when, .int .i64 r.iff.k, .int .i64 r.iff.n, .string (bs r.iff.s), .slice ai r.iff.a.length ci, .string (bs r.s), .int .i64 r.key.k, .int .i64 r.key.n, .string (bs r.key.s), .slice ak r.key.a.length ck, .int .i64 r.val.k, .int .i64 r.val.n, .string (bs r.val.s), .slice av r.val.a.length cv]
theorem ruleAt {w : World} {B : Nat} {r : Rl} {ai ak av : Option Addr} {ci ck cv : Nat} (h : Blk w B 50 (ruleCells r ai ak av ci ck cv)) : w.cell? ⟨B, 0, none⟩ = some (.bool r.each) ∧ w.cell? ⟨B, 1, none⟩ = some (.int .i64 r.when) ∧ w.cell? ⟨B, 2, none⟩ = some (.int .i64 r.iff.k) ∧ w.cell? ⟨B, 3, none⟩ = some (.int .i64 r.iff.n) ∧ w.cell? ⟨B, 4, none⟩ = some (.string (bs r.iff.s)) ∧ w.cell? ⟨B, 5, none⟩ = some (.slice ai r.iff.a.length ci) ∧ w.cell? ⟨B, 6, none⟩ = some (.string (bs r.s)) ∧ w.cell? ⟨B, 7, none⟩ = some (.int .i64 r.key.k) ∧ w.cell? ⟨B, 8, none⟩ = some (.int .i64 r.key.n) ∧ w.cell? ⟨B, 9, none⟩ = some (.string (bs r.key.s)) ∧ w.cell? ⟨B, 10, none⟩ = some (.slice ak r.key.a.length ck) ∧ w.cell? ⟨B, 11, none⟩ = some (.int .i64 r.val.k) ∧ w.cell? ⟨B, 12, none⟩ = some (.int .i64 r.val.n) ∧ w.cell? ⟨B, 13, none⟩ = some (.string (bs r.val.s)) ∧ w.cell? ⟨B, 14, none⟩ = some (.slice av r.val.a.length cv) :=
  ⟨h.at rfl, h.at rfl, h.at rfl, h.at rfl, h.at rfl, h.at rfl, h.at rfl, h.at rfl, h.at rfl, h.at rfl, h.at rfl, h.at rfl, h.at rfl, h.at rfl, h.at rfl⟩
/-- What Pairs has made by now, beside what it goes over. -/
structure Mk (w0 wr : World) (lv : Value) (acc : List (ByteArray × Int)) : Prop where
  row : wr.ownsRow w0.heap.size 61 2 lv acc.length (Pp.cellsP acc)
  bel : Below w0.heap.size w0 wr
structure Mi (w0 wr : World) (B : Nat) (cs : List Value) (u wv : Value) (L : List Rc) (lv : Value) (acc : List (ByteArray × Int)) : Prop where
  md : Mk w0 wr lv acc
  rule : Blk wr B 50 cs
  recs : wr.ownsRow w0.heap.size 82 3 u L.length (cellsR wv L)
theorem Mk.below {w0 wr w' : World} {lv : Value} {acc : List (ByteArray × Int)} (h : Mk w0 wr lv acc) (hb : Below wr.heap.size wr w') : Mk w0 w' lv acc := ⟨ow_below h.row hb, below_trans h.bel hb⟩
theorem Mi.below {w0 wr w' : World} {B : Nat} {cs : List Value} {u wv lv : Value} {L : List Rc} {acc : List (ByteArray × Int)} (h : Mi w0 wr B cs u wv L lv acc) (hb : Below wr.heap.size wr w') : Mi w0 w' B cs u wv L lv acc := ⟨h.md.below hb, h.rule.blw hb, ow_below h.recs hb⟩
theorem ruleP_take (r : Rl) (kind : Int) (L : List Rc) (k : Nat) (x : Rc) (hx : L[k]? = some x) : ((L.take (k + 1)).filter (holdsB r)).map (pairL r kind) = ((L.take k).filter (holdsB r)).map (pairL r kind) ++ (if holdsB r x = true then [pairL r kind x] else []) := by
  rw [take_snoc hx, List.filter_append, List.map_append]
  congr 1
  cases h : holdsB r x <;> simp [h]
theorem pairInfo2 : (Tryd.prog.info? 61).map (fun i => (i.zero, i.size, i.bytes)) = some (some (.agg #[.string ⟨#[]⟩, .int .i64 0]), 2, 24) := by kernel_rfl
set_option maxRecDepth 100000 in
set_option maxHeartbeats 2000000 in
theorem pairs_any (j : Jb) (rv : Value) (line : List UInt8) (w : World) (h : IsRules w rv j.rules) (hw : rulesWt j.rules ≤ 1000000000) (hf : jobFault j = 0) (hl : line.length ≤ 100000) (E : EnvS w) :
    Calls Tryd.prog 19 #[j.value rv, .string (bs line)] w fun e w' => ∃ u, e = .returned u ∧ w'.ownsRow w.heap.size 61 2 u (rulesP j.rules j.fold line).length (Pp.cellsP (rulesP j.rules j.fold line)) ∧ Below w.heap.size w w' := by
  have CK := Lib.hid (fun w h E => jobCheck_any j rv w h hw E)
  rw [hf] at CK
  obtain ⟨nw, hnw⟩ : ∃ nw, nw = (wordsL line).length := ⟨_, rfl⟩
  have OF := Lib.hid (fun w E => of_any line nw hnw w E (by omega))
  have HNW := Lib.hid hnw
  clear hnw
  obtain ⟨hl1, hl4, -, -, -, -, hrf⟩ := jobFault_parts hf
  have HRF := Lib.hid (rulesFault_all hrf)
  clear hf hrf
  obtain ⟨ip, hp0, hp1, hp2, hp3⟩ := info_parts pairInfo2
  obtain ⟨l, fo, ea', sl⟩ := j
  simp only [Jb.value] at *
  have H := Lib.hid h
  obtain ⟨a, cap, b, off, AI, AK, AV, rfl, ha, hc⟩ := h
  have HA := Lib.hid ha
  have HC := Lib.hid hc
  have HE := Lib.hid E
  clear ha hc E
  obtain ⟨n, hn⟩ : ∃ n, n = l.length := ⟨_, rfl⟩
  rw [← hn] at H CK hl1 hl4 ⊢
  have HN := Lib.hid hn
  clear hn
  unfold errV at CK
  simp only [if_pos] at CK
  go_enter Tryd.func19, Tryd.ntmps19
  go_wp2_with (go_at_call 12; refine Hid.out ?_)
  refine Lib.hid ?_
  refine (CK.out _ (H.out.lower (below_box _)) (HE.out.lower (below_box _))).mono ?_
  rintro _ w1 ⟨rfl, hb1⟩
  have JB := Lib.hid ((blk_new (w := w) (cs := #[.slice a n cap, .int .i64 fo, .bool ea', .int .i64 sl]) (t := 24) rfl).blw hb1)
  have hb01 := below_trans (below_box _) hb1
  clear CK hb1
  go_wp2_with (go_at_call 36; refine Hid.out ?_)
  refine Lib.hid ?_
  refine (OF.out w1 (HE.out.lower hb01).toEnv0).mono ?_
  rintro _ w2 ⟨ra, rc, rfl, HT, hb2, -⟩
  obtain ⟨w3, hw3⟩ : ∃ w3, w3 = w2.alloc (.cells #[.string (bs line), .string ⟨#[]⟩, .slice ra nw rc] 82) := ⟨_, rfl⟩
  have hb23 : Below w2.heap.size w2 w3 := by rw [hw3]; exact below_box _
  have hb13 := below_trans hb2 hb23
  have hb03 := below_trans hb01 hb13
  obtain ⟨G, hG⟩ : ∃ G, G = w2.heap.size := ⟨_, rfl⟩
  have RB : Hid (Blk w3 G 82 [.string (bs line), .string ⟨#[]⟩, .slice ra nw rc]) := by
    show Blk _ _ _ _
    rw [hw3]
    exact blk_new (cs := #[.string (bs line), .string ⟨#[]⟩, .slice ra nw rc]) hG
  have HT3 : Hid (IsTexts w3 (.slice ra nw rc) ((wordsL line).map bs)) := IsTexts.below HT.out hb23
  have JB3 := Lib.hid (JB.out.blw hb13)
  have HW3 := Lib.hid hw3
  have HGG := Lib.hid hG
  have HB03 := Lib.hid hb03
  have k0 := JB3.out.at (i := 0) (v := .slice a n cap) rfl
  clear hw3 hG hb23 hb13 hb2 hb01 HT JB hb03 OF
  go_upto_region 5 with fail
  rw [← HW3.out, ← HGG.out]
  clear HW3 HGG
  go_wp2
  clear k0
  have M0 : Hid (Mk w3 w3 (.slice none 0 0) (rulesP (l.take 0) fo line)) := ⟨World.ownsRow_nil _ _ _ _, Below.refl _ _⟩
  go_loopg [5, 19] n (fun gg lv iv wr => ∃ i : Nat, gg = n - i ∧ i ≤ n ∧ iv = .int .i64 i ∧ Hid (Mk w3 wr lv (rulesP (l.take i) fo line)))
  case atStart => exact ⟨0, rfl, Nat.zero_le _, rfl, M0⟩
  case round =>
    clear M0
    obtain ⟨i, hgi, hi, rfl, HM⟩ := hrel
    have HGI := Lib.hid hgi
    clear hgi
    have hb3r := HM.out.bel
    by_cases hlt : i < n
    · obtain ⟨r, hr⟩ : ∃ r, l[i]? = some r := ⟨l[i]'(by have := HN.out; omega), by simp⟩
      have hbw := below_trans HB03.out hb3r
      have ea := HA.out (by have := HN.out; omega)
      subst ea
      obtain ⟨⟨c0, c1, c2, c3, c4, c5, c6, c7, c8, c9, c10, c11, c12, c13, c14⟩, xi, xk, xv⟩ := HC.out i r hr
      obtain ⟨ai, ci, ei⟩ := xi.slice
      obtain ⟨ak, ck, ek⟩ := xk.slice
      obtain ⟨av, cv, ev⟩ := xv.slice
      rw [ei] at c5 xi
      rw [ek] at c10 xk
      rw [ev] at c14 xv
      replace c0 := cell_below c0 hbw
      replace c1 := cell_below c1 hbw
      replace c2 := cell_below c2 hbw
      replace c3 := cell_below c3 hbw
      replace c4 := cell_below c4 hbw
      replace c5 := cell_below c5 hbw
      replace c6 := cell_below c6 hbw
      replace c7 := cell_below c7 hbw
      replace c8 := cell_below c8 hbw
      replace c9 := cell_below c9 hbw
      replace c10 := cell_below c10 hbw
      replace c11 := cell_below c11 hbw
      replace c12 := cell_below c12 hbw
      replace c13 := cell_below c13 hbw
      replace c14 := cell_below c14 hbw
      have XI := Lib.hid xi
      have XK := Lib.hid xk
      have XV := Lib.hid xv
      have HR := Lib.hid (rlIn_of (HRF.out r (List.mem_of_getElem? hr)))
      have HRR := Lib.hid hr
      clear xi xk xv ei ek ev hr hbw
      obtain ⟨w4, hw4⟩ : ∃ w4, w4 = wr.alloc (.cells #[.bool r.each, .int .i64 r.when, .int .i64 r.iff.k, .int .i64 r.iff.n, .string (bs r.iff.s), .slice ai r.iff.a.length ci, .string (bs r.s), .int .i64 r.key.k, .int .i64 r.key.n, .string (bs r.key.s), .slice ak r.key.a.length ck, .int .i64 r.val.k, .int .i64 r.val.n, .string (bs r.val.s), .slice av r.val.a.length cv] 50) := ⟨_, rfl⟩
      obtain ⟨B, hB⟩ : ∃ B, B = wr.heap.size := ⟨_, rfl⟩
      have RU : Hid (Blk w4 B 50 (ruleCells r ai ak av ci ck cv)) := by
        show Blk _ _ _ _
        rw [hw4]
        exact blk_new hB
      have hbr4 : Below wr.heap.size wr w4 := by rw [hw4]; exact below_box _
      have HM4 := Lib.hid (HM.out.below hbr4)
      have hb04 := below_trans HB03.out HM4.out.bel
      have HT4 : Hid (IsTexts w4 (.slice ra nw rc) ((wordsL line).map bs)) := IsTexts.below HT3.out HM4.out.bel
      have LK : Hid (Calls Tryd.prog 37 #[.agg #[.bool r.each, .int .i64 r.when, .int .i64 r.iff.k, .int .i64 r.iff.n, .string (bs r.iff.s), .slice ai r.iff.a.length ci, .string (bs r.s), .int .i64 r.key.k, .int .i64 r.key.n, .string (bs r.key.s), .slice ak r.key.a.length ck, .int .i64 r.val.k, .int .i64 r.val.n, .string (bs r.val.s), .slice av r.val.a.length cv], .agg #[.string (bs line), .string ⟨#[]⟩, .slice ra nw rc]] w4 fun e w' => ∃ u, e = .returned u ∧ w'.ownsRow w4.heap.size 82 3 u (looksL r.each (ofL line)).length (cellsR (.slice ra nw rc) (looksL r.each (ofL line))) ∧ Below w4.heap.size w4 w') := by
        have h := looks_any r ai ak av ci ck cv (ofL line) ra rc w4 (by
          have := HT4.out
          rw [HNW.out] at this
          exact this) (by have := words_len line; show (wordsL line).length ≤ _; omega)
        rw [show (ofL line).words.length = nw from HNW.out.symm] at h
        unfold Rl.value recV at h
        rw [show (ofL line).words.length = nw from HNW.out.symm] at h
        exact h
      have HLL : Hid (∀ x ∈ looksL r.each (ofL line), RcIn x 1000000 ∧ x.words = wordsL line ∧ x.line = line) := fun x hx => rcIn_look (rcIn_of line 1000000 (by omega)) hx
      have HRP : Hid (rulesP (l.take (i + 1)) fo line = rulesP (l.take i) fo line ++ ((looksL r.each (ofL line)).filter (holdsB r)).map (pairL r fo)) := by
        show _ = _
        rw [take_snoc HRR.out, rulesP_append, rulesP_one]
        rfl
      have HLN : (looksL r.each (ofL line)).length ≤ 100001 := by have h1 := looks_len r.each (ofL line); have h2 : (ofL line).words.length ≤ line.length := words_len line; omega
      have HAL : (rulesP (l.take i) fo line).length ≤ 400004 := by
        have h1 := rulesP_len (l.take i) fo line
        have h2 : (l.take i).length ≤ 4 := by rw [List.length_take]; omega
        have h3 := Nat.mul_le_mul h2 (show line.length + 1 ≤ 100001 by omega)
        omega
      generalize looksL r.each (ofL line) = L at *
      generalize rulesP (l.take i) fo line = acc at *
      have HLN2 := Lib.hid HLN
      have HAL2 := Lib.hid HAL
      have HW4 := Lib.hid hw4
      have HBB := Lib.hid hB
      have HB04 := Lib.hid hb04
      obtain ⟨g0, g1, g2⟩ : w4.cell? ⟨G, 0, none⟩ = some (.string (bs line)) ∧ w4.cell? ⟨G, 1, none⟩ = some (.string ⟨#[]⟩) ∧ w4.cell? ⟨G, 2, none⟩ = some (.slice ra nw rc) := by
        have h := RB.out.blw HM4.out.bel
        exact ⟨h.at rfl, h.at rfl, h.at rfl⟩
      obtain ⟨q0, q1, q2, q3, q4, q5, q6, q7, q8, q9, q10, q11, q12, q13, q14⟩ := ruleAt RU.out
      clear hw4 hB hbr4 hb3r HLN HAL hb04 HM
      go_upto_region 8 with fail
      rw [← HW4.out, ← HBB.out]
      clear HW4 c0 c1 c2 c3 c4 c5 c6 c7 c8 c9 c10 c11 c12 c13 c14
      go_wp2_with (go_at_call 37; refine Hid.out ?_)
      refine Lib.hid ?_
      refine LK.out.mono ?_
      rintro _ w5 ⟨u, rfl, hrec, hb45⟩
      obtain ⟨m, hm⟩ : ∃ m, m = L.length := ⟨_, rfl⟩
      rw [← hm] at hrec
      obtain ⟨uo, uc, eu, -⟩ := isRecs_of hm hrec
      rw [← hm] at eu
      subst eu
      have I5 : Hid (Mi w3 w5 B (ruleCells r ai ak av ci ck cv) (.slice uo m uc) (.slice ra nw rc) L u5 (acc ++ ((L.take 0).filter (holdsB r)).map (pairL r fo))) := by
        refine ⟨?_, RU.out.blw hb45, by rw [← hm]; exact ow_low hrec HM4.out.bel.size⟩
        simp only [List.take_zero, List.filter_nil, List.map_nil, List.append_nil]
        exact HM4.out.below hb45
      have hmle : m ≤ 100001 := by rw [hm]; exact HLN2.out
      have HMM := Lib.hid hm
      clear LK RU HM4 HT4 hrec hb45 hm g0 g1 g2 q0 q1 q2 q3 q4 q5 q6 q7 q8 q9 q10 q11 q12 q13 q14
      dsimp only
      go_wp2
      go_loopg [5, 27] m (fun gg lv kv wq => ∃ k : Nat, gg = m - k ∧ k ≤ m ∧ kv = .int .i64 k ∧ Hid (Mi w3 wq B (ruleCells r ai ak av ci ck cv) (.slice uo m uc) (.slice ra nw rc) L lv (acc ++ ((L.take k).filter (holdsB r)).map (pairL r fo))))
      case atStart => exact ⟨0, rfl, Nat.zero_le _, rfl, I5⟩
      case round =>
        clear I5
        obtain ⟨k, hgk, hk, rfl, HI⟩ := hrel
        have HGK := Lib.hid hgk
        clear hgk
        by_cases hkm : k < m
        · have HKM := Lib.hid hkm
          obtain ⟨x, hx⟩ : ∃ x, L[k]? = some x := ⟨L[k]'(by have := HMM.out; omega), by simp⟩
          obtain ⟨rcx, hwx, -⟩ := HLL.out x (List.mem_of_getElem? hx)
          obtain ⟨a', cap', ev', hcell⟩ := isRecs_of rfl HI.out.recs
          simp only [Value.slice.injEq] at ev'
          obtain ⟨rfl, -, rfl⟩ := ev'
          obtain ⟨rb, roff, eu, s0, s1, s2⟩ := hcell k x hx
          subst eu
          obtain ⟨w6, hw6⟩ : ∃ w6, w6 = wr.alloc (.cells #[.string (bs x.line), .string (bs x.it), .slice ra nw rc] 82) := ⟨_, rfl⟩
          obtain ⟨C, hC⟩ : ∃ C, C = wr.heap.size := ⟨_, rfl⟩
          have hbr6 : Below wr.heap.size wr w6 := by rw [hw6]; exact below_box _
          have RC : Hid (Blk w6 C 82 [.string (bs x.line), .string (bs x.it), .slice ra nw rc]) := by
            show Blk _ _ _ _
            rw [hw6]
            exact blk_new hC
          have I6 := Lib.hid (HI.out.below hbr6)
          have hb06 := below_trans HB03.out I6.out.md.bel
          have hwl : x.words.length = nw := by rw [hwx]; exact HNW.out.symm
          have HT6 : ∀ w', Below w6.heap.size w6 w' → IsTexts w' (.slice ra x.words.length rc) (x.words.map bs) := fun w' hb' => by
            rw [hwl, hwx]
            exact IsTexts.below HT3.out (below_trans I6.out.md.bel hb')
          have HO : Hid (Calls Tryd.prog 38 #[.agg #[.bool r.each, .int .i64 r.when, .int .i64 r.iff.k, .int .i64 r.iff.n, .string (bs r.iff.s), .slice ai r.iff.a.length ci, .string (bs r.s), .int .i64 r.key.k, .int .i64 r.key.n, .string (bs r.key.s), .slice ak r.key.a.length ck, .int .i64 r.val.k, .int .i64 r.val.n, .string (bs r.val.s), .slice av r.val.a.length cv], .agg #[.string (bs x.line), .string (bs x.it), .slice ra nw rc]] w6 fun e w' => e = .returned (.bool (holdsB r x)) ∧ Below w6.heap.size w6 w') := by
            have h := holds_any r ai ak av ci ck cv x ra rc w6 (HT6 _ (Below.refl _ _)) (XI.out.lower hb06) HR.out rcx (HE.out.lower hb06)
            unfold Rl.value recV at h
            rw [hwl] at h
            exact h
          have PO : Hid (∀ w', Below w6.heap.size w6 w' → Calls Tryd.prog 39 #[.agg #[.bool r.each, .int .i64 r.when, .int .i64 r.iff.k, .int .i64 r.iff.n, .string (bs r.iff.s), .slice ai r.iff.a.length ci, .string (bs r.s), .int .i64 r.key.k, .int .i64 r.key.n, .string (bs r.key.s), .slice ak r.key.a.length ck, .int .i64 r.val.k, .int .i64 r.val.n, .string (bs r.val.s), .slice av r.val.a.length cv], .agg #[.string (bs x.line), .string (bs x.it), .slice ra nw rc], .int .i64 fo] w' fun e w'' => e = .returned (.agg #[.string (pairL r fo x).1, .int .i64 (pairL r fo x).2]) ∧ Below w'.heap.size w' w'') := fun w' hb' => by
            have h := pairOf_any r ai ak av ci ck cv fo x ra rc w' (HT6 _ hb') (XK.out.lower (below_trans hb06 hb')) (XV.out.lower (below_trans hb06 hb')) HR.out rcx (HE.out.lower (below_trans hb06 hb'))
            unfold Rl.value recV at h
            rw [hwl] at h
            exact h
          have HTK := Lib.hid (ruleP_take r fo L k x hx)
          have HAK : (acc ++ ((L.take k).filter (holdsB r)).map (pairL r fo)).length ≤ 500005 := by
            rw [List.length_append, List.length_map]
            have h1 := List.length_filter_le (holdsB r) (L.take k)
            have h2 := List.length_take_le' k L
            have h3 := HLN2.out
            have h4 := HAL2.out
            omega
          have HAA : Hid (acc ++ ((L.take (k + 1)).filter (holdsB r)).map (pairL r fo) = (acc ++ ((L.take k).filter (holdsB r)).map (pairL r fo)) ++ (if holdsB r x = true then [pairL r fo x] else [])) := by
            show _ = _
            rw [HTK.out, List.append_assoc]
          generalize acc ++ ((L.take k).filter (holdsB r)).map (pairL r fo) = ack at *
          generalize pairL r fo x = pp at *
          generalize holdsB r x = hb at *
          generalize bs x.line = xl at *
          generalize bs x.it = xt at *
          obtain ⟨q0, q1, q2, q3, q4, q5, q6, q7, q8, q9, q10, q11, q12, q13, q14⟩ := ruleAt I6.out.rule
          obtain ⟨z0, z1, z2⟩ : w6.cell? ⟨C, 0, none⟩ = some (.string xl) ∧ w6.cell? ⟨C, 1, none⟩ = some (.string xt) ∧ w6.cell? ⟨C, 2, none⟩ = some (.slice ra nw rc) := ⟨RC.out.at rfl, RC.out.at rfl, RC.out.at rfl⟩
          have HW6 := Lib.hid hw6
          have HCC := Lib.hid hC
          clear hw6 hC hbr6 hb06 HT6 hwl rcx hwx hx hcell HTK HI
          go_upto_region 11 with fail
          rw [← HW6.out, ← HCC.out]
          clear HW6 HCC s0 s1 s2
          go_wp2_with (go_at_call 38; refine Hid.out ?_)
          refine Lib.hid ?_
          refine HO.out.mono ?_
          rintro _ w7 ⟨rfl, hb67⟩
          have I7 := Lib.hid (I6.out.below hb67)
          have RC7 := Lib.hid (RC.out.blw hb67)
          have PO7 := Lib.hid (PO.out w7 hb67)
          clear HO PO RC I6 hb67 q0 q1 q2 q3 q4 q5 q6 q7 q8 q9 q10 q11 q12 q13 q14 z0 z1 z2
          cases hb with
          | false =>
            have HAA2 : Hid (acc ++ ((L.take (k + 1)).filter (holdsB r)).map (pairL r fo) = ack) := by
              show _ = _
              rw [HAA.out]; simp
            clear HAA
            go_wp2
            go_roundg (m - (k + 1))
            case measure => have := HGK.out; have := HKM.out; omega
            case rel => exact ⟨k + 1, rfl, HKM.out, by have := HLN2.out; have := HMM.out; have := HKM.out; go_num, by rw [HAA2.out]; exact I7.out⟩
          | true =>
            have HAA2 : Hid (acc ++ ((L.take (k + 1)).filter (holdsB r)).map (pairL r fo) = ack ++ [pp]) := by
              show _ = _
              rw [HAA.out]; simp
            clear HAA
            obtain ⟨pk, pv⟩ := pp
            obtain ⟨q0, q1, q2, q3, q4, q5, q6, q7, q8, q9, q10, q11, q12, q13, q14⟩ := ruleAt I7.out.rule
            obtain ⟨z0, z1, z2⟩ : w7.cell? ⟨C, 0, none⟩ = some (.string xl) ∧ w7.cell? ⟨C, 1, none⟩ = some (.string xt) ∧ w7.cell? ⟨C, 2, none⟩ = some (.slice ra nw rc) := ⟨RC7.out.at rfl, RC7.out.at rfl, RC7.out.at rfl⟩
            have kf := (JB3.out.blw I7.out.md.bel).at (i := 1) (v := .int .i64 fo) rfl
            go_wp2_with (go_at_call 39; refine Hid.out ?_)
            refine Lib.hid ?_
            refine PO7.out.mono ?_
            rintro _ w8 ⟨rfl, hb78⟩
            have I8 := Lib.hid (I7.out.below hb78)
            clear PO7 RC7 I7 hb78 q0 q1 q2 q3 q4 q5 q6 q7 q8 q9 q10 q11 q12 q13 q14 z0 z1 z2 kf
            dsimp only
            go_wp2_with (at_builtin; refine Hid.out ?_)
            refine Lib.hid ?_
            refine wpList_append_own _ rfl (.tmp 34) (.tmp 40) 43 rfl w3.heap.size 61 ip (.agg #[.string ⟨#[]⟩, .int .i64 0]) 2 24 Tryd.underlying43 hp0 hp1 hp2 hp3 rfl (by decide) _ ack.length (Pp.cellsP ack) rfl (I8.out.md.row.alloc _) ⟨w8.heap.size, 0, none⟩ 1 1 [.string pk, .int .i64 pv] rfl rfl ?c1 ?c5 ?c2 ?c3 ?c4 ?_
            case c1 => exact lit_cells rfl (show 2 ≤ maxLen by decide)
            case c5 => intro u hu; simp at hu; rcases hu with rfl | rfl <;> rfl
            case c2 => unfold maxLen; omega
            case c3 => omega
            case c4 => have := I8.out.md.bel.size; simp; omega
            intro v2 w9 hown9 hg9 _
            have I9 : Hid (Mi w3 w9 B (ruleCells r ai ak av ci ck cv) (.slice (some ⟨rb, roff, none⟩) m uc) (.slice ra nw rc) L v2 (ack ++ [(pk, pv)])) := by
              refine ⟨⟨?_, ?_⟩, ?_, ?_⟩
              · rw [List.length_append, Pp.cellsP_append]
                exact hown9
              · have hs := I8.out.md.bel.size
                exact (I8.out.md.bel.alloc (by omega) _).grown hg9 (by simp; omega) (fun q hq => (I8.out.md.row.lt q hq).1)
              · exact blk_ow (I8.out.rule.blw (below_box _)) (I8.out.md.row.alloc _) (by decide) hg9
              · exact ow_grown (I8.out.recs.alloc _) (I8.out.md.row.alloc _) (by decide) hg9
            clear hown9 hg9 I8
            go_wp2
            go_roundg (m - (k + 1))
            case measure => have := HGK.out; have := HKM.out; omega
            case rel => exact ⟨k + 1, rfl, HKM.out, by have := HLN2.out; have := HMM.out; have := HKM.out; go_num, by rw [HAA2.out]; exact I9.out⟩
        · have HMD : Hid (Mk w3 wr u5 (rulesP (l.take (i + 1)) fo line)) := by
            have h := HI.out.md
            rw [List.take_of_length_le (by have := HMM.out; omega), ← HRP.out] at h
            exact h
          clear HI
          go_wp2
          go_roundg (n - (i + 1))
          case measure => have := HGI.out; omega
          case rel => exact ⟨i + 1, rfl, by omega, by go_num, HMD⟩
    · go_wp2
      have HFIN : Hid (l.take i = l) := List.take_of_length_le (by have := HN.out; omega)
      rw [HFIN.out] at HM
      have HL1 := Lib.hid (ow_low HM.out.row HB03.out.size)
      have HL2 := Lib.hid (below_trans HB03.out HM.out.bel)
      go_ret
      exact ⟨_, rfl, HL1.out, HL2.out⟩
end Go.Proofs.YtahhcabmpcjddaaDoor
