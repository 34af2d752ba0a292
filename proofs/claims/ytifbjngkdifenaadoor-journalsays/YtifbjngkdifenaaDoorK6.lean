/- Journals: the walk of the law JournalSays. -/
import Derived.Test.YtifbjngkdifenaaDoorK5
import Derived.Lib.QuietBelow
namespace Go.Proofs.YtifbjngkdifenaaDoor
open Go.ChangeShapes Go.WideShapes Go.ChangeAt Go.RowKit
open Num
theorem ent_some {k : List UInt8} {ns : List Int} {ts : List (List UInt8)} (h1 : k.length ≤ 50) (h2 : ns.length ≤ 20) (hf : ∀ n ∈ ns, Fit n) (h3 : ts.length ≤ 10) (h4 : ∀ t ∈ ts, t.length ≤ 500) : (entT k ns ts).length ≤ 10000 := by
  rw [ent_parts]
  have a1 := numsT_len ns hf
  have a2 := numsT_len (lens ts) (fun n hn => by
    unfold lens at hn
    rw [List.mem_map] at hn
    obtain ⟨t, ht, rfl⟩ := hn
    have := h4 t ht
    exact ⟨by omega, by omega⟩)
  rw [← sizes_nums] at a2
  have a3 : (lens ts).length = ts.length := by unfold lens; simp
  have a4 := flat_len ts 500 h4
  omega
theorem light_all {ts : List (List UInt8)} {m : Nat} (h : lightT (ts.map bs) m = true) : ∀ t ∈ ts, t.length ≤ m := fun t ht => by
  unfold lightT at h
  rw [List.all_eq_true] at h
  have := h (bs t) (List.mem_map_of_mem ht)
  rw [decide_eq_true_eq, bs_size] at this
  omega
theorem isEnts_ofR {w : World} {B B' : Nat} {v : Value} {L : List EV} (h : w.ownsRow B 30 3 v L.length (cellsE L)) (hg : ∀ x ∈ L, Good B' w x) : IsEnts w v L := by
  rcases h.2 with ⟨rfl, h0⟩ | ⟨g, cap, cur, rfl, _⟩
  · exact ⟨none, 0, by rw [h0], fun i hi => by omega⟩
  · refine ⟨some ⟨g, 0, none⟩, cap, rfl, fun i hi => ⟨g, 0, rfl, ?_, ?_, ?_, isIs_of (hg _ (List.getElem_mem hi)).1, isTexts_of (hg _ (List.getElem_mem hi)).2⟩⟩
    · rw [Nat.zero_add, h.cellAt _ (by omega)]
      have := cellsE_at L i hi 0 (by omega)
      simpa using this
    · rw [Nat.zero_add, h.cellAt _ (by omega)]
      have := cellsE_at L i hi 1 (by omega)
      simpa using this
    · rw [Nat.zero_add, h.cellAt _ (by omega)]
      have := cellsE_at L i hi 2 (by omega)
      simpa using this
theorem cutL_in {s : List UInt8} {l : List Int} {ts : List (List UInt8)} {r : List UInt8} (h : cutL s l = some (ts, r)) : ts.length = l.length := (cutL_len h).1
/-- What is read of a text is no longer than it. -/
theorem oneL_few {s r : List UInt8} {e : Ent} (h : oneL s = some (e, r)) : e.n.length ≤ s.length ∧ e.texts.length ≤ s.length := by
  unfold oneL at h
  have l1 := cutAt_le 10 s
  have l2 := cutAt_le 59 (cutAt 10 s).1
  split at h
  · cases h
  · cases h1 : numbersL (cutAt 59 (cutAt 10 s).1).1 with
    | none => rw [h1] at h; cases h
    | some p =>
      obtain ⟨k, ns⟩ := p
      rw [h1] at h
      simp only at h
      split at h
      · cases h
      · cases h2 : numbersL (cutAt 59 (cutAt 10 s).1).2.1 with
        | none => rw [h2] at h; cases h
        | some q =>
          obtain ⟨k2, sz⟩ := q
          rw [h2] at h
          simp only at h
          split at h
          · cases h
          · cases h3 : cutL (cutAt 10 s).2.1 sz with
            | none => rw [h3] at h; cases h
            | some tr =>
              obtain ⟨ts, r'⟩ := tr
              rw [h3] at h
              simp only at h
              split at h
              · simp only [Option.some.injEq, Prod.mk.injEq] at h
                obtain ⟨rfl, _⟩ := h
                have a1 := numbersL_len h1
                have a2 := numbersL_len h2
                have a3 := cutL_in h3
                simp only
                omega
              · cases h
theorem parL_few : ∀ (n : Nat) (s : List UInt8), s.length ≤ n → (parL s).length ≤ s.length ∧ ∀ e ∈ parL s, e.n.length ≤ s.length ∧ e.texts.length ≤ s.length := by
  intro n
  induction n with
  | zero =>
    intro s hs
    cases ho : oneL s with
    | none => rw [parL_none ho]; exact ⟨Nat.zero_le _, fun e he => by cases he⟩
    | some p => obtain ⟨e, r⟩ := p; have := oneL_len ho; omega
  | succ n ih =>
    intro s hs
    cases ho : oneL s with
    | none => rw [parL_none ho]; exact ⟨Nat.zero_le _, fun e he => by cases he⟩
    | some p =>
      obtain ⟨e, r⟩ := p
      have hl := oneL_len ho
      obtain ⟨i1, i2⟩ := ih r (by omega)
      rw [parL_some ho]
      refine ⟨by rw [List.length_cons]; omega, fun x hx => ?_⟩
      rcases List.mem_cons.1 hx with rfl | hx
      · exact oneL_few ho
      · have := i2 x hx; omega
/-- oneL, with what is told where there is none. -/
def oneU (s : List UInt8) : Ent × List UInt8 × Bool :=
  match oneL s with
  | none => (⟨[], [], []⟩, s, false)
  | some (e, r) => (e, r, true)
theorem oneU_few (s : List UInt8) : (oneU s).1.n.length ≤ s.length ∧ (oneU s).1.texts.length ≤ s.length := by
  unfold oneU
  cases h : oneL s with
  | none => exact ⟨Nat.zero_le _, Nat.zero_le _⟩
  | some p => obtain ⟨e, r⟩ := p; exact oneL_few h
theorem one_u (s : List UInt8) (w : World) (E : Env w) (hs : s.length ≤ 10000000) :
    Calls Tryd.prog 9 #[.string (bs s)] w fun e w' => ∃ an cn at' ct, e = .returned (.tuple #[.agg #[.string (bs (oneU s).1.kind), .slice an (oneU s).1.n.length cn, .slice at' (oneU s).1.texts.length ct], .string (bs (oneU s).2.1), .bool (oneU s).2.2]) ∧ IsIs w' (.slice an (oneU s).1.n.length cn) (oneU s).1.n ∧ IsTexts w' (.slice at' (oneU s).1.texts.length ct) ((oneU s).1.texts.map bs) ∧ Below w.heap.size w w' :=
  (one_any s w E hs).mono fun e w' h => by
    obtain ⟨⟨h1, h2⟩ | ⟨en, r, vn, vt, h1, h2, h3, h4⟩, hb⟩ := h
    · have e1 : oneU s = (⟨[], [], []⟩, s, false) := by unfold oneU; rw [h1]
      rw [e1]
      exact ⟨none, 0, none, 0, h2, ⟨none, 0, rfl, fun i hi => absurd hi (by simp)⟩, isTexts_nil _ _ _, hb⟩
    · have e1 : oneU s = (en, r, true) := by unfold oneU; rw [h1]
      rw [e1]
      obtain ⟨an, cn, rfl, _⟩ := isIs_of h3
      obtain ⟨at', ct, et, _⟩ := isTexts_of h4
      rw [List.length_map] at et
      subst et
      exact ⟨an, cn, at', ct, h2, isIs_of h3, isTexts_of h4, hb⟩
theorem first_u (s : List UInt8) (w : World) (hs : s.length ≤ 10000000) :
    Calls Tryd.prog 10 #[.string (bs s)] w fun e w' => ∃ an cn at' ct, ∃ n : Nat, n ≤ s.length ∧ s.drop n = (oneU s).2.1 ∧ e = .returned (.tuple #[.agg #[.string (bs (oneU s).1.kind), .slice an (oneU s).1.n.length cn, .slice at' (oneU s).1.texts.length ct], .int .i64 n, .bool (oneU s).2.2]) ∧ IsIs w' (.slice an (oneU s).1.n.length cn) (oneU s).1.n ∧ IsTexts w' (.slice at' (oneU s).1.texts.length ct) ((oneU s).1.texts.map bs) ∧ Below w.heap.size w w' :=
  (first_any s w hs).mono fun e w' h => by
    obtain ⟨⟨h1, h2⟩ | ⟨en, r, vn, vt, n, h1, hn, hd, h2, h3, h4⟩, hb⟩ := h
    · have e1 : oneU s = (⟨[], [], []⟩, s, false) := by unfold oneU; rw [h1]
      rw [e1]
      exact ⟨none, 0, none, 0, 0, Nat.zero_le _, rfl, h2, ⟨none, 0, rfl, fun i hi => absurd hi (by simp)⟩, isTexts_nil _ _ _, hb⟩
    · have e1 : oneU s = (en, r, true) := by unfold oneU; rw [h1]
      rw [e1]
      obtain ⟨an, cn, rfl, _⟩ := isIs_of h3
      obtain ⟨at', ct, et, _⟩ := isTexts_of h4
      rw [List.length_map] at et
      subst et
      exact ⟨an, cn, at', ct, n, hn, hd, h2, isIs_of h3, isTexts_of h4, hb⟩
set_option maxRecDepth 1000000 in
set_option maxHeartbeats 4000000 in
theorem journalSays_walk (k : List UInt8) (ns : List Int) (ts : List (List UInt8)) (vn vt : Value) (s : List UInt8) (w : World) (E : Env w) (hn : IsIs w vn ns) (ht : IsTexts w vt (ts.map bs)) (hf : ∀ n ∈ ns, Fit n) (hkl : k.length ≤ maxLen) (hnl : ns.length ≤ maxLen) (htl : ts.length ≤ maxLen) (hsl : s.length ≤ maxLen) :
    Calls Tryd.prog 3 #[.agg #[.string (bs k), vn, vt], .string (bs s)] w fun e w' => e = .returned (.bool true) ∧ Below w.heap.size w w' := by
  unfold maxLen at hkl hnl htl hsl
  obtain ⟨an, cn, rfl, _⟩ := id hn
  obtain ⟨at', ct, evt, _⟩ := id ht
  rw [List.length_map] at evt
  subst evt
  obtain ⟨w0, hw0⟩ : ∃ w0, w0 = w.alloc (.cells #[.string (bs k), .slice an ns.length cn, .slice at' ts.length ct] 25) := ⟨_, rfl⟩
  have hb0 : Below w.heap.size w w0 := by rw [hw0]; exact (Below.refl _ _).alloc (Nat.le_refl _) _
  have A0 : Blk w0 w.heap.size 25 [.string (bs k), .slice an ns.length cn, .slice at' ts.length ct] := by rw [hw0]; exact Blk.new w _ _
  obtain ⟨G, hG⟩ : ∃ G, G = w.heap.size := ⟨_, rfl⟩
  rw [← hG] at A0
  have HE : Hid (∀ w1, Below w.heap.size w w1 → Env w1) := fun w1 h => E.below h
  have HN : Hid (∀ w1, Below w.heap.size w w1 → IsIs w1 (.slice an ns.length cn) ns) := fun w1 h => hn.below h
  have HT : Hid (∀ w1, Below w.heap.size w w1 → IsTexts w1 (.slice at' ts.length ct) (ts.map bs)) := fun w1 h => ht.below h
  have EN := Lib.hid (entries0 w0 (E.below hb0))
  have HF := Lib.hid hf
  have HA0 := Lib.hid A0
  have HW0 := Lib.hid hw0
  have HG := Lib.hid hG
  have hsk := bs_size k
  have hss := bs_size s
  clear hn ht E hf A0 hw0 hG
  go_enter Tryd.func3, Tryd.ntmps3
  go_wp2_with (go_at_call 5; refine Hid.out ?_)
  refine Lib.hid ?_
  rw [← HW0.out, ← HG.out]
  refine EN.out.mono ?_
  rintro _ w1 ⟨rfl, hb1⟩
  have hbb1 := below_trans hb0 hb1
  have HA1 := Lib.hid (HA0.out.blw hb1)
  have c0 := HA1.out.at (i := 0) (v := .string (bs k)) rfl
  have c1 := HA1.out.at (i := 1) (v := .slice an ns.length cn) rfl
  have c2 := HA1.out.at (i := 2) (v := .slice at' ts.length ct) rfl
  have LT : Hid (Calls Tryd.prog 6 #[.slice at' ts.length ct, .int .i64 10, .int .i64 500] w1 fun e w'' => e = .returned (.bool (decide ((ts.length : Int) ≤ 10) && lightT (ts.map bs) 500)) ∧ w'' = w1) := by
    have h := lightTexts_any _ (ts.map bs) 10 500 w1 (HT.out _ hbb1) (by unfold maxLen; rw [List.length_map]; omega)
    rw [List.length_map] at h
    exact h
  clear EN HA0 HW0 hb0 hb1
  by_cases h1 : 50 < k.length
  · go_wp2
    go_ret
    exact ⟨rfl, hbb1⟩
  · by_cases h2 : 20 < ns.length
    · go_wp2
      go_ret
      exact ⟨rfl, hbb1⟩
    · obtain ⟨lt, hlt⟩ : ∃ lt, lt = (decide ((ts.length : Int) ≤ 10) && lightT (ts.map bs) 500) := ⟨_, rfl⟩
      rw [← hlt] at LT
      cases lt with
      | false =>
        clear hlt
        go_wp2_with (go_at_call 6; refine LT.out.mono ?_; rintro _ w2 ⟨rfl, h2⟩; rw [h2]; clear h2 w2)
        go_ret
        exact ⟨rfl, hbb1⟩
      | true =>
        have hlt' := hlt.symm
        rw [Bool.and_eq_true, decide_eq_true_eq] at hlt'
        have hent := ent_some (k := k) (ns := ns) (ts := ts) (by omega) (by omega) HF.out (by omega) (light_all (m := 500) hlt'.2)
        have htl10 : ts.length ≤ 10 := by omega
        have HENT := Lib.hid hent
        clear hlt hlt' hent
        by_cases h3 : 3000 < s.length
        · go_wp2_with (go_at_call 6; refine LT.out.mono ?_; rintro _ w2 ⟨rfl, h2⟩; rw [h2]; clear h2 w2)
          go_ret
          exact ⟨rfl, hbb1⟩
        · have hmix : Tryd.prog.follows .mixedOrders = true := by kernel_rfl
          have K1 : Hid (∀ d os, Calls Tryd.prog 7 #[.agg #[.string (bs k), .slice an ns.length cn, .slice at' ts.length ct]] (Sort.grow (redrawn w1 d) os) fun e w'' => e = .returned (.string (bs (entT k ns ts))) ∧ ∃ p : Regrown, w'' = Sort.grow (redrawn w1 p.d) p.os) := fun d os => Calls.regrown_of (jtext_any k ns ts _ _ _ (HE.out _ (below_trans hbb1 (below_regrown w1 d os))) (HN.out _ (below_trans hbb1 (below_regrown w1 d os))) HF.out (HT.out _ (below_trans hbb1 (below_regrown w1 d os))) (by have := HENT.out; omega) (by omega) (by omega))
          have K2 : Hid (∀ d os, Calls Tryd.prog 8 #[.agg #[.string (bs k), .slice an ns.length cn, .slice at' ts.length ct]] (Sort.grow (redrawn w1 d) os) fun e w'' => e = .returned (.string (bs (entT k ns ts))) ∧ ∃ p : Regrown, w'' = Sort.grow (redrawn w1 p.d) p.os) := fun d os => Calls.regrown_of (etext_any k ns ts _ _ _ (HN.out _ (below_trans hbb1 (below_regrown w1 d os))) HF.out (HT.out _ (below_trans hbb1 (below_regrown w1 d os))) (by have := HENT.out; omega) (by omega) (by omega))
          have a0' : ∀ d os, (Sort.grow (redrawn w1 d) os).cell? ⟨G, 0, none⟩ = some (.string (bs k)) := fun d os => cell_below c0 (below_regrown w1 d os)
          have a1' : ∀ d os, (Sort.grow (redrawn w1 d) os).cell? ⟨G, 1, none⟩ = some (.slice an ns.length cn) := fun d os => cell_below c1 (below_regrown w1 d os)
          have a2' : ∀ d os, (Sort.grow (redrawn w1 d) os).cell? ⟨G, 2, none⟩ = some (.slice at' ts.length ct) := fun d os => cell_below c2 (below_regrown w1 d os)
          generalize bs (entT k ns ts) = te at *
          go_wp2_with (go_at_call 6; refine LT.out.mono ?_; rintro _ w2 ⟨rfl, h2⟩; rw [h2]; clear h2 w2)
          clear LT
          refine wp_region_quiet_below hmix (by kernel_rfl) ?_
          repeat (first | go_big_quiet_step (first | (go_at_call 7; exact K1.out _ _) | (go_at_call 8; exact K2.out _ _)) | quiet_step (first | (go_at_call 7; exact K1.out _ _) | (go_at_call 8; exact K2.out _ _)))
          refine wpQuiet_nil ?_
          intro _ hw2
          obtain ⟨⟨dq2, osq2⟩, hw2'⟩ := hw2
          subst hw2'
          have hb4 : Below w.heap.size w (Sort.grow (redrawn w1 dq2) osq2) := below_trans hbb1 (below_regrown w1 dq2 osq2)
          generalize Sort.grow (redrawn w1 dq2) osq2 = w4 at *
          clear K1 K2 a0' a1' a2' c0 c1 c2 HA1
          have ON := Lib.hid (one_u s w4 (HE.out _ hb4) (by omega))
          have FN := Lib.hid (fun w => first_u s w (by omega))
          have hfew := oneU_few s
          obtain ⟨en, r, ok, hU⟩ : ∃ en r ok, oneU s = (en, r, ok) := ⟨_, _, _, rfl⟩
          rw [hU] at ON FN hfew
          clear hU
          simp only at ON FN hfew
          go_wp2_with (go_at_call 9; refine Hid.out ?_)
          refine Lib.hid ?_
          refine ON.out.mono ?_
          clear ON
          rintro _ w5 ⟨xn, cxn, xt, cxt, rfl, ix, tx, hb5⟩
          dsimp only
          obtain ⟨w6, hw6⟩ : ∃ w6, w6 = w5.alloc (.cells #[.string (bs en.kind), .slice xn en.n.length cxn, .slice xt en.texts.length cxt] 25) := ⟨_, rfl⟩
          have hb6 : Below w5.heap.size w5 w6 := by rw [hw6]; exact (Below.refl _ _).alloc (Nat.le_refl _) _
          obtain ⟨X, hX⟩ : ∃ X, X = w5.heap.size := ⟨_, rfl⟩
          have KX : Hid (Blk w6 X 25 [.string (bs en.kind), .slice xn en.n.length cxn, .slice xt en.texts.length cxt]) := by rw [hw6, hX]; exact Blk.new w5 _ _
          have IX6 := Lib.hid (ix.below hb6)
          have TX6 := Lib.hid (tx.below hb6)
          have HB6 := Lib.hid (below_trans (below_trans hb4 hb5) hb6)
          have HW6 := Lib.hid hw6
          have HX := Lib.hid hX
          clear hw6 hX ix tx hb5 hb6
          go_wp2_with (go_at_call 10; refine Hid.out ?_)
          refine Lib.hid ?_
          rw [← HW6.out, ← HX.out]
          clear HW6 HX
          refine (FN.out _).mono ?_
          clear FN
          rintro _ w7 ⟨yn, cyn, yt, cyt, n, hns, hdn, rfl, iy, ty, hb7⟩
          dsimp only
          obtain ⟨w8, hw8⟩ : ∃ w8, w8 = w7.alloc (.cells #[.string (bs en.kind), .slice yn en.n.length cyn, .slice yt en.texts.length cyt] 30) := ⟨_, rfl⟩
          have hb8 : Below w7.heap.size w7 w8 := by rw [hw8]; exact (Below.refl _ _).alloc (Nat.le_refl _) _
          obtain ⟨Y, hY⟩ : ∃ Y, Y = w7.heap.size := ⟨_, rfl⟩
          have hb78 := below_trans hb7 hb8
          have x0 := (KX.out.blw hb7).at (i := 0) (v := .string (bs en.kind)) rfl
          have x1 := (KX.out.blw hb7).at (i := 1) (v := .slice xn en.n.length cxn) rfl
          have x2 := (KX.out.blw hb7).at (i := 2) (v := .slice xt en.texts.length cxt) rfl
          have hXY : X < w7.heap.size := (KX.out.blw hb7).lt
          have SE := Lib.hid (sameEntry_any en.kind en.n en.texts (.slice xn en.n.length cxn) (.slice xt en.texts.length cxt) (.slice yn en.n.length cyn) (.slice yt en.texts.length cyt) w8 (IX6.out.below hb78) (TX6.out.below hb78) (iy.below hb8) (ty.below hb8) (by omega) (by omega))
          have HB8 := Lib.hid (below_trans HB6.out hb78)
          have HW8 := Lib.hid hw8
          have hdr : (bs s).extract n s.length = bs r := by rw [← hss, bs_drop, hdn]
          have hdr2 : (bs s).extract n (bs s).size = bs r := by rw [bs_drop, hdn]
          clear hw8 hY hb7 hb8 hb78 iy ty KX IX6 TX6 HB6 hdn Y hfew
          go_wp2_with (go_at_call 11; refine Hid.out ?_)
          refine Lib.hid ?_
          rw [← HW8.out]
          refine SE.out.mono ?_
          clear SE HW8 hdr hdr2 x0 x1 x2
          rintro _ w9 ⟨rfl, hb9⟩
          have hb09 := below_trans HB8.out hb9
          have PA := Lib.hid (parse_any s w9 (HE.out _ hb09) (by omega))
          have EA := Lib.hid (fun w => entries_any s w (by omega))
          have hpf := parL_few s.length s (Nat.le_refl _)
          have HPF := Lib.hid hpf
          clear hb4 hbb1 HB8 hpf
          go_wp2_with (go_at_call 12; refine Hid.out ?_)
          refine Lib.hid ?_
          refine PA.out.mono ?_
          clear PA
          rintro _ w10 ⟨lv, L, rfl, hL, hrow, hgd, hb10⟩
          have IL := isEnts_of hrow hgd
          obtain ⟨lo, lc, rfl, _⟩ := id IL
          dsimp only
          go_wp2_with (go_at_call 13; refine Hid.out ?_)
          refine Lib.hid ?_
          refine (EA.out _).mono ?_
          clear EA
          rintro _ w11 ⟨mv, M, rfl, hM, hrowM, hgdM, hb11⟩
          have IM := isEnts_ofR hrowM hgdM
          obtain ⟨mo, mc, rfl, _⟩ := id IM
          dsimp only
          have hLM : M.length = L.length := by
            have a := congrArg List.length hL
            have b := congrArg List.length hM
            rw [List.length_map] at a b
            omega
          obtain ⟨q, hq⟩ : ∃ q, q = L.length := ⟨_, rfl⟩
          rw [hLM, ← hq]
          have hq3 : q ≤ 3000 := by
            have a := congrArg List.length hL
            rw [List.length_map] at a
            have := HPF.out.1
            omega
          have HAT : Hid (∀ j (h : j < L.length) (h' : j < M.length), M[j].e = L[j].e ∧ L[j].e.n.length ≤ 3000 ∧ L[j].e.texts.length ≤ 3000) := fun j h h' => by
            have e := congrArg (fun l => l[j]?) (hL.trans hM.symm)
            simp only [List.getElem?_map] at e
            rw [List.getElem?_eq_getElem h, List.getElem?_eq_getElem h'] at e
            simp only [Option.map_some, Option.some.injEq] at e
            have m : L[j].e ∈ parL s := by rw [← hL]; exact List.mem_map_of_mem (List.getElem_mem h)
            have := HPF.out.2 _ m
            exact ⟨e.symm, by omega, by omega⟩
          have IL11 := Lib.hid (IL.below hb11)
          have IM11 := Lib.hid IM
          have HQ := Lib.hid hq
          have HLM := Lib.hid hLM
          have HB11 := Lib.hid (below_trans hb09 (below_trans hb10 hb11))
          clear hL hM hrow hgd hrowM hgdM IL IM hq hLM hb10 hb11 hb09 hb9
          go_wp2
          go_loopg [14] q (fun gg jv wq => ∃ j : Nat, gg = q - j ∧ j ≤ q ∧ jv = .int .i64 j ∧ Below w11.heap.size w11 wq)
          case atStart => exact ⟨0, rfl, Nat.zero_le _, rfl, Below.refl _ _⟩
          case round =>
            obtain ⟨j, hgj, hj, rfl, hbq⟩ := hrel
            have HGJ := Lib.hid hgj
            clear hgj
            by_cases hjl : j < q
            · have hjL : j < L.length := by have := HQ.out; omega
              have hjM : j < M.length := by have := HLM.out; omega
              obtain ⟨al, cl, el, hlc⟩ := IL11.out
              simp only [Value.slice.injEq] at el
              obtain ⟨rfl, _, rfl⟩ := el
              obtain ⟨am, cm, em, hmc⟩ := IM11.out
              simp only [Value.slice.injEq] at em
              obtain ⟨rfl, _, rfl⟩ := em
              obtain ⟨ga, oa, rfl, a0, a1, a2, in1, it1⟩ := hlc j hjL
              obtain ⟨gx, ox, rfl, x0, x1, x2, in2, it2⟩ := hmc j hjM
              obtain ⟨hee, hn3, ht3⟩ := HAT.out j hjL hjM
              rw [hee] at x0 in2 it2
              clear hlc hmc
              generalize L[j].vn = vn1 at *
              generalize L[j].vt = vt1 at *
              generalize M[j].vn = vn2 at *
              generalize M[j].vt = vt2 at *
              generalize L[j].e = E0 at *
              obtain ⟨n1, cn1, rfl, _⟩ := id in1
              obtain ⟨n2, cn2, rfl, _⟩ := id in2
              obtain ⟨t1, ct1, rfl, _⟩ := id it1
              obtain ⟨t2, ct2, rfl, _⟩ := id it2
              have K1 : Hid (∀ d os, Calls Tryd.prog 11 #[.agg #[.string (bs E0.kind), .slice n1 E0.n.length cn1, .slice t1 (E0.texts.map bs).length ct1], .agg #[.string (bs E0.kind), .slice n2 E0.n.length cn2, .slice t2 (E0.texts.map bs).length ct2]] (Sort.grow (redrawn wr d) os) fun e w'' => e = .returned (.bool true) ∧ ∃ p : Regrown, w'' = Sort.grow (redrawn wr p.d) p.os) := fun d os => Calls.regrown_of (sameEntry_any E0.kind E0.n E0.texts _ _ _ _ _ (in1.below (below_trans hbq (below_regrown wr d os))) (it1.below (below_trans hbq (below_regrown wr d os))) (in2.below (below_trans hbq (below_regrown wr d os))) (it2.below (below_trans hbq (below_regrown wr d os))) (by omega) (by omega))
              have a0' : ∀ d os, (Sort.grow (redrawn wr d) os).cell? ⟨ga, oa + j * 3, none⟩ = some (.string (bs E0.kind)) := fun d os => cell_below a0 (below_trans hbq (below_regrown wr d os))
              have a1' : ∀ d os, (Sort.grow (redrawn wr d) os).cell? ⟨ga, oa + j * 3 + 1, none⟩ = some (.slice n1 E0.n.length cn1) := fun d os => cell_below a1 (below_trans hbq (below_regrown wr d os))
              have a2' : ∀ d os, (Sort.grow (redrawn wr d) os).cell? ⟨ga, oa + j * 3 + 2, none⟩ = some (.slice t1 (E0.texts.map bs).length ct1) := fun d os => cell_below a2 (below_trans hbq (below_regrown wr d os))
              have x0' : ∀ d os, (Sort.grow (redrawn wr d) os).cell? ⟨gx, ox + j * 3, none⟩ = some (.string (bs E0.kind)) := fun d os => cell_below x0 (below_trans hbq (below_regrown wr d os))
              have x1' : ∀ d os, (Sort.grow (redrawn wr d) os).cell? ⟨gx, ox + j * 3 + 1, none⟩ = some (.slice n2 E0.n.length cn2) := fun d os => cell_below x1 (below_trans hbq (below_regrown wr d os))
              have x2' : ∀ d os, (Sort.grow (redrawn wr d) os).cell? ⟨gx, ox + j * 3 + 2, none⟩ = some (.slice t2 (E0.texts.map bs).length ct2) := fun d os => cell_below x2 (below_trans hbq (below_regrown wr d os))
              rw [List.length_map] at *
              clear a0 a1 a2 x0 x1 x2 in1 in2 it1 it2 hee IL11 IM11 hn3 ht3
              go_wp2
              refine wp_region_quiet_below hmix (by kernel_rfl) ?_
              repeat (first | go_big_quiet_step (first | (go_at_call 11; exact K1.out _ _)) | quiet_step (first | (go_at_call 11; exact K1.out _ _)))
              refine wpQuiet_nil ?_
              intro _ hw2
              obtain ⟨⟨dq2, osq2⟩, hw2'⟩ := hw2
              subst hw2'
              have hbx : Below w11.heap.size w11 (Sort.grow (redrawn wr dq2) osq2) := below_trans hbq (below_regrown wr dq2 osq2)
              generalize Sort.grow (redrawn wr dq2) osq2 = w12 at *
              clear K1 a0' a1' a2' x0' x1' x2' hbq
              go_wp2
              go_roundg (q - (j + 1))
              case measure => have := HGJ.out; omega
              case rel => exact ⟨j + 1, rfl, by omega, by go_num, hbx⟩
            · have HF2 := Lib.hid (below_trans HB11.out hbq)
              clear hbq
              go_wp2
              go_ret
              exact ⟨rfl, HF2.out⟩
end Go.Proofs.YtifbjngkdifenaaDoor
