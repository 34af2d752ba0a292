/- Journals: the walk of the law TopJournal. -/
import Derived.Test.YtifbjngkdifenaaDoorJ15
namespace Go.Proofs.YtifbjngkdifenaaDoor
open Go.ChangeShapes Go.WideShapes Go.ChangeAt Go.RowKit
open Num
theorem ent_in {e : Ent} {l : List Ent} (h : e ∈ l) : (entE e).length ≤ (allT l).length := by
  induction l with
  | nil => cases h
  | cons x l ih =>
    rw [allT_cons, List.length_append]
    rcases List.mem_cons.1 h with rfl | h
    · omega
    · have := ih h; omega
theorem nums_many (ns : List Int) : ns.length ≤ (numsT ns).length := by
  induction ns with
  | nil => exact Nat.le_refl _
  | cons n ns ih =>
    have e : numsT (n :: ns) = numT n ++ numsT ns := by unfold numsT; rw [List.flatMap_cons]
    rw [e, List.length_append, List.length_cons]
    unfold numT
    rw [List.length_cons]
    omega
set_option maxRecDepth 1000000 in
set_option maxHeartbeats 4000000 in
theorem topJournal_walk (v : Value) (L0 : List EV) (cut : Int) (w : World) (E : Env w) (h : IsEnts w v L0) (hl : L0.length ≤ maxLen) (hfit : ∀ x ∈ L0, ∀ n ∈ x.e.n, Fit n) (hbig : ∀ x ∈ L0, x.e.kind.length ≤ maxLen ∧ x.e.n.length ≤ maxLen ∧ x.e.texts.length ≤ maxLen) :
    Calls Tryd.prog 4 #[v, .int .i64 cut] w fun e w' => e = .returned (.bool true) ∧ Below w.heap.size w w' := by
  have T0 := Lib.hid (jtext_any [97] [] [] (.slice none 0 0) (.slice none 0 0) w E ⟨none, 0, rfl, fun i hi => absurd hi (by simp)⟩ (by simp) (isTexts_nil w none 0) (by decide) (by decide) (by decide))
  have hT : (bs (entT [97] [] [])).toList = [97, 59, 10, 46] := by rw [bs_toList]; rfl
  generalize bs (entT [97] [] []) = t0 at *
  obtain ⟨ao, cap, rfl, hc⟩ := h
  unfold maxLen at hl
  have HC := Lib.hid hc
  have HE := Lib.hid E
  have HFT := Lib.hid hfit
  have HBG := Lib.hid hbig
  clear hc E hfit hbig
  obtain ⟨q, hq⟩ : ∃ q, q = L0.length := ⟨_, rfl⟩
  rw [← hq] at hl ⊢
  have HQ := Lib.hid hq
  clear hq
  go_enter Tryd.func4, Tryd.ntmps4
  by_cases h10 : 10 < q
  · go_wp2_with (go_at_call 7; refine T0.out.mono ?_; rintro _ w1 ⟨rfl, hb1⟩)
    go_ret
    exact ⟨rfl, hb1⟩
  · go_wp2_with (go_at_call 7; refine T0.out.mono ?_; rintro _ w1 ⟨rfl, hb1⟩)
    go_loopg [5, 6, 7] q (fun gg sv lv iv wr => ∃ i : Nat, gg = q - i ∧ i ≤ q ∧ iv = .int .i64 i ∧ sv = .string (bs (allT ((L0.map EV.e).take i))) ∧ Hid (wr.ownsRow w1.heap.size 3 1 lv (endsL (L0.map EV.e) i).length (cellsI (endsL (L0.map EV.e) i))) ∧ Hid (∀ e ∈ (L0.map EV.e).take i, Plain e) ∧ (allT ((L0.map EV.e).take i)).length ≤ 2000 * i ∧ Below w1.heap.size w1 wr)
    case atStart => exact ⟨0, rfl, Nat.zero_le _, rfl, rfl, World.ownsRow_nil _ _ _ _, fun e he => by simp at he, by simp [allT], Below.refl _ _⟩
    case round =>
      obtain ⟨i, hgk, hi, rfl, rfl, HO, HP, hal, hb⟩ := hrel
      have HG := Lib.hid hgk
      clear hgk
      by_cases hlt : i < q
      · have hil : i < L0.length := by have := HQ.out; omega
        obtain ⟨b, off, rfl, c0, c1, c2, hi1, ht1⟩ := HC.out i hil
        have hbw := below_trans hb1 hb
        obtain ⟨an, cn, en, _⟩ := id hi1
        obtain ⟨at', ct, et, _⟩ := id ht1
        rw [List.length_map] at et
        have C0 := Lib.hid (cell_below c0 hbw)
        have C1 := Lib.hid (cell_below c1 hbw)
        have C2 := Lib.hid (cell_below c2 hbw)
        rw [en] at C1 hi1
        rw [et] at C2 ht1
        have I1 := Lib.hid (hi1.below hbw)
        have X1 := Lib.hid (ht1.below hbw)
        have hbg := HBG.out _ (List.getElem_mem hil)
        clear c0 c1 c2 hi1 ht1 en et
        go_upto_block 1 with fail
        refine b1_any b off q cap i w1.heap.size _ _ _ (endsL (L0.map EV.e) i) _ an at' cn ct _ wr _ _ _ _ _ _ _ _ _ _ _ _ _ _ _ _ _ _ _ _ _ _ _ _ _ _ _ _ _ _ _ _ _ _ _ _ _ _ _ _ _ _ _ _ _ _ _ _ _ _ _ _ _ _ _ _ _ _ _ _ _ _ _ _ _ _ _ _ _ _ _ _ _ _ _ _ _ _ _ _ _ _ _ _ _ _ _ _ _ _ _ _ _ _ _ _ _ _ _ _ _ _ _ _ _ _ _ _ _ _ _ _ _ _ _ _ _ _ _ _ _ _ _ _ _ _ _ _ _ _ _ _ _ _ _ _ _ _ _ _ _ _ _ _ _ _ _ _ _ _ _ _ _ hlt C0.out C1.out C2.out I1.out X1.out (HFT.out _ (List.getElem_mem hil)) hb.size (HE.out.below hbw) hbg.1 hbg.2.1 hbg.2.2 (by omega) (by rw [endsL_len]; omega) HO ?_ ?_
        · have hs : allT ((L0.map EV.e).take (i + 1)) = allT ((L0.map EV.e).take i) ++ entT L0[i].e.kind L0[i].e.n L0[i].e.texts := by
            rw [allT_succ _ i (by rw [List.length_map]; exact hil), List.getElem_map]
            rfl
          have hes := endsL_succ (L0.map EV.e) i
          have HS := Lib.hid hs
          have HES := Lib.hid hes
          clear hs hes
          refine Lib.hid ?_
          intro hpl hsm z4 z8 z9 z26 z27 z28 z29 z30 z31 z32 z33 z34 z35 z36 z37 z38 z39 z40 z41 z42 z43 z44 z45 z46 z47 z48 z49 z50 z51 z52 z53 z54 z55 z56 z57 z58 z59 z60 z61 z62 z63 z64 z65 z66 z67 z68 z69 z70 z71 z72 z73 z74 z75 z76 z77 z78 z79 lv' wx hbx hox
          have HP2 : Hid (∀ e ∈ (L0.map EV.e).take (i + 1), Plain e) := fun e he => by
            rw [List.take_succ_eq_append_getElem (by rw [List.length_map]; exact hil), List.mem_append, List.mem_singleton, List.getElem_map] at he
            rcases he with he | he
            · exact HP.out e he
            · rw [he]; exact hpl
          have HOX := Lib.hid hox
          have hal2 : (allT ((L0.map EV.e).take (i + 1))).length ≤ 2000 * (i + 1) := by rw [HS.out, List.length_append]; omega
          have HAL := Lib.hid hal2
          have HBX := Lib.hid (hb.trans hbx)
          clear hpl hsm hox hbx HO HP hal hal2 I1 X1 C0 C1 C2
          go_wp2
          go_roundg (q - (i + 1))
          case measure => have := HG.out; omega
          case rel => exact ⟨i + 1, rfl, by omega, by go_num, by rw [HS.out], (by rw [HES.out, HS.out]; exact HOX.out), HP2, HAL.out, HBX.out⟩
        · refine Lib.hid ?_
          intro z5 z6 z8 z9 z26 z27 z28 z29 z30 z31 z32 z33 z34 z35 z36 z37 z38 z39 z40 z41 z42 z43 z44 z45 z46 z47 z48 z49 z50 z51 z52 z53 z54 z55 z56 z57 z58 z59 z60 z61 z62 z63 z64 z65 z66 z67 z68 z69 z70 z71 z72 z73 z74 z75 z76 z77 z78 z79 wx hbx
          simp only [Exit.inBlock, Exit.then]
          go_ret
          exact ⟨rfl, below_trans hb1 (hb.trans hbx)⟩
      · have e : i = q := by omega
        subst e
        have htk : (L0.map EV.e).take i = L0.map EV.e := List.take_of_length_le (by rw [List.length_map]; have := HQ.out; omega)
        rw [htk] at HP hal ⊢
        obtain ⟨A, hA⟩ : ∃ A, A = allT (L0.map EV.e) := ⟨_, rfl⟩
        obtain ⟨r, hr⟩ : ∃ r, r = endsL (L0.map EV.e) i := ⟨_, rfl⟩
        rw [← hA] at hal ⊢
        rw [← hr] at HO
        have hrl : r.length = i := by rw [hr, endsL_len]
        have hIs := isIs_of HO.out
        obtain ⟨eo, ec, rfl, _⟩ := id hIs
        have HIS := Lib.hid hIs
        have HA := Lib.hid hA
        have HR := Lib.hid hr
        have HRL := Lib.hid hrl
        have hsz := bs_size A
        have hsz2 : (bs A).size ≤ 20000 := by omega
        have HSZ := Lib.hid hsz
        have hbw := Lib.hid (below_trans hb1 hb)
        have HB := Lib.hid hb
        clear hA hr hrl hIs hsz htk HO hb hb1
        have HN : Hid (∀ n, n ≤ A.length → Calls Tryd.prog 12 #[.string (bs (A.take n))] wr fun e w' => ∃ v L, e = .returned v ∧ L.map EV.e = parL (A.take n) ∧ w'.ownsRow wr.heap.size 25 3 v L.length (cellsE L) ∧ (∀ x ∈ L, Good wr.heap.size w' x) ∧ Below wr.heap.size wr w') := fun n hn => parse_any _ wr (HE.out.below hbw.out) (by rw [List.length_take]; omega)
        by_cases hcut : 0 < cut
        case' pos =>
          have hd0 : ¬ ((bs A).size : Int) + 1 = 0 := by omega
          obtain ⟨n, hrem⟩ : ∃ n : Nat, Int.tmod cut (((bs A).size : Int) + 1) = n := ⟨(Int.tmod cut (((bs A).size : Int) + 1)).toNat, by have := Int.tmod_nonneg (((bs A).size : Int) + 1) (show 0 ≤ cut by omega); omega⟩
          have hnl : n ≤ (bs A).size := by have := Int.tmod_lt_of_pos cut (show (0 : Int) < ((bs A).size : Int) + 1 by omega); omega
          have hAn : (bs A).extract 0 n = bs (A.take n) := bs_take A n
          have HAN := Lib.hid hAn
          clear hAn
          go_wp2_with (go_at_call 12; refine Hid.out ?_)
          rw [HAN.out]
          refine Lib.hid ?_
          have hnA : n ≤ A.length := by have := HSZ.out; omega
          refine (HN.out n hnA).mono ?_
          clear HAN hrem hnl hcut hd0 HN
        case' neg =>
          obtain ⟨n, hn⟩ : ∃ n, n = (bs A).size := ⟨_, rfl⟩
          have HN0 := Lib.hid hn
          clear hn
          go_wp2_with (go_at_call 12; refine Hid.out ?_)
          rw [← HN0.out]
          refine Lib.hid ?_
          have hnA : n ≤ A.length := by have := HSZ.out; have := HN0.out; omega
          have HNN := HN.out n hnA
          have e2 : bs (A.take n) = bs A := by rw [List.take_of_length_le (show A.length ≤ n by have := HSZ.out; have := HN0.out; omega)]
          rw [e2] at HNN
          refine HNN.mono ?_
          clear HNN HN0 hcut HN e2
        all_goals
          rintro _ w2 ⟨v, L, rfl, hpar, hrow, hgood, hb2⟩
          dsimp only
          have hen := isEnts_of hrow hgood
          obtain ⟨xo, xc, rfl, hx⟩ := id hen
          have HX := Lib.hid hx
          obtain ⟨Ln, hLn⟩ : ∃ Ln, Ln = L.length := ⟨_, rfl⟩
          rw [← hLn]
          have HLN := Lib.hid hLn
          have HPR := Lib.hid hpar
          have HB2 := Lib.hid hb2
          have HIS2 := Lib.hid (HIS.out.below hb2)
          have hr10 : r.length ≤ 10 := by have := HRL.out; omega
          clear hen hx hLn hpar hrow hgood hb2 HIS
          go_upto_block 4 with fail
          refine b4_any eo ec n r w2 _ _ _ _ _ _ _ _ _ _ _ _ _ _ _ _ _ _ _ _ _ _ _ _ _ _ _ _ _ _ _ _ _ _ _ _ _ _ _ _ _ _ _ _ _ _ _ _ _ _ _ _ _ _ _ _ _ _ _ _ _ _ _ _ _ _ _ _ _ _ _ _ _ _ _ _ _ _ _ _ _ _ _ _ _ _ _ _ _ _ _ _ _ _ _ _ _ _ _ _ _ _ _ _ _ _ _ _ _ _ _ _ _ _ _ _ _ _ _ _ _ _ _ _ _ _ _ _ _ _ _ _ _ _ _ _ _ _ _ _ _ _ _ _ _ _ _ _ _ _ _ _ _ _ HIS2.out hr10 ?_
          refine Lib.hid ?_
          intro M hM h1 h2 z93 z94 z95 z96 z97 z98 z99 z100 z101 z102 z103 z104 z105 z106
          have hpm : parL (A.take n) = (L0.map EV.e).take M := by
            have e1 : r = endsL (L0.map EV.e) (L0.map EV.e).length := by rw [HR.out, List.length_map, ← HQ.out]
            rw [HA.out]
            subst e1
            exact par_many _ HP.out n M hM h1 h2
          have hMi : M ≤ L0.length := by have := HRL.out; have := HQ.out; omega
          have hLm : L.map EV.e = (L0.map EV.e).take M := by rw [HPR.out, hpm]
          have hLM : Ln = M := by
            have := congrArg List.length hLm
            rw [List.length_map, List.length_take, List.length_map] at this
            have := HLN.out
            omega
          subst hLM
          have HAT : Hid (∀ j (h : j < L.length) (h' : j < L0.length), L[j].e = L0[j].e) := fun j h h' => by
            have e := congrArg (fun l => l[j]?) hLm
            simp only [List.getElem?_map] at e
            rw [List.getElem?_take_of_lt (by have := HLN.out; omega), List.getElem?_map, List.getElem?_eq_getElem h, List.getElem?_eq_getElem h'] at e
            simpa using e
          have HMI := Lib.hid hMi
          have hL10 : Ln ≤ 10 := by omega
          clear hpm hLm h1 h2 hM HPR HIS2 hMi
          go_wp2
          go_loopg [13] Ln (fun gg jv wq => ∃ j : Nat, gg = Ln - j ∧ j ≤ Ln ∧ jv = .int .i64 j ∧ Below w2.heap.size w2 wq)
          case atStart => exact ⟨0, rfl, Nat.zero_le _, rfl, Below.refl _ _⟩
          case round =>
            obtain ⟨j, hgj, hj, rfl, hbq⟩ := hrel
            have HGJ := Lib.hid hgj
            clear hgj
            by_cases hjl : j < Ln
            · have hjL : j < L.length := by have := HLN.out; omega
              have hj0 : j < L0.length := by have := HMI.out; omega
              have hji : j < i := by have := HQ.out; omega
              obtain ⟨ga, oa, rfl, a0, a1, a2, in1, it1⟩ := HC.out j hj0
              obtain ⟨gx, ox, rfl, x0, x1, x2, in2, it2⟩ := HX.out j hjL
              have hee := HAT.out j hjL hj0
              rw [hee] at x0 in2 it2
              have hbg := HBG.out _ (List.getElem_mem hj0)
              have hpl := HP.out _ (List.mem_map_of_mem (f := EV.e) (List.getElem_mem hj0))
              have hnn : L0[j].e.n.length ≤ 20000 := by
                have h1 := ent_in (List.mem_map_of_mem (f := EV.e) (List.getElem_mem hj0))
                rw [← HA.out] at h1
                have h2 := nums_many L0[j].e.n
                have h3 := ent_parts L0[j].e.kind L0[j].e.n L0[j].e.texts
                unfold entE at h1
                omega
              have hw2q := below_trans (below_trans hbw.out HB2.out) hbq
              replace a0 := cell_below a0 hw2q
              replace a1 := cell_below a1 hw2q
              replace a2 := cell_below a2 hw2q
              replace in1 := in1.below hw2q
              replace it1 := it1.below hw2q
              replace x0 := cell_below x0 hbq
              replace x1 := cell_below x1 hbq
              replace x2 := cell_below x2 hbq
              replace in2 := in2.below hbq
              replace it2 := it2.below hbq
              generalize L0[j].vn = vn1 at *
              generalize L0[j].vt = vt1 at *
              generalize L[j].vn = vn2 at *
              generalize L[j].vt = vt2 at *
              generalize L0[j].e = E0 at *
              obtain ⟨n1, cn1, rfl, _⟩ := id in1
              obtain ⟨n2, cn2, rfl, _⟩ := id in2
              obtain ⟨t1, ct1, rfl, _⟩ := id it1
              obtain ⟨t2, ct2, rfl, _⟩ := id it2
              have A0 := Lib.hid a0
              have A1 := Lib.hid a1
              have A2 := Lib.hid a2
              have X0 := Lib.hid x0
              have X1 := Lib.hid x1
              have X2 := Lib.hid x2
              have SN : Hid (∀ w1, Below wr.heap.size wr w1 → Calls Tryd.prog 14 #[.slice n2 E0.n.length cn2, .slice n1 E0.n.length cn1] w1 fun e w' => e = .returned (.bool true) ∧ Below w1.heap.size w1 w') := fun w1 hq => sameNumbers_any _ _ E0.n w1 (in2.below hq) (in1.below hq) (by omega)
              have ST : Hid (∀ w1, Below wr.heap.size wr w1 → Calls Tryd.prog 15 #[.slice t2 (E0.texts.map bs).length ct2, .slice t1 (E0.texts.map bs).length ct1] w1 fun e w' => e = .returned (.bool true) ∧ Below w1.heap.size w1 w') := fun w1 hq => (sameTexts_any _ _ _ _ w1 (it2.below hq) (it1.below hq) (by rw [List.length_map]; exact hbg.2.2)).mono fun e w' h => by
                obtain ⟨h1, m, rfl⟩ := h
                exact ⟨by rw [h1, decide_eq_true rfl], below_drewN _ _⟩
              have HBQ := Lib.hid hbq
              clear a0 a1 a2 x0 x1 x2 in1 in2 it1 it2 hee hbq hw2q hpl hbg
              go_upto_region 32 with fail
              refine wp_norm (r32_any ga oa i cap gx ox Ln xc j _ n1 n2 t1 t2 _ cn1 cn2 _ ct1 ct2 wr _ _ _ _ _ _ _ _ _ _ _ _ _ _ _ _ _ _ _ _ _ _ _ _ _ _ _ _ _ _ _ _ _ _ _ _ _ _ _ _ _ _ _ _ _ _ _ _ _ _ _ _ _ _ _ _ _ _ _ _ _ _ _ _ _ _ _ _ _ _ _ _ _ _ _ _ _ _ _ _ _ _ _ _ _ _ _ _ _ _ _ _ _ _ _ _ _ _ _ _ _ _ _ _ _ _ _ _ _ _ _ _ _ _ _ _ _ _ _ _ _ _ _ _ _ _ _ _ _ _ _ _ _ _ _ _ _ _ _ _ _ _ _ _ _ _ _ _ _ _ _ _ _ hji hjl A0.out A1.out A2.out X0.out X1.out X2.out SN ST ?_)
              refine Lib.hid ?_
              intro z116 z117 z118 z119 z120 z121 z122 z123 z124 z125 z126 z127 z128 z129 z130 z131 z132 z133 z134 z135 z136 z137 z138 z139 z140 z141 z142 z143 z144 z145 z146 z147 z148 z149 z150 z151 z152 z153 wx hbx
              have HBX := Lib.hid (below_trans HBQ.out hbx)
              clear A0 A1 A2 X0 X1 X2 SN ST hbx HBQ
              go_wp2
              go_roundg (Ln - (j + 1))
              case measure => have := HGJ.out; omega
              case rel => exact ⟨j + 1, rfl, by omega, by go_num, HBX.out⟩
            · have HF := Lib.hid (below_trans hbw.out (below_trans HB2.out hbq))
              clear hbq
              go_wp2
              go_ret
              exact ⟨rfl, HF.out⟩
end Go.Proofs.YtifbjngkdifenaaDoor
