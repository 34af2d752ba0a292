/- Put together of X1, N8. -/
import Derived.Test.YtahhcabmpcjddaaDoorG3
import Derived.Test.YtahhcabmpcjddaaDoorN7
import Derived.Test.YtahhcabmpcjddaaDoorG2
/- Mapper: the walk of TopSlices. -/
namespace Go.Proofs.YtahhcabmpcjddaaDoor
open Go.ChangeShapes Go.WideShapes Go.ChangeAt Go.RowKit
set_option maxRecDepth 1000000 in
set_option maxHeartbeats 8000000 in
theorem topSlices_walk (SD : StepDoes) (j : Jb) (a : Option Addr) (cap : Nat) (lv : Value) (lines : List (List UInt8)) (w : World) (E : EnvS w) (h : IsRules w (.slice a j.rules.length cap) j.rules) (hw : rulesWt j.rules ≤ 1000000000) (hv : IsTexts w lv (lines.map bs)) (hll : lines.length ≤ 1000000000) :
    Calls Tryd.prog 6 #[j.value (.slice a j.rules.length cap), lv] w fun e w' => e = .returned (.bool true) ∧ Below w.heap.size w w' := by
  have RD := Lib.hid (fun w E => ready_any w E)
  have LJ := Lib.hid (fun w h => lightJob_any j (.slice a j.rules.length cap) w h hw)
  have CK := Lib.hid (fun w h E => jobCheck_any j (.slice a j.rules.length cap) w h hw E)
  have LT := Lib.hid (fun w' (hb : Below w.heap.size w w') => lightTexts_any lv (lines.map bs) 60 120 w' (IsTexts.below hv hb) (by unfold maxLen; rw [List.length_map]; omega))
  have HSD := Lib.hid SD
  have HV := Lib.hid (fun w' (hb : Below w.heap.size w w') => IsTexts.below hv hb)
  have HE := Lib.hid (fun w' (hb : Below w.heap.size w w') => E.lower hb)
  have H := Lib.hid (fun w' (hb : Below w.heap.size w w') => h.lower hb)
  obtain ⟨f, hf⟩ : ∃ f, f = jobFault j := ⟨_, rfl⟩
  rw [← hf] at CK
  have HF := Lib.hid hf
  obtain ⟨l, fo, ea, sl⟩ := j
  simp only [Jb.value] at *
  obtain ⟨la, lc, rfl, -⟩ := hv
  obtain ⟨ln, hln⟩ : ∃ ln, ln = (lines.map bs).length := ⟨_, rfl⟩
  rw [← hln] at LT HV ⊢
  have HLN : Hid (ln = lines.length) := by show _ = _; rw [hln, List.length_map]
  obtain ⟨rn, hrn⟩ : ∃ rn, rn = l.length := ⟨_, rfl⟩
  rw [← hrn] at LJ CK H ⊢
  have HRN := Lib.hid hrn
  clear hrn hln hf h E SD
  go_enter Tryd.func6, Tryd.ntmps6
  go_wp2_with (go_at_call 18; refine Hid.out ?_)
  refine Lib.hid ?_
  refine (RD.out _ (HE.out _ (below_box _))).mono ?_
  rintro _ w1 ⟨rfl, hb1⟩
  have JB := Lib.hid ((blk_new (w := w) (cs := #[.slice a rn cap, .int .i64 fo, .bool ea, .int .i64 sl]) (t := 24) rfl).blw hb1)
  have hb01 := below_trans (below_box _) hb1
  have k0 := JB.out.at (i := 0) (v := .slice a rn cap) rfl
  have k1 := JB.out.at (i := 1) (v := .int .i64 fo) rfl
  have k2 := JB.out.at (i := 2) (v := .bool ea) rfl
  have k3 := JB.out.at (i := 3) (v := .int .i64 sl) rfl
  clear hb1 RD
  go_wp2_with (go_at_call 10; refine Hid.out ?_)
  refine Lib.hid ?_
  refine (LJ.out w1 (H.out _ hb01)).mono ?_
  rintro _ w2 ⟨g, rfl, hb2⟩
  have hb02 := below_trans hb01 hb2
  have JB2 := Lib.hid (JB.out.blw hb2)
  clear k0 k1 k2 k3 JB hb01 hb2 LJ
  cases g with
  | false =>
    go_wp2
    go_ret
    exact ⟨rfl, hb02⟩
  | true =>
  have LT2 := Lib.hid (LT.out w2 hb02)
  obtain ⟨lt, hlt⟩ : ∃ lt, lt = (decide ((ln : Int) ≤ 60) && lightT (lines.map bs) 120) := ⟨_, rfl⟩
  rw [← hlt] at LT2
  have HLT := Lib.hid hlt
  clear hlt LT
  go_wp2_with (go_at_call 11; refine Hid.out ?_)
  refine Lib.hid ?_
  refine LT2.out.mono ?_
  rintro _ w3 ⟨rfl, h3⟩
  rw [h3]
  clear h3 w3 LT2
  cases lt with
  | false =>
    go_wp2
    go_ret
    exact ⟨rfl, hb02⟩
  | true =>
  have h60 : ln ≤ 60 := by
    have h := HLT.out.symm
    rw [Bool.and_eq_true, decide_eq_true_eq] at h
    omega
  have HLO : Hid (∀ x ∈ lines, x.length ≤ 120) := fun x hx => by
    have h := HLT.out.symm
    rw [Bool.and_eq_true] at h
    have h2 := h.2
    unfold lightT at h2
    rw [List.all_eq_true] at h2
    have := of_decide_eq_true (h2 (bs x) (List.mem_map.2 ⟨x, hx, rfl⟩))
    rw [bs_size] at this
    omega
  have k0 := JB2.out.at (i := 0) (v := .slice a rn cap) rfl
  have k1 := JB2.out.at (i := 1) (v := .int .i64 fo) rfl
  have k2 := JB2.out.at (i := 2) (v := .bool ea) rfl
  have k3 := JB2.out.at (i := 3) (v := .int .i64 sl) rfl
  go_wp2_with (go_at_call 12; refine Hid.out ?_)
  refine Lib.hid ?_
  refine (CK.out w2 (H.out _ hb02) (HE.out _ hb02)).mono ?_
  rintro _ w3 ⟨rfl, hb3⟩
  have hb03 := below_trans hb02 hb3
  have JB3 := Lib.hid (JB2.out.blw hb3)
  clear k0 k1 k2 k3 JB2 hb02 hb3 CK HLT
  rcases (errV_cases f).symm with ⟨h0, hvv⟩ | ⟨h0, hvv⟩
  · rw [hvv]
    go_wp2
    go_ret
    exact ⟨rfl, hb03⟩
  rw [hvv]
  have HJF : Hid (jobFault ⟨l, fo, ea, sl⟩ = 0) := by show _ = _; rw [← HF.out]; exact h0
  obtain ⟨-, hr4, hk1, hk4, hs1, hs4, -⟩ := jobFault_parts HJF.out
  simp only at hr4 hk1 hk4 hs1 hs4
  obtain ⟨ns, rfl⟩ : ∃ ns : Nat, sl = (ns : Int) := ⟨sl.toNat, by omega⟩
  have hn1 : 1 ≤ ns := by omega
  have hn4 : ns ≤ 4 := by omega
  have hjs := job_small HJF.out
  have NW := Lib.hid (new_ok ⟨l, fo, ea, (ns : Int)⟩ (.slice a rn cap) (.slice la ln lc) lines w3 (H.out _ hb03) (by omega) HJF.out (HV.out _ hb03) (by have := HLN.out; omega) (HE.out _ hb03))
  unfold MadeNew at NW
  simp only [Jb.value] at NW
  have k0 := JB3.out.at (i := 0) (v := .slice a rn cap) rfl
  have k1 := JB3.out.at (i := 1) (v := .int .i64 fo) rfl
  have k2 := JB3.out.at (i := 2) (v := .bool ea) rfl
  have k3 := JB3.out.at (i := 3) (v := .int .i64 (ns : Int)) rfl
  clear hvv h0 hjs HF hr4 hk1 hk4 hs1 hs4
  go_wp2_with (go_at_call 13; refine Hid.out ?_)
  refine Lib.hid ?_
  refine NW.out.mono ?_
  clear NW
  rintro _ w4 ⟨R, rv, lv', rfl, hmr, hlR, hb4⟩
  have hb04 := below_trans hb03 hb4
  have HI : Hid (MRin w4 R ⟨l, fo, ea, (ns : Int)⟩ lines) := ⟨HJF.out, by have := job_small HJF.out; omega, by have := HLN.out; omega, fun x hx => by have := HLO.out x hx; omega, fun w' hb' => HE.out w' (hb04.trans (hb'.mono (Nat.le_trans hb03.size hlR)))⟩
  have JB4 := Lib.hid (JB3.out.blw hb4)
  have ST := Lib.hid (step_all HSD.out R 60 ⟨l, fo, ea, (ns : Int)⟩ rv lv' lines w4 hmr HI.out (by decide) (by decide))
  have HJR : Hid (w.heap.size < R) := by show _ < _; have h1 := JB3.out.lt; have h2 := hlR; omega
  have HRL := Lib.hid hmr.blk.lt
  clear k0 k1 k2 k3 JB3 hb03 hb4 hmr hlR HSD
  dsimp only
  go_wp2_with (go_at_call 14; refine Hid.out ?_)
  refine Lib.hid ?_
  refine ST.out.mono ?_
  clear ST
  rintro _ w5 ⟨rfl, mv, hmr5, hF5, hown5⟩
  have hb05 : Below w.heap.size w w5 := hb04.trans (hF5.below hb04.size (Nat.le_of_lt HJR.out) (fun b hb => by cases hb))
  have JB5 : Hid (Blk w5 w.heap.size 24 [.slice a rn cap, .int .i64 fo, .bool ea, .int .i64 (ns : Int)]) := by
    show Blk _ _ _ _
    exact (hF5.block w.heap.size JB4.out.lt (by have := HJR.out; omega) (fun e => by cases e)).trans JB4.out
  have hML : (madeOf ⟨l, fo, ea, (ns : Int)⟩ lines).length ≤ 240240 := by
    have h1 := madeOf_len ⟨l, fo, ea, (ns : Int)⟩ lines (jobFault_parts HJF.out).2.1 (fun x hx => by have := HLO.out x hx; omega)
    have h2 := Nat.mul_le_mul_right 4004 (show lines.length ≤ 60 by have := HLN.out; omega)
    omega
  have SL := Lib.hid (slices_any R lines.length l fo ea ns rv lv' mv lines (madeOf ⟨l, fo, ea, (ns : Int)⟩ lines) w5 hmr5 hn1 hn4 (by omega) (fun p hp => by have := made_key hp; omega))
  have HML := Lib.hid hML
  have HPM : Hid (∀ k p, p ∈ finL ea fo (inSlice ns k (Pp.Tot.srt (madeOf ⟨l, fo, ea, (ns : Int)⟩ lines))) → p.1.size ≤ 1000) := fun k p hp => by
    have key : ∀ q ∈ Pp.Tot.srt (madeOf ⟨l, fo, ea, (ns : Int)⟩ lines), q.1.size ≤ 20 := fun q hq => made_key (Pp.Tot.srt_mem.1 hq)
    unfold finL at hp
    split at hp
    · obtain ⟨q, hq, e⟩ := grp_mem_key hp
      have e2 := Pp.Tot.key_inj e
      rw [← e2]
      unfold inSlice at hq
      have := key q (List.mem_filter.1 hq).1
      omega
    · unfold inSlice at hp
      have := key p (List.mem_filter.1 hp).1
      omega
  clear hmr5 hF5 hown5 JB4 hb04 hML
  go_wp2_with (go_at_call 15; refine Hid.out ?_)
  refine Lib.hid ?_
  refine SL.out.mono ?_
  clear SL
  rintro _ w6 ⟨sv, rfl, hls, hb6⟩
  have hb06 := below_trans hb05 hb6
  have JB6 := Lib.hid (JB5.out.blw hb6)
  have HLS := Lib.hid hls
  obtain ⟨sa, sc, rfl, -⟩ := hls
  have hsl : (slicesOf fo ea ns (madeOf ⟨l, fo, ea, (ns : Int)⟩ lines)).length = ns := by simp [slicesOf]
  rw [hsl] at HLS ⊢
  have HB06 := Lib.hid hb06
  clear hb05 JB5 hb6 hb06 hsl
  dsimp only
  go_wp2
  go_loopg [9, 10] ln (fun gg cv iv wr => ∃ i c : Nat, gg = ln - i ∧ i ≤ ln ∧ iv = .int .i64 i ∧ cv = .int .i64 c ∧ c ≤ 240240 ∧ Hid (c = (madeOf ⟨l, fo, ea, (ns : Int)⟩ (lines.take i)).length) ∧ Below w6.heap.size w6 wr)
  case atStart => exact ⟨0, 0, rfl, Nat.zero_le _, rfl, rfl, by omega, (show 0 = _ from rfl), Below.refl _ _⟩
  case round =>
    obtain ⟨i, c, hgi, hi, rfl, rfl, hc, HC, hb6r⟩ := hrel
    have HGI := Lib.hid hgi
    clear hgi
    have hb0r := below_trans HB06.out hb6r
    by_cases hlt : i < ln
    · obtain ⟨x, hx⟩ : ∃ x, lines[i]? = some x := ⟨lines[i]'(by have := HLN.out; omega), by simp⟩
      obtain ⟨lb, loff, rfl, x0⟩ : ∃ lb loff, la = some ⟨lb, loff, none⟩ ∧ wr.cell? ⟨lb, loff + i, none⟩ = some (.string (bs x)) := by
        have h := HV.out wr hb0r
        rw [HLN.out] at h
        exact texts_get h i x hx
      have hxl := HLO.out x (List.mem_of_getElem? hx)
      have hxl2 : x.length ≤ 100000 := by omega
      have PR : Hid (∀ w', Below wr.heap.size wr w' → Calls Tryd.prog 19 #[.agg #[.slice a rn cap, .int .i64 fo, .bool ea, .int .i64 (ns : Int)], .string (bs x)] w' fun e w'' => ∃ ua uc, e = .returned (.slice ua (rulesP l fo x).length uc) ∧ Below w'.heap.size w' w'') := fun w' hb' => by
        refine (pairs_any ⟨l, fo, ea, (ns : Int)⟩ (.slice a rn cap) x w' (H.out w' (below_trans hb0r hb')) hw HJF.out hxl2 (HE.out w' (below_trans hb0r hb'))).mono ?_
        rintro e w'' ⟨u, rfl, h1, h2⟩
        obtain ⟨ua, uc, e2⟩ := Pp.owns_isPairs h1
        exact ⟨ua, uc, by rw [e2.1], h2⟩
      obtain ⟨pn, hpn⟩ : ∃ pn, pn = (rulesP l fo x).length := ⟨_, rfl⟩
      rw [← hpn] at PR
      obtain ⟨c2, hc2⟩ : ∃ c2 : Nat, (c : Int) + (pn : Int) = (c2 : Int) := ⟨c + pn, by simp⟩
      have HC2 : Hid (c2 = (madeOf ⟨l, fo, ea, (ns : Int)⟩ (lines.take (i + 1))).length) := by
        show _ = _
        rw [take_snoc hx, madeOf_append, List.length_append, ← HC.out]
        have e : (madeOf ⟨l, fo, ea, (ns : Int)⟩ [x]).length = pn := by rw [hpn]; simp [madeOf]
        rw [e]
        omega
      have hc2' : c2 ≤ 240240 := by
        rw [HC2.out]
        have h1 := madeOf_len ⟨l, fo, ea, (ns : Int)⟩ (lines.take (i + 1)) (jobFault_parts HJF.out).2.1 (fun y hy => by have := HLO.out y (List.mem_of_mem_take hy); omega)
        have h3 : (lines.take (i + 1)).length ≤ 60 := by rw [List.length_take]; have := HLN.out; omega
        have h2 := Nat.mul_le_mul_right 4004 h3
        omega
      have hpn1 : pn ≤ 240240 := by omega
      obtain ⟨k0, k1, k2, k3⟩ : wr.cell? ⟨w.heap.size, 0, none⟩ = some (.slice a rn cap) ∧ wr.cell? ⟨w.heap.size, 1, none⟩ = some (.int .i64 fo) ∧ wr.cell? ⟨w.heap.size, 2, none⟩ = some (.bool ea) ∧ wr.cell? ⟨w.heap.size, 3, none⟩ = some (.int .i64 (ns : Int)) := by
        have h := JB6.out.blw hb6r
        exact ⟨h.at rfl, h.at rfl, h.at rfl, h.at rfl⟩
      generalize bs x = xs at *
      have HLT := Lib.hid hlt
      clear hx hxl hxl2 hpn
      go_upto_region 15 with fail
      go_region_with (go_at_call 19; refine (PR.out _ (by first | exact Below.refl _ _ | exact Pp.blw_drew (Below.refl _ wr))).mono ?_; rintro _ w7 ⟨ua, uc, rfl, hb7⟩; have hb67 : Below w6.heap.size w6 w7 := (by first | exact below_trans hb6r hb7 | exact below_trans hb6r (below_trans (Pp.blw_drew (Below.refl _ wr)) hb7)); clear hb7 k0 k1 k2 k3 x0)
      all_goals
        (try simp only [Exit.inBlock, Exit.then])
        go_wp2
        go_roundg (ln - (i + 1))
        case measure => have := HGI.out; have := HLT.out; omega
        case rel => exact ⟨i + 1, c2, rfl, HLT.out, by have := HLT.out; go_num, rfl, hc2', HC2, hb67⟩
    · have HN : Hid (c = (madeOf ⟨l, fo, ea, (ns : Int)⟩ lines).length) := by
        have h := HC.out
        rw [List.take_of_length_le (by have := HLN.out; omega)] at h
        exact h
      have HUP := Lib.hid (upto_le fo ea ns hn1 (madeOf ⟨l, fo, ea, (ns : Int)⟩ lines))
      have HMONO : Hid (∀ a b, a ≤ b → upto fo ea ns (madeOf ⟨l, fo, ea, (ns : Int)⟩ lines) a ≤ upto fo ea ns (madeOf ⟨l, fo, ea, (ns : Int)⟩ lines) b) := fun a b hab => by
        induction hab with
        | refl => exact Nat.le_refl _
        | step _ ih => rw [upto_succ]; omega
      have HRI : Hid (∀ (k i : Nat) (p q : ByteArray × Int), (finL ea fo (inSlice ns k (Pp.Tot.srt (madeOf ⟨l, fo, ea, (ns : Int)⟩ lines))))[i]? = some q → (finL ea fo (inSlice ns k (Pp.Tot.srt (madeOf ⟨l, fo, ea, (ns : Int)⟩ lines))))[i + 1]? = some p → Op.bytesLess p.1.toList q.1.toList = false ∧ (ea = true → (p.1.toList == q.1.toList) = false)) := fun k i p q hq hp => by
        have hs := slice_sorted (fo := fo) (ea := ea) (ns := ns) (k := k) (madeOf ⟨l, fo, ea, (ns : Int)⟩ lines)
        obtain ⟨hi1, e1⟩ := List.getElem?_eq_some_iff.1 hq
        obtain ⟨hi2, e2⟩ := List.getElem?_eq_some_iff.1 hp
        have h1 := List.pairwise_iff_getElem.1 hs i (i + 1) hi1 hi2 (by omega)
        rw [e1, e2] at h1
        refine ⟨h1, fun hea => ?_⟩
        subst hea
        have hr := slice_rises (fo := fo) (ns := ns) (k := k) (madeOf ⟨l, fo, true, (ns : Int)⟩ lines)
        have h2 := List.pairwise_iff_getElem.1 hr i (i + 1) hi1 hi2 (by omega)
        rw [e1, e2] at h2
        rw [beq_eq_false_iff_ne]
        intro e
        have h3 : Pp.Stable.bl q.1.toList p.1.toList = true := h2
        rw [e, Pp.Stable.bl_irrefl] at h3
        cases h3
      have HSK : Hid (∀ (k : Nat) (p : ByteArray × Int), p ∈ finL ea fo (inSlice ns k (Pp.Tot.srt (madeOf ⟨l, fo, ea, (ns : Int)⟩ lines))) → ∀ w', Calls Tryd.prog 24 #[.string p.1, .int .i64 (ns : Int)] w' fun e w'' => e = .returned (.int .i64 (k : Int)) ∧ Below w'.heap.size w' w'') := fun k p hp w' => by
        have hk := slice_key hp
        obtain ⟨e1, -⟩ := sliceN_lt (many := (ns : Int)) (by omega) (Pp.Stable.key p)
        rw [hk] at e1
        refine (Pp.slice_any p.1 (ns : Int) w' (by unfold maxLen; have := HPM.out k p hp; omega) (by omega) (by omega)).mono ?_
        rintro e w'' ⟨rfl, rfl⟩
        refine ⟨?_, Below.refl _ _⟩
        rw [e1]
        unfold Pp.Stable.key
        rw [ByteArray.toList_eq]
      have HAT : Hid (∀ k, k < ns → (slicesOf fo ea ns (madeOf ⟨l, fo, ea, (ns : Int)⟩ lines))[k]? = some (finL ea fo (inSlice ns k (Pp.Tot.srt (madeOf ⟨l, fo, ea, (ns : Int)⟩ lines))))) := fun k hk => slicesOf_at hk _
      have HSU : Hid (∀ k, upto fo ea ns (madeOf ⟨l, fo, ea, (ns : Int)⟩ lines) (k + 1) = upto fo ea ns (madeOf ⟨l, fo, ea, (ns : Int)⟩ lines) k + (finL ea fo (inSlice ns k (Pp.Tot.srt (madeOf ⟨l, fo, ea, (ns : Int)⟩ lines)))).length) := upto_succ _ _ _ _
      have HU0 : Hid (upto fo ea ns (madeOf ⟨l, fo, ea, (ns : Int)⟩ lines) 0 = 0) := rfl
      obtain ⟨S, hS⟩ : ∃ S : Nat → List (ByteArray × Int), S = fun k => finL ea fo (inSlice ns k (Pp.Tot.srt (madeOf ⟨l, fo, ea, (ns : Int)⟩ lines))) := ⟨_, rfl⟩
      obtain ⟨U, hU⟩ : ∃ U : Nat → Nat, U = upto fo ea ns (madeOf ⟨l, fo, ea, (ns : Int)⟩ lines) := ⟨_, rfl⟩
      have HRI2 : Hid (∀ (k i : Nat) (p q : ByteArray × Int), (S k)[i]? = some q → (S k)[i + 1]? = some p → Op.bytesLess p.1.toList q.1.toList = false ∧ (ea = true → (p.1.toList == q.1.toList) = false)) := by rw [hS]; exact HRI
      have HSK2 : Hid (∀ (k : Nat) (p : ByteArray × Int), p ∈ S k → ∀ w', Calls Tryd.prog 24 #[.string p.1, .int .i64 (ns : Int)] w' fun e w'' => e = .returned (.int .i64 (k : Int)) ∧ Below w'.heap.size w' w'') := by rw [hS]; exact HSK
      have HAT2 : Hid (∀ k, k < ns → (slicesOf fo ea ns (madeOf ⟨l, fo, ea, (ns : Int)⟩ lines))[k]? = some (S k)) := by rw [hS]; exact HAT
      have HSU2 : Hid (∀ k, U (k + 1) = U k + (S k).length) := by rw [hS, hU]; exact HSU
      have HU02 : Hid (U 0 = 0) := by rw [hU]; exact HU0
      rw [← hU, ← HN.out] at HUP
      rw [← hU] at HMONO
      have hmix : Tryd.prog.follows .mixedOrders = true := by kernel_rfl
      have JBr := Lib.hid (JB6.out.blw hb6r)
      have k3 := JBr.out.at (i := 3) (v := .int .i64 (ns : Int)) rfl
      clear hS hU HRI HSK HAT HSU HU0
      go_wp2
      clear k3
      go_loopg [9, 11] ns (fun gg mv kv wq => ∃ k m : Nat, gg = ns - k ∧ k ≤ ns ∧ kv = .int .i64 k ∧ mv = .int .i64 m ∧ m ≤ 240240 ∧ Hid (m + U k = c) ∧ Below w6.heap.size w6 wq)
      case atStart => exact ⟨0, c, rfl, Nat.zero_le _, rfl, rfl, hc, (show c + U 0 = c by rw [HU02.out]; rfl), hb6r⟩
      case round =>
        clear hb0r hb6r JBr
        obtain ⟨k, m, hgk, hk, rfl, rfl, hm, HM, hb6q⟩ := hrel
        have HGK := Lib.hid hgk
        clear hgk
        by_cases hkn : k < ns
        · have HKN := Lib.hid hkn
          obtain ⟨a', c', e1, hcell⟩ := HLS.out
          obtain ⟨sb, soff, u, e2, s0, hu⟩ := hcell k (by simp [slicesOf]; exact hkn)
          have hSk : (slicesOf fo ea ns (madeOf ⟨l, fo, ea, (ns : Int)⟩ lines))[k]'(by simp [slicesOf]; exact hkn) = S k := by
            have h := HAT2.out k hkn
            rw [List.getElem?_eq_getElem (by simp [slicesOf]; exact hkn), Option.some.injEq] at h
            exact h
          rw [hSk] at hu
          rw [Value.slice.injEq] at e1
          rw [← e1.1] at e2
          obtain ⟨ua, uc, hue, hpc⟩ := hu
          subst hue
          have HPC := Lib.hid hpc
          have S0 : Hid (∀ w', Below w6.heap.size w6 w' → w'.cell? ⟨sb, soff + k, none⟩ = some (.slice ua (S k).length uc)) := fun w' hb' => cell_below s0 hb'
          obtain ⟨nk, hnk⟩ : ∃ nk, nk = (S k).length := ⟨_, rfl⟩
          rw [← hnk] at S0
          have HNK := Lib.hid hnk
          have hnkb : nk ≤ 240240 := by
            have h1 := HSU2.out k
            have h2 := HMONO.out (k + 1) ns hkn
            have h3 := HUP.out.1
            omega
          subst e2
          clear hnk hpc s0 hSk e1 hcell
          go_wp2
          go_loopg [9, 12] nk (fun gg mv iv wz => ∃ i m : Nat, gg = nk - i ∧ i ≤ nk ∧ iv = .int .i64 i ∧ mv = .int .i64 m ∧ m ≤ 240240 ∧ Hid (m + U k + i = c) ∧ Below w6.heap.size w6 wz)
          case atStart => exact ⟨0, m, rfl, Nat.zero_le _, rfl, rfl, hm, (show m + U k + 0 = c from HM.out), hb6q⟩
          case round =>
            clear hb6q hm HM
            obtain ⟨i, m, hgi, hi, rfl, rfl, hm, HM, hb6q⟩ := hrel
            have HGI := Lib.hid hgi
            clear hgi
            have s1 := S0.out _ hb6q
            by_cases hin : i < nk
            · have HIL := Lib.hid hin
              have hkn2 : k < ns := HKN.out
              have hik : i < (S k).length := by have := HNK.out; omega
              obtain ⟨pb, poff, rfl, p0, -⟩ := HPC.out i hik
              have q0 := cell_below p0 hb6q
              have j2 := (JB6.out.blw hb6q).at (i := 2) (v := .bool ea) rfl
              have j3 := (JB6.out.blw hb6q).at (i := 3) (v := .int .i64 (ns : Int)) rfl
              have a3 : ∀ d os, (Sort.grow (redrawn wr d) os).cell? ⟨sb, soff + k, none⟩ = some (.slice (some ⟨pb, poff, none⟩) nk uc) := fun d os => cell_below s1 (below_regrown wr d os)
              have a0 : ∀ d os, (Sort.grow (redrawn wr d) os).cell? ⟨pb, poff + i * 2, none⟩ = some (.string (S k)[i].1) := fun d os => cell_below q0 (below_regrown wr d os)
              have b2 : ∀ d os, (Sort.grow (redrawn wr d) os).cell? ⟨w.heap.size, 2, none⟩ = some (.bool ea) := fun d os => cell_below j2 (below_regrown wr d os)
              have b3 : ∀ d os, (Sort.grow (redrawn wr d) os).cell? ⟨w.heap.size, 3, none⟩ = some (.int .i64 (ns : Int)) := fun d os => cell_below j3 (below_regrown wr d os)
              have K1 : Hid (∀ d os, Calls Tryd.prog 24 #[.string (S k)[i].1, .int .i64 (ns : Int)] (Sort.grow (redrawn wr d) os) fun e w'' => e = .returned (.int .i64 (k : Int)) ∧ ∃ p : Regrown, w'' = Sort.grow (redrawn wr p.d) p.os) := fun d os => Calls.regrown_of (HSK2.out k (S k)[i] (List.getElem_mem hik) _)
              have hm0 : 1 ≤ m := by
                have h1 := HSU2.out k
                have h2 := HMONO.out (k + 1) ns hkn2
                have h3 := HUP.out.1
                have h4 := HM.out
                have h5 := HNK.out
                have h6 := HIL.out
                omega
              obtain ⟨m1, hm1⟩ : ∃ m1 : Nat, (m : Int) - 1 = (m1 : Int) := ⟨m - 1, by omega⟩
              have HM1 : Hid (m1 + U k + (i + 1) = c) := by
                show _ = _
                have h4 := HM.out
                omega
              have HB1 : Hid (m1 ≤ 240240) := by show _ ≤ _; omega
              have hwi : IntKind.i64.wrap (m1 : Int) = (m1 : Int) := wrap_small _ (by omega) (by omega)
              clear p0 q0 j2 j3
              rcases Nat.eq_zero_or_pos i with hi0 | hi0
              · subst hi0
                generalize (S k)[0].1 = x at a0 K1
                simp only [Nat.zero_mul, Nat.add_zero] at a0
                clear s1
                have s1 := S0.out _ hb6q
                go_wp2
                refine wp_region_quiet_below hmix (by kernel_rfl) ?_
                repeat (first | go_big_quiet_step (first | (go_at_call 24; exact K1.out _ _)) | quiet_step (first | (go_at_call 24; exact K1.out _ _)))
                refine wpQuiet_nil ?_
                intro _ hw2
                obtain ⟨⟨dq2, osq2⟩, hw2'⟩ := hw2
                subst hw2'
                have hb67 := below_trans hb6q (below_regrown wr dq2 osq2)
                generalize Sort.grow (redrawn wr dq2) osq2 = w7 at *
                clear K1 a0 a3 b2 b3 s1
                go_wp2
                go_roundg (nk - (0 + 1))
                case measure => have := HGI.out; have := HIL.out; omega
                case rel => exact ⟨0 + 1, m1, rfl, HIL.out, by have := HIL.out; go_num, by have := hm1; go_num, HB1.out, HM1, hb67⟩

              · obtain ⟨i1, hi1⟩ : ∃ i1 : Nat, (i : Int) - 1 = (i1 : Int) := ⟨i - 1, by omega⟩
                have hi1m : i1 < nk := by have := HIL.out; omega
                have hi1l : i1 < (S k).length := by have := HNK.out; omega
                have hipos : (0 : Int) < (i : Int) := by omega
                have hwi1 : IntKind.i64.wrap (i1 : Int) = (i1 : Int) := wrap_small _ (by omega) (by omega)
                obtain ⟨pb', poff', eu, r0, -⟩ := HPC.out i1 hi1l
                rw [Option.some.injEq, Addr.mk.injEq] at eu
                obtain ⟨rfl, rfl, -⟩ := eu
                have r1 := cell_below r0 hb6q
                have a1 : ∀ d os, (Sort.grow (redrawn wr d) os).cell? ⟨pb, poff + i1 * 2, none⟩ = some (.string (S k)[i1].1) := fun d os => cell_below r1 (below_regrown wr d os)
                obtain ⟨hle, hne⟩ := HRI2.out k i1 (S k)[i] (S k)[i1] (by rw [List.getElem?_eq_getElem hi1l]) (by rw [show i1 + 1 = i by omega, List.getElem?_eq_getElem hik])
                have gk : decide (0 < (i : Int)) = true := decide_eq_true hipos
                have gk2 : decide (0 < i) = true := decide_eq_true hi0
                generalize (S k)[i].1 = x at a0 K1 hle hne
                generalize (S k)[i1].1 = x' at a1 hle hne
                clear r0 r1 hi1l hik
                cases ea with
                | false =>
                  clear hne
                  go_wp2
                  refine wp_region_quiet_below hmix (by kernel_rfl) ?_
                  repeat (first | go_big_quiet_step (first | (go_at_call 24; exact K1.out _ _)) | quiet_step (first | (go_at_call 24; exact K1.out _ _)))
                  refine wpQuiet_nil ?_
                  intro _ hw2
                  obtain ⟨⟨dq2, osq2⟩, hw2'⟩ := hw2
                  subst hw2'
                  have hb67 := below_trans hb6q (below_regrown wr dq2 osq2)
                  generalize Sort.grow (redrawn wr dq2) osq2 = w7 at *
                  clear K1 a0 a1 a3 b2 b3 s1 hle
                  go_wp2
                  go_roundg (nk - (i + 1))
                  case measure => have := HGI.out; have := HIL.out; omega
                  case rel => exact ⟨i + 1, m1, rfl, HIL.out, by have := HIL.out; go_num, by have := hm1; go_num, HB1.out, HM1, hb67⟩

                | true =>
                  have hne2 := hne rfl
                  clear hne
                  go_wp2
                  refine wp_region_quiet_below hmix (by kernel_rfl) ?_
                  repeat (first | go_big_quiet_step (first | (go_at_call 24; exact K1.out _ _)) | quiet_step (first | (go_at_call 24; exact K1.out _ _)))
                  refine wpQuiet_nil ?_
                  intro _ hw2
                  obtain ⟨⟨dq2, osq2⟩, hw2'⟩ := hw2
                  subst hw2'
                  have hb67 := below_trans hb6q (below_regrown wr dq2 osq2)
                  generalize Sort.grow (redrawn wr dq2) osq2 = w7 at *
                  clear K1 a0 a1 a3 b2 b3 s1 hle hne2
                  go_wp2
                  go_roundg (nk - (i + 1))
                  case measure => have := HGI.out; have := HIL.out; omega
                  case rel => exact ⟨i + 1, m1, rfl, HIL.out, by have := HIL.out; go_num, by have := hm1; go_num, HB1.out, HM1, hb67⟩

            · have HIN : Hid (i = nk) := by show _ = _; omega
              have hin2 : i = nk := HIN.out
              go_wp2
              go_roundg (ns - (k + 1))
              case measure => have := HGK.out; have := HKN.out; omega
              case rel => exact ⟨k + 1, m, rfl, HKN.out, by have := HKN.out; go_num, rfl, hm, (show m + U (k + 1) = c by have h1 := HSU2.out k; have h2 := HNK.out; have h3 := HM.out; have h4 := HIN.out; omega), hb6q⟩
        · have HKE : Hid (k = ns) := by show _ = _; omega
          have hmz : m = 0 ∨ (ea = true ∧ 0 < m) := by
            rcases Nat.eq_zero_or_pos m with h0 | h0
            · exact Or.inl h0
            · refine Or.inr ⟨?_, h0⟩
              cases hea : ea
              · have h1 := HUP.out.2 hea
                have h2 := HM.out
                have h3 := HKE.out
                rw [h3, h1] at h2
                omega
              · rfl
          have hb0q := below_trans HB06.out hb6q
          have j2 := (JB6.out.blw hb6q).at (i := 2) (v := .bool ea) rfl
          rcases hmz with rfl | ⟨rfl, hm0⟩
          · go_wp2
            go_ret
            exact ⟨rfl, hb0q⟩
          · have hm1 : m ≠ 0 := by omega
            have hm2 : (m : Int) ≠ 0 := by omega
            have hm3 : (0 : Int) < (m : Int) := by omega
            have hd1 : decide ((m : Int) = 0) = false := decide_eq_false hm2
            have hd2 : decide (0 < (m : Int)) = true := decide_eq_true hm3
            go_wp2
            go_ret
            exact ⟨rfl, hb0q⟩
end Go.Proofs.YtahhcabmpcjddaaDoor
/- Mapper: Step. -/
namespace Go.Proofs.YtahhcabmpcjddaaDoor
open Go.ChangeShapes Go.WideShapes Go.ChangeAt Go.RowKit
theorem IsMR.bump {w : World} {R : Nat} {j : Jb} {rv lv mv : Value} {lines : List (List UInt8)} {done d : Nat} {M : List (ByteArray × Int)} (h : IsMR w R j rv lv lines done mv M) : IsMR (w.setCell ⟨R, 5, none⟩ (.int .i64 d)) R j rv lv lines d mv M := by
  have b : Below R w (w.setCell ⟨R, 5, none⟩ (.int .i64 d)) := (Below.refl R w).setCell (p := ⟨R, 5, none⟩) (Nat.le_refl _) _
  exact ⟨h.blk.set 5 _, fun w' h' => h.rules w' (b.trans h'), fun w' h' => h.lines w' (b.trans h'), row_stay h.row (Nat.lt_succ_self _)⟩
set_option maxRecDepth 100000 in
set_option maxHeartbeats 2000000 in
theorem mstep_any (R done : Nat) (n : Int) (j : Jb) (rv lv mv : Value) (lines : List (List UInt8)) (w : World)
    (hr : IsMR w R j rv lv lines done mv (madeOf j (lines.take done))) (hi : MRin w R j lines) (ha : done ≤ lines.length) (hn0 : -9223372036854775808 ≤ n) (hn1 : n ≤ 9223372036854775807) :
    Calls Tryd.prog 14 #[.pointer (some ⟨R, 0, none⟩), .int .i64 n] w fun e w' => ∃ (d' : Nat) (mv' : Value), d' = done + min n.toNat (lines.length - done) ∧ e = .returned (.bool (decide (d' = lines.length))) ∧ IsMR w' R j rv lv lines d' mv' (madeOf j (lines.take d')) ∧ FrM w w' R mv.ownBlock ∧ (mv'.ownBlock = mv.ownBlock ∨ ∀ b, mv'.ownBlock = some b → w.heap.size ≤ b) := by
  obtain ⟨ra, rc, rfl⟩ := (hr.rules w (Below.refl _ _)).slice
  obtain ⟨la, lc, rfl, -⟩ := hr.lines w (Below.refl _ _)
  obtain ⟨l, fo, ea, sl⟩ := j
  simp only at hr hi ⊢
  have hR := hr.blk.lt
  have HROWLT := Lib.hid hr.row.lt
  obtain ⟨ln, hln⟩ : ∃ ln, ln = (lines.map bs).length := ⟨_, rfl⟩
  obtain ⟨rn, hrn⟩ : ∃ rn, rn = l.length := ⟨_, rfl⟩
  have hln2 : ln = lines.length := by rw [hln, List.length_map]
  rw [← hln, ← hrn] at hr
  rw [← hln, ← hrn]
  rw [← hln2] at ha ⊢
  have hl60 : ln ≤ 60 := by rw [hln2]; exact hi.many
  have c0 := hr.blk.at (i := 0) (v := .slice ra rn rc) rfl
  have c1 := hr.blk.at (i := 1) (v := .int .i64 fo) rfl
  have c2 := hr.blk.at (i := 2) (v := .bool ea) rfl
  have c3 := hr.blk.at (i := 3) (v := .int .i64 sl) rfl
  have c4 := hr.blk.at (i := 4) (v := .slice la ln lc) rfl
  have c5 := hr.blk.at (i := 5) (v := .int .i64 done) rfl
  have c6 := hr.blk.at (i := 6) (v := mv) rfl
  obtain ⟨d, hd⟩ : ∃ d : Nat, (ln : Int) - (done : Int) = (d : Int) := ⟨ln - done, by omega⟩
  have HD : Hid (d = ln - done) := by show _ = _; omega
  have hd1 : d ≤ 60 := by omega
  have HR := Lib.hid hr
  have HI := Lib.hid hi
  have HLN := Lib.hid hln2
  have HRN := Lib.hid hrn
  clear hr hi hln hln2 hrn
  obtain ⟨c, hc⟩ : ∃ c : Int, c = min n (d : Int) := ⟨_, rfl⟩
  obtain ⟨ct, hct⟩ : ∃ ct : Nat, ct = c.toNat := ⟨_, rfl⟩
  have HCT : Hid (ct = min n.toNat (ln - done)) := by show _ = _; rw [hct, hc, ← HD.out]; omega
  have hcs : c ≤ 60 := by omega
  have HCC := Lib.hid hct
  have HC := Lib.hid hc
  have hctd : done + ct ≤ ln := by rw [HCT.out]; omega
  clear hct hc
  go_enter Tryd.func14, Tryd.ntmps14
  go_wp2
  go_region
  rw [← HC.out]
  have HR1 := Lib.hid (HR.out.blw (Pp.blw_drew (Below.refl _ w)))
  have HF1 : Hid (FrM w w.drew R mv.ownBlock) := FrM.of_blw (Pp.blw_drew (Below.refl _ w)) _ _
  generalize w.drew = w1 at *
  clear c0 c1 c2 c3 c4 c5 c6 HR
  go_wp2
  go_loopg [17] ct (fun gg iv wr => ∃ (k dk : Nat) (mv' : Value), gg = ct - k ∧ k ≤ ct ∧ iv = .int .i64 k ∧ Hid (dk = done + k) ∧ Hid (IsMR wr R ⟨l, fo, ea, sl⟩ (.slice ra rn rc) (.slice la ln lc) lines dk mv' (madeOf ⟨l, fo, ea, sl⟩ (lines.take dk))) ∧ Hid (FrM w wr R mv.ownBlock) ∧ Hid (mv'.ownBlock = mv.ownBlock ∨ ∀ b, mv'.ownBlock = some b → w.heap.size ≤ b))
  case atStart => exact ⟨0, done, mv, rfl, Nat.zero_le _, rfl, (show done = done + 0 from rfl), HR1, HF1, .inl rfl⟩
  case round =>
    clear HR1 HF1
    obtain ⟨k, dk, mv', hgk, hkc, rfl, HDK, HR, HF, HB⟩ := hrel
    have HGK := Lib.hid hgk
    clear hgk
    have hdl : dk ≤ ln := by have := HDK.out; omega
    have BEL : Hid (Below R w wr) := HF.out.below (Nat.le_of_lt hR) (Nat.le_refl _) (fun b hb => by have := (HROWLT.out b hb).1; omega)
    by_cases hlt : k < ct
    · have hltc : (k : Int) < c := by have := HCC.out; omega
      have hdkl : dk < ln := by have := HDK.out; omega
      obtain ⟨x, hx⟩ : ∃ x, lines[dk]? = some x := ⟨lines[dk]'(by have := HLN.out; omega), by simp⟩
      obtain ⟨lb, loff, rfl, k0⟩ : ∃ lb loff, la = some ⟨lb, loff, none⟩ ∧ wr.cell? ⟨lb, loff + dk, none⟩ = some (.string (bs x)) := by
        have h := HR.out.lines wr (Below.refl _ _)
        rw [HLN.out] at h
        exact texts_get h dk x hx
      have hxl := HI.out.long x (List.mem_of_getElem? hx)
      have hxl2 : x.length ≤ 100000 := by omega
      have PR : Hid (Calls Tryd.prog 19 #[.agg #[.slice ra rn rc, .int .i64 fo, .bool ea, .int .i64 sl], .string (bs x)] wr.drew fun e w' => ∃ u, e = .returned u ∧ Pp.IsPairs w' u (rulesP l fo x) ∧ Below wr.drew.heap.size wr.drew w') := by
        have hbd : Below R wr wr.drew := Pp.blw_drew (Below.refl _ _)
        refine (pairs_any ⟨l, fo, ea, sl⟩ (.slice ra rn rc) x wr.drew (HR.out.rules _ hbd) HI.out.wt HI.out.fault hxl2 (HI.out.env _ (BEL.out.trans hbd))).mono ?_
        rintro e w' ⟨u, rfl, h1, h2⟩
        exact ⟨u, rfl, Pp.owns_isPairs h1, h2⟩
      have HM : Hid (madeOf ⟨l, fo, ea, sl⟩ (lines.take (dk + 1)) = madeOf ⟨l, fo, ea, sl⟩ (lines.take dk) ++ rulesP l fo x) := by
        show _ = _
        rw [take_snoc hx, madeOf_append]
        simp [madeOf]
      have h4 := (jobFault_parts HI.out.fault).2.1
      simp only at h4
      have hbd : (madeOf ⟨l, fo, ea, sl⟩ (lines.take dk)).length + (rulesP l fo x).length ≤ 1000000 := by
        have h1 := madeOf_len ⟨l, fo, ea, sl⟩ (lines.take dk) h4 (fun y hy => HI.out.long y (List.mem_of_mem_take hy))
        have h2 := rulesP_len l fo x
        have h3 := Nat.mul_le_mul h4 (show x.length + 1 ≤ 1001 by omega)
        have h5 : (lines.take dk).length ≤ 60 := by rw [List.length_take]; have := HI.out.many; omega
        have h6 := Nat.mul_le_mul_right 4004 h5
        omega
      have HBD := Lib.hid hbd
      have K0 := Lib.hid k0
      generalize rulesP l fo x = X at *
      generalize madeOf ⟨l, fo, ea, sl⟩ (lines.take dk) = M at *
      generalize bs x = ls at *
      clear hx hxl hxl2 k0 hbd
      have hdkl2 : dk + 1 ≤ 1000 := by omega
      go_upto_region 3 with fail
      refine wp_nrm (s3_any R rn rc ln lc lb loff dk ra fo ea sl l mv' lines M X ls wr _ _ _ _ _ _ _ _ _ _ _ _ _ _ _ _ _ _ _ _ _ _ _ _ _ _ _ _ _ _ _ _ _ _ _ _ _ _ _ _ _ _ _ _ _ _ _ _ _ _ _ _ _ _ _ _ _ _ _ _ HR.out hdkl (by omega) HBD.out K0.out PR ?_)
      refine Lib.hid ?_
      intro z19 z20 z21 z22 z23 z24 z25 z26 z27 z28 z29 z30 z31 z32 z33 z34 z35 z36 z37 z38 z39 z40 z41 v2 w11 hr11 hfr
      obtain ⟨hF11, ho11⟩ := hfr w _ HF.out HB.out
      rw [← HM.out] at hr11
      have e5 := hr11.blk.at (i := 5) (v := .int .i64 dk) rfl
      have f5 := hr11.blk.frozen 5
      obtain ⟨w12, hw12⟩ : ∃ w12, w12 = w11.setCell ⟨R, 5, none⟩ (.int .i64 ((dk + 1 : Nat) : Int)) := ⟨_, rfl⟩
      have HR12 : Hid (IsMR w12 R ⟨l, fo, ea, sl⟩ (.slice ra rn rc) (.slice (some ⟨lb, loff, none⟩) ln lc) lines (dk + 1) v2 (madeOf ⟨l, fo, ea, sl⟩ (lines.take (dk + 1)))) := by
        rw [hw12]; exact hr11.bump
      have HF12 : Hid (FrM w w12 R mv.ownBlock) := by rw [hw12]; exact hF11.put 5 _
      have HO12 := Lib.hid ho11
      have HW12 : Hid (w12 = w11.setCell ⟨R, 5, none⟩ (.int .i64 ((dk : Int) + 1))) := by show _ = _; rw [hw12]; rfl
      have HDK1 : Hid (dk + 1 = done + (k + 1)) := by show _ = _; have := HDK.out; omega
      clear hr11 hfr hF11 ho11 HR HF HB K0 PR hw12
      simp only [Exit.then]
      go_upto_region 5 with fail
      rw [← HW12.out]
      clear HW12 e5 f5
      go_wp2
      go_roundg (ct - (k + 1))
      case measure => have := HGK.out; omega
      case rel => exact ⟨k + 1, dk + 1, v2, rfl, by omega, by go_num, HDK1, HR12, HF12, HO12⟩
    · have hge : ¬ (k : Int) < c := by have := HCC.out; omega
      have ekc : k = ct := by omega
      have HFIN : Hid (dk = done + min n.toNat (ln - done)) := by
        show _ = _
        rw [HDK.out, ekc, HCT.out]
      have hde : ((dk : Int) == (ln : Int)) = decide (dk = ln) := by
        by_cases h : dk = ln
        · simp [h]
        · rw [decide_eq_false h, beq_eq_false_iff_ne]; omega
      have HDE := Lib.hid hde
      have c4 := HR.out.blk.at (i := 4) (v := .slice la ln lc) rfl
      have c5 := HR.out.blk.at (i := 5) (v := .int .i64 dk) rfl
      clear ekc hde
      go_wp2
      go_region
      rw [HDE.out]
      have HR2 := Lib.hid (HR.out.blw (Pp.blw_drew (Below.refl _ wr)))
      have HF2 := Lib.hid (HF.out.blw (Pp.blw_drew (Below.refl _ wr)))
      generalize wr.drew = w12 at *
      clear c4 c5 HR HF
      go_wp2
      go_ret
      exact ⟨dk, mv', HFIN.out, rfl, HR2.out, HF2.out, HB.out⟩
theorem stepDoes : StepDoes := fun R done n j rv lv mv lines w h1 h2 h3 h4 h5 => mstep_any R done n j rv lv mv lines w h1 h2 h3 h4 h5
end Go.Proofs.YtahhcabmpcjddaaDoor
