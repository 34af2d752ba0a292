/- Put together of N10, LtT, M5, X0. -/
import Derived.Test.YtahhcabmpcjddaaDoorG2
import Derived.Test.YtahhcabmpcjddaaDoorTxt
/- Mapper: Slices. -/
namespace Go.Proofs.YtahhcabmpcjddaaDoor
open Go.ChangeShapes Go.WideShapes Go.ChangeAt Go.RowKit
/-- A slice, folded if that is wanted early. -/
def finL (early : Bool) (fold : Int) (l : List (ByteArray × Int)) : List (ByteArray × Int) := if early = true then Pp.Grp.grp fold l else l
/-- A run's slices. -/
def slicesOf (fold : Int) (early : Bool) (ns : Nat) (M : List (ByteArray × Int)) : List (List (ByteArray × Int)) := (List.range ns).map fun k => finL early fold (inSlice ns k (Pp.Tot.srt M))
theorem infoLst : (Tryd.prog.info? 43).map (fun i => (i.zero, i.size, i.bytes)) = some (some (.slice none 0 0), 1, 24) := by kernel_rfl
theorem made_nils (ns : Nat) : (madeCells (Value.slice none 0 0).cells (ns * 1)).toList = List.replicate ns (Value.slice none 0 0) := by
  rw [Nat.mul_one, show (Value.slice none 0 0).cells = #[.slice none 0 0] from rfl, toList_madeCells_one]
/-- The parts of a list by their slices. -/
def partsL (ns : Nat) (Z : List (ByteArray × Int)) : List (List (ByteArray × Int)) := (List.range ns).map fun k => inSlice ns k Z
theorem partsL_at {ns k : Nat} (h : k < ns) (Z : List (ByteArray × Int)) : (partsL ns Z)[k]? = some (inSlice ns k Z) := by
  unfold partsL
  rw [List.getElem?_map, List.getElem?_range h]
  rfl
theorem partsL_len (ns : Nat) (Z : List (ByteArray × Int)) : (partsL ns Z).length = ns := by simp [partsL]
theorem partsL_snoc {ns : Nat} (Z : List (ByteArray × Int)) (p : ByteArray × Int) (i : Nat) (hi : sliceN ns (Pp.Stable.key p) = i) (hn : i < ns) : partsL ns (Z ++ [p]) = (partsL ns Z).set i (inSlice ns i Z ++ [p]) := by
  apply List.ext_getElem?
  intro k
  rw [List.getElem?_set, partsL_len]
  by_cases hk : k < ns
  · rw [partsL_at hk, inSlice_snoc, hi]
    by_cases e : i = k
    · subst e; rw [if_pos rfl, if_pos rfl, if_pos hn]
    · rw [if_neg e, if_neg e, partsL_at hk]
  · rw [List.getElem?_eq_none (by rw [partsL_len]; omega), if_neg (by omega), List.getElem?_eq_none (by rw [partsL_len]; omega)]
theorem partsL_nil (ns : Nat) : partsL ns [] = List.replicate ns [] := by
  apply List.ext_getElem?
  intro k
  by_cases hk : k < ns
  · rw [partsL_at hk, List.getElem?_replicate, if_pos hk]; rfl
  · rw [List.getElem?_eq_none (by rw [partsL_len]; omega), List.getElem?_replicate, if_neg hk]
/-- The parts, so many of them folded. -/
def earlyL (fo : Int) (ns : Nat) (Z : List (ByteArray × Int)) (i : Nat) : List (List (ByteArray × Int)) := (List.range ns).map fun k => if k < i then Pp.Grp.grp fo (inSlice ns k Z) else inSlice ns k Z
theorem earlyL_at {fo : Int} {ns k : Nat} (h : k < ns) (Z : List (ByteArray × Int)) (i : Nat) : (earlyL fo ns Z i)[k]? = some (if k < i then Pp.Grp.grp fo (inSlice ns k Z) else inSlice ns k Z) := by
  unfold earlyL
  rw [List.getElem?_map, List.getElem?_range h]
  rfl
theorem earlyL_len (fo : Int) (ns : Nat) (Z : List (ByteArray × Int)) (i : Nat) : (earlyL fo ns Z i).length = ns := by simp [earlyL]
theorem earlyL_zero (fo : Int) (ns : Nat) (Z : List (ByteArray × Int)) : earlyL fo ns Z 0 = partsL ns Z := by simp [earlyL, partsL]
theorem earlyL_succ {fo : Int} {ns i : Nat} (h : i < ns) (Z : List (ByteArray × Int)) : earlyL fo ns Z (i + 1) = (earlyL fo ns Z i).set i (Pp.Grp.grp fo (inSlice ns i Z)) := by
  apply List.ext_getElem?
  intro k
  rw [List.getElem?_set, earlyL_len]
  by_cases hk : k < ns
  · rw [earlyL_at hk]
    by_cases e : i = k
    · subst e; rw [if_pos rfl, if_pos hk, if_pos (by omega)]
    · rw [if_neg e, earlyL_at hk]
      by_cases h2 : k < i
      · rw [if_pos h2, if_pos (by omega)]
      · rw [if_neg h2, if_neg (by omega)]
  · rw [List.getElem?_eq_none (by rw [earlyL_len]; omega), if_neg (by omega), List.getElem?_eq_none (by rw [earlyL_len]; omega)]
theorem earlyL_all (fo : Int) (ns : Nat) (M : List (ByteArray × Int)) : earlyL fo ns (Pp.Tot.srt M) ns = slicesOf fo true ns M := by
  unfold earlyL slicesOf finL
  apply List.map_congr_left
  intro k hk
  rw [List.mem_range] at hk
  rw [if_pos hk, if_pos rfl]
set_option maxRecDepth 100000 in
set_option maxHeartbeats 4000000 in
theorem slices_any (R done : Nat) (l : List Rl) (fo : Int) (ea : Bool) (ns : Nat) (rv lv mv : Value) (lines : List (List UInt8)) (M : List (ByteArray × Int)) (w : World) (hr : IsMR w R ⟨l, fo, ea, (ns : Int)⟩ rv lv lines done mv M) (hs1 : 1 ≤ ns) (hs2 : ns ≤ 4) (hM : M.length ≤ 1000000) (hk : ∀ p ∈ M, p.1.size ≤ 1000) :
    Calls Tryd.prog 15 #[.pointer (some ⟨R, 0, none⟩)] w fun e w' => ∃ u, e = .returned u ∧ Pp.IsLists w' u (slicesOf fo ea ns M) ∧ Below w.heap.size w w' := by
  obtain ⟨i0, hi0, hz0, hz1, hz2⟩ := info_parts infoLst
  have hRl := hr.blk.lt
  have HR := Lib.hid hr
  have c3 := hr.blk.at (i := 3) (v := .int .i64 (ns : Int)) rfl
  clear hr
  go_enter Tryd.func15, Tryd.ntmps15
  go_wp2_with (at_make; refine Hid.out ?_)
  refine Lib.hid ?_
  refine wpList_make_full w rfl (.tmp 12) (.tmp 12) 41 rfl w.heap.size 43 i0 _ 1 Tryd.underlying41 hi0 hz0 hz1 _ _ _ _ ns rfl rfl rfl rfl (by rw [hz2]; omega) (by unfold maxLen; omega) (Nat.le_refl _) ?_
  intro w1 hown hgrow
  have hb1 : Below w.heap.size w w1 := ⟨hgrow.os, hgrow.tape, hgrow.output, hgrow.size, fun k hk => hgrow.block k hk (by simp)⟩
  obtain ⟨hblk, -⟩ := owns_blk hown
  rw [made_nils ns] at hblk
  obtain ⟨g, hg⟩ : ∃ g, g = w.heap.size := ⟨_, rfl⟩
  rw [← hg] at hblk
  have R1 := HR.out.blw hb1
  have c6 := R1.blk.at (i := 6) (v := mv) rfl
  have hmv := Pp.owns_isPairs R1.row
  have SF := Lib.hid (Pp.sort_full mv M w1 hmv hM)
  obtain ⟨ma, mc, emv⟩ := id hmv
  have emv1 := emv.1
  subst emv1
  have HBLK := Lib.hid hblk
  have HB1 := Lib.hid hb1
  have HGG := Lib.hid hg
  have HK := Lib.hid hk
  have HRI := Lib.hid hz0
  rw [← hg]
  clear hown hgrow hb1 hblk hmv emv hg hk hz0 hz1 hz2 hi0 HRI c3 R1
  go_wp2_with (go_at_call 21; refine Hid.out ?_)
  refine Lib.hid ?_
  refine SF.out.mono ?_
  rintro _ w2 ⟨u, Z, rfl, hso, hse, hzl, hzp, hb12, gu, rfl⟩
  obtain rfl := Pp.Tot.srt_eq hso hse
  obtain ⟨n, hn⟩ : ∃ n, n = M.length := ⟨_, rfl⟩
  have hn1 : n ≤ 1000000 := by omega
  rw [← hn] at hzl hzp ⊢
  have S0 : Hid (SL w2 w2 g (List.replicate ns (Value.slice none 0 0)) (partsL ns ((Pp.Tot.srt M).take 0))) := by
    refine ⟨HBLK.out.blw hb12, Nat.lt_of_lt_of_le HBLK.out.lt hb12.size, by rw [partsL_len, List.length_replicate], fun k v l hv hl => ?_, fun i j vi vj _ hvi _ q hq => ?_, Only.refl _ _⟩
    · rw [List.take_zero, partsL_nil, List.getElem?_replicate] at hl
      rw [List.getElem?_replicate] at hv
      split at hv
      · rename_i h
        rw [if_pos h, Option.some.injEq] at hl
        rw [Option.some.injEq] at hv
        subst hv hl
        exact World.ownsRow_nil _ _ _ _
      · cases hv
    · rw [List.getElem?_replicate] at hvi
      split at hvi
      · rw [Option.some.injEq] at hvi
        subst hvi
        cases hq
      · cases hvi
  have HZK : Hid (∀ (k : Nat) (p : ByteArray × Int), (Pp.Tot.srt M)[k]? = some p → p.1.size ≤ 1000) := fun k p hp => HK.out p (Pp.Tot.srt_mem.1 (List.mem_of_getElem? hp))
  have HRw2 := Lib.hid (HR.out.blw (below_trans HB1.out hb12))
  have hRg : R < g := by rw [HGG.out]; exact hRl
  have HB2 := Lib.hid (below_trans HB1.out hb12)
  have HZP := Lib.hid hzp
  have HZL := Lib.hid hzl
  have HN := Lib.hid hn
  have HGB : Hid (∀ k, k < n → gu ≠ g) := fun k hk e => by
    obtain ⟨a', c', e1, hc⟩ := HZP.out
    obtain ⟨b, off, e2, c0, -⟩ := hc k (by rw [HZL.out]; exact hk)
    injection e1 with e1
    rw [← e1] at e2
    injection e2 with e2
    injection e2 with e2 e3
    subst e2 e3
    rw [e] at c0
    rw [S0.out.lst.cell, List.getElem?_replicate] at c0
    split at c0 <;> cases c0
  obtain ⟨Z, hZ⟩ : ∃ Z, Z = Pp.Tot.srt M := ⟨_, rfl⟩
  have HZE : Hid (Pp.Tot.srt M = Z) := hZ.symm
  rw [← hZ] at S0 HZK HZP HZL
  clear hZ hso hse hzl hzp hb12 hn SF c6 HBLK HB1 HR HK
  dsimp only
  go_wp2
  go_loopg [20] n (fun gg iv wr => ∃ (k : Nat) (vs : List Value), gg = n - k ∧ k ≤ n ∧ iv = .int .i64 k ∧ Hid (SL w2 wr g vs (partsL ns (Z.take k))))
  case atStart => exact ⟨0, _, rfl, Nat.zero_le _, rfl, S0⟩
  case round =>
    clear S0
    obtain ⟨k, vs, hgk, hk, rfl, HS⟩ := hrel
    have HGK := Lib.hid hgk
    clear hgk
    by_cases hlt : k < n
    · have hkz : k < Z.length := by rw [HZL.out]; exact hlt
      obtain ⟨a', c', e1, hc⟩ := HZP.out
      obtain ⟨b, off, e2, c0, c1⟩ := hc k hkz
      rw [Value.slice.injEq] at e1
      obtain ⟨e1, -, -⟩ := e1
      rw [← e1, Option.some.injEq, Addr.mk.injEq] at e2
      obtain ⟨e2, e3, -⟩ := e2
      rw [← e2, ← e3] at c0 c1
      simp only [Nat.zero_add] at c0 c1
      clear e1 e2 e3
      have hgn := HGB.out k hlt
      replace c0 := only_cell HS.out.only c0 hgn
      replace c1 := only_cell HS.out.only c1 hgn
      have HPK : Hid (Z[k].1.size ≤ 1000) := HZK.out k Z[k] (by simp)
      have HSN : Hid (Z.take (k + 1) = Z.take k ++ [Z[k]]) := List.take_succ_eq_append_getElem hkz
      obtain ⟨i, hi⟩ : ∃ i, i = sliceN ns (Pp.Stable.key Z[k]) := ⟨_, rfl⟩
      obtain ⟨hi1, hi2⟩ := sliceN_lt (many := (ns : Int)) (by omega) (Pp.Stable.key Z[k])
      rw [← hi] at hi1 hi2
      have hin : i < ns := by simpa using hi2
      have SLC : Hid (∀ w', Calls Tryd.prog 24 #[.string Z[k].1, .int .i64 (ns : Int)] w' fun e w'' => e = .returned (.int .i64 (i : Int)) ∧ w'' = w') := fun w' => by
        have h := Pp.slice_any Z[k].1 (ns : Int) w' (by unfold maxLen; have := HPK.out; omega) (by omega) (by omega)
        have e : Pp.ksum Z[k].1.data.toList % (ns : Int) = (i : Int) := by
          rw [hi1]
          unfold Pp.Stable.key
          rw [ByteArray.toList_eq]
        rw [e] at h
        exact h
      have HI := Lib.hid hi
      generalize Z[k] = p at *
      obtain ⟨ps, pv⟩ := p
      simp only at c0 c1 SLC HPK
      obtain ⟨w3, hw3⟩ : ∃ w3, w3 = wr.alloc (.cells #[.string ps, .int .i64 pv] 61) := ⟨_, rfl⟩
      obtain ⟨Pb, hPb⟩ : ∃ Pb, Pb = wr.heap.size := ⟨_, rfl⟩
      have PB : Blk w3 Pb 61 [.string ps, .int .i64 pv] := by rw [hw3]; exact blk_new hPb
      have hb3 : Below wr.heap.size wr w3 := by rw [hw3]; exact below_box _
      have S3 := Lib.hid (HS.out.below hb3)
      have hR3 : w3.cell? ⟨R, 3, none⟩ = some (.int .i64 (ns : Int)) := only_cell S3.out.only (HRw2.out.blk.at (i := 3) (v := .int .i64 (ns : Int)) rfl) (by simp; omega)
      have b0 := PB.at (i := 0) (v := .string ps) rfl
      have HPB := Lib.hid PB
      have HW3 := Lib.hid hw3
      have HPP := Lib.hid hPb
      clear hw3 hPb PB hb3 hc hi hi1 hi2 HS
      go_upto_region 5 with fail
      rw [← HW3.out, ← HPP.out]
      clear HW3 HPP c0 c1
      go_quiet ((go_at_call 24; exact Calls.quiet_of_same (SLC.out _)))
      obtain ⟨w4, hw4⟩ : ∃ w4, w4 = w3.drewN nq := ⟨_, rfl⟩
      have hb34 : Below w3.heap.size w3 w4 := by rw [hw4]; exact below_drewN _ _
      rw [← hw4]
      have S4 := Lib.hid (S3.out.below hb34)
      have PB4 := Lib.hid (HPB.out.blw hb34)
      obtain ⟨vi, hvi⟩ : ∃ vi, vs[i]? = some vi := ⟨vs[i]'(by rw [S4.out.len, partsL_len]; exact hin), by simp⟩
      have hLi := partsL_at hin (Z.take k)
      have hown := S4.out.each i vi _ hvi hLi
      have HLL : (inSlice ns i (Z.take k)).length ≤ 1000000 := by
        unfold inSlice
        have h1 := List.length_filter_le (fun p => decide (sliceN ns (Pp.Stable.key p) = i)) (Z.take k)
        have h2 := List.length_take_le' k Z
        have := HZL.out
        omega
      have HLK : (inSlice ns i (Z.take k)).length + 1 ≤ 1000000 := by
        unfold inSlice
        have h1 := List.length_filter_le (fun p => decide (sliceN ns (Pp.Stable.key p) = i)) (Z.take k)
        have h2 : (Z.take k).length ≤ k := List.length_take_le k Z
        have := HZL.out
        omega
      have HPS : Hid (partsL ns (Z.take (k + 1)) = (partsL ns (Z.take k)).set i (inSlice ns i (Z.take k) ++ [(ps, pv)])) := by
        show _ = _
        rw [HSN.out]
        exact partsL_snoc _ _ i HI.out.symm hin
      obtain ⟨via, vic, evi⟩ : ∃ va vc, vi = .slice va (inSlice ns i (Z.take k)).length vc := by
        rcases row_slice hown with ⟨h1, h2⟩ | ⟨g', c, h1, _⟩
        · exact ⟨_, _, by rw [h1, h2]⟩
        · exact ⟨_, _, h1⟩
      subst evi
      have HOWN := Lib.hid hown
      have HVI := Lib.hid hvi
      have HLI := Lib.hid hLi
      have HLKK := Lib.hid HLK
      generalize inSlice ns i (Z.take k) = L at *
      obtain ⟨ni, hni⟩ : ∃ ni, ni = L.length := ⟨_, rfl⟩
      rw [← hni] at HOWN HVI hvi
      have HNI := Lib.hid hni
      have l0 := S4.out.lst.at hvi
      have l0a : (w4.alloc (.cells #[.string ps, .int .i64 pv] 61)).cell? ⟨g, i, none⟩ = some (.slice via ni vic) := cell_below l0 (below_box _)
      have p0 := PB4.out.at (i := 0) (v := .string ps) rfl
      have p1 := PB4.out.at (i := 1) (v := .int .i64 pv) rfl
      have hsz4 := S4.out.only.size
      have HSZ4 := Lib.hid hsz4
      clear hw4 hb34 S3 HPB hLi hown hni HLL HLK b0 hR3 hvi hsz4
      have HOWN4 : Hid (∀ wc, Below w4.heap.size w4 wc → wc.ownsRow w2.heap.size 61 2 (.slice via ni vic) ni (Pp.cellsP L)) := fun wc hb => ow_below HOWN.out hb
      have HPUT : Hid (∀ (wc w5 : World) (va : Option Addr) (vc : Nat), Below w4.heap.size w4 wc → w5.ownsRow w2.heap.size 61 2 (.slice va (ni + 1) vc) (ni + 1) (Pp.cellsP (L ++ [(ps, pv)])) → wc.grownBy w5 (Value.slice via ni vic).ownBlock → ((Value.slice va (ni + 1) vc).ownBlock = (Value.slice via ni vic).ownBlock ∨ (Value.slice va (ni + 1) vc).ownBlock = some wc.heap.size) → (w5.cell? ⟨g, i, none⟩ = some (.slice via ni vic) ∧ w5.frozen? ⟨g, i, none⟩ = false) ∧ Hid (SL w2 (w5.setCell ⟨g, i, none⟩ (.slice va (ni + 1) vc)) g (vs.set i (.slice va (ni + 1) vc)) (partsL ns (Z.take (k + 1))))) := fun wc w5 va vc hb ho hg hat => by
        have S5 := S4.out.below hb
        have hbk := blk_ow S5.lst (HOWN4.out wc hb) (by decide) hg
        refine ⟨⟨hbk.at HVI.out, hbk.frozen i⟩, ?_⟩
        show SL _ _ _ _ _
        rw [HPS.out]
        refine S5.put HVI.out HLI.out (by rw [List.length_append, ← HNI.out]; exact ho) hg ?_
        rcases hat with h | h
        · exact .inl h
        · exact .inr (.inr ⟨_, h, Nat.le_refl _⟩)
      go_wp2
      go_region_law (first | (refine step_append_prs rfl (.tmp 37) (.tmp 39) rfl (base := w2.heap.size) (n := ni) (v := .slice via ni vic) (xv := .slice (some ⟨w4.heap.size, 0, none⟩) 1 1) (A := L) (B := [(ps, pv)]) (N := ni + 1) (by simp [Act.eval]) (HOWN4.out _ (by first | exact below_box _ | exact below_trans (Pp.blw_drew (Below.refl _ w4)) (below_box _) | exact Pp.blw_drew (below_box _))) HNI.out (by simp [Act.eval]) (by first | exact Pp.isPairs_one ps pv 1 _ (by simp) | exact Pp.isPairs_below (Pp.isPairs_one ps pv 1 _ (by simp)) (Pp.blw_drew (Below.refl _ _))) HLKK.out (by have := HSZ4.out; simp; omega) (by rw [List.length_append, ← HNI.out]; rfl) ?_; intro va vc w5 hown5 hgrow5 hat5; obtain ⟨⟨l5, f5⟩, HP5⟩ := HPUT.out _ w5 va vc (by first | exact below_box _ | exact below_trans (Pp.blw_drew (Below.refl _ w4)) (below_box _) | exact Pp.blw_drew (below_box _)) hown5 hgrow5 hat5; clear hown5 hgrow5 hat5) | fail)
      all_goals
        generalize w5.setCell ⟨g, i, none⟩ (.slice va (ni + 1) vc) = w6 at *
        clear l0 l0a p0 p1 l5 f5 HPUT HOWN4 HOWN S4 PB4 SLC HPS
        (try simp only [Exit.inBlock, Exit.then])
        go_wp2
        go_roundg (n - (k + 1))
        case measure => have := HGK.out; omega
        case rel => exact ⟨k + 1, _, rfl, by omega, by go_num, HP5⟩
    · have hkn : k = n := by omega
      have HF0 : Hid (Z.take k = Z) := List.take_of_length_le (by have := HZL.out; omega)
      rw [HF0.out] at HS
      have hR2 : wr.cell? ⟨R, 2, none⟩ = some (.bool ea) := only_cell HS.out.only (HRw2.out.blk.at (i := 2) (v := .bool ea) rfl) (by simp; omega)
      have HBW : Hid (Below w.heap.size w wr) := ⟨HS.out.only.os.trans HB2.out.os, HS.out.only.tape.trans HB2.out.tape, HS.out.only.output.trans HB2.out.output, Nat.le_trans HB2.out.size HS.out.only.size, fun q hq => (HS.out.only.block q (Nat.lt_of_lt_of_le hq HB2.out.size) (fun e => by injection e with e; have := HGG.out; omega)).trans (HB2.out.block q hq)⟩
      clear hkn HF0
      cases ea with
      | false =>
        have HL : Hid (Pp.IsLists wr (.slice (some ⟨g, 0, none⟩) ns ns) (partsL ns Z)) := HS.out.isLists (partsL_len ns Z).symm
        have HE : Hid (slicesOf fo false ns M = partsL ns Z) := by
          show _ = _
          unfold slicesOf
          rw [HZE.out]
          rfl
        go_wp2
        go_ret
        exact ⟨_, rfl, by rw [HE.out]; exact HL.out, HBW.out⟩
      | true =>
        rw [← earlyL_zero fo] at HS
        have HIL : Hid (∀ k, (inSlice ns k Z).length ≤ 1000000) := fun k => by
          unfold inSlice
          have h1 := List.length_filter_le (fun p => decide (sliceN ns (Pp.Stable.key p) = k)) Z
          have := HZL.out
          omega
        have HFE : Hid (earlyL fo ns Z ns = slicesOf fo true ns M) := by
          show _ = _
          rw [← HZE.out]
          exact earlyL_all fo ns M
        go_wp2
        clear hR2 hlt HGK hk
        go_loopg [50] ns (fun gg iv wq => ∃ (i : Nat) (vs : List Value), gg = ns - i ∧ i ≤ ns ∧ iv = .int .i64 i ∧ Hid (SL w2 wq g vs (earlyL fo ns Z i)))
        case atStart => exact ⟨0, _, rfl, Nat.zero_le _, rfl, HS⟩
        case round =>
          clear HS HBW
          obtain ⟨i, vs, hgi, hi, rfl, HS⟩ := hrel
          have HGI := Lib.hid hgi
          clear hgi
          by_cases hlt : i < ns
          · obtain ⟨vi, hvi⟩ : ∃ vi, vs[i]? = some vi := ⟨vs[i]'(by rw [HS.out.len, earlyL_len]; exact hlt), by simp⟩
            have hLi := earlyL_at (fo := fo) hlt Z i
            rw [if_neg (Nat.lt_irrefl i)] at hLi
            have hown := HS.out.each i vi _ hvi hLi
            obtain ⟨via, vic, evi⟩ : ∃ va vc, vi = .slice va (inSlice ns i Z).length vc := by
              rcases row_slice hown with ⟨h1, h2⟩ | ⟨g', c, h1, _⟩
              · exact ⟨_, _, by rw [h1, h2]⟩
              · exact ⟨_, _, h1⟩
            subst evi
            have HSU : Hid (earlyL fo ns Z (i + 1) = (earlyL fo ns Z i).set i (Pp.Grp.grp fo (inSlice ns i Z))) := earlyL_succ hlt Z
            have hli := HIL.out i
            have GR : Hid (∀ wc, Below wr.heap.size wr wc → Calls Tryd.prog 23 #[.int .i64 fo, .slice via (inSlice ns i Z).length vic] wc fun e w' => ∃ ua uc, e = .returned (.slice ua (Pp.Grp.grp fo (inSlice ns i Z)).length uc) ∧ w'.ownsRow wc.heap.size 61 2 (.slice ua (Pp.Grp.grp fo (inSlice ns i Z)).length uc) (Pp.Grp.grp fo (inSlice ns i Z)).length (Pp.cellsP (Pp.Grp.grp fo (inSlice ns i Z))) ∧ Below wc.heap.size wc w') := fun wc hb => by
              refine (Pp.groups_own fo _ (inSlice ns i Z) wc (Pp.isPairs_below (Pp.owns_isPairs hown) hb) hli).mono ?_
              rintro e w' ⟨u, rfl, h1, h2⟩
              obtain ⟨ua, uc, rfl⟩ : ∃ va vc, u = .slice va (Pp.Grp.grp fo (inSlice ns i Z)).length vc := by
                rcases row_slice h1 with ⟨h3, h4⟩ | ⟨g', c, h3, _⟩
                · exact ⟨_, _, by rw [h3, h4]⟩
                · exact ⟨_, _, h3⟩
              exact ⟨ua, uc, rfl, h1, h2⟩
            have HSC := Lib.hid HS.out
            have HVI := Lib.hid hvi
            have HLI := Lib.hid hLi
            have PUT : Hid (∀ (wc w' : World) (ua : Option Addr) (uc : Nat), Below wr.heap.size wr wc → w'.ownsRow wc.heap.size 61 2 (.slice ua (Pp.Grp.grp fo (inSlice ns i Z)).length uc) (Pp.Grp.grp fo (inSlice ns i Z)).length (Pp.cellsP (Pp.Grp.grp fo (inSlice ns i Z))) → Below wc.heap.size wc w' → (w'.cell? ⟨g, i, none⟩ = some (.slice via (inSlice ns i Z).length vic) ∧ w'.frozen? ⟨g, i, none⟩ = false) ∧ Hid (SL w2 (w'.setCell ⟨g, i, none⟩ (.slice ua (Pp.Grp.grp fo (inSlice ns i Z)).length uc)) g (vs.set i (.slice ua (Pp.Grp.grp fo (inSlice ns i Z)).length uc)) (earlyL fo ns Z (i + 1)))) := fun wc w' ua uc hb ho hb2 => by
              have S5 := HSC.out.below hb
              have hbk := S5.lst.blw hb2
              refine ⟨⟨hbk.at HVI.out, hbk.frozen i⟩, ?_⟩
              show SL _ _ _ _ _
              rw [HSU.out]
              refine S5.put HVI.out HLI.out (ow_low ho S5.only.size) ⟨hb2.os, hb2.tape, hb2.output, hb2.size, fun k hk _ => hb2.block k hk⟩ ?_
              cases hq : (Value.slice ua (Pp.Grp.grp fo (inSlice ns i Z)).length uc).ownBlock with
              | none => exact .inr (.inl rfl)
              | some b => exact .inr (.inr ⟨b, rfl, (ho.lt b hq).1⟩)
            have l0 := HS.out.lst.at hvi
            have hR1 : wr.cell? ⟨R, 1, none⟩ = some (.int .i64 fo) := only_cell HS.out.only (HRw2.out.blk.at (i := 1) (v := .int .i64 fo) rfl) (by simp; omega)
            generalize (Pp.Grp.grp fo (inSlice ns i Z)).length = gl at *
            generalize (inSlice ns i Z).length = il at *
            clear hown hvi hLi HS HSC HVI HLI HSU hli
            go_upto_region 12 with fail
            go_region_with (go_at_call 23; refine (GR.out _ (by first | exact Below.refl _ _ | exact Pp.blw_drew (Below.refl _ wr))).mono ?_; rintro _ w9 ⟨ua, uc, rfl, ho, hb9⟩; obtain ⟨⟨l9, f9⟩, HP9⟩ := PUT.out _ w9 ua uc (by first | exact Below.refl _ _ | exact Pp.blw_drew (Below.refl _ wr)) ho hb9; clear ho hb9 l0 hR1)
            all_goals
              generalize w9.setCell ⟨g, i, none⟩ (.slice ua gl uc) = w10 at *
              clear l9 f9 PUT GR
              (try simp only [Exit.inBlock, Exit.then])
              go_wp2
              go_roundg (ns - (i + 1))
              case measure => have := HGI.out; omega
              case rel => exact ⟨i + 1, _, rfl, by omega, by go_num, HP9⟩
          · have him : i = ns := by omega
            have HL : Hid (Pp.IsLists wr (.slice (some ⟨g, 0, none⟩) ns ns) (slicesOf fo true ns M)) := by
              have h := HS.out
              rw [him, HFE.out] at h
              exact h.isLists (by simp [slicesOf])
            have HBW : Hid (Below w.heap.size w wr) := ⟨HS.out.only.os.trans HB2.out.os, HS.out.only.tape.trans HB2.out.tape, HS.out.only.output.trans HB2.out.output, Nat.le_trans HB2.out.size HS.out.only.size, fun q hq => (HS.out.only.block q (Nat.lt_of_lt_of_le hq HB2.out.size) (fun e => by injection e with e; have := HGG.out; omega)).trans (HB2.out.block q hq)⟩
            clear him
            go_wp2
            go_ret
            exact ⟨_, rfl, HL.out, HBW.out⟩
end Go.Proofs.YtahhcabmpcjddaaDoor
/- Contract of LightTexts. -/
namespace Go.Proofs.YtahhcabmpcjddaaDoor
open Go.ChangeShapes Go.WideShapes Go.ChangeAt Go.RowKit
def lightT (l : List ByteArray) (most : Int) : Bool := l.all fun t => decide ((t.size : Int) ≤ most)
theorem lightT_step (l : List ByteArray) (most : Int) (k : Nat) (h : k < l.length) : lightT (l.take (k + 1)) most = (lightT (l.take k) most && decide ((l[k].size : Int) ≤ most)) := by
  unfold lightT
  rw [List.take_succ_eq_append_getElem h, List.all_append]
  simp
theorem lightT_out (l : List ByteArray) (most : Int) (k : Nat) (h : k < l.length) (h6 : most < (l[k].size : Int)) : lightT l most = false := by
  unfold lightT
  rw [List.all_eq_false]
  exact ⟨l[k], List.getElem_mem h, by simp; omega⟩
set_option maxRecDepth 100000 in
set_option maxHeartbeats 400000 in
theorem lightTexts_any (v : Value) (l : List ByteArray) (many most : Int) (w : World) (h : IsTexts w v l) (hl : l.length ≤ maxLen) :
    Calls Tryd.prog 11 #[v, .int .i64 many, .int .i64 most] w fun e w' => e = .returned (.bool (decide ((l.length : Int) ≤ many) && lightT l most)) ∧ w' = w := by
  unfold maxLen at hl
  obtain ⟨a, cap, rfl, hc⟩ := h
  by_cases hm : (l.length : Int) ≤ many
  · go_enter Tryd.func11, Tryd.ntmps11
    go_wp2
    go_loop [7] (fun i => ∃ k : Nat, k ≤ l.length ∧ i = .int .i64 k ∧ lightT (l.take k) most = true) (fun i => l.length - (intOf i).toNat)
    case atStart => exact ⟨0, Nat.zero_le _, rfl, rfl⟩
    case round =>
      obtain ⟨k, hk, rfl, hp⟩ := hrel
      have HP := Lib.hid hp
      clear hp
      by_cases hlt : k < l.length
      · obtain ⟨b, off, rfl, c0⟩ := hc k hlt
        clear hc
        by_cases h6 : (l[k].size : Int) ≤ most
        · go_wp2
          go_round
          case rel => exact ⟨k + 1, by omega, by go_num, by rw [lightT_step l most k hlt, HP.out]; simpa using h6⟩
          case measure => simp [intOf]; omega
        · go_wp2
          go_ret
          exact ⟨ret_bool (by simp [lightT_out l most k hlt (by omega)]), rfl⟩
      · clear hc
        go_wp2
        go_ret
        have hp := HP.out
        rw [List.take_of_length_le (by omega)] at hp
        exact ⟨ret_bool (by simp [hp]), rfl⟩
  · go_enter Tryd.func11, Tryd.ntmps11
    go_wp2
    go_ret
    exact ⟨ret_bool (by rw [show decide ((l.length : Int) ≤ many) = false from decide_eq_false (by omega), Bool.false_and]), rfl⟩
end Go.Proofs.YtahhcabmpcjddaaDoor
/- Mapper: the closed fact ready; the walk of TopRules. -/
namespace Go.Proofs.YtahhcabmpcjddaaDoor
open Go.ChangeShapes Go.WideShapes Go.ChangeAt Go.RowKit
def litRl : Rl := ⟨false, 0, .mk 0 0 [] [], [], .mk 2 0 [] [], .mk 9 0 [] []⟩
def litJb : Jb := ⟨[litRl], 1, false, 1⟩
theorem nilEx (w : World) (k : Int) : IsEx w (.slice none 0 0) (.mk k 0 [] []) :=
  IsEx.mk k 0 [] none 0 [] 0 0 (fun _ => undef) (fun h => by simp at h) (fun i x hx => by simp at hx) (fun i x hx => by simp at hx)
theorem litJb_fault : jobFault litJb = 0 := by decide +kernel
theorem litJb_pairs : rulesP litJb.rules litJb.fold [97, 32, 98] = [(⟨#[97, 32, 98]⟩, 2)] := by decide +kernel
theorem litJb_wt : rulesWt litJb.rules ≤ 1000000000 := by decide +kernel
theorem isRules_sub {w : World} {b off n cap i : Nat} {l : List Rl} {r : Rl} (h : IsRules w (.slice (some ⟨b, off, none⟩) n cap) l) (hr : l[i]? = some r) (cap' : Nat) : IsRules w (.slice (some ⟨b, off + i * 15, none⟩) 1 cap') [r] := by
  obtain ⟨a, cap0, b0, off0, AI, AK, AV, e, ha, hc⟩ := h
  have hi := (List.getElem?_eq_some_iff.1 hr).1
  have ha' := ha (by omega)
  injection e with e1 e2 e3
  rw [ha'] at e1
  injection e1 with e1
  injection e1 with e1 e4
  subst e1 e4
  refine ⟨_, cap', b, off + i * 15, fun k => AI (i + k), fun k => AK (i + k), fun k => AV (i + k), rfl, fun _ => rfl, fun k x hx => ?_⟩
  have hk : k = 0 ∧ r = x := by
    cases k with
    | zero => simpa using hx
    | succ k => simp at hx
  obtain ⟨rfl, rfl⟩ := hk
  have := hc i r hr
  simpa using this
set_option maxRecDepth 100000 in
set_option maxHeartbeats 1000000 in
theorem ready_any (w : World) (E : EnvS w) : Calls Tryd.prog 18 #[] w fun e w' => e = .returned (.bool true) ∧ Below w.heap.size w w' := by
  obtain ⟨w1, hw1⟩ : ∃ w1, w1 = w.alloc (.cells #[.bool false, .int .i64 0, .int .i64 0, .int .i64 0, .string ⟨#[]⟩, .slice none 0 0, .string ⟨#[]⟩, .int .i64 2, .int .i64 0, .string ⟨#[]⟩, .slice none 0 0, .int .i64 9, .int .i64 0, .string ⟨#[]⟩, .slice none 0 0] 50) := ⟨_, rfl⟩
  have hB : Blk w1 w.heap.size 50 [.bool false, .int .i64 0, .int .i64 0, .int .i64 0, .string ⟨#[]⟩, .slice none 0 0, .string ⟨#[]⟩, .int .i64 2, .int .i64 0, .string ⟨#[]⟩, .slice none 0 0, .int .i64 9, .int .i64 0, .string ⟨#[]⟩, .slice none 0 0] := by rw [hw1]; exact blk_new rfl
  obtain ⟨w2, hw2⟩ : ∃ w2, w2 = w1.alloc (.cells #[.slice (some ⟨w.heap.size, 0, none⟩) 1 1, .int .i64 1, .bool false, .int .i64 1] 24) := ⟨_, rfl⟩
  have hs1 : w1.heap.size = w.heap.size + 1 := by rw [hw1]; simp
  have hb1 : Below w.heap.size w w1 := by rw [hw1]; exact below_box _
  have hb12 : Below w1.heap.size w1 w2 := by rw [hw2]; exact below_box _
  have hb2 := below_trans hb1 hb12
  have hR : IsRules w2 (.slice (some ⟨w.heap.size, 0, none⟩) 1 1) litJb.rules := by
    have hB2 := hB.blw hb12
    refine ⟨_, 1, w.heap.size, 0, fun _ => .slice none 0 0, fun _ => .slice none 0 0, fun _ => .slice none 0 0, rfl, fun _ => rfl, fun i x hx => ?_⟩
    have hk : i = 0 ∧ litRl = x := by
      cases i with
      | zero => simpa [litJb] using hx
      | succ i => simp [litJb] at hx
    obtain ⟨rfl, rfl⟩ := hk
    refine ⟨⟨hB2.at rfl, hB2.at rfl, hB2.at rfl, hB2.at rfl, hB2.at rfl, hB2.at rfl, hB2.at rfl, hB2.at rfl, hB2.at rfl, hB2.at rfl, hB2.at rfl, hB2.at rfl, hB2.at rfl, hB2.at rfl, hB2.at rfl⟩, nilEx _ _, nilEx _ _, nilEx _ _⟩
  have JB2 : Blk w2 (w.heap.size + 1) 24 [.slice (some ⟨w.heap.size, 0, none⟩) 1 1, .int .i64 1, .bool false, .int .i64 1] := by rw [hw2]; exact blk_new hs1.symm
  have P := Lib.hid (pairs_any litJb _ [97, 32, 98] w2 hR litJb_wt litJb_fault (by decide) (E.lower hb2))
  rw [litJb_pairs] at P
  have k0 := JB2.at (i := 0) (v := .slice (some ⟨w.heap.size, 0, none⟩) 1 1) rfl
  have k1 := JB2.at (i := 1) (v := .int .i64 1) rfl
  have k2 := JB2.at (i := 2) (v := .bool false) rfl
  have k3 := JB2.at (i := 3) (v := .int .i64 1) rfl
  rw [hw1] at hw2
  have HW2 := Lib.hid hw2
  have HB2 := Lib.hid hb2
  clear hw1 hw2 hB hs1 hb1 hb12 hb2 hR JB2 E
  go_enter Tryd.func18, Tryd.ntmps18
  go_upto_region 2 with fail
  rw [← HW2.out]
  clear HW2
  go_wp2_with (go_at_call 19; refine Hid.out ?_)
  refine Lib.hid ?_
  refine P.out.mono ?_
  clear P
  rintro _ w3 ⟨u, rfl, hrow, hb3⟩
  have hP := Pp.owns_isPairs hrow
  have SP := Lib.hid (Pp.samePairs_any u (.slice (some ⟨w3.heap.size, 0, none⟩) 1 1) [(⟨#[97, 32, 98]⟩, 2)] [(⟨#[97, 32, 98]⟩, 2)] (w3.alloc (.cells #[.string ⟨#[97, 32, 98]⟩, .int .i64 2] 61)) (Pp.isPairs_below hP (below_box _)) (Pp.isPairs_one _ _ _ _ rfl) (by decide))
  rw [decide_eq_true rfl] at SP
  have hb := below_trans HB2.out hb3
  obtain ⟨ua, uc, rfl, -⟩ := hP
  clear hrow hb3
  dsimp only
  go_wp2_with (go_at_call 22; refine Hid.out ?_)
  refine Lib.hid ?_
  refine SP.out.mono ?_
  rintro _ w4 ⟨rfl, nd, hd⟩
  have hb4 : Below w.heap.size w w4 := by rw [hd]; exact below_trans (below_trans hb (below_box _)) (below_drewN _ _)
  clear hd SP
  go_wp2
  go_ret
  exact ⟨rfl, hb4⟩
end Go.Proofs.YtahhcabmpcjddaaDoor
/- Mapper: plain facts of jobs that may be, of what they make, of slices. -/
namespace Go.Proofs.YtahhcabmpcjddaaDoor
open Go.ChangeShapes Go.WideShapes Go.ChangeAt Go.RowKit
theorem rule_small {x : Rl} (hx : ruleFault x = 0) : x.wt ≤ 2000 := by
  have h := rlIn_of hx
  have h1 := fault_wt h.key
  have h2 := fault_wt h.val
  have h0 : whenFault x = 0 := by
    unfold ruleFault at hx
    by_cases h3 : whenFault x ≠ 0
    · rw [if_pos h3] at hx; exact absurd hx h3
    · exact Decidable.not_not.1 h3
  have h3 : x.iff.wt ≤ 630 ∧ x.s.length ≤ 20 := by
    rcases h.when with h4 | ⟨h4, h5⟩
    · unfold whenFault at h0
      rw [if_pos h4] at h0
      have h6 : (x.iff.zero && x.s.isEmpty) = true := by
        cases h7 : (x.iff.zero && x.s.isEmpty) with
        | true => rfl
        | false => rw [h7] at h0; simp at h0
      simp only [Bool.and_eq_true, Ex.zero, decide_eq_true_eq, List.isEmpty_iff] at h6
      refine ⟨?_, by rw [h6.2]; simp⟩
      cases he : x.iff with
      | mk k n s a =>
        rw [he] at h6
        simp only [Ex.s, Ex.a] at h6
        rw [h6.1.1.2, List.eq_nil_of_length_eq_zero h6.1.2]
        simp [Ex.wt, Ex.wt.wtL]
    · refine ⟨fault_wt h5, ?_⟩
      unfold whenFault at h0
      rw [if_neg (by omega), if_pos h4] at h0
      by_cases h6 : fitsB x.s 20 = true
      · unfold fitsB at h6
        simp only [Bool.and_eq_true, decide_eq_true_eq] at h6
        exact h6.1
      · rw [if_neg h6] at h0; omega
  unfold Rl.wt
  omega
theorem job_small {j : Jb} (h : jobFault j = 0) : rulesWt j.rules ≤ 8000 := by
  obtain ⟨_, h4, _, _, _, _, hf⟩ := jobFault_parts h
  have hall := rulesFault_all hf
  have gen : ∀ l : List Rl, (∀ x ∈ l, ruleFault x = 0) → rulesWt l ≤ l.length * 2000 := by
    intro l
    induction l with
    | nil => intro _; simp [rulesWt]
    | cons x l ih =>
      intro hl
      have h1 := rule_small (hl x (by simp))
      have h2 := ih fun y hy => hl y (by simp [hy])
      unfold rulesWt at h2 ⊢
      simp only [List.map_cons, List.sum_cons, List.length_cons]
      omega
  have := gen j.rules hall
  omega
theorem made_key {j : Jb} {lines : List (List UInt8)} {p : ByteArray × Int} (h : p ∈ madeOf j lines) : p.1.size ≤ 20 := by
  unfold madeOf rulesP ruleP at h
  simp only [List.mem_flatMap, List.mem_map] at h
  obtain ⟨_, _, r, _, x, _, rfl⟩ := h
  unfold pairL
  simp only [bs_size, List.length_take]
  omega
theorem sum_slices (ns : Nat) (h1 : 1 ≤ ns) (Z : List (ByteArray × Int)) : ((List.range ns).map fun k => (inSlice ns k Z).length).sum = Z.length := by
  have one : ∀ (m i : Nat), i < m → ((List.range m).map fun k => if i = k then 1 else 0).sum = 1 := by
    intro m
    induction m with
    | zero => intro i hi; omega
    | succ m ih =>
      intro i hi
      rw [List.range_succ, List.map_append, List.sum_append]
      by_cases e : i = m
      · subst e
        have z : ∀ q, q ≤ i → ((List.range q).map fun k => if i = k then 1 else 0).sum = 0 := by
          intro q
          induction q with
          | zero => intro _; rfl
          | succ q ihq =>
            intro hq
            rw [List.range_succ, List.map_append, List.sum_append, ihq (by omega)]
            simp; omega
        rw [z i (Nat.le_refl _)]
        simp
      · rw [ih i (by omega)]
        simp [e]
  have add : ∀ (m : Nat) (f g : Nat → Nat), ((List.range m).map fun k => f k + g k).sum = ((List.range m).map f).sum + ((List.range m).map g).sum := by
    intro m f g
    induction m with
    | zero => rfl
    | succ m ih => simp only [List.range_succ, List.map_append, List.sum_append, ih, List.map_cons, List.map_nil, List.sum_cons, List.sum_nil]; omega
  induction Z with
  | nil =>
    have : (fun k => (inSlice (ns : Int) k ([] : List (ByteArray × Int))).length) = fun _ => 0 := by funext k; rfl
    rw [this]
    have z : ∀ m, ((List.range m).map fun _ => 0).sum = 0 := by intro m; induction m with
      | zero => rfl
      | succ m ih => simp [List.range_succ, ih]
    rw [z]; rfl
  | cons p Z ih =>
    have hs := (sliceN_lt (many := (ns : Int)) (by omega) (Pp.Stable.key p)).2
    have e : (fun k => (inSlice (ns : Int) k (p :: Z)).length) = fun k => (if sliceN ns (Pp.Stable.key p) = k then 1 else 0) + (inSlice (ns : Int) k Z).length := by
      funext k
      unfold inSlice
      by_cases h : sliceN ns (Pp.Stable.key p) = k
      · rw [List.filter_cons_of_pos (by simp [h]), if_pos h, List.length_cons]; omega
      · rw [List.filter_cons_of_neg (by simp [h]), if_neg h]; omega
    rw [e, add, ih, one ns _ (by simpa using hs), List.length_cons]
    omega
theorem slicesOf_at {fo : Int} {ea : Bool} {ns k : Nat} (h : k < ns) (M : List (ByteArray × Int)) : (slicesOf fo ea ns M)[k]? = some (finL ea fo (inSlice ns k (Pp.Tot.srt M))) := by
  unfold slicesOf
  rw [List.getElem?_map, List.getElem?_range h]
  rfl
theorem grp_mem_key {kind : Int} {l : List (ByteArray × Int)} {p : ByteArray × Int} (h : p ∈ Pp.Grp.grp kind l) : ∃ q ∈ l, Pp.Stable.key q = Pp.Stable.key p := by
  by_cases hq : ∃ q ∈ l, Pp.Stable.key q = Pp.Stable.key p
  · exact hq
  · have h1 := Pp.Tot.tot_none kind (Pp.Stable.key p) l (fun q hq2 e => hq ⟨q, hq2, e⟩)
    have h2 := Pp.Tot.tot_some kind h
    rw [Pp.Tot.tot_grp] at h2
    exact absurd h1 h2
/-- Each pair of a slice lies in the one of its key; the keys rise; folded, each is there once. -/
theorem slice_key {fo : Int} {ea : Bool} {ns k : Nat} {Z : List (ByteArray × Int)} {p : ByteArray × Int} (h : p ∈ finL ea fo (inSlice ns k Z)) : sliceN ns (Pp.Stable.key p) = k := by
  unfold finL at h
  split at h
  · obtain ⟨q, hq, e⟩ := grp_mem_key h
    unfold inSlice at hq
    rw [List.mem_filter] at hq
    rw [← e]
    exact of_decide_eq_true hq.2
  · unfold inSlice at h
    rw [List.mem_filter] at h
    exact of_decide_eq_true h.2
theorem slice_rises {fo : Int} {ns k : Nat} (M : List (ByteArray × Int)) : Pp.Tot.Rises (finL true fo (inSlice ns k (Pp.Tot.srt M))) := by
  unfold finL inSlice
  rw [if_pos rfl]
  exact Pp.Tot.rises_grp fo _ (Pp.Tot.Sorted.filter (Pp.Tot.srt_sorted M) _)
theorem slice_sorted {fo : Int} {ea : Bool} {ns k : Nat} (M : List (ByteArray × Int)) : Pp.Stable.Sorted (finL ea fo (inSlice ns k (Pp.Tot.srt M))) := by
  cases ea with
  | true => exact Pp.Tot.Rises.sorted (slice_rises M)
  | false => exact Pp.Tot.Sorted.filter (Pp.Tot.srt_sorted M) _
theorem fin_len {fo : Int} {ea : Bool} (l : List (ByteArray × Int)) : (finL ea fo l).length ≤ l.length ∧ (ea = false → (finL ea fo l).length = l.length) := by
  unfold finL
  cases ea with
  | true => exact ⟨Pp.Grp.grp_len fo l, fun h => by cases h⟩
  | false => exact ⟨Nat.le_refl _, fun _ => rfl⟩
/-- How many pairs are in the first so many slices. -/
def upto (fo : Int) (ea : Bool) (ns : Nat) (M : List (ByteArray × Int)) (k : Nat) : Nat := ((List.range k).map fun i => (finL ea fo (inSlice ns i (Pp.Tot.srt M))).length).sum
theorem upto_succ (fo : Int) (ea : Bool) (ns : Nat) (M : List (ByteArray × Int)) (k : Nat) : upto fo ea ns M (k + 1) = upto fo ea ns M k + (finL ea fo (inSlice ns k (Pp.Tot.srt M))).length := by
  unfold upto
  rw [List.range_succ, List.map_append, List.sum_append]
  simp
theorem upto_le (fo : Int) (ea : Bool) (ns : Nat) (h1 : 1 ≤ ns) (M : List (ByteArray × Int)) : upto fo ea ns M ns ≤ M.length ∧ (ea = false → upto fo ea ns M ns = M.length) := by
  have hs := sum_slices ns h1 (Pp.Tot.srt M)
  rw [Pp.Tot.srt_len] at hs
  have le : ∀ m, upto fo ea ns M m ≤ ((List.range m).map fun k => (inSlice (ns : Int) k (Pp.Tot.srt M)).length).sum ∧ (ea = false → upto fo ea ns M m = ((List.range m).map fun k => (inSlice (ns : Int) k (Pp.Tot.srt M)).length).sum) := by
    intro m
    induction m with
    | zero => exact ⟨Nat.le_refl _, fun _ => rfl⟩
    | succ m ih =>
      have h2 := fin_len (fo := fo) (ea := ea) (inSlice ns m (Pp.Tot.srt M))
      rw [upto_succ, List.range_succ, List.map_append, List.sum_append]
      simp only [List.map_cons, List.map_nil, List.sum_cons, List.sum_nil, Nat.add_zero]
      exact ⟨Nat.add_le_add ih.1 h2.1, fun h => by rw [ih.2 h, h2.2 h]⟩
  obtain ⟨h2, h3⟩ := le ns
  rw [hs] at h2 h3
  exact ⟨h2, h3⟩
end Go.Proofs.YtahhcabmpcjddaaDoor
