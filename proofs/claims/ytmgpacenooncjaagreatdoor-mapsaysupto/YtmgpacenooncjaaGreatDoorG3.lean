/- Put together of N10, LtT, M5, X0, PpFirst, PpParse, PpText, E0a, PpBuild, PpBack, PpFoldR, PpGrpd, PpBlk, PpD0, S1, S2, Mp4, ExR, ExV, ExW, Tp0, Tp1. -/
import Derived.Test.YtmgpacenooncjaaGreatDoorG2
import Derived.Test.YtmgpacenooncjaaGreatDoorTxt
import Derived.Lib.QuietBelow
import Derived.Test.YtmgpacenooncjaaGreatDoorPpFoldT
import Derived.Test.YtmgpacenooncjaaGreatDoorPpGrps
import Derived.Test.YtmgpacenooncjaaGreatDoorRows
import Derived.WalkKit
import Derived.ProofKit
import Derived.WalkLawsBesides
import Derived.Lib.Hide
import Derived.Deep.AppendLies
import Derived.OwnWalk
import Derived.Deep.LoopGhost
import Derived.Test.YtmgpacenooncjaaGreatDoorExU
import Derived.Test.YtmgpacenooncjaaGreatDoorPcs
/- Mapper: Slices. -/
namespace Go.Proofs.YtmgpacenooncjaaGreatDoor
open Go.ChangeShapes Go.WideShapes Go.ChangeAt Go.RowKit
/-- A slice, folded if that is wanted early. -/
def finL (early : Bool) (fold : Int) (l : List (ByteArray × Int)) : List (ByteArray × Int) := if early = true then Pp.Grp.grp fold l else l
/-- A run's slices. -/
def slicesOf (fold : Int) (early : Bool) (ns : Nat) (M : List (ByteArray × Int)) : List (List (ByteArray × Int)) := (List.range ns).map fun k => finL early fold (inSlice ns k (Pp.Tot.srt M))
theorem infoLst : (Tryz.prog.info? 42).map (fun i => (i.zero, i.size, i.bytes)) = some (some (.slice none 0 0), 1, 24) := by kernel_rfl
theorem made_nils (ns : Nat) : (madeCells (Value.slice none 0 0).cells (ns * 1)).toList = List.replicate ns (Value.slice none 0 0) := by
  rw [Nat.mul_one, show (Value.slice none 0 0).cells = #[.slice none 0 0] from rfl, toList_madeCells_one]
/-- The parts of a list by their slices. -/
def partsL (ns : Nat) (Z : List (ByteArray × Int)) : List (List (ByteArray × Int)) := (List.range ns).map fun k => inSlice ns k Z
theorem partsL_at {ns k : Nat} (h : k < ns) (Z : List (ByteArray × Int)) : (partsL ns Z)[k]? = some (inSlice ns k Z) := by
  unfold partsL
  rw [List.getElem?_map, List.getElem?_range h]
  rfl
theorem partsL_len (ns : Nat) (Z : List (ByteArray × Int)) : (partsL ns Z).length = ns := by simp [partsL]
theorem partsL_snoc {ns : Nat} (Z : List (ByteArray × Int)) (p : ByteArray × Int) (i : Nat) (hi : sliceN ns (Pp.Stable.key p) = i) (hn : i < ns) : partsL ns (Z ++ [p]) = (partsL ns Z).set i (inSlice ns i Z ++ [p]) := by
  apply List.ext_getElem?
  intro k
  rw [List.getElem?_set, partsL_len]
  by_cases hk : k < ns
  · rw [partsL_at hk, inSlice_snoc, hi]
    by_cases e : i = k
    · subst e; rw [if_pos rfl, if_pos rfl, if_pos hn]
    · rw [if_neg e, if_neg e, partsL_at hk]
  · rw [List.getElem?_eq_none (by rw [partsL_len]; omega), if_neg (by omega), List.getElem?_eq_none (by rw [partsL_len]; omega)]
theorem partsL_nil (ns : Nat) : partsL ns [] = List.replicate ns [] := by
  apply List.ext_getElem?
  intro k
  by_cases hk : k < ns
  · rw [partsL_at hk, List.getElem?_replicate, if_pos hk]; rfl
  · rw [List.getElem?_eq_none (by rw [partsL_len]; omega), List.getElem?_replicate, if_neg hk]
/-- The parts, so many of them folded. -/
def earlyL (fo : Int) (ns : Nat) (Z : List (ByteArray × Int)) (i : Nat) : List (List (ByteArray × Int)) := (List.range ns).map fun k => if k < i then Pp.Grp.grp fo (inSlice ns k Z) else inSlice ns k Z
theorem earlyL_at {fo : Int} {ns k : Nat} (h : k < ns) (Z : List (ByteArray × Int)) (i : Nat) : (earlyL fo ns Z i)[k]? = some (if k < i then Pp.Grp.grp fo (inSlice ns k Z) else inSlice ns k Z) := by
  unfold earlyL
  rw [List.getElem?_map, List.getElem?_range h]
  rfl
theorem earlyL_len (fo : Int) (ns : Nat) (Z : List (ByteArray × Int)) (i : Nat) : (earlyL fo ns Z i).length = ns := by simp [earlyL]
theorem earlyL_zero (fo : Int) (ns : Nat) (Z : List (ByteArray × Int)) : earlyL fo ns Z 0 = partsL ns Z := by simp [earlyL, partsL]
theorem earlyL_succ {fo : Int} {ns i : Nat} (h : i < ns) (Z : List (ByteArray × Int)) : earlyL fo ns Z (i + 1) = (earlyL fo ns Z i).set i (Pp.Grp.grp fo (inSlice ns i Z)) := by
  apply List.ext_getElem?
  intro k
  rw [List.getElem?_set, earlyL_len]
  by_cases hk : k < ns
  · rw [earlyL_at hk]
    by_cases e : i = k
    · subst e; rw [if_pos rfl, if_pos hk, if_pos (by omega)]
    · rw [if_neg e, earlyL_at hk]
      by_cases h2 : k < i
      · rw [if_pos h2, if_pos (by omega)]
      · rw [if_neg h2, if_neg (by omega)]
  · rw [List.getElem?_eq_none (by rw [earlyL_len]; omega), if_neg (by omega), List.getElem?_eq_none (by rw [earlyL_len]; omega)]
theorem earlyL_all (fo : Int) (ns : Nat) (M : List (ByteArray × Int)) : earlyL fo ns (Pp.Tot.srt M) ns = slicesOf fo true ns M := by
  unfold earlyL slicesOf finL
  apply List.map_congr_left
  intro k hk
  rw [List.mem_range] at hk
  rw [if_pos hk, if_pos rfl]
/-- What Slices gives: lists, each of its own. -/
def SlicesGive (w : World) (fo : Int) (ea : Bool) (ns : Nat) (M : List (ByteArray × Int)) (r : Ending) (w' : World) : Prop := ∃ g vs w2, r = .returned (.slice (some ⟨g, 0, none⟩) ns ns) ∧ SL w2 w' g vs (slicesOf fo ea ns M) ∧ w.heap.size ≤ g ∧ w.heap.size ≤ w2.heap.size ∧ Below w.heap.size w w'
set_option maxRecDepth 100000 in
set_option maxHeartbeats 4000000 in
theorem slices_own (R done : Nat) (l : List Rl) (fo : Int) (ea : Bool) (ns : Nat) (rv lv mv : Value) (lines : List (List UInt8)) (M : List (ByteArray × Int)) (w : World) (hr : IsMR w R ⟨l, fo, ea, (ns : Int)⟩ rv lv lines done mv M) (hs1 : 1 ≤ ns) (hs2 : ns ≤ 4) (hM : M.length ≤ 1000000) (hk : ∀ p ∈ M, p.1.size ≤ 1000) :
    Calls Tryz.prog 21 #[.pointer (some ⟨R, 0, none⟩)] w fun e w' => SlicesGive w fo ea ns M e w' := by
  obtain ⟨i0, hi0, hz0, hz1, hz2⟩ := info_parts infoLst
  have hRl := hr.blk.lt
  have HR := Lib.hid hr
  have c3 := hr.blk.at (i := 3) (v := .int .i64 (ns : Int)) rfl
  clear hr
  go_enter Tryz.func21, Tryz.ntmps21
  go_wp2_with (at_make; refine Hid.out ?_)
  refine Lib.hid ?_
  refine wpList_make_full w rfl (.tmp 12) (.tmp 12) 48 rfl w.heap.size 42 i0 _ 1 Tryz.underlying48 hi0 hz0 hz1 _ _ _ _ ns rfl rfl rfl rfl (by rw [hz2]; omega) (by unfold maxLen; omega) (Nat.le_refl _) ?_
  intro w1 hown hgrow
  have hb1 : Below w.heap.size w w1 := ⟨hgrow.os, hgrow.tape, hgrow.output, hgrow.size, fun k hk => hgrow.block k hk (by simp)⟩
  obtain ⟨hblk, -⟩ := owns_blk hown
  rw [made_nils ns] at hblk
  obtain ⟨g, hg⟩ : ∃ g, g = w.heap.size := ⟨_, rfl⟩
  rw [← hg] at hblk
  have R1 := HR.out.blw hb1
  have c6 := R1.blk.at (i := 6) (v := mv) rfl
  have hmv := owa_isPairs R1.row
  have SF := Lib.hid (Pp.sort_full mv M w1 hmv hM)
  obtain ⟨ma, mc, emv⟩ := id hmv
  have emv1 := emv.1
  subst emv1
  have HBLK := Lib.hid hblk
  have HB1 := Lib.hid hb1
  have HGG := Lib.hid hg
  have HK := Lib.hid hk
  have HRI := Lib.hid hz0
  rw [← hg]
  clear hown hgrow hb1 hblk hmv emv hg hk hz0 hz1 hz2 hi0 HRI c3 R1
  go_wp2_with (go_at_call 50; refine Hid.out ?_)
  refine Lib.hid ?_
  refine SF.out.mono ?_
  rintro _ w2 ⟨u, Z, rfl, hso, hse, hzl, hzp, hb12, gu, rfl⟩
  obtain rfl := Pp.Tot.srt_eq hso hse
  obtain ⟨n, hn⟩ : ∃ n, n = M.length := ⟨_, rfl⟩
  have hn1 : n ≤ 1000000 := by omega
  rw [← hn] at hzl hzp ⊢
  have S0 : Hid (SL w2 w2 g (List.replicate ns (Value.slice none 0 0)) (partsL ns ((Pp.Tot.srt M).take 0))) := by
    refine ⟨HBLK.out.blw hb12, Nat.lt_of_lt_of_le HBLK.out.lt hb12.size, by rw [partsL_len, List.length_replicate], fun k v l hv hl => ?_, fun i j vi vj _ hvi _ q hq => ?_, Only.refl _ _⟩
    · rw [List.take_zero, partsL_nil, List.getElem?_replicate] at hl
      rw [List.getElem?_replicate] at hv
      split at hv
      · rename_i h
        rw [if_pos h, Option.some.injEq] at hl
        rw [Option.some.injEq] at hv
        subst hv hl
        exact World.ownsRow_nil _ _ _ _
      · cases hv
    · rw [List.getElem?_replicate] at hvi
      split at hvi
      · rw [Option.some.injEq] at hvi
        subst hvi
        cases hq
      · cases hvi
  have HZK : Hid (∀ (k : Nat) (p : ByteArray × Int), (Pp.Tot.srt M)[k]? = some p → p.1.size ≤ 1000) := fun k p hp => HK.out p (Pp.Tot.srt_mem.1 (List.mem_of_getElem? hp))
  have HRw2 := Lib.hid (HR.out.blw (below_trans HB1.out hb12))
  have hRg : R < g := by rw [HGG.out]; exact hRl
  have HB2 := Lib.hid (below_trans HB1.out hb12)
  have HZP := Lib.hid hzp
  have HZL := Lib.hid hzl
  have HN := Lib.hid hn
  have HGB : Hid (∀ k, k < n → gu ≠ g) := fun k hk e => by
    obtain ⟨a', c', e1, hc⟩ := HZP.out
    obtain ⟨b, off, e2, c0, -⟩ := hc k (by rw [HZL.out]; exact hk)
    injection e1 with e1
    rw [← e1] at e2
    injection e2 with e2
    injection e2 with e2 e3
    subst e2 e3
    rw [e] at c0
    rw [S0.out.lst.cell, List.getElem?_replicate] at c0
    split at c0 <;> cases c0
  obtain ⟨Z, hZ⟩ : ∃ Z, Z = Pp.Tot.srt M := ⟨_, rfl⟩
  have HZE : Hid (Pp.Tot.srt M = Z) := hZ.symm
  rw [← hZ] at S0 HZK HZP HZL
  clear hZ hso hse hzl hzp hb12 hn SF c6 HBLK HB1 HR HK
  dsimp only
  go_wp2
  go_loopg [20] n (fun gg iv wr => ∃ (k : Nat) (vs : List Value), gg = n - k ∧ k ≤ n ∧ iv = .int .i64 k ∧ Hid (SL w2 wr g vs (partsL ns (Z.take k))))
  case atStart => exact ⟨0, _, rfl, Nat.zero_le _, rfl, S0⟩
  case round =>
    clear S0
    obtain ⟨k, vs, hgk, hk, rfl, HS⟩ := hrel
    have HGK := Lib.hid hgk
    clear hgk
    by_cases hlt : k < n
    · have hkz : k < Z.length := by rw [HZL.out]; exact hlt
      obtain ⟨a', c', e1, hc⟩ := HZP.out
      obtain ⟨b, off, e2, c0, c1⟩ := hc k hkz
      rw [Value.slice.injEq] at e1
      obtain ⟨e1, -, -⟩ := e1
      rw [← e1, Option.some.injEq, Addr.mk.injEq] at e2
      obtain ⟨e2, e3, -⟩ := e2
      rw [← e2, ← e3] at c0 c1
      simp only [Nat.zero_add] at c0 c1
      clear e1 e2 e3
      have hgn := HGB.out k hlt
      replace c0 := only_cell HS.out.only c0 hgn
      replace c1 := only_cell HS.out.only c1 hgn
      have HPK : Hid (Z[k].1.size ≤ 1000) := HZK.out k Z[k] (by simp)
      have HSN : Hid (Z.take (k + 1) = Z.take k ++ [Z[k]]) := List.take_succ_eq_append_getElem hkz
      obtain ⟨i, hi⟩ : ∃ i, i = sliceN ns (Pp.Stable.key Z[k]) := ⟨_, rfl⟩
      obtain ⟨hi1, hi2⟩ := sliceN_lt (many := (ns : Int)) (by omega) (Pp.Stable.key Z[k])
      rw [← hi] at hi1 hi2
      have hin : i < ns := by simpa using hi2
      have SLC : Hid (∀ w', Calls Tryz.prog 51 #[.string Z[k].1, .int .i64 (ns : Int)] w' fun e w'' => e = .returned (.int .i64 (i : Int)) ∧ w'' = w') := fun w' => by
        have h := Pp.slice_any Z[k].1 (ns : Int) w' (by unfold maxLen; have := HPK.out; omega) (by omega) (by omega)
        have e : Pp.ksum Z[k].1.data.toList % (ns : Int) = (i : Int) := by
          rw [hi1]
          unfold Pp.Stable.key
          rw [ByteArray.toList_eq]
        rw [e] at h
        exact h
      have HI := Lib.hid hi
      generalize Z[k] = p at *
      obtain ⟨ps, pv⟩ := p
      simp only at c0 c1 SLC HPK
      obtain ⟨w3, hw3⟩ : ∃ w3, w3 = wr.alloc (.cells #[.string ps, .int .i64 pv] 67) := ⟨_, rfl⟩
      obtain ⟨Pb, hPb⟩ : ∃ Pb, Pb = wr.heap.size := ⟨_, rfl⟩
      have PB : Blk w3 Pb 67 [.string ps, .int .i64 pv] := by rw [hw3]; exact blk_new hPb
      have hb3 : Below wr.heap.size wr w3 := by rw [hw3]; exact below_box _
      have S3 := Lib.hid (HS.out.below hb3)
      have hR3 : w3.cell? ⟨R, 3, none⟩ = some (.int .i64 (ns : Int)) := only_cell S3.out.only (HRw2.out.blk.at (i := 3) (v := .int .i64 (ns : Int)) rfl) (by simp; omega)
      have b0 := PB.at (i := 0) (v := .string ps) rfl
      have HPB := Lib.hid PB
      have HW3 := Lib.hid hw3
      have HPP := Lib.hid hPb
      clear hw3 hPb PB hb3 hc hi hi1 hi2 HS
      go_upto_region 5 with fail
      rw [← HW3.out, ← HPP.out]
      clear HW3 HPP c0 c1
      go_quiet ((go_at_call 51; exact Calls.quiet_of_same (SLC.out _)))
      obtain ⟨w4, hw4⟩ : ∃ w4, w4 = w3.drewN nq := ⟨_, rfl⟩
      have hb34 : Below w3.heap.size w3 w4 := by rw [hw4]; exact below_drewN _ _
      rw [← hw4]
      have S4 := Lib.hid (S3.out.below hb34)
      have PB4 := Lib.hid (HPB.out.blw hb34)
      obtain ⟨vi, hvi⟩ : ∃ vi, vs[i]? = some vi := ⟨vs[i]'(by rw [S4.out.len, partsL_len]; exact hin), by simp⟩
      have hLi := partsL_at hin (Z.take k)
      have hown := S4.out.each i vi _ hvi hLi
      have HLL : (inSlice ns i (Z.take k)).length ≤ 1000000 := by
        unfold inSlice
        have h1 := List.length_filter_le (fun p => decide (sliceN ns (Pp.Stable.key p) = i)) (Z.take k)
        have h2 := List.length_take_le' k Z
        have := HZL.out
        omega
      have HLK : (inSlice ns i (Z.take k)).length + 1 ≤ 1000000 := by
        unfold inSlice
        have h1 := List.length_filter_le (fun p => decide (sliceN ns (Pp.Stable.key p) = i)) (Z.take k)
        have h2 : (Z.take k).length ≤ k := List.length_take_le k Z
        have := HZL.out
        omega
      have HPS : Hid (partsL ns (Z.take (k + 1)) = (partsL ns (Z.take k)).set i (inSlice ns i (Z.take k) ++ [(ps, pv)])) := by
        show _ = _
        rw [HSN.out]
        exact partsL_snoc _ _ i HI.out.symm hin
      obtain ⟨via, vic, evi⟩ : ∃ va vc, vi = .slice va (inSlice ns i (Z.take k)).length vc := by
        rcases row_slice hown with ⟨h1, h2⟩ | ⟨g', c, h1, _⟩
        · exact ⟨_, _, by rw [h1, h2]⟩
        · exact ⟨_, _, h1⟩
      subst evi
      have HOWN := Lib.hid hown
      have HVI := Lib.hid hvi
      have HLI := Lib.hid hLi
      have HLKK := Lib.hid HLK
      generalize inSlice ns i (Z.take k) = L at *
      obtain ⟨ni, hni⟩ : ∃ ni, ni = L.length := ⟨_, rfl⟩
      rw [← hni] at HOWN HVI hvi
      have HNI := Lib.hid hni
      have l0 := S4.out.lst.at hvi
      have l0a : (w4.alloc (.cells #[.string ps, .int .i64 pv] 67)).cell? ⟨g, i, none⟩ = some (.slice via ni vic) := cell_below l0 (below_box _)
      have p0 := PB4.out.at (i := 0) (v := .string ps) rfl
      have p1 := PB4.out.at (i := 1) (v := .int .i64 pv) rfl
      have hsz4 := S4.out.only.size
      have HSZ4 := Lib.hid hsz4
      clear hw4 hb34 S3 HPB hLi hown hni HLL HLK b0 hR3 hvi hsz4
      have HOWN4 : Hid (∀ wc, Below w4.heap.size w4 wc → wc.ownsRow w2.heap.size 67 2 (.slice via ni vic) ni (Pp.cellsP L)) := fun wc hb => ow_below HOWN.out hb
      have HPUT : Hid (∀ (wc w5 : World) (va : Option Addr) (vc : Nat), Below w4.heap.size w4 wc → w5.ownsRow w2.heap.size 67 2 (.slice va (ni + 1) vc) (ni + 1) (Pp.cellsP (L ++ [(ps, pv)])) → wc.grownBy w5 (Value.slice via ni vic).ownBlock → ((Value.slice va (ni + 1) vc).ownBlock = (Value.slice via ni vic).ownBlock ∨ (Value.slice va (ni + 1) vc).ownBlock = some wc.heap.size) → (w5.cell? ⟨g, i, none⟩ = some (.slice via ni vic) ∧ w5.frozen? ⟨g, i, none⟩ = false) ∧ Hid (SL w2 (w5.setCell ⟨g, i, none⟩ (.slice va (ni + 1) vc)) g (vs.set i (.slice va (ni + 1) vc)) (partsL ns (Z.take (k + 1))))) := fun wc w5 va vc hb ho hg hat => by
        have S5 := S4.out.below hb
        have hbk := blk_ow S5.lst (HOWN4.out wc hb) (by decide) hg
        refine ⟨⟨hbk.at HVI.out, hbk.frozen i⟩, ?_⟩
        show SL _ _ _ _ _
        rw [HPS.out]
        refine S5.put HVI.out HLI.out (by rw [List.length_append, ← HNI.out]; exact ho) hg ?_
        rcases hat with h | h
        · exact .inl h
        · exact .inr (.inr ⟨_, h, Nat.le_refl _⟩)
      go_wp2
      go_region_law (first | (refine step_append_prs rfl (.tmp 37) (.tmp 39) rfl (base := w2.heap.size) (n := ni) (v := .slice via ni vic) (xv := .slice (some ⟨w4.heap.size, 0, none⟩) 1 1) (A := L) (B := [(ps, pv)]) (N := ni + 1) (by simp [Act.eval]) (HOWN4.out _ (by first | exact below_box _ | exact below_trans (Pp.blw_drew (Below.refl _ w4)) (below_box _) | exact Pp.blw_drew (below_box _))) HNI.out (by simp [Act.eval]) (by first | exact Pp.isPairs_one ps pv 1 _ (by simp) | exact Pp.isPairs_below (Pp.isPairs_one ps pv 1 _ (by simp)) (Pp.blw_drew (Below.refl _ _))) HLKK.out (by have := HSZ4.out; simp; omega) (by rw [List.length_append, ← HNI.out]; rfl) ?_; intro va vc w5 hown5 hgrow5 hat5; obtain ⟨⟨l5, f5⟩, HP5⟩ := HPUT.out _ w5 va vc (by first | exact below_box _ | exact below_trans (Pp.blw_drew (Below.refl _ w4)) (below_box _) | exact Pp.blw_drew (below_box _)) hown5 hgrow5 hat5; clear hown5 hgrow5 hat5) | fail)
      all_goals
        generalize w5.setCell ⟨g, i, none⟩ (.slice va (ni + 1) vc) = w6 at *
        clear l0 l0a p0 p1 l5 f5 HPUT HOWN4 HOWN S4 PB4 SLC HPS
        (try simp only [Exit.inBlock, Exit.then])
        go_wp2
        go_roundg (n - (k + 1))
        case measure => have := HGK.out; omega
        case rel => exact ⟨k + 1, _, rfl, by omega, by go_num, HP5⟩
    · have hkn : k = n := by omega
      have HF0 : Hid (Z.take k = Z) := List.take_of_length_le (by have := HZL.out; omega)
      rw [HF0.out] at HS
      have hR2 : wr.cell? ⟨R, 2, none⟩ = some (.bool ea) := only_cell HS.out.only (HRw2.out.blk.at (i := 2) (v := .bool ea) rfl) (by simp; omega)
      have HBW : Hid (Below w.heap.size w wr) := ⟨HS.out.only.os.trans HB2.out.os, HS.out.only.tape.trans HB2.out.tape, HS.out.only.output.trans HB2.out.output, Nat.le_trans HB2.out.size HS.out.only.size, fun q hq => (HS.out.only.block q (Nat.lt_of_lt_of_le hq HB2.out.size) (fun e => by injection e with e; have := HGG.out; omega)).trans (HB2.out.block q hq)⟩
      clear hkn HF0
      cases ea with
      | false =>
        have HE : Hid (slicesOf fo false ns M = partsL ns Z) := by
          show _ = _
          unfold slicesOf
          rw [HZE.out]
          rfl
        go_wp2
        go_ret
        exact ⟨g, vs, w2, rfl, by rw [HE.out]; exact HS.out, Nat.le_of_eq HGG.out.symm, HB2.out.size, HBW.out⟩
      | true =>
        rw [← earlyL_zero fo] at HS
        have HIL : Hid (∀ k, (inSlice ns k Z).length ≤ 1000000) := fun k => by
          unfold inSlice
          have h1 := List.length_filter_le (fun p => decide (sliceN ns (Pp.Stable.key p) = k)) Z
          have := HZL.out
          omega
        have HFE : Hid (earlyL fo ns Z ns = slicesOf fo true ns M) := by
          show _ = _
          rw [← HZE.out]
          exact earlyL_all fo ns M
        go_wp2
        clear hR2 hlt HGK hk
        go_loopg [50] ns (fun gg iv wq => ∃ (i : Nat) (vs : List Value), gg = ns - i ∧ i ≤ ns ∧ iv = .int .i64 i ∧ Hid (SL w2 wq g vs (earlyL fo ns Z i)))
        case atStart => exact ⟨0, _, rfl, Nat.zero_le _, rfl, HS⟩
        case round =>
          clear HS HBW
          obtain ⟨i, vs, hgi, hi, rfl, HS⟩ := hrel
          have HGI := Lib.hid hgi
          clear hgi
          by_cases hlt : i < ns
          · obtain ⟨vi, hvi⟩ : ∃ vi, vs[i]? = some vi := ⟨vs[i]'(by rw [HS.out.len, earlyL_len]; exact hlt), by simp⟩
            have hLi := earlyL_at (fo := fo) hlt Z i
            rw [if_neg (Nat.lt_irrefl i)] at hLi
            have hown := HS.out.each i vi _ hvi hLi
            obtain ⟨via, vic, evi⟩ : ∃ va vc, vi = .slice va (inSlice ns i Z).length vc := by
              rcases row_slice hown with ⟨h1, h2⟩ | ⟨g', c, h1, _⟩
              · exact ⟨_, _, by rw [h1, h2]⟩
              · exact ⟨_, _, h1⟩
            subst evi
            have HSU : Hid (earlyL fo ns Z (i + 1) = (earlyL fo ns Z i).set i (Pp.Grp.grp fo (inSlice ns i Z))) := earlyL_succ hlt Z
            have hli := HIL.out i
            have GR : Hid (∀ wc, Below wr.heap.size wr wc → Calls Tryz.prog 52 #[.int .i64 fo, .slice via (inSlice ns i Z).length vic] wc fun e w' => ∃ ua uc, e = .returned (.slice ua (Pp.Grp.grp fo (inSlice ns i Z)).length uc) ∧ w'.ownsRow wc.heap.size 67 2 (.slice ua (Pp.Grp.grp fo (inSlice ns i Z)).length uc) (Pp.Grp.grp fo (inSlice ns i Z)).length (Pp.cellsP (Pp.Grp.grp fo (inSlice ns i Z))) ∧ Below wc.heap.size wc w') := fun wc hb => by
              refine (Pp.groups_own fo _ (inSlice ns i Z) wc (Pp.isPairs_below (Pp.owns_isPairs hown) hb) hli).mono ?_
              rintro e w' ⟨u, rfl, h1, h2⟩
              obtain ⟨ua, uc, rfl⟩ : ∃ va vc, u = .slice va (Pp.Grp.grp fo (inSlice ns i Z)).length vc := by
                rcases row_slice h1 with ⟨h3, h4⟩ | ⟨g', c, h3, _⟩
                · exact ⟨_, _, by rw [h3, h4]⟩
                · exact ⟨_, _, h3⟩
              exact ⟨ua, uc, rfl, h1, h2⟩
            have HSC := Lib.hid HS.out
            have HVI := Lib.hid hvi
            have HLI := Lib.hid hLi
            have PUT : Hid (∀ (wc w' : World) (ua : Option Addr) (uc : Nat), Below wr.heap.size wr wc → w'.ownsRow wc.heap.size 67 2 (.slice ua (Pp.Grp.grp fo (inSlice ns i Z)).length uc) (Pp.Grp.grp fo (inSlice ns i Z)).length (Pp.cellsP (Pp.Grp.grp fo (inSlice ns i Z))) → Below wc.heap.size wc w' → (w'.cell? ⟨g, i, none⟩ = some (.slice via (inSlice ns i Z).length vic) ∧ w'.frozen? ⟨g, i, none⟩ = false) ∧ Hid (SL w2 (w'.setCell ⟨g, i, none⟩ (.slice ua (Pp.Grp.grp fo (inSlice ns i Z)).length uc)) g (vs.set i (.slice ua (Pp.Grp.grp fo (inSlice ns i Z)).length uc)) (earlyL fo ns Z (i + 1)))) := fun wc w' ua uc hb ho hb2 => by
              have S5 := HSC.out.below hb
              have hbk := S5.lst.blw hb2
              refine ⟨⟨hbk.at HVI.out, hbk.frozen i⟩, ?_⟩
              show SL _ _ _ _ _
              rw [HSU.out]
              refine S5.put HVI.out HLI.out (ow_low ho S5.only.size) ⟨hb2.os, hb2.tape, hb2.output, hb2.size, fun k hk _ => hb2.block k hk⟩ ?_
              cases hq : (Value.slice ua (Pp.Grp.grp fo (inSlice ns i Z)).length uc).ownBlock with
              | none => exact .inr (.inl rfl)
              | some b => exact .inr (.inr ⟨b, rfl, (ho.lt b hq).1⟩)
            have l0 := HS.out.lst.at hvi
            have hR1 : wr.cell? ⟨R, 1, none⟩ = some (.int .i64 fo) := only_cell HS.out.only (HRw2.out.blk.at (i := 1) (v := .int .i64 fo) rfl) (by simp; omega)
            generalize (Pp.Grp.grp fo (inSlice ns i Z)).length = gl at *
            generalize (inSlice ns i Z).length = il at *
            clear hown hvi hLi HS HSC HVI HLI HSU hli
            go_upto_region 12 with fail
            go_region_with (go_at_call 52; refine (GR.out _ (by first | exact Below.refl _ _ | exact Pp.blw_drew (Below.refl _ wr))).mono ?_; rintro _ w9 ⟨ua, uc, rfl, ho, hb9⟩; obtain ⟨⟨l9, f9⟩, HP9⟩ := PUT.out _ w9 ua uc (by first | exact Below.refl _ _ | exact Pp.blw_drew (Below.refl _ wr)) ho hb9; clear ho hb9 l0 hR1)
            all_goals
              generalize w9.setCell ⟨g, i, none⟩ (.slice ua gl uc) = w10 at *
              clear l9 f9 PUT GR
              (try simp only [Exit.inBlock, Exit.then])
              go_wp2
              go_roundg (ns - (i + 1))
              case measure => have := HGI.out; omega
              case rel => exact ⟨i + 1, _, rfl, by omega, by go_num, HP9⟩
          · have him : i = ns := by omega
            have HL : Hid (SL w2 wr g vs (slicesOf fo true ns M)) := by
              have h := HS.out
              rw [him, HFE.out] at h
              exact h
            have HBW : Hid (Below w.heap.size w wr) := ⟨HS.out.only.os.trans HB2.out.os, HS.out.only.tape.trans HB2.out.tape, HS.out.only.output.trans HB2.out.output, Nat.le_trans HB2.out.size HS.out.only.size, fun q hq => (HS.out.only.block q (Nat.lt_of_lt_of_le hq HB2.out.size) (fun e => by injection e with e; have := HGG.out; omega)).trans (HB2.out.block q hq)⟩
            clear him
            go_wp2
            go_ret
            exact ⟨g, vs, w2, rfl, HL.out, Nat.le_of_eq HGG.out.symm, HB2.out.size, HBW.out⟩
theorem slices_any (R done : Nat) (l : List Rl) (fo : Int) (ea : Bool) (ns : Nat) (rv lv mv : Value) (lines : List (List UInt8)) (M : List (ByteArray × Int)) (w : World) (hr : IsMR w R ⟨l, fo, ea, (ns : Int)⟩ rv lv lines done mv M) (hs1 : 1 ≤ ns) (hs2 : ns ≤ 4) (hM : M.length ≤ 1000000) (hk : ∀ p ∈ M, p.1.size ≤ 1000) :
    Calls Tryz.prog 21 #[.pointer (some ⟨R, 0, none⟩)] w fun e w' => ∃ u, e = .returned u ∧ Pp.IsLists w' u (slicesOf fo ea ns M) ∧ Below w.heap.size w w' :=
  (slices_own R done l fo ea ns rv lv mv lines M w hr hs1 hs2 hM hk).mono fun _ _ ⟨g, _, _, h1, h2, _, _, h5⟩ => ⟨_, h1, h2.isLists (by simp [slicesOf]), h5⟩
end Go.Proofs.YtmgpacenooncjaaGreatDoor
/- Contract of LightTexts. -/
namespace Go.Proofs.YtmgpacenooncjaaGreatDoor
open Go.ChangeShapes Go.WideShapes Go.ChangeAt Go.RowKit
def lightT (l : List ByteArray) (most : Int) : Bool := l.all fun t => decide ((t.size : Int) ≤ most)
theorem lightT_step (l : List ByteArray) (most : Int) (k : Nat) (h : k < l.length) : lightT (l.take (k + 1)) most = (lightT (l.take k) most && decide ((l[k].size : Int) ≤ most)) := by
  unfold lightT
  rw [List.take_succ_eq_append_getElem h, List.all_append]
  simp
theorem lightT_out (l : List ByteArray) (most : Int) (k : Nat) (h : k < l.length) (h6 : most < (l[k].size : Int)) : lightT l most = false := by
  unfold lightT
  rw [List.all_eq_false]
  exact ⟨l[k], List.getElem_mem h, by simp; omega⟩
set_option maxRecDepth 100000 in
set_option maxHeartbeats 400000 in
theorem lightTexts_any (v : Value) (l : List ByteArray) (many most : Int) (w : World) (h : IsTexts w v l) (hl : l.length ≤ maxLen) :
    Calls Tryz.prog 8 #[v, .int .i64 many, .int .i64 most] w fun e w' => e = .returned (.bool (decide ((l.length : Int) ≤ many) && lightT l most)) ∧ w' = w := by
  unfold maxLen at hl
  obtain ⟨a, cap, rfl, hc⟩ := h
  by_cases hm : (l.length : Int) ≤ many
  · go_enter Tryz.func8, Tryz.ntmps8
    go_wp2
    go_loop [7] (fun i => ∃ k : Nat, k ≤ l.length ∧ i = .int .i64 k ∧ lightT (l.take k) most = true) (fun i => l.length - (intOf i).toNat)
    case atStart => exact ⟨0, Nat.zero_le _, rfl, rfl⟩
    case round =>
      obtain ⟨k, hk, rfl, hp⟩ := hrel
      have HP := Lib.hid hp
      clear hp
      by_cases hlt : k < l.length
      · obtain ⟨b, off, rfl, c0⟩ := hc k hlt
        clear hc
        by_cases h6 : (l[k].size : Int) ≤ most
        · go_wp2
          go_round
          case rel => exact ⟨k + 1, by omega, by go_num, by rw [lightT_step l most k hlt, HP.out]; simpa using h6⟩
          case measure => simp [intOf]; omega
        · go_wp2
          go_ret
          exact ⟨ret_bool (by simp [lightT_out l most k hlt (by omega)]), rfl⟩
      · clear hc
        go_wp2
        go_ret
        have hp := HP.out
        rw [List.take_of_length_le (by omega)] at hp
        exact ⟨ret_bool (by simp [hp]), rfl⟩
  · go_enter Tryz.func8, Tryz.ntmps8
    go_wp2
    go_ret
    exact ⟨ret_bool (by rw [show decide ((l.length : Int) ≤ many) = false from decide_eq_false (by omega), Bool.false_and]), rfl⟩
end Go.Proofs.YtmgpacenooncjaaGreatDoor
/- Mapper: the closed fact ready; the walk of TopRules. -/
namespace Go.Proofs.YtmgpacenooncjaaGreatDoor
open Go.ChangeShapes Go.WideShapes Go.ChangeAt Go.RowKit
def litRl : Rl := ⟨false, 0, .mk 0 0 [] [], [], .mk 2 0 [] [], .mk 9 0 [] []⟩
def litJb : Jb := ⟨[litRl], 1, false, 1⟩
theorem nilEx (w : World) (k : Int) : IsEx w (.slice none 0 0) (.mk k 0 [] []) :=
  IsEx.mk k 0 [] none 0 [] 0 0 (fun _ => undef) (fun h => by simp at h) (fun i x hx => by simp at hx) (fun i x hx => by simp at hx)
theorem litJb_fault : jobFault litJb = 0 := by decide +kernel
theorem litJb_pairs : rulesP litJb.rules litJb.fold [97, 32, 98] = [(⟨#[97, 32, 98]⟩, 2)] := by decide +kernel
theorem litJb_wt : rulesWt litJb.rules ≤ 1000000000 := by decide +kernel
theorem isRules_sub {w : World} {b off n cap i : Nat} {l : List Rl} {r : Rl} (h : IsRules w (.slice (some ⟨b, off, none⟩) n cap) l) (hr : l[i]? = some r) (cap' : Nat) : IsRules w (.slice (some ⟨b, off + i * 15, none⟩) 1 cap') [r] := by
  obtain ⟨a, cap0, b0, off0, AI, AK, AV, e, ha, hc⟩ := h
  have hi := (List.getElem?_eq_some_iff.1 hr).1
  have ha' := ha (by omega)
  injection e with e1 e2 e3
  rw [ha'] at e1
  injection e1 with e1
  injection e1 with e1 e4
  subst e1 e4
  refine ⟨_, cap', b, off + i * 15, fun k => AI (i + k), fun k => AK (i + k), fun k => AV (i + k), rfl, fun _ => rfl, fun k x hx => ?_⟩
  have hk : k = 0 ∧ r = x := by
    cases k with
    | zero => simpa using hx
    | succ k => simp at hx
  obtain ⟨rfl, rfl⟩ := hk
  have := hc i r hr
  simpa using this
set_option maxRecDepth 100000 in
set_option maxHeartbeats 1000000 in
theorem ready_any (w : World) (E : EnvS w) : Calls Tryz.prog 31 #[] w fun e w' => e = .returned (.bool true) ∧ Below w.heap.size w w' := by
  obtain ⟨w1, hw1⟩ : ∃ w1, w1 = w.alloc (.cells #[.bool false, .int .i64 0, .int .i64 0, .int .i64 0, .string ⟨#[]⟩, .slice none 0 0, .string ⟨#[]⟩, .int .i64 2, .int .i64 0, .string ⟨#[]⟩, .slice none 0 0, .int .i64 9, .int .i64 0, .string ⟨#[]⟩, .slice none 0 0] 58) := ⟨_, rfl⟩
  have hB : Blk w1 w.heap.size 58 [.bool false, .int .i64 0, .int .i64 0, .int .i64 0, .string ⟨#[]⟩, .slice none 0 0, .string ⟨#[]⟩, .int .i64 2, .int .i64 0, .string ⟨#[]⟩, .slice none 0 0, .int .i64 9, .int .i64 0, .string ⟨#[]⟩, .slice none 0 0] := by rw [hw1]; exact blk_new rfl
  obtain ⟨w2, hw2⟩ : ∃ w2, w2 = w1.alloc (.cells #[.slice (some ⟨w.heap.size, 0, none⟩) 1 1, .int .i64 1, .bool false, .int .i64 1] 24) := ⟨_, rfl⟩
  have hs1 : w1.heap.size = w.heap.size + 1 := by rw [hw1]; simp
  have hb1 : Below w.heap.size w w1 := by rw [hw1]; exact below_box _
  have hb12 : Below w1.heap.size w1 w2 := by rw [hw2]; exact below_box _
  have hb2 := below_trans hb1 hb12
  have hR : IsRules w2 (.slice (some ⟨w.heap.size, 0, none⟩) 1 1) litJb.rules := by
    have hB2 := hB.blw hb12
    refine ⟨_, 1, w.heap.size, 0, fun _ => .slice none 0 0, fun _ => .slice none 0 0, fun _ => .slice none 0 0, rfl, fun _ => rfl, fun i x hx => ?_⟩
    have hk : i = 0 ∧ litRl = x := by
      cases i with
      | zero => simpa [litJb] using hx
      | succ i => simp [litJb] at hx
    obtain ⟨rfl, rfl⟩ := hk
    refine ⟨⟨hB2.at rfl, hB2.at rfl, hB2.at rfl, hB2.at rfl, hB2.at rfl, hB2.at rfl, hB2.at rfl, hB2.at rfl, hB2.at rfl, hB2.at rfl, hB2.at rfl, hB2.at rfl, hB2.at rfl, hB2.at rfl, hB2.at rfl⟩, nilEx _ _, nilEx _ _, nilEx _ _⟩
  have JB2 : Blk w2 (w.heap.size + 1) 24 [.slice (some ⟨w.heap.size, 0, none⟩) 1 1, .int .i64 1, .bool false, .int .i64 1] := by rw [hw2]; exact blk_new hs1.symm
  have P := Lib.hid (pairs_any litJb _ [97, 32, 98] w2 hR litJb_wt litJb_fault (by decide) (E.lower hb2))
  rw [litJb_pairs] at P
  have k0 := JB2.at (i := 0) (v := .slice (some ⟨w.heap.size, 0, none⟩) 1 1) rfl
  have k1 := JB2.at (i := 1) (v := .int .i64 1) rfl
  have k2 := JB2.at (i := 2) (v := .bool false) rfl
  have k3 := JB2.at (i := 3) (v := .int .i64 1) rfl
  rw [hw1] at hw2
  have HW2 := Lib.hid hw2
  have HB2 := Lib.hid hb2
  clear hw1 hw2 hB hs1 hb1 hb12 hb2 hR JB2 E
  go_enter Tryz.func31, Tryz.ntmps31
  go_upto_region 2 with fail
  rw [← HW2.out]
  clear HW2
  go_wp2_with (go_at_call 18; refine Hid.out ?_)
  refine Lib.hid ?_
  refine P.out.mono ?_
  clear P
  rintro _ w3 ⟨u, rfl, hrow, hb3⟩
  have hP := Pp.owns_isPairs hrow
  have SP := Lib.hid (Pp.samePairs_any u (.slice (some ⟨w3.heap.size, 0, none⟩) 1 1) [(⟨#[97, 32, 98]⟩, 2)] [(⟨#[97, 32, 98]⟩, 2)] (w3.alloc (.cells #[.string ⟨#[97, 32, 98]⟩, .int .i64 2] 67)) (Pp.isPairs_below hP (below_box _)) (Pp.isPairs_one _ _ _ _ rfl) (by decide))
  rw [decide_eq_true rfl] at SP
  have hb := below_trans HB2.out hb3
  obtain ⟨ua, uc, rfl, -⟩ := hP
  clear hrow hb3
  dsimp only
  go_wp2_with (go_at_call 17; refine Hid.out ?_)
  refine Lib.hid ?_
  refine SP.out.mono ?_
  rintro _ w4 ⟨rfl, nd, hd⟩
  have hb4 : Below w.heap.size w w4 := by rw [hd]; exact below_trans (below_trans hb (below_box _)) (below_drewN _ _)
  clear hd SP
  go_wp2
  go_ret
  exact ⟨rfl, hb4⟩
end Go.Proofs.YtmgpacenooncjaaGreatDoor
/- Mapper: plain facts of jobs that may be, of what they make, of slices. -/
namespace Go.Proofs.YtmgpacenooncjaaGreatDoor
open Go.ChangeShapes Go.WideShapes Go.ChangeAt Go.RowKit
theorem rule_small {x : Rl} (hx : ruleFault x = 0) : x.wt ≤ 2000 := by
  have h := rlIn_of hx
  have h1 := fault_wt h.key
  have h2 := fault_wt h.val
  have h0 : whenFault x = 0 := by
    unfold ruleFault at hx
    by_cases h3 : whenFault x ≠ 0
    · rw [if_pos h3] at hx; exact absurd hx h3
    · exact Decidable.not_not.1 h3
  have h3 : x.iff.wt ≤ 630 ∧ x.s.length ≤ 20 := by
    rcases h.when with h4 | ⟨h4, h5⟩
    · unfold whenFault at h0
      rw [if_pos h4] at h0
      have h6 : (x.iff.zero && x.s.isEmpty) = true := by
        cases h7 : (x.iff.zero && x.s.isEmpty) with
        | true => rfl
        | false => rw [h7] at h0; simp at h0
      simp only [Bool.and_eq_true, Ex.zero, decide_eq_true_eq, List.isEmpty_iff] at h6
      refine ⟨?_, by rw [h6.2]; simp⟩
      cases he : x.iff with
      | mk k n s a =>
        rw [he] at h6
        simp only [Ex.s, Ex.a] at h6
        rw [h6.1.1.2, List.eq_nil_of_length_eq_zero h6.1.2]
        simp [Ex.wt, Ex.wt.wtL]
    · refine ⟨fault_wt h5, ?_⟩
      unfold whenFault at h0
      rw [if_neg (by omega), if_pos h4] at h0
      by_cases h6 : fitsB x.s 20 = true
      · unfold fitsB at h6
        simp only [Bool.and_eq_true, decide_eq_true_eq] at h6
        exact h6.1
      · rw [if_neg h6] at h0; omega
  unfold Rl.wt
  omega
theorem job_small {j : Jb} (h : jobFault j = 0) : rulesWt j.rules ≤ 8000 := by
  obtain ⟨_, h4, _, _, _, _, hf⟩ := jobFault_parts h
  have hall := rulesFault_all hf
  have gen : ∀ l : List Rl, (∀ x ∈ l, ruleFault x = 0) → rulesWt l ≤ l.length * 2000 := by
    intro l
    induction l with
    | nil => intro _; simp [rulesWt]
    | cons x l ih =>
      intro hl
      have h1 := rule_small (hl x (by simp))
      have h2 := ih fun y hy => hl y (by simp [hy])
      unfold rulesWt at h2 ⊢
      simp only [List.map_cons, List.sum_cons, List.length_cons]
      omega
  have := gen j.rules hall
  omega
theorem made_key {j : Jb} {lines : List (List UInt8)} {p : ByteArray × Int} (h : p ∈ madeOf j lines) : p.1.size ≤ 20 := by
  unfold madeOf rulesP ruleP at h
  simp only [List.mem_flatMap, List.mem_map] at h
  obtain ⟨_, _, r, _, x, _, rfl⟩ := h
  unfold pairL
  simp only [bs_size, List.length_take]
  omega
theorem sum_slices (ns : Nat) (h1 : 1 ≤ ns) (Z : List (ByteArray × Int)) : ((List.range ns).map fun k => (inSlice ns k Z).length).sum = Z.length := by
  have one : ∀ (m i : Nat), i < m → ((List.range m).map fun k => if i = k then 1 else 0).sum = 1 := by
    intro m
    induction m with
    | zero => intro i hi; omega
    | succ m ih =>
      intro i hi
      rw [List.range_succ, List.map_append, List.sum_append]
      by_cases e : i = m
      · subst e
        have z : ∀ q, q ≤ i → ((List.range q).map fun k => if i = k then 1 else 0).sum = 0 := by
          intro q
          induction q with
          | zero => intro _; rfl
          | succ q ihq =>
            intro hq
            rw [List.range_succ, List.map_append, List.sum_append, ihq (by omega)]
            simp; omega
        rw [z i (Nat.le_refl _)]
        simp
      · rw [ih i (by omega)]
        simp [e]
  have add : ∀ (m : Nat) (f g : Nat → Nat), ((List.range m).map fun k => f k + g k).sum = ((List.range m).map f).sum + ((List.range m).map g).sum := by
    intro m f g
    induction m with
    | zero => rfl
    | succ m ih => simp only [List.range_succ, List.map_append, List.sum_append, ih, List.map_cons, List.map_nil, List.sum_cons, List.sum_nil]; omega
  induction Z with
  | nil =>
    have : (fun k => (inSlice (ns : Int) k ([] : List (ByteArray × Int))).length) = fun _ => 0 := by funext k; rfl
    rw [this]
    have z : ∀ m, ((List.range m).map fun _ => 0).sum = 0 := by intro m; induction m with
      | zero => rfl
      | succ m ih => simp [List.range_succ, ih]
    rw [z]; rfl
  | cons p Z ih =>
    have hs := (sliceN_lt (many := (ns : Int)) (by omega) (Pp.Stable.key p)).2
    have e : (fun k => (inSlice (ns : Int) k (p :: Z)).length) = fun k => (if sliceN ns (Pp.Stable.key p) = k then 1 else 0) + (inSlice (ns : Int) k Z).length := by
      funext k
      unfold inSlice
      by_cases h : sliceN ns (Pp.Stable.key p) = k
      · rw [List.filter_cons_of_pos (by simp [h]), if_pos h, List.length_cons]; omega
      · rw [List.filter_cons_of_neg (by simp [h]), if_neg h]; omega
    rw [e, add, ih, one ns _ (by simpa using hs), List.length_cons]
    omega
theorem slicesOf_at {fo : Int} {ea : Bool} {ns k : Nat} (h : k < ns) (M : List (ByteArray × Int)) : (slicesOf fo ea ns M)[k]? = some (finL ea fo (inSlice ns k (Pp.Tot.srt M))) := by
  unfold slicesOf
  rw [List.getElem?_map, List.getElem?_range h]
  rfl
theorem grp_mem_key {kind : Int} {l : List (ByteArray × Int)} {p : ByteArray × Int} (h : p ∈ Pp.Grp.grp kind l) : ∃ q ∈ l, Pp.Stable.key q = Pp.Stable.key p := by
  by_cases hq : ∃ q ∈ l, Pp.Stable.key q = Pp.Stable.key p
  · exact hq
  · have h1 := Pp.Tot.tot_none kind (Pp.Stable.key p) l (fun q hq2 e => hq ⟨q, hq2, e⟩)
    have h2 := Pp.Tot.tot_some kind h
    rw [Pp.Tot.tot_grp] at h2
    exact absurd h1 h2
/-- Each pair of a slice lies in the one of its key; the keys rise; folded, each is there once. -/
theorem slice_key {fo : Int} {ea : Bool} {ns k : Nat} {Z : List (ByteArray × Int)} {p : ByteArray × Int} (h : p ∈ finL ea fo (inSlice ns k Z)) : sliceN ns (Pp.Stable.key p) = k := by
  unfold finL at h
  split at h
  · obtain ⟨q, hq, e⟩ := grp_mem_key h
    unfold inSlice at hq
    rw [List.mem_filter] at hq
    rw [← e]
    exact of_decide_eq_true hq.2
  · unfold inSlice at h
    rw [List.mem_filter] at h
    exact of_decide_eq_true h.2
theorem slice_rises {fo : Int} {ns k : Nat} (M : List (ByteArray × Int)) : Pp.Tot.Rises (finL true fo (inSlice ns k (Pp.Tot.srt M))) := by
  unfold finL inSlice
  rw [if_pos rfl]
  exact Pp.Tot.rises_grp fo _ (Pp.Tot.Sorted.filter (Pp.Tot.srt_sorted M) _)
theorem slice_sorted {fo : Int} {ea : Bool} {ns k : Nat} (M : List (ByteArray × Int)) : Pp.Stable.Sorted (finL ea fo (inSlice ns k (Pp.Tot.srt M))) := by
  cases ea with
  | true => exact Pp.Tot.Rises.sorted (slice_rises M)
  | false => exact Pp.Tot.Sorted.filter (Pp.Tot.srt_sorted M) _
theorem fin_len {fo : Int} {ea : Bool} (l : List (ByteArray × Int)) : (finL ea fo l).length ≤ l.length ∧ (ea = false → (finL ea fo l).length = l.length) := by
  unfold finL
  cases ea with
  | true => exact ⟨Pp.Grp.grp_len fo l, fun h => by cases h⟩
  | false => exact ⟨Nat.le_refl _, fun _ => rfl⟩
/-- How many pairs are in the first so many slices. -/
def upto (fo : Int) (ea : Bool) (ns : Nat) (M : List (ByteArray × Int)) (k : Nat) : Nat := ((List.range k).map fun i => (finL ea fo (inSlice ns i (Pp.Tot.srt M))).length).sum
theorem upto_succ (fo : Int) (ea : Bool) (ns : Nat) (M : List (ByteArray × Int)) (k : Nat) : upto fo ea ns M (k + 1) = upto fo ea ns M k + (finL ea fo (inSlice ns k (Pp.Tot.srt M))).length := by
  unfold upto
  rw [List.range_succ, List.map_append, List.sum_append]
  simp
theorem upto_le (fo : Int) (ea : Bool) (ns : Nat) (h1 : 1 ≤ ns) (M : List (ByteArray × Int)) : upto fo ea ns M ns ≤ M.length ∧ (ea = false → upto fo ea ns M ns = M.length) := by
  have hs := sum_slices ns h1 (Pp.Tot.srt M)
  rw [Pp.Tot.srt_len] at hs
  have le : ∀ m, upto fo ea ns M m ≤ ((List.range m).map fun k => (inSlice (ns : Int) k (Pp.Tot.srt M)).length).sum ∧ (ea = false → upto fo ea ns M m = ((List.range m).map fun k => (inSlice (ns : Int) k (Pp.Tot.srt M)).length).sum) := by
    intro m
    induction m with
    | zero => exact ⟨Nat.le_refl _, fun _ => rfl⟩
    | succ m ih =>
      have h2 := fin_len (fo := fo) (ea := ea) (inSlice ns m (Pp.Tot.srt M))
      rw [upto_succ, List.range_succ, List.map_append, List.sum_append]
      simp only [List.map_cons, List.map_nil, List.sum_cons, List.sum_nil, Nat.add_zero]
      exact ⟨Nat.add_le_add ih.1 h2.1, fun h => by rw [ih.2 h, h2.2 h]⟩
  obtain ⟨h2, h3⟩ := le ns
  rw [hs] at h2 h3
  exact ⟨h2, h3⟩
end Go.Proofs.YtmgpacenooncjaaGreatDoor
/- Contracts of pair.cutKey and pair.first: what a text begins with. -/
namespace Go.Proofs.YtmgpacenooncjaaGreatDoor.Pp
open Go.ChangeShapes Go.WideShapes Go.ChangeAt Go.RowKit
open Num

/-- A key that is told ahead of ':', what stands behind it, and whether it is there. -/
def keyT (l : List UInt8) : List UInt8 × List UInt8 × Bool :=
  if (cutAt 58 l).2.2 then
    match numB (cutAt 58 l).1 with
    | some n => if 0 ≤ n ∧ n ≤ ((cutAt 58 l).2.1.length : Int) then ((cutAt 58 l).2.1.take n.toNat, (cutAt 58 l).2.1.drop n.toNat, true) else ([], [], false)
    | none => ([], [], false)
  else ([], [], false)
theorem cutAt_len (c : UInt8) : ∀ l : List UInt8, (cutAt c l).1.length ≤ l.length ∧ (cutAt c l).2.1.length ≤ l.length ∧ ((cutAt c l).2.2 = true → (cutAt c l).2.1.length < l.length) := by
  intro l
  induction l with
  | nil => simp [cutAt]
  | cons b r ih =>
    unfold cutAt
    split
    · simp
    · simp only [List.length_cons]
      exact ⟨by omega, by omega, fun h => by have := ih.2.2 h; omega⟩

set_option maxRecDepth 100000 in
set_option maxHeartbeats 1000000 in
theorem cutKey_any (l : List UInt8) (w : World) (E : Env w) (hl : l.length ≤ 4000000000) :
    Calls Tryz.prog 101 #[.string (bs l)] w fun e w' => e = .returned (.tuple #[.string (bs (keyT l).1), .string (bs (keyT l).2.1), .bool (keyT l).2.2]) ∧ Below w.heap.size w w' := by
  have hsz := bs_size l
  have C1 : Hid (∀ w, Env w → Calls Tryz.prog 102 #[.string (bs l), .string ⟨#[58]⟩] w fun e w' => e = .returned (.tuple #[.string (bs (cutAt 58 l).1), .string (bs (cutAt 58 l).2.1), .bool (cutAt 58 l).2.2]) ∧ Below w.heap.size w w') := by
    intro w E
    have := cut_any (bs l) 58 w E (by omega)
    rw [bs_data] at this
    exact this
  have hlen := cutAt_len 58 l
  have C2 : Hid (∀ w, Env w → Calls Tryz.prog 103 #[.string (bs (cutAt 58 l).1)] w fun e w' => e = .returned (.tuple #[.int .i64 ((numB (cutAt 58 l).1).getD 0), .bool (numB (cutAt 58 l).1).isSome]) ∧ Below w.heap.size w w') := fun w E => number_pair _ w E (by omega)
  have hemp : bs [] = ⟨#[]⟩ := rfl
  unfold keyT
  rcases hc : cutAt 58 l with ⟨a, rest, ok⟩
  rw [hc] at C1 C2 hlen
  have hrs := bs_size rest
  simp only at C1 C2 hlen ⊢
  clear hc
  cases ok with
  | false =>
    rw [if_neg (by simp)]
    cases hn : numB a with
    | none =>
      rw [hn] at C2
      simp only [Option.getD_none, Option.isSome_none] at C2
      clear hn
      go_enter Tryz.func101, Tryz.ntmps101
      go_wp2_with (first | (go_at_call 102; refine (C1.out _ E).mono ?_; rintro e w1 ⟨rfl, hb1⟩) | (go_at_call 103; refine (C2.out _ (E.below hb1)).mono ?_; rintro e w2 ⟨rfl, hb2⟩))
      go_ret3
      exact ⟨rfl, below_trans hb1 hb2⟩
    | some n =>
      rw [hn] at C2
      simp only [Option.getD_some, Option.isSome_some] at C2
      clear hn
      go_enter Tryz.func101, Tryz.ntmps101
      go_wp2_with (first | (go_at_call 102; refine (C1.out _ E).mono ?_; rintro e w1 ⟨rfl, hb1⟩) | (go_at_call 103; refine (C2.out _ (E.below hb1)).mono ?_; rintro e w2 ⟨rfl, hb2⟩))
      go_ret3
      exact ⟨rfl, below_trans hb1 hb2⟩
  | true =>
    rw [if_pos rfl]
    cases hn : numB a with
    | none =>
      rw [hn] at C2
      simp only [Option.getD_none, Option.isSome_none] at C2
      clear hn
      go_enter Tryz.func101, Tryz.ntmps101
      go_wp2_with (first | (go_at_call 102; refine (C1.out _ E).mono ?_; rintro e w1 ⟨rfl, hb1⟩) | (go_at_call 103; refine (C2.out _ (E.below hb1)).mono ?_; rintro e w2 ⟨rfl, hb2⟩))
      go_ret3
      exact ⟨rfl, below_trans hb1 hb2⟩
    | some n =>
      rw [hn] at C2
      simp only [Option.getD_some, Option.isSome_some] at C2
      clear hn
      simp only
      by_cases hr : 0 ≤ n ∧ n ≤ (rest.length : Int)
      · rw [if_pos hr]
        obtain ⟨hr0, hr1⟩ := hr
        obtain ⟨k, rfl⟩ := Int.eq_ofNat_of_zero_le hr0
        have hk : k ≤ rest.length := by omega
        have hk' : k ≤ (bs rest).size := by omega
        have hT := bs_take rest k
        have hD := bs_drop rest k
        have HT := Lib.hid hT
        have HD := Lib.hid hD
        have HR := Lib.hid hrs
        have hbig : (bs rest).size ≤ 9000000000 := by omega
        clear hT hD hrs hr0 hr1
        go_enter Tryz.func101, Tryz.ntmps101
        go_wp2_with (first | (go_at_call 102; refine (C1.out _ E).mono ?_; rintro e w1 ⟨rfl, hb1⟩) | (go_at_call 103; refine (C2.out _ (E.below hb1)).mono ?_; rintro e w2 ⟨rfl, hb2⟩))
        go_quiet (fail)
        go_wp2
        go_ret3
        refine ⟨?_, (below_trans hb1 hb2).trans ((below_drewN _ _).mono (below_trans hb1 hb2).size)⟩
        show Ending.returned (.tuple #[.string ((bs rest).extract 0 k), .string ((bs rest).extract k (bs rest).size), .bool true]) = _
        rw [HT.out, HD.out, Int.toNat_natCast]
      · rw [if_neg hr]
        go_enter Tryz.func101, Tryz.ntmps101
        go_wp2_with (first | (go_at_call 102; refine (C1.out _ E).mono ?_; rintro e w1 ⟨rfl, hb1⟩) | (go_at_call 103; refine (C2.out _ (E.below hb1)).mono ?_; rintro e w2 ⟨rfl, hb2⟩))
        all_goals go_ret3
        all_goals exact ⟨rfl, below_trans hb1 hb2⟩

/-- The pair that a text begins with, what stands behind it, and whether there is one. -/
def stepT (l : List UInt8) : (List UInt8 × Int) × List UInt8 × Bool :=
  if (keyT l).2.2 = true ∧ (keyT l).2.1.head? = some 32 then
    if (cutAt 10 (keyT l).2.1.tail).2.2 then
      match numB (cutAt 10 (keyT l).2.1.tail).1 with
      | some v => (((keyT l).1, v), (cutAt 10 (keyT l).2.1.tail).2.1, true)
      | none => (([], 0), [], false)
    else (([], 0), [], false)
  else (([], 0), [], false)
theorem keyT_len (l : List UInt8) : (keyT l).1.length ≤ l.length ∧ (keyT l).2.1.length ≤ l.length := by
  have h := cutAt_len 58 l
  unfold keyT
  split
  · split
    · split
      · simp only [List.length_take, List.length_drop]; omega
      · simp
    · simp
  · simp
def fstV (p : (List UInt8 × Int) × List UInt8 × Bool) : Value := .tuple #[.agg #[.string (bs p.1.1), .int .i64 p.1.2], .string (bs p.2.1), .bool p.2.2]
theorem bs_cons_ne (c : UInt8) (r : List UInt8) : (bs (c :: r)).toList.isEmpty = false := by rw [bs_toList]; rfl
theorem bs_cons_at (c : UInt8) (r : List UInt8) (h : 0 < (bs (c :: r)).size) : (bs (c :: r))[0] = c := by
  have : (bs (c :: r)).data.toList[0]? = some c := by rw [bs_data]; rfl
  rw [List.getElem?_eq_getElem (by simpa using h), Option.some.injEq] at this
  exact this

set_option maxRecDepth 100000 in
set_option maxHeartbeats 2000000 in
theorem pfirst_any (l : List UInt8) (w : World) (E : Env w) (hl : l.length ≤ 4000000000) :
    Calls Tryz.prog 86 #[.string (bs l)] w fun e w' => e = .returned (fstV (stepT l)) ∧ Below w.heap.size w w' := by
  have C1 : Hid (∀ w, Env w → Calls Tryz.prog 101 #[.string (bs l)] w fun e w' => e = .returned (.tuple #[.string (bs (keyT l).1), .string (bs (keyT l).2.1), .bool (keyT l).2.2]) ∧ Below w.heap.size w w') := fun w E => cutKey_any l w E hl
  have hlen := keyT_len l
  unfold stepT
  rcases hk : keyT l with ⟨key, rest, ok⟩
  rw [hk] at C1 hlen
  simp only at C1 hlen ⊢
  clear hk
  cases ok with
  | false =>
    rw [if_neg (by simp)]
    go_enter Tryz.func86, Tryz.ntmps86
    go_wp2_with (go_at_call 101; refine (C1.out _ (E.below ((Below.refl _ _).alloc (Nat.le_refl _) _))).mono ?_; rintro e w1 ⟨rfl, hb1⟩; obtain ⟨hc1, hf1⟩ := bcell hb1)
    exact bodyPost_ret (v := fstV (([], 0), [], false)) (by simp [results, Tryz.results86, go_sem, hc1, fstV]; rfl) rfl ⟨rfl, ((((Below.refl _ _).alloc (Nat.le_refl _) _).trans (hb1.mono (by simp))).setCell (Nat.le_refl _) _).setCell (Nat.le_refl _) _⟩
  | true =>
    cases rest with
    | nil =>
      rw [if_neg (by simp)]
      have hT : (bs []).toList.isEmpty = true := by rw [bs_toList]; rfl
      go_enter Tryz.func86, Tryz.ntmps86
      go_wp2_with (go_at_call 101; refine (C1.out _ (E.below ((Below.refl _ _).alloc (Nat.le_refl _) _))).mono ?_; rintro e w1 ⟨rfl, hb1⟩; obtain ⟨hc1, hf1⟩ := bcell hb1)
      exact bodyPost_ret (v := fstV (([], 0), [], false)) (by simp [results, Tryz.results86, go_sem, hc1, fstV]; rfl) rfl ⟨rfl, ((((Below.refl _ _).alloc (Nat.le_refl _) _).trans (hb1.mono (by simp))).setCell (Nat.le_refl _) _).setCell (Nat.le_refl _) _⟩
    | cons c r =>
      have hT := bs_cons_ne c r
      have h0 : 0 < (bs (c :: r)).size := by rw [bs_size]; simp
      have h0' : (0 : Int) < (bs (c :: r)).size := by omega
      have hA := bs_cons_at c r
      have hsb : (bs (c :: r)).size ≤ 9000000000 := by rw [bs_size]; omega
      by_cases hc : c = 32
      · subst hc
        rw [if_pos (by simp), List.tail_cons]
        have hD : (bs (32 :: r)).extract 1 (bs (32 :: r)).size = bs r := by rw [bs_drop]; rfl
        have hn32 : (32 : UInt8).toNat = 32 := rfl
        have C2 : Hid (∀ w, Env w → Calls Tryz.prog 102 #[.string (bs r), .string ⟨#[10]⟩] w fun e w' => e = .returned (.tuple #[.string (bs (cutAt 10 r).1), .string (bs (cutAt 10 r).2.1), .bool (cutAt 10 r).2.2]) ∧ Below w.heap.size w w') := by
          intro w E
          have := cut_any (bs r) 10 w E (by rw [bs_size]; simp at hlen; omega)
          rw [bs_data] at this
          exact this
        have hlen2 := cutAt_len 10 r
        simp only [List.length_cons] at hlen
        rcases hc : cutAt 10 r with ⟨a, more, ok2⟩
        rw [hc] at C2 hlen2
        simp only at C2 hlen2 ⊢
        have C3 : Hid (∀ w, Env w → Calls Tryz.prog 103 #[.string (bs a)] w fun e w' => e = .returned (.tuple #[.int .i64 ((numB a).getD 0), .bool (numB a).isSome]) ∧ Below w.heap.size w w') := fun w E => number_pair a w E (by omega)
        clear hc hlen hlen2
        cases ok2 with
        | false =>
          rw [if_neg (by simp)]
          cases hn : numB a with
          | none =>
            rw [hn] at C3
            simp only [Option.getD_none, Option.isSome_none] at C3
            go_enter Tryz.func86, Tryz.ntmps86
            go_wp2_with (first | (go_at_call 101; refine (C1.out _ (E.below ((Below.refl _ _).alloc (Nat.le_refl _) _))).mono ?_; rintro e w1 ⟨rfl, hb1⟩; obtain ⟨hc1, hf1⟩ := bcell hb1; have hz1 : w.heap.size < w1.heap.size := by { have := hb1.size; simp at this; omega }; have E1 : Env w1 := E.below (((Below.refl _ _).alloc (Nat.le_refl _) _).trans (hb1.mono (by simp)))) | (go_at_call 102; refine (C2.out _ E1).mono ?_; rintro e w2 ⟨rfl, hb2⟩; obtain ⟨hc2, hf2⟩ := bcell hb2; have hz2 : w.heap.size < w2.heap.size := by { have := hb2.size; omega }; have E2 : Env w2 := E1.below hb2) | (go_at_call 103; refine (C3.out _ E2).mono ?_; rintro e w3 ⟨rfl, hb3⟩; obtain ⟨hc3, hf3⟩ := bcell hb3; have hz3 : w.heap.size < w3.heap.size := by { have := hb3.size; omega }))
            exact bodyPost_ret (v := fstV (([], 0), [], false)) (by simp [results, Tryz.results86, go_sem, hc1, hc2, hc3, hz1, hz2, fstV]; rfl) rfl ⟨rfl, ((((Below.refl _ _).alloc (Nat.le_refl _) _).trans ((below_trans (below_trans hb1 hb2) hb3).mono (by simp))).setCell (Nat.le_refl _) _).setCell (Nat.le_refl _) _⟩
          | some v =>
            rw [hn] at C3
            simp only [Option.getD_some, Option.isSome_some] at C3
            clear hn
            go_enter Tryz.func86, Tryz.ntmps86
            go_wp2_with (first | (go_at_call 101; refine (C1.out _ (E.below ((Below.refl _ _).alloc (Nat.le_refl _) _))).mono ?_; rintro e w1 ⟨rfl, hb1⟩; obtain ⟨hc1, hf1⟩ := bcell hb1; have hz1 : w.heap.size < w1.heap.size := by { have := hb1.size; simp at this; omega }; have E1 : Env w1 := E.below (((Below.refl _ _).alloc (Nat.le_refl _) _).trans (hb1.mono (by simp)))) | (go_at_call 102; refine (C2.out _ E1).mono ?_; rintro e w2 ⟨rfl, hb2⟩; obtain ⟨hc2, hf2⟩ := bcell hb2; have hz2 : w.heap.size < w2.heap.size := by { have := hb2.size; omega }; have E2 : Env w2 := E1.below hb2) | (go_at_call 103; refine (C3.out _ E2).mono ?_; rintro e w3 ⟨rfl, hb3⟩; obtain ⟨hc3, hf3⟩ := bcell hb3; have hz3 : w.heap.size < w3.heap.size := by { have := hb3.size; omega }))
            exact bodyPost_ret (v := fstV (([], 0), [], false)) (by simp [results, Tryz.results86, go_sem, hc1, hc2, hc3, hz1, hz2, fstV]; rfl) rfl ⟨rfl, ((((Below.refl _ _).alloc (Nat.le_refl _) _).trans ((below_trans (below_trans hb1 hb2) hb3).mono (by simp))).setCell (Nat.le_refl _) _).setCell (Nat.le_refl _) _⟩
        | true =>
          rw [if_pos rfl]
          cases hn : numB a with
          | none =>
            rw [hn] at C3
            simp only [Option.getD_none, Option.isSome_none] at C3
            simp only
            go_enter Tryz.func86, Tryz.ntmps86
            go_wp2_with (first | (go_at_call 101; refine (C1.out _ (E.below ((Below.refl _ _).alloc (Nat.le_refl _) _))).mono ?_; rintro e w1 ⟨rfl, hb1⟩; obtain ⟨hc1, hf1⟩ := bcell hb1; have hz1 : w.heap.size < w1.heap.size := by { have := hb1.size; simp at this; omega }; have E1 : Env w1 := E.below (((Below.refl _ _).alloc (Nat.le_refl _) _).trans (hb1.mono (by simp)))) | (go_at_call 102; refine (C2.out _ E1).mono ?_; rintro e w2 ⟨rfl, hb2⟩; obtain ⟨hc2, hf2⟩ := bcell hb2; have hz2 : w.heap.size < w2.heap.size := by { have := hb2.size; omega }; have E2 : Env w2 := E1.below hb2) | (go_at_call 103; refine (C3.out _ E2).mono ?_; rintro e w3 ⟨rfl, hb3⟩; obtain ⟨hc3, hf3⟩ := bcell hb3; have hz3 : w.heap.size < w3.heap.size := by { have := hb3.size; omega }))
            exact bodyPost_ret (v := fstV (([], 0), [], false)) (by simp [results, Tryz.results86, go_sem, hc1, hc2, hc3, hz1, hz2, fstV]; rfl) rfl ⟨rfl, ((((Below.refl _ _).alloc (Nat.le_refl _) _).trans ((below_trans (below_trans hb1 hb2) hb3).mono (by simp))).setCell (Nat.le_refl _) _).setCell (Nat.le_refl _) _⟩
          | some v =>
            rw [hn] at C3
            simp only [Option.getD_some, Option.isSome_some] at C3
            simp only
            clear hn
            go_enter Tryz.func86, Tryz.ntmps86
            go_wp2_with (first | (go_at_call 101; refine (C1.out _ (E.below ((Below.refl _ _).alloc (Nat.le_refl _) _))).mono ?_; rintro e w1 ⟨rfl, hb1⟩; obtain ⟨hc1, hf1⟩ := bcell hb1; have hz1 : w.heap.size < w1.heap.size := by { have := hb1.size; simp at this; omega }; have E1 : Env w1 := E.below (((Below.refl _ _).alloc (Nat.le_refl _) _).trans (hb1.mono (by simp)))) | (go_at_call 102; refine (C2.out _ E1).mono ?_; rintro e w2 ⟨rfl, hb2⟩; obtain ⟨hc2, hf2⟩ := bcell hb2; have hz2 : w.heap.size < w2.heap.size := by { have := hb2.size; omega }; have E2 : Env w2 := E1.below hb2) | (go_at_call 103; refine (C3.out _ E2).mono ?_; rintro e w3 ⟨rfl, hb3⟩; obtain ⟨hc3, hf3⟩ := bcell hb3; have hz3 : w.heap.size < w3.heap.size := by { have := hb3.size; omega }))
            exact bodyPost_ret (v := fstV ((key, v), more, true)) (by simp [results, Tryz.results86, go_sem, hc1, hc2, hc3, hz1, hz2, fstV]) rfl ⟨rfl, ((((Below.refl _ _).alloc (Nat.le_refl _) _).trans ((below_trans (below_trans hb1 hb2) hb3).mono (by simp))).setCell (Nat.le_refl _) _).setCell (Nat.le_refl _) _⟩
      · rw [if_neg (by simpa using hc)]
        have hc' : ((c.toNat : Int) == 32) = false := by
          simp only [beq_eq_false_iff_ne, ne_eq]
          intro e
          exact hc (UInt8.toNat_inj.1 (by have : (32 : UInt8).toNat = 32 := rfl
                                          omega))
        go_enter Tryz.func86, Tryz.ntmps86
        go_wp2_with (go_at_call 101; refine (C1.out _ (E.below ((Below.refl _ _).alloc (Nat.le_refl _) _))).mono ?_; rintro e w1 ⟨rfl, hb1⟩; obtain ⟨hc1, hf1⟩ := bcell hb1)
        exact bodyPost_ret (v := fstV (([], 0), [], false)) (by simp [results, Tryz.results86, go_sem, hc1, fstV]; rfl) rfl ⟨rfl, ((((Below.refl _ _).alloc (Nat.le_refl _) _).trans (hb1.mono (by simp))).setCell (Nat.le_refl _) _).setCell (Nat.le_refl _) _⟩
end Go.Proofs.YtmgpacenooncjaaGreatDoor.Pp
/- Contract of pair.Parse: the pairs of which a text is the text, or an error. -/
namespace Go.Proofs.YtmgpacenooncjaaGreatDoor.Pp
open Go.ChangeShapes Go.WideShapes Go.ChangeAt Go.RowKit
open Num

/-- The cells that pairs fill. -/
def flat (l : List (ByteArray × Int)) : List Value := l.flatMap fun p => [.string p.1, .int .i64 p.2]
theorem flat_length (l : List (ByteArray × Int)) : (flat l).length = l.length * 2 := by
  induction l with
  | nil => rfl
  | cons p l ih => simp only [flat, List.flatMap_cons, List.length_append, List.length_cons, List.length_nil] at *; omega
theorem flat_append (a b : List (ByteArray × Int)) : flat (a ++ b) = flat a ++ flat b := by simp [flat]
theorem flat_at (l : List (ByteArray × Int)) : ∀ (i : Nat) (h : i < l.length), (flat l)[i * 2]? = some (.string l[i].1) ∧ (flat l)[i * 2 + 1]? = some (.int .i64 l[i].2) := by
  induction l with
  | nil => intro i h; simp at h
  | cons p l ih =>
    intro i h
    cases i with
    | zero => exact ⟨rfl, rfl⟩
    | succ i =>
      have h' : i < l.length := by simpa using h
      have e : flat (p :: l) = .string p.1 :: .int .i64 p.2 :: flat l := rfl
      rw [e, show (i + 1) * 2 = i * 2 + 1 + 1 by omega]
      simpa using ih i h'
theorem isPairs_of {w : World} {base : Nat} {v : Value} {l : List (ByteArray × Int)} (h : w.ownsRow base 67 2 v l.length (flat l)) : IsPairs w v l := by
  rcases h.2 with ⟨rfl, h0⟩ | ⟨g, cap, cur, rfl, _⟩
  · exact ⟨none, 0, by rw [h0], fun i hi => by omega⟩
  · refine ⟨some ⟨g, 0, none⟩, cap, rfl, fun i hi => ⟨g, 0, rfl, ?_, ?_⟩⟩
    · rw [Nat.zero_add, h.cellAt (i * 2) (by omega)]; exact (flat_at l i hi).1
    · rw [Nat.zero_add, h.cellAt (i * 2 + 1) (by omega)]; exact (flat_at l i hi).2
theorem flat_one {p : ByteArray × Int} : ∀ u ∈ flat [p], u.oneCell' = true := by
  intro u hu
  simp only [flat, List.flatMap_cons, List.flatMap_nil, List.append_nil, List.mem_cons, List.not_mem_nil, or_false] at hu
  rcases hu with rfl | rfl <;> rfl

theorem owns_below {w w' : World} {base : Nat} {e : TypeId} {size : Nat} {v : Value} {n : Nat} {xs : List Value} (h : w.ownsRow base e size v n xs) (hb : Below w.heap.size w w') : w'.ownsRow base e size v n xs := by
  refine h.kept (row := none) ⟨hb.os, hb.tape, hb.output, hb.size, fun k hk _ => hb.block k hk⟩ ?_
  cases v.ownBlock with
  | none => exact .inl rfl
  | some k => exact .inr (by simp)
theorem lit_cells {w : World} {cs : Array Value} {e : TypeId} {g : Nat} (hg : g = w.heap.size) (hm : cs.size ≤ maxLen) : ∀ j u, cs.toList[j]? = some u → (w.alloc (.cells cs e)).cell? ((⟨g, 0, none⟩ : Addr).add j) = some u := by
  subst hg
  exact (World.ownsRow_lit (base := 0) (size := 1) (e := e) w cs cs.size (Nat.zero_le _) hm (by omega)).cells rfl
theorem stepT_lt (l : List UInt8) (h : (stepT l).2.2 = true) : (stepT l).2.1.length < l.length := by
  have h2 := (keyT_len l).2
  have h3 := cutAt_len 10 (keyT l).2.1.tail
  unfold stepT at h ⊢
  by_cases hk : (keyT l).2.2 = true ∧ (keyT l).2.1.head? = some 32
  · rw [if_pos hk] at h ⊢
    by_cases hc : (cutAt 10 (keyT l).2.1.tail).2.2 = true
    · rw [if_pos hc] at h ⊢
      cases hv : numB (cutAt 10 (keyT l).2.1.tail).1 with
      | none => rw [hv] at h; simp at h
      | some v =>
        simp only
        have h4 : 1 ≤ (keyT l).2.1.length := by
          cases hr : (keyT l).2.1 with
          | nil => rw [hr] at hk; simp at hk
          | cons a b => simp
        have h5 := h3.2.1
        rw [List.length_tail] at h5
        omega
    · rw [if_neg hc] at h; simp at h
  · rw [if_neg hk] at h; simp at h
/-- The pairs of a text. -/
def parseT : Nat → List UInt8 → Option (List (List UInt8 × Int))
  | 0, _ => none
  | f + 1, l => if l = [] then some [] else if (stepT l).2.2 then (parseT f (stepT l).2.1).map ((stepT l).1 :: ·) else none
def pairsL (l : List UInt8) : Option (List (List UInt8 × Int)) := parseT (l.length + 1) l
theorem parseT_more : ∀ (f : Nat) (l : List UInt8), l.length < f → parseT f l = pairsL l := by
  intro f
  induction f using Nat.strongRecOn with
  | ind f ih =>
    intro l hl
    cases f with
    | zero => omega
    | succ f =>
      unfold pairsL
      simp only [parseT]
      split
      · rfl
      · split
        · rename_i h
          have h1 := stepT_lt l h
          rw [ih f (by omega) _ (by omega)]
          by_cases hf : l.length < f
          · rw [ih l.length (by omega) _ (by omega)]
          · rw [show l.length = f by omega, ih f (by omega) _ (by omega)]
        · rfl
theorem pairsL_nil : pairsL [] = some [] := rfl
theorem pairsL_step {l : List UInt8} (hl : l ≠ []) (h : (stepT l).2.2 = true) : pairsL l = (pairsL (stepT l).2.1).map ((stepT l).1 :: ·) := by
  have h1 := stepT_lt l h
  rw [← parseT_more (l.length + 1) l (by omega)]
  simp only [parseT]
  rw [if_neg hl, if_pos h, parseT_more _ _ h1]
theorem pairsL_none {l : List UInt8} (hl : l ≠ []) (h : (stepT l).2.2 = false) : pairsL l = none := by
  rw [← parseT_more (l.length + 1) l (by omega)]
  simp only [parseT]
  rw [if_neg hl, if_neg (by simp [h])]
def conv (p : List UInt8 × Int) : ByteArray × Int := (bs p.1, p.2)
def szOf : Value → Nat
  | .string s => s.size
  | _ => 0
def errV (b : Bool) (n : Int) : Value := if b then .nilIface else .iface 70 (.int .i64 n)
def ParseSaid (l : List UInt8) (w : World) (e : Ending) (w' : World) : Prop :=
  (∃ v, e = .returned (.tuple #[v, errV (pairsL l).isSome 4]) ∧ IsPairs w' v (((pairsL l).getD []).map conv)) ∧ Below w.heap.size w w'
/-- The same, and the row is the call's own. -/
def ParseOwn (l : List UInt8) (w : World) (e : Ending) (w' : World) : Prop :=
  (∃ v, e = .returned (.tuple #[v, errV (pairsL l).isSome 4]) ∧ w'.ownsRow w.heap.size 67 2 v (((pairsL l).getD []).map conv).length (flat (((pairsL l).getD []).map conv))) ∧ Below w.heap.size w w'
theorem parseOwn_none {l : List UInt8} {w w' : World} (h : pairsL l = none) (hb : Below w.heap.size w w') : ParseOwn l w (.returned (.tuple #[.slice none 0 0, .iface 70 (.int .i64 4)])) w' :=
  ⟨⟨_, by rw [h]; rfl, by rw [h]; exact World.ownsRow_nil _ _ _ _⟩, hb⟩
theorem parseOwn_some {l : List UInt8} {w w' : World} {v : Value} {ps : List (List UInt8 × Int)} (h : pairsL l = some ps) (hb : Below w.heap.size w w') (hv : w'.ownsRow w.heap.size 67 2 v (ps.map conv).length (flat (ps.map conv))) : ParseOwn l w (.returned (.tuple #[v, .nilIface])) w' :=
  ⟨⟨_, by rw [h]; rfl, by rw [h]; exact hv⟩, hb⟩
theorem isPairs_nil (w : World) : IsPairs w (.slice none 0 0) [] := ⟨none, 0, rfl, fun i hi => absurd hi (by simp)⟩
theorem infoPair : (Tryz.prog.info? 67).map (fun i => (i.zero, i.size, i.bytes)) = some (some (.agg #[.string ⟨#[]⟩, .int .i64 0]), 2, 24) := by kernel_rfl

theorem owns_push {w : World} {base : Nat} {v : Value} {acc : List (List UInt8 × Int)} {key : List UInt8} {x : Int}
    (h : w.ownsRow base 67 2 v ((acc.map conv).length + 1) (flat (acc.map conv) ++ flat [(bs key, x)])) : w.ownsRow base 67 2 v ((acc ++ [(key, x)]).map conv).length (flat ((acc ++ [(key, x)]).map conv)) := by
  have e : (acc ++ [(key, x)]).map conv = acc.map conv ++ [(bs key, x)] := by simp [conv]
  rw [e, flat_append, List.length_append]
  exact h
theorem parseSaid_none {l : List UInt8} {w w' : World} (h : pairsL l = none) (hb : Below w.heap.size w w') : ParseSaid l w (.returned (.tuple #[.slice none 0 0, .iface 70 (.int .i64 4)])) w' :=
  ⟨⟨_, by rw [h]; rfl, by rw [h]; exact isPairs_nil _⟩, hb⟩
theorem parseSaid_some {l : List UInt8} {w w' : World} {v : Value} {ps : List (List UInt8 × Int)} (h : pairsL l = some ps) (hb : Below w.heap.size w w') (hv : IsPairs w' v (ps.map conv)) : ParseSaid l w (.returned (.tuple #[v, .nilIface])) w' :=
  ⟨⟨_, by rw [h]; rfl, by rw [h]; exact hv⟩, hb⟩
set_option maxRecDepth 100000 in
set_option maxHeartbeats 2000000 in
theorem parse_own (l : List UInt8) (w : World) (E : Env w) (hl : l.length ≤ 100000000) :
    Calls Tryz.prog 56 #[.string (bs l)] w fun e w' => ParseOwn l w e w' := by
  obtain ⟨i0, hi, hz0, hz1, hz2⟩ := info_parts infoPair
  go_enter Tryz.func56, Tryz.ntmps56
  go_wp2
  go_loopw [0, 4] (fun sv lv wr => ∃ (r : List UInt8) (acc : List (List UInt8 × Int)), sv = .string (bs r) ∧ wr.ownsRow w.heap.size 67 2 lv (acc.map conv).length (flat (acc.map conv)) ∧ Below w.heap.size w wr ∧ acc.length + r.length ≤ l.length ∧ Hid (pairsL l = (pairsL r).map (acc ++ ·))) (fun sv _ _ => szOf sv)
  case atStart =>
    refine ⟨l, [], rfl, World.ownsRow_nil _ _ _ _, Below.refl _ _, by simp, ?_⟩
    show pairsL l = _
    simp
  case round =>
    obtain ⟨r, acc, rfl, hown, hb, hlen, HP⟩ := hrel
    have Er : Env wr := E.below hb
    cases hr : r with
    | nil =>
      subst hr
      have hT : (bs []).toList.isEmpty = true := by rw [bs_toList]; rfl
      have hfin : Hid (pairsL l = some acc) := by
        show _ = _
        rw [HP.out, pairsL_nil]; simp
      have hv := Lib.hid hown
      clear hown
      go_wp2
      go_ret2
      exact parseOwn_some hfin.out hb hv.out
    | cons c r' =>
      rw [← hr]
      have hT : (bs r).toList.isEmpty = false := by rw [hr]; exact bs_cons_ne c r'
      have hne : Hid (r ≠ []) := by rw [hr]; exact List.cons_ne_nil _ _
      clear hr
      have C1 : Hid (∀ w, Env w → Calls Tryz.prog 86 #[.string (bs r)] w fun e w' => e = .returned (fstV (stepT r)) ∧ Below w.heap.size w w') := fun w E => pfirst_any r w E (by omega)
      have hst := Lib.hid (stepT_lt r)
      have hps := Lib.hid (fun h => pairsL_step (l := r) hne.out h)
      have hpn := Lib.hid (fun h => pairsL_none (l := r) hne.out h)
      rcases hs : stepT r with ⟨⟨key, v⟩, more, ok⟩
      rw [hs] at C1 hst hps hpn
      simp only [fstV] at C1 hst hps hpn
      clear hs
      cases ok with
      | false =>
        go_wp2_with (go_at_call 86; refine (C1.out _ Er).mono ?_; rintro e w1 ⟨rfl, hb1⟩)
        go_ret2
        refine parseOwn_none ?_ ((hb.trans (hb1.mono hb.size)).alloc (Nat.le_trans hb.size hb1.size) _)
        rw [HP.out, hpn.out (by simp)]; rfl
      | true =>
        go_wp2_with (first | (go_at_call 86; refine (C1.out _ Er).mono ?_; rintro e w1 ⟨rfl, hb1⟩) | (at_builtin; refine Hid.out ?_))
        refine Lib.hid ?_
        have hbs := hb.size
        have hbs1 := hb1.size
        refine wpList_append_own _ rfl (.tmp 19) (.tmp 21) 42 rfl w.heap.size 67 i0 (.agg #[.string ⟨#[]⟩, .int .i64 0]) 2 24 Tryz.underlying42 hi hz0 hz1 hz2 rfl (by decide) _ _ _ rfl (((owns_below hown hb1).alloc _).alloc _) ⟨w1.heap.size + 1, 0, none⟩ 1 1 (flat [(bs key, v)]) rfl rfl ?c1 flat_one ?c2 ?c3 ?c4 ?_
        case c1 => exact lit_cells (by simp) (show 2 ≤ maxLen by decide)
        case c2 => rw [List.length_map]; unfold maxLen; omega
        case c3 => rw [List.length_map]; omega
        case c4 => simp; omega
        intro v2 w2 hown2 hg2 _
        have hb2 : Below w.heap.size w w2 := (((hb.trans (hb1.mono hb.size)).alloc (by omega) _).alloc (by simp; omega) _).grown hg2 (by simp; omega) (fun k hk => (hown.lt k hk).1)
        have hown3 := owns_push hown2
        have hlt := hst.out (by simp)
        have HP2 : Hid (pairsL l = (pairsL more).map ((acc ++ [(key, v)]) ++ ·)) := by
          show _ = _
          rw [HP.out, hps.out (by simp), Option.map_map]
          congr 1
          funext x
          simp
        clear hown hown2 hg2 hb1 HP hps hpn hst
        go_wp2
        go_roundw
        case rel => exact ⟨more, acc ++ [(key, v)], rfl, hown3, hb2, by simp; omega, HP2⟩
        case measure => simp only [szOf, bs_size]; exact hlt
theorem parse_any (l : List UInt8) (w : World) (E : Env w) (hl : l.length ≤ 100000000) :
    Calls Tryz.prog 56 #[.string (bs l)] w fun e w' => ParseSaid l w e w' :=
  (parse_own l w E hl).mono fun _ _ ⟨⟨v, h1, h2⟩, h3⟩ => ⟨⟨v, h1, isPairs_of h2⟩, h3⟩
end Go.Proofs.YtmgpacenooncjaaGreatDoor.Pp
/- Contract of PairsText of the document's answer: the text of pairs. -/
namespace Go.Proofs.YtmgpacenooncjaaGreatDoor.Pp
open Go.ChangeShapes Go.WideShapes Go.ChangeAt Go.RowKit
open Num

/-- A pair's text; the text of pairs. -/
def text1 (p : ByteArray × Int) : List UInt8 := Lib.itoa p.1.size ++ [58] ++ p.1.data.toList ++ [32] ++ Lib.itoa p.2 ++ [10]
def textL (l : List (ByteArray × Int)) : List UInt8 := l.flatMap text1
theorem textL_step (l : List (ByteArray × Int)) (k : Nat) (h : k < l.length) : textL (l.take (k + 1)) = textL (l.take k) ++ text1 l[k] := by
  unfold textL
  rw [List.take_succ_eq_append_getElem h, List.flatMap_append]; simp
theorem bs_append (a b : List UInt8) : bs a ++ bs b = bs (a ++ b) := bytes_append a b
theorem itoa_len (n : Int) (h0 : -9223372036854775808 ≤ n) (h1 : n ≤ 9223372036854775807) : (Lib.itoa n).length ≤ 20 := by
  by_cases h : n < 0
  · unfold Lib.itoa
    rw [if_pos h, List.length_cons]
    have := nDig_le n.natAbs (by omega)
    omega
  · have := itoa_len_le n (by omega) h1
    omega
theorem text1_len (p : ByteArray × Int) (hp : p.1.size ≤ 1000) (h0 : -9223372036854775808 ≤ p.2) (h1 : p.2 ≤ 9223372036854775807) : (text1 p).length ≤ 1100 := by
  unfold text1
  have a := itoa_len p.1.size (by omega) (by omega)
  have b := itoa_len p.2 h0 h1
  have c : p.1.data.toList.length = p.1.size := Array.length_toList
  simp only [List.length_append, List.length_cons, List.length_nil]
  omega
/-- Pairs within bounds. -/
def Fits (l : List (ByteArray × Int)) : Prop := ∀ p ∈ l, p.1.size ≤ 1000 ∧ -9223372036854775808 ≤ p.2 ∧ p.2 ≤ 9223372036854775807
theorem textL_len {l : List (ByteArray × Int)} (h : Fits l) : (textL l).length ≤ 1100 * l.length := by
  induction l with
  | nil => simp [textL]
  | cons p l ih =>
    have h1 := h p (List.mem_cons_self ..)
    have h2 := ih (fun q hq => h q (List.mem_cons_of_mem _ hq))
    have h3 := text1_len p h1.1 h1.2.1 h1.2.2
    have e : textL (p :: l) = text1 p ++ textL l := by simp [textL]
    rw [e, List.length_append, List.length_cons]
    omega

theorem text1_bs (x : List UInt8) (p : ByteArray × Int) : bs x ++ bs (Lib.itoa (p.1.size : Int)) ++ ⟨#[58]⟩ ++ p.1 ++ ⟨#[32]⟩ ++ bs (Lib.itoa p.2) ++ ⟨#[10]⟩ = bs (x ++ text1 p) := by
  obtain ⟨s, n⟩ := p
  simp only [text1]
  generalize Lib.itoa (s.size : Int) = i
  generalize Lib.itoa n = j
  apply ByteArray.ext
  apply Array.ext'
  simp [bs]
theorem text_next (l : List (ByteArray × Int)) (k : Nat) (h : k < l.length) : bs (textL (l.take k)) ++ bs (Lib.itoa (l[k].1.size : Int)) ++ ⟨#[58]⟩ ++ l[k].1 ++ ⟨#[32]⟩ ++ bs (Lib.itoa l[k].2) ++ ⟨#[10]⟩ = bs (textL (l.take (k + 1))) := by
  rw [textL_step l k h]
  exact text1_bs _ _
set_option maxRecDepth 100000 in
set_option maxHeartbeats 400000 in
theorem pairsText_any (v : Value) (l : List (ByteArray × Int)) (w : World) (h : IsPairs w v l) (hf : Fits l) (hl : l.length ≤ 60000) :
    Calls Tryz.prog 63 #[v] w fun e w' => e = .returned (.string (bs (textL l))) ∧ Below w.heap.size w w' := by
  obtain ⟨a, cap, rfl, hc⟩ := h
  have hmix : Tryz.prog.follows .mixedOrders = true := by kernel_rfl
  go_enter Tryz.func63, Tryz.ntmps63
  go_wp2
  go_loopw [3, 4] (fun s i wr => ∃ k : Nat, k ≤ l.length ∧ i = .int .i64 k ∧ s = .string (bs (textL (l.take k))) ∧ Below w.heap.size w wr) (fun _ i _ => l.length - (intOf i).toNat)
  case atStart => exact ⟨0, Nat.zero_le _, rfl, rfl, Below.refl _ _⟩
  case round =>
    obtain ⟨k, hk, rfl, rfl, hb⟩ := hrel
    by_cases hlt : k < l.length
    · obtain ⟨b, off, rfl, c0, c1⟩ := hc k hlt
      have hf1 := hf l[k] (List.getElem_mem hlt)
      have hlen : (textL (l.take k)).length ≤ 1100 * 60000 := by
        have h1 := textL_len (l := l.take k) (fun p hp => hf p (List.mem_of_mem_take hp))
        rw [List.length_take] at h1
        omega
      have D1 : ∀ w, Calls Tryz.prog 93 #[.int .i64 (l[k].1.size : Int)] w fun e w' => e = .returned (.string (bs (Lib.itoa (l[k].1.size : Int)))) ∧ Below w.heap.size w w' := fun w => decimal_any _ w (by omega) (by omega)
      have D2 : ∀ w, Calls Tryz.prog 93 #[.int .i64 l[k].2] w fun e w' => e = .returned (.string (bs (Lib.itoa l[k].2))) ∧ Below w.heap.size w w' := fun w => decimal_any _ w hf1.2.1 hf1.2.2
      have cD1 : Hid (∀ d os, Calls Tryz.prog 93 #[.int .i64 (l[k].1.size : Int)] (Sort.grow (redrawn wr d) os) fun e w'' => e = .returned (.string (bs (Lib.itoa (l[k].1.size : Int)))) ∧ ∃ p : Regrown, w'' = Sort.grow (redrawn wr p.d) p.os) := fun d os => Calls.regrown_of (D1 _)
      have cD2 : Hid (∀ d os, Calls Tryz.prog 93 #[.int .i64 l[k].2] (Sort.grow (redrawn wr d) os) fun e w'' => e = .returned (.string (bs (Lib.itoa l[k].2))) ∧ ∃ p : Regrown, w'' = Sort.grow (redrawn wr p.d) p.os) := fun d os => Calls.regrown_of (D2 _)
      have k0 := cell_regrown (cell_below c0 hb)
      have k1 := cell_regrown (cell_below c1 hb)
      have hi1 := itoa_len (l[k].1.size : Int) (by omega) (by omega)
      have hi2 := itoa_len l[k].2 hf1.2.1 hf1.2.2
      have HE := Lib.hid (text_next l k hlt)
      have s1 := bs_size (textL (l.take k))
      have s2 := bs_size (Lib.itoa (l[k].1.size : Int))
      have s3 := bs_size (Lib.itoa l[k].2)
      rw [← s1] at hlen
      rw [← s2] at hi1
      rw [← s3] at hi2
      clear D1 D2 c0 c1 hc s1 s2 s3
      generalize l[k] = pp at *
      obtain ⟨s, m⟩ := pp
      simp only at *
      generalize bs (textL (l.take k)) = X at *
      generalize bs (Lib.itoa (s.size : Int)) = I at *
      generalize bs (Lib.itoa m) = J at *
      have n1 : ¬ 9223372036854775807 < X.size + I.size := by omega
      have n2 : ¬ 9223372036854775807 < X.size + I.size + 1 := by omega
      have n3 : ¬ 9223372036854775807 < X.size + I.size + 1 + s.size := by omega
      have n4 : ¬ 9223372036854775807 < X.size + I.size + 1 + s.size + 1 := by omega
      have n5 : ¬ 9223372036854775807 < X.size + I.size + 1 + s.size + 1 + J.size := by omega
      have n6 : ¬ 9223372036854775807 < X.size + I.size + 1 + s.size + 1 + J.size + 1 := by omega
      go_wp2
      refine wp_region_quiet_below hmix (by kernel_rfl) ?_
      repeat (quiet_step (first | (go_at_call_of 93 (Value.int IntKind.i64 m); exact cD2.out _ _) | (go_at_call 93; exact cD1.out _ _)))
      refine wpQuiet_nil ?_
      intro _ hw'
      obtain ⟨⟨dq, osq⟩, hw''⟩ := hw'
      subst hw''
      have hbb : Below w.heap.size w (Sort.grow (redrawn wr dq) osq) := hb.trans ((below_regrown wr dq osq).mono hb.size)
      generalize Sort.grow (redrawn wr dq) osq = w2 at *
      clear n1 n2 n3 n4 n5 n6 k0 k1 cD1 cD2
      go_wp2
      go_roundw
      case rel => exact ⟨k + 1, by omega, by go_num, by rw [HE.out], hbb⟩
      case measure => simp [intOf]; omega
    · go_wp2
      go_ret
      rw [List.take_of_length_le (by omega)]
      exact ⟨rfl, hb⟩
end Go.Proofs.YtmgpacenooncjaaGreatDoor.Pp
/- What a job makes: bounds; what a part gives to a slice. -/
namespace Go.Proofs.YtmgpacenooncjaaGreatDoor
open Go.ChangeShapes Go.WideShapes Go.ChangeAt Go.RowKit
theorem made_small {j : Jb} (h : jobFault j = 0) {lines : List (List UInt8)} (hl : ∀ x ∈ lines, x.length ≤ 1000) {p : ByteArray × Int} (hp : p ∈ madeOf j lines) : p.1.size ≤ 20 ∧ -70000 ≤ p.2 ∧ p.2 ≤ 70000 := by
  refine ⟨made_key hp, ?_⟩
  unfold madeOf at hp
  rw [List.mem_flatMap] at hp
  obtain ⟨x, hx, hp⟩ := hp
  unfold rulesP at hp
  rw [List.mem_flatMap] at hp
  obtain ⟨r, hr, hp⟩ := hp
  unfold ruleP at hp
  rw [List.mem_map] at hp
  obtain ⟨R, hR, rfl⟩ := hp
  have hin := (rcIn_look (rcIn_of x 1000 (hl x hx)) (List.mem_filter.1 hR).1).1
  have rf := rulesFault_all (jobFault_parts h).2.2.2.2.2.2 r hr
  have h1 := fault_far (rlIn_of rf).val hin
  have h2 := num_far R r.val
  unfold pairL Pp.firstI
  simp only
  split <;> omega
theorem made_fits {j : Jb} (h : jobFault j = 0) {lines : List (List UInt8)} (hl : ∀ x ∈ lines, x.length ≤ 1000) : Pp.Fits (madeOf j lines) := fun p hp => by
  have := made_small h hl hp
  omega
theorem made_len (j : Jb) (K : Nat) (lines : List (List UInt8)) (h4 : j.rules.length ≤ 4) (hl : ∀ x ∈ lines, x.length ≤ K) : (madeOf j lines).length ≤ lines.length * (4 * (K + 1)) := by
  induction lines with
  | nil => simp [madeOf]
  | cons x l ih =>
    have h1 := rulesP_len j.rules j.fold x
    have h2 := hl x (by simp)
    have h3 := Nat.mul_le_mul h4 (show x.length + 1 ≤ K + 1 by omega)
    have h5 := ih fun y hy => hl y (by simp [hy])
    have e : madeOf j (x :: l) = rulesP j.rules j.fold x ++ madeOf j l := by simp [madeOf]
    rw [e, List.length_append, List.length_cons, Nat.succ_mul]
    omega
/-- What a part gives to a slice. -/
def partOf (fo : Int) (ea : Bool) (ns i : Nat) (j : Jb) (p : List (List UInt8)) : List (ByteArray × Int) := finL ea fo (inSlice ns i (Pp.Tot.srt (madeOf j p)))
theorem part_len (fo : Int) (ea : Bool) (ns i : Nat) (j : Jb) (p : List (List UInt8)) : (partOf fo ea ns i j p).length ≤ (madeOf j p).length := by
  unfold partOf
  have h1 := (fin_len (fo := fo) (ea := ea) (inSlice ns i (Pp.Tot.srt (madeOf j p)))).1
  have h2 : (inSlice ns i (Pp.Tot.srt (madeOf j p))).length ≤ (Pp.Tot.srt (madeOf j p)).length := List.length_filter_le _ _
  rw [Pp.Tot.srt_len] at h2
  omega
end Go.Proofs.YtmgpacenooncjaaGreatDoor
/- Contracts of strings.Builder's writers at this program, and of pair.Text. -/
namespace Go.Proofs.YtmgpacenooncjaaGreatDoor.Pp
open Go.ChangeShapes Go.WideShapes Go.ChangeAt Go.RowKit
open Num

theorem sizeB : (Tryz.prog.info? 129).map (·.size) = some 2 := by kernel_rfl
theorem infoByte : (Tryz.prog.info? 5).map (fun i => (i.zero, i.size, i.bytes)) = some (some (.int .u8 0), 1, 1) := by kernel_rfl

set_option maxRecDepth 100000 in
theorem copyCheck_fresh (b : Nat) (w : World) (h0 : w.cell? ⟨b, 0, none⟩ = some (.pointer none)) (hsh : w.shape? b = some (129, 2)) (hfz : w.frozen? ⟨b, 0, none⟩ = false) :
    Calls Tryz.prog 104 #[.pointer (some ⟨b, 0, none⟩)] w fun e w' => e = .returned (.tuple #[]) ∧ w' = w.setCell ⟨b, 0, none⟩ (.pointer (some ⟨b, 0, none⟩)) := by
  obtain ⟨j, hj, hjs⟩ := Option.map_eq_some_iff.1 sizeB
  go_enter Tryz.func104, Tryz.ntmps104
  go_wp2
  rw [Lib.run_to_unsafe w ⟨b, 0, none⟩ Tryz.underlying126 Tryz.underlying152 hj (by rw [hjs]; decide) hsh (Nat.zero_lt_succ 1)]
  simp only [Result.andThen]
  rw [Oper.upon_value]
  go_wp2
  rw [run_callFunc_extern Tryz.func121 (by kernel_rfl) (by kernel_rfl) (by kernel_rfl) (e := Extern.AbiNoEscape.same) (by kernel_rfl)]
  rw [Lib.run_noEscape]
  simp only [Result.andThen]
  rw [Oper.upon_value]
  go_wp2
  rw [Lib.run_from_unsafe w ⟨b, 0, none⟩ Tryz.underlying152 Tryz.underlying126 hj hsh (by kernel_rfl)]
  simp only [Result.andThen]
  rw [Oper.upon_value]
  go_wp2
  go_end0
  exact ⟨rfl, rfl⟩
set_option maxRecDepth 100000 in
theorem copyCheck_used (b : Nat) (w : World) (h0 : w.cell? ⟨b, 0, none⟩ = some (.pointer (some ⟨b, 0, none⟩))) :
    Calls Tryz.prog 104 #[.pointer (some ⟨b, 0, none⟩)] w fun e w' => e = .returned (.tuple #[]) ∧ w' = w := by
  obtain ⟨j, hj, _⟩ := Option.map_eq_some_iff.1 sizeB
  go_enter Tryz.func104, Tryz.ntmps104
  go_wp2
  rw [Lib.run_neq_ptr_same w _ Tryz.underlying126 hj]
  go_wp2
  go_end0
  exact ⟨rfl, rfl⟩
theorem copyCheck_any (B b : Nat) (xs : List Value) (w : World) (h : Lib.IsBuilderF 129 5 B b xs w) :
    Calls Tryz.prog 104 #[.pointer (some ⟨b, 0, none⟩)] w fun e w' => e = .returned (.tuple #[]) ∧ (Lib.BuilderAtF 129 5 B b (.pointer (some ⟨b, 0, none⟩)) xs w' ∧ Below B w w' ∧ Lib.OthersKept 5 (some b) w w') := by
  rcases h with h | h
  · refine (copyCheck_fresh b w h.cell0 h.shape h.frozen0).mono ?_
    rintro e w' ⟨rfl, rfl⟩
    exact ⟨rfl, h.used _, (Below.refl B w).setCell (p := ⟨b, 0, none⟩) h.1 _, (Lib.OthersKept.refl _ _ w).setCell ⟨b, 0, none⟩ rfl _⟩
  · refine (copyCheck_used b w h.cell0).mono ?_
    rintro e w' ⟨rfl, rfl⟩
    exact ⟨rfl, h, Below.refl B _, Lib.OthersKept.refl _ _ _⟩

set_option maxHeartbeats 2000000 in
set_option maxRecDepth 100000 in
theorem writeByte_any (B b : Nat) (xs : List Value) (c : Int) (w : World) (h : Lib.IsBuilderF 129 5 B b xs w) (hlen : xs.length + 1 ≤ 140737488355328) (hBw : B ≤ w.heap.size) :
    Calls Tryz.prog 89 #[.pointer (some ⟨b, 0, none⟩), .int .u8 c] w fun e w' => e = .returned .nilIface ∧ (Lib.BuilderAtF 129 5 B b (.pointer (some ⟨b, 0, none⟩)) (xs ++ [.int .u8 c]) w' ∧ Below B w w' ∧ Lib.OthersKept 5 (some b) w w') := by
  obtain ⟨i0, hi, hz0, hz1, hz2⟩ := info_parts infoByte
  go_enter Tryz.func89, Tryz.ntmps89
  go_wp2_with (go_at_call 104; refine (copyCheck_any B b xs _ h).mono ?_)
  rintro e w1 ⟨rfl, h1, hb1, hk1⟩
  obtain ⟨hB, v, hbk, hown, hne⟩ := h1
  have c0 : w1.cell? ⟨b, 0, none⟩ = some (.pointer (some ⟨b, 0, none⟩)) := by rw [Lib.cell_of_heap hbk]; rfl
  have c1 : w1.cell? ⟨b, 1, none⟩ = some v := by rw [Lib.cell_of_heap hbk]; rfl
  go_wp2_with (at_builtin; refine wpList_append_ownF _ rfl _ _ 127 rfl B 5 i0 (.int .u8 0) 1 1 Tryz.underlying127 hi hz0 hz1 hz2 rfl (by decide) _ _ _ rfl (hown.alloc _) ⟨w1.heap.size, 0, none⟩ 1 1 [.int .u8 c] rfl rfl ?c1 ?c2 ?c3 ?c4 ?c5 ?_)
  case c1 =>
    intro j u hj
    match j, hj with
    | 0, hj => simp at hj; subst hj; simp [Addr.add]
  case c2 => intro u hu; simp at hu; subst hu; rfl
  case c3 => unfold maxLen; omega
  case c4 => omega
  case c5 => have := hb1.size; simp; omega
  intro v' w2 hown' hgrow _
  have hlt : b < w1.heap.size := by
    rcases Nat.lt_or_ge b w1.heap.size with h' | h'
    · exact h'
    · simp [Array.getElem?_eq_none h'] at hbk
  have hb2 : w2.heap[b]? = some (.cells #[.pointer (some ⟨b, 0, none⟩), v] 129 (0, 0)) := by
    rw [hgrow.block b (by simp; omega) (fun e => hne e.symm), Lib.alloc_old w1 _ b hlt]
    exact hbk
  have d0 : w2.cell? ⟨b, 0, none⟩ = some (.pointer (some ⟨b, 0, none⟩)) := by rw [Lib.cell_of_heap hb2]; rfl
  have d1 : w2.cell? ⟨b, 1, none⟩ = some v := by rw [Lib.cell_of_heap hb2]; rfl
  have f1 : w2.frozen? ⟨b, 1, none⟩ = false := Lib.frozen_of_heap hb2 1
  obtain ⟨g, cap, rfl⟩ : ∃ g cap, v' = .slice (some ⟨g, 0, none⟩) (xs.length + 1) cap := by
    rcases hown'.2 with ⟨_, h0⟩ | ⟨g, cap, cur, fz, hv, _⟩
    · omega
    · exact ⟨g, cap, hv⟩
  go_wp2
  go_ret
  refine ⟨rfl, ?_, ?_, ((hk1.alloc _).grown hgrow (Lib.ownsRowF_kind (hown.alloc _))).setCell ⟨b, 1, none⟩ rfl _⟩
  · exact Lib.BuilderAtF.put (T := 129) (e := 5) hB hb2 (bs' := xs ++ [.int .u8 c]) (by simpa using hown') (by decide)
  · exact ((hb1.alloc (by have := hb1.size; omega) _).grown hgrow (by have := hb1.size; simp; omega) (fun k hk => (hown.lt k hk).1)).setCell (p := ⟨b, 1, none⟩) hB _

set_option maxHeartbeats 2000000 in
set_option maxRecDepth 100000 in
theorem writeString_any (B b : Nat) (xs : List Value) (s : ByteArray) (w : World) (h : Lib.IsBuilderF 129 5 B b xs w) (hlen : xs.length + s.size ≤ 140737488355328) (hBw : B ≤ w.heap.size) :
    Calls Tryz.prog 87 #[.pointer (some ⟨b, 0, none⟩), .string s] w fun e w' => e = .returned (.tuple #[.int .i64 s.size, .nilIface]) ∧ (Lib.BuilderAtF 129 5 B b (.pointer (some ⟨b, 0, none⟩)) (xs ++ Lib.strCells s) w' ∧ Below B w w' ∧ Lib.OthersKept 5 (some b) w w') := by
  obtain ⟨i0, hi, hz0, hz1, hz2⟩ := info_parts infoByte
  go_enter Tryz.func87, Tryz.ntmps87
  go_wp2_with (go_at_call 104; refine (copyCheck_any B b xs _ h).mono ?_)
  rintro e w1 ⟨rfl, h1, hb1, hk1⟩
  obtain ⟨hB, v, hbk, hown, hne⟩ := h1
  have c0 : w1.cell? ⟨b, 0, none⟩ = some (.pointer (some ⟨b, 0, none⟩)) := by rw [Lib.cell_of_heap hbk]; rfl
  have c1 : w1.cell? ⟨b, 1, none⟩ = some v := by rw [Lib.cell_of_heap hbk]; rfl
  go_wp2_with (at_builtin; refine Lib.wpList_append_own_stringF _ rfl _ _ 127 9 rfl B 5 i0 Tryz.underlying127 Tryz.underlying9 hi hz0 hz1 hz2 _ _ _ rfl hown s rfl ?c3 ?c4 ?c5 ?_)
  case c3 => unfold maxLen; omega
  case c4 => omega
  case c5 => have := hb1.size; omega
  intro v' w2 hown' hgrow _
  have hlt : b < w1.heap.size := by
    rcases Nat.lt_or_ge b w1.heap.size with h' | h'
    · exact h'
    · simp [Array.getElem?_eq_none h'] at hbk
  have hb2 : w2.heap[b]? = some (.cells #[.pointer (some ⟨b, 0, none⟩), v] 129 (0, 0)) := by
    rw [hgrow.block b hlt (fun e => hne e.symm)]
    exact hbk
  have d0 : w2.cell? ⟨b, 0, none⟩ = some (.pointer (some ⟨b, 0, none⟩)) := by rw [Lib.cell_of_heap hb2]; rfl
  have d1 : w2.cell? ⟨b, 1, none⟩ = some v := by rw [Lib.cell_of_heap hb2]; rfl
  have f1 : w2.frozen? ⟨b, 1, none⟩ = false := Lib.frozen_of_heap hb2 1
  obtain ⟨ao, n', cap, rfl⟩ : ∃ ao n' cap, v' = .slice ao n' cap := by
    rcases hown'.2 with ⟨hv, _⟩ | ⟨g, cap, cur, fz, hv, _⟩
    · exact ⟨_, _, _, hv⟩
    · exact ⟨_, _, _, hv⟩
  go_wp2
  go_ret2
  refine ⟨rfl, ?_, ?_, (hk1.grown hgrow (Lib.ownsRowF_kind hown)).setCell ⟨b, 1, none⟩ rfl _⟩
  · exact Lib.BuilderAtF.put (T := 129) (e := 5) hB hb2 (bs' := xs ++ Lib.strCells s) (by simpa [Lib.strCells_length] using hown') (by decide)
  · exact (hb1.grown hgrow (by have := hb1.size; omega) (fun k hk => (hown.lt k hk).1)).setCell (p := ⟨b, 1, none⟩) hB _

theorem builder_below {B b : Nat} {p : Value} {xs : List Value} {w w' : World} (h : Lib.BuilderAtF 129 5 B b p xs w) (hb : Below w.heap.size w w') : Lib.BuilderAtF 129 5 B b p xs w' := by
  obtain ⟨hB, v, hbk, hown, hne⟩ := h
  have keep : ∀ (k : Nat) (o : Obj), w.heap[k]? = some o → w'.heap[k]? = some o := by
    intro k o hk
    rw [hb.block k (Array.getElem?_eq_some_iff.1 hk).1]; exact hk
  refine ⟨hB, v, keep _ _ hbk, ⟨hown.1, ?_⟩, hne⟩
  rcases hown.2 with h | ⟨g, cap, cur, fz, hv, h1, h2, h3⟩
  · exact .inl h
  · exact .inr ⟨g, cap, cur, fz, hv, h1, keep _ _ h2, h3⟩
/-- Where a round of pair.Text stands: what the builder holds, and the round's own pair. -/
structure St (B P : Nat) (s : ByteArray) (m : Int) (x : List UInt8) (w0 w : World) : Prop where
  bld : Lib.IsBuilderF 129 5 B B (Lib.byteCells x) w
  below : Below B w0 w
  cel : w.heap[P]? = some (.cells #[.string s, .int .i64 m] 67 (0, 0))
  lt : B < P
  le : B ≤ w.heap.size
theorem St.next {B P : Nat} {s : ByteArray} {m : Int} {x : List UInt8} {w0 w w' : World} (h : St B P s m x w0 w) (hb : Below w.heap.size w w') : St B P s m x w0 w' := by
  refine ⟨?_, h.below.trans (hb.mono h.le), ?_, h.lt, Nat.le_trans h.le hb.size⟩
  · rcases h.bld with h' | h'
    · exact .inl (builder_below h' hb)
    · exact .inr (builder_below h' hb)
  · rw [hb.block P (Array.getElem?_eq_some_iff.1 h.cel).1]; exact h.cel
theorem St.wrote {B P : Nat} {s : ByteArray} {m : Int} {x y : List UInt8} {w0 w w' : World} (h : St B P s m x w0 w) (hA : Lib.BuilderAtF 129 5 B B (.pointer (some ⟨B, 0, none⟩)) (Lib.byteCells y) w') (hb : Below B w w') (hk : Lib.OthersKept 5 (some B) w w') : St B P s m y w0 w' := by
  have hlt := h.lt
  refine ⟨.inr hA, h.below.trans hb, hk P _ h.cel (by simp; omega) (by intro c fz e; simp at e), h.lt, Nat.le_trans h.le hb.size⟩
theorem St.c0 {B P : Nat} {s : ByteArray} {m : Int} {x : List UInt8} {w0 w : World} (h : St B P s m x w0 w) : w.cell? ⟨P, 0, none⟩ = some (.string s) := by rw [Lib.cell_of_heap h.cel]; rfl
theorem St.c1 {B P : Nat} {s : ByteArray} {m : Int} {x : List UInt8} {w0 w : World} (h : St B P s m x w0 w) : w.cell? ⟨P, 1, none⟩ = some (.int .i64 m) := by rw [Lib.cell_of_heap h.cel]; rfl
theorem cells_byte (x : List UInt8) (c : UInt8) : Lib.byteCells x ++ [.int .u8 c.toNat] = Lib.byteCells (x ++ [c]) := by simp [Lib.byteCells]
theorem cells_str (x : List UInt8) (s : ByteArray) : Lib.byteCells x ++ Lib.strCells s = Lib.byteCells (x ++ s.data.toList) := by
  rw [Lib.byteCells_append]; rfl
theorem ws_st {B P : Nat} {s : ByteArray} {m : Int} {x : List UInt8} {w0 w : World} (h : St B P s m x w0 w) (hx : x.length ≤ 100000000) (t : ByteArray) (ht : t.size ≤ 100000000) :
    Calls Tryz.prog 87 #[.pointer (some ⟨B, 0, none⟩), .string t] w fun e w' => e = .returned (.tuple #[.int .i64 t.size, .nilIface]) ∧ St B P s m (x ++ t.data.toList) w0 w' := by
  refine (writeString_any B B _ t w h.bld (by rw [Lib.byteCells_length]; omega) h.le).mono ?_
  rintro e w' ⟨rfl, hA, hb, hk⟩
  rw [cells_str] at hA
  exact ⟨rfl, h.wrote hA hb hk⟩
theorem wb_st {B P : Nat} {s : ByteArray} {m : Int} {x : List UInt8} {w0 w : World} (h : St B P s m x w0 w) (hx : x.length ≤ 100000000) (c : UInt8) (n : Int) (hn : n = c.toNat) :
    Calls Tryz.prog 89 #[.pointer (some ⟨B, 0, none⟩), .int .u8 n] w fun e w' => e = .returned .nilIface ∧ St B P s m (x ++ [c]) w0 w' := by
  refine (writeByte_any B B _ n w h.bld (by rw [Lib.byteCells_length]; omega) h.le).mono ?_
  rintro e w' ⟨rfl, hA, hb, hk⟩
  rw [hn, cells_byte] at hA
  exact ⟨rfl, h.wrote hA hb hk⟩

set_option maxHeartbeats 2000000 in
set_option maxRecDepth 100000 in
theorem text_anyT (v : Value) (l : List (ByteArray × Int)) (w : World) (E : EnvT w) (h : IsPairs w v l) (hf : Fits l) (hl : l.length ≤ 60000) :
    Calls Tryz.prog 57 #[v] w fun e w' => e = .returned (.string (bs (textL l))) ∧ Below w.heap.size w w' := by
  obtain ⟨a, cap, rfl, hc⟩ := h
  go_enter Tryz.func57, Tryz.ntmps57
  go_wp2
  go_loopw [8] (fun i wr => ∃ k : Nat, k ≤ l.length ∧ i = .int .i64 k ∧ Lib.IsBuilderF 129 5 w.heap.size w.heap.size (Lib.byteCells (textL (l.take k))) wr ∧ Below w.heap.size w wr ∧ w.heap.size < wr.heap.size) (fun i _ => l.length - (intOf i).toNat)
  case atStart => exact ⟨0, Nat.zero_le _, rfl, Lib.IsBuilderF.of (Lib.fresh_isBuilder _ _ w), (Below.refl _ _).alloc (Nat.le_refl _) _, by simp⟩
  case round =>
    obtain ⟨k, hk, rfl, hbld, hb, hsz⟩ := hrel
    by_cases hlt : k < l.length
    · obtain ⟨b, off, rfl, c0, c1⟩ := hc k hlt
      have hf1 := hf l[k] (List.getElem_mem hlt)
      have HS := Lib.hid (textL_step l k hlt)
      have hlen : (textL (l.take k)).length ≤ 1100 * 60000 := by
        have h1 := textL_len (l := l.take k) (fun p hp => hf p (List.mem_of_mem_take hp))
        rw [List.length_take] at h1
        omega
      have k0 := cell_below c0 hb
      have k1 := cell_below c1 hb
      have hi1 := itoa_len (l[k].1.size : Int) (by omega) (by omega)
      have hi2 := itoa_len l[k].2 hf1.2.1 hf1.2.2
      have hdl : l[k].1.data.toList.length = l[k].1.size := Array.length_toList
      have s0 : St w.heap.size wr.heap.size l[k].1 l[k].2 (textL (l.take k)) w (wr.alloc (.cells #[.string l[k].1, .int .i64 l[k].2] 67)) := by
        refine ⟨?_, hb.alloc (Nat.le_of_lt hsz) _, heap_alloc_new wr _, hsz, by simp; omega⟩
        rcases hbld with h' | h'
        · exact .inl (builder_below h' ((Below.refl _ _).alloc (Nat.le_refl _) _))
        · exact .inr (builder_below h' ((Below.refl _ _).alloc (Nat.le_refl _) _))
      clear c0 c1 hc hbld
      generalize l[k] = pp at *
      obtain ⟨s, m⟩ := pp
      simp only at *
      go_wp2_with (go_at_call 88; refine Hid.out ?_)
      refine Lib.hid ?_
      refine (itoa_anyT _ _ (E.below s0.below) (by omega) (by omega)).mono ?_
      rintro e w1 ⟨rfl, hb1⟩
      have s1 := s0.next hb1
      have E1 := E.below s1.below
      clear s0 hb1
      go_wp2_with (go_at_call 87; refine Hid.out ?_)
      refine Lib.hid ?_
      refine (ws_st s1 (by omega) _ (by rw [bs_size]; omega)).mono ?_
      rintro e w2 ⟨rfl, s2⟩
      clear s1
      go_wp2_with (go_at_call 89; refine Hid.out ?_)
      refine Lib.hid ?_
      refine (wb_st s2 (by simp only [List.length_append, bs_data]; omega) 58 58 rfl).mono ?_
      rintro e w3 ⟨rfl, s3⟩
      have q3 := s3.c0
      clear s2
      go_wp2_with (go_at_call 87; refine Hid.out ?_)
      refine Lib.hid ?_
      refine (ws_st s3 (by simp only [List.length_append, List.length_cons, List.length_nil, bs_data]; omega) s (by omega)).mono ?_
      rintro e w4 ⟨rfl, s4⟩
      clear s3 q3
      go_wp2_with (go_at_call 89; refine Hid.out ?_)
      refine Lib.hid ?_
      refine (wb_st s4 (by simp only [List.length_append, List.length_cons, List.length_nil, bs_data]; omega) 32 32 rfl).mono ?_
      rintro e w5 ⟨rfl, s5⟩
      have q5 := s5.c1
      clear s4
      go_wp2_with (go_at_call 88; refine Hid.out ?_)
      refine Lib.hid ?_
      refine (itoa_anyT _ _ (E.below s5.below) (by omega) (by omega)).mono ?_
      rintro e w6 ⟨rfl, hb6⟩
      have s6 := s5.next hb6
      clear s5 hb6 q5
      go_wp2_with (go_at_call 87; refine Hid.out ?_)
      refine Lib.hid ?_
      refine (ws_st s6 (by simp only [List.length_append, List.length_cons, List.length_nil, bs_data]; omega) _ (by rw [bs_size]; omega)).mono ?_
      rintro e w7 ⟨rfl, s7⟩
      clear s6
      go_wp2_with (go_at_call 89; refine Hid.out ?_)
      refine Lib.hid ?_
      refine (wb_st s7 (by simp only [List.length_append, List.length_cons, List.length_nil, bs_data]; omega) 10 10 rfl).mono ?_
      rintro e w8 ⟨rfl, s8⟩
      have hbl := s8.bld
      have hbe := s8.below
      have hlt8 : w.heap.size < w8.heap.size := Nat.lt_trans s8.lt (Array.getElem?_eq_some_iff.1 s8.cel).1
      have HB : Hid (Lib.IsBuilderF 129 5 w.heap.size w.heap.size (Lib.byteCells (textL (l.take (k + 1)))) w8) := by
        show Lib.IsBuilderF _ _ _ _ _ _
        rw [HS.out]
        simp only [bs_data, List.append_assoc] at hbl
        simp only [text1, List.append_assoc]
        exact hbl
      clear s7 s8 hbl k0 k1
      go_wp2
      go_roundw
      case rel => exact ⟨k + 1, by omega, by go_num, HB.out, hbe, hlt8⟩
      case measure => simp [intOf]; omega
    · go_wp2_with (go_at_call 90; refine (Any.Builder_String_any_k Tryz.lays169 Tryz.Builder_Extra_169 w.heap.size w.heap.size (textL (l.take k)) _ hbld (Nat.le_of_lt hsz)).mono ?_; rintro e w1 ⟨rfl, _, hb1, _⟩)
      go_ret
      rw [List.take_of_length_le (by omega)]
      exact ⟨rfl, hb.trans hb1⟩
theorem text_any (v : Value) (l : List (ByteArray × Int)) (w : World) (E : Env w) (h : IsPairs w v l) (hf : Fits l) (hl : l.length ≤ 60000) :
    Calls Tryz.prog 57 #[v] w fun e w' => e = .returned (.string (bs (textL l))) ∧ Below w.heap.size w w' := text_anyT v l w E.t h hf hl
end Go.Proofs.YtmgpacenooncjaaGreatDoor.Pp
/- What is written is read: the pairs of a text that pairs were written to are those pairs. Plain facts, of no program. -/
namespace Go.Proofs.YtmgpacenooncjaaGreatDoor.Pp
open Num
theorem cutAt_split (c : UInt8) (r : List UInt8) : ∀ a : List UInt8, (∀ b ∈ a, b ≠ c) → cutAt c (a ++ c :: r) = (a, r, true) := by
  intro a
  induction a with
  | nil => intro _; simp [cutAt]
  | cons b a ih =>
    intro h
    rw [List.cons_append, cutAt, if_neg (h b (List.mem_cons_self ..)), ih (fun x hx => h x (List.mem_cons_of_mem _ hx))]
theorem itoa_signs (v : Int) : ∀ b ∈ Lib.itoa v, b ≠ 58 ∧ b ≠ 10 := by
  intro b hb
  unfold Lib.itoa at hb
  have dig : ∀ n, b ∈ Lib.decDigits n → b ≠ 58 ∧ b ≠ 10 := by
    intro n h
    have h1 := (digB_iff b).1 (dec_dig n b h)
    constructor
    · rintro rfl; simp at h1
    · rintro rfl; simp at h1
  split at hb
  · rcases List.mem_cons.1 hb with rfl | hb
    · decide
    · exact dig _ hb
  · exact dig _ hb
theorem keyT_text (p : ByteArray × Int) (rest : List UInt8) (hp : p.1.size ≤ 1000) : keyT (text1 p ++ rest) = (p.1.data.toList, 32 :: (Lib.itoa p.2 ++ 10 :: rest), true) := by
  have e : text1 p ++ rest = Lib.itoa p.1.size ++ 58 :: (p.1.data.toList ++ 32 :: (Lib.itoa p.2 ++ 10 :: rest)) := by unfold text1; simp
  have hc := cutAt_split 58 (p.1.data.toList ++ 32 :: (Lib.itoa p.2 ++ 10 :: rest)) (Lib.itoa p.1.size) (fun b hb => (itoa_signs _ b hb).1)
  have hn := num_itoa (v := (p.1.size : Int)) (by omega) (by omega)
  have hl : p.1.data.toList.length = p.1.size := Array.length_toList
  unfold keyT
  rw [e, hc]
  simp only [hn, if_true]
  rw [if_pos ⟨by omega, by rw [List.length_append, hl]; omega⟩]
  rw [Int.toNat_natCast, ← hl, List.take_left, List.drop_left]
theorem stepT_text (p : ByteArray × Int) (rest : List UInt8) (hp : p.1.size ≤ 1000) (h0 : -9223372036854775808 ≤ p.2) (h1 : p.2 ≤ 9223372036854775807) : stepT (text1 p ++ rest) = ((p.1.data.toList, p.2), rest, true) := by
  have hc := cutAt_split 10 rest (Lib.itoa p.2) (fun b hb => (itoa_signs _ b hb).2)
  have hn := num_itoa h0 h1
  unfold stepT
  rw [keyT_text p rest hp]
  simp only [List.head?_cons, List.tail_cons, hc, hn, and_self, if_true]
theorem pairs_text : ∀ l : List (ByteArray × Int), Fits l → pairsL (textL l) = some (l.map fun p => (p.1.data.toList, p.2)) := by
  intro l
  induction l with
  | nil => intro _; rfl
  | cons p l ih =>
    intro h
    have hp := h p (List.mem_cons_self ..)
    have e : textL (p :: l) = text1 p ++ textL l := by simp [textL]
    have hs := stepT_text p (textL l) hp.1 hp.2.1 hp.2.2
    rw [e, pairsL_step (by unfold text1; simp) (by rw [hs]), hs, ih (fun q hq => h q (List.mem_cons_of_mem _ hq))]
    rfl
theorem pairs_conv (l : List (ByteArray × Int)) (h : Fits l) : ((pairsL (textL l)).getD []).map conv = l ∧ (pairsL (textL l)).isSome = true := by
  rw [pairs_text l h]
  refine ⟨?_, rfl⟩
  rw [Option.getD_some, List.map_map]
  have : (conv ∘ fun p : ByteArray × Int => (p.1.data.toList, p.2)) = id := by
    funext p
    show (bs p.1.data.toList, p.2) = p
    rw [bs_of]
  rw [this, List.map_id]
end Go.Proofs.YtmgpacenooncjaaGreatDoor.Pp
/- The contract of the document's Two. -/
namespace Go.Proofs.YtmgpacenooncjaaGreatDoor.Pp
open Go.ChangeShapes Go.WideShapes Go.ChangeAt Go.RowKit
open Grp
set_option maxRecDepth 100000 in
theorem twoR_any (k a b : Int) (w : World) : Calls Tryz.prog 85 #[.int .i64 k, .int .i64 a, .int .i64 b] w fun e w' => e = .returned (.int .i64 (two k a b)) ∧ w' = w := by
  unfold two
  by_cases h : k = 2
  · subst h
    go_enter Tryz.func85, Tryz.ntmps85
    go_wp2
    all_goals go_ret
    all_goals exact ⟨ret_numK (by omega), rfl⟩
  · have h' : (k == 2) = false := by simpa using h
    by_cases g : k = 3
    · subst g
      go_enter Tryz.func85, Tryz.ntmps85
      go_wp2
      all_goals go_ret
      all_goals exact ⟨ret_numK (by omega), rfl⟩
    · have g' : (k == 3) = false := by simpa using g
      go_enter Tryz.func85, Tryz.ntmps85
      go_wp2
      go_ret
      exact ⟨ret_numK (IntWalk.i64_left _).symm, rfl⟩
end Go.Proofs.YtmgpacenooncjaaGreatDoor.Pp
/- Contract of the document's Grouped: of each key one pair. -/
namespace Go.Proofs.YtmgpacenooncjaaGreatDoor.Pp
open Go.ChangeShapes Go.WideShapes Go.ChangeAt Go.RowKit
open Grp
/-- A group ends here. -/
def Ends (G l : List (ByteArray × Int)) (k : Nat) : Prop := ∀ A q, G = A ++ [q] → ∀ p, l[k]? = some p → q.1 ≠ p.1
theorem ends_step {kind : Int} {G l : List (ByteArray × Int)} {k : Nat} {p : ByteArray × Int} (h : Ends G l k) (hp : l[k]? = some p) : Grp.step kind G p = G ++ [p] := by
  rcases List.eq_nil_or_concat G with rfl | ⟨A, q, rfl⟩
  · rfl
  · rw [List.concat_eq_append] at h ⊢
    exact step_other kind A q p (h A q rfl p hp)
theorem ends_of {G l : List (ByteArray × Int)} {j : Nat} {s : ByteArray} {x : Int} (h : j = l.length ∨ ∀ p, l[j]? = some p → s ≠ p.1) : Ends (G ++ [(s, x)]) l j := by
  intro A q e p hp
  have h1 := (List.append_inj' e rfl).2
  simp only [List.cons.injEq, and_true] at h1
  subst h1
  rcases h with h | h
  · subst h; simp at hp
  · exact h p hp
set_option maxRecDepth 100000 in
set_option maxHeartbeats 4000000 in
theorem grouped_own (kind : Int) (v : Value) (l : List (ByteArray × Int)) (w : World) (h : IsPairs w v l) (hl : l.length ≤ 1000000) :
    Calls Tryz.prog 55 #[.int .i64 kind, v] w fun e w' => ∃ u, e = .returned u ∧ w'.ownsRow w.heap.size 67 2 u (grp kind l).length (cellsP (grp kind l)) ∧ Below w.heap.size w w' := by
  obtain ⟨ao, cap0, rfl, hc0⟩ := h
  have HC := Lib.hid hc0
  clear hc0
  obtain ⟨n, hn⟩ : ∃ n, n = l.length := ⟨_, rfl⟩
  rw [← hn] at hl ⊢
  have HN := Lib.hid hn
  clear hn
  go_enter Tryz.func55, Tryz.ntmps55
  go_wp2_with fail
  go_loopw [5, 6] (fun gv kv wr => ∃ (k : Nat), kv = .int .i64 k ∧ k ≤ n ∧ Below w.heap.size w wr ∧ Hid (wr.ownsRow w.heap.size 67 2 gv (grp kind (l.take k)).length (cellsP (grp kind (l.take k)))) ∧ Hid (Ends (grp kind (l.take k)) l k)) (fun _ kv _ => n - (intOf kv).toNat)
  case atStart => exact ⟨0, by go_num, Nat.zero_le _, Below.refl _ _, owns_nil _ _, show Ends _ _ _ from fun A q e => by simp [grp_nil] at e⟩
  case round =>
    obtain ⟨k, rfl, hkn, hb, HO, HE⟩ := hrel
    by_cases hlt : k < n
    · have hlt' : k < l.length := by have := HN.out; omega
      obtain ⟨b, off, ea, c0, c1⟩ := HC.out k hlt'
      subst ea
      have HG : Hid (grp kind (l.take (k + 1)) = grp kind (l.take k) ++ [l[k]]) := by
        show _ = _
        rw [List.take_succ_eq_append_getElem hlt', grp_snoc, ends_step HE.out (List.getElem?_eq_getElem hlt')]
      have hgl : (grp kind (l.take k)).length ≤ k := by
        have h1 := grp_len kind (l.take k)
        have h2 := List.length_take_le k l
        omega
      replace c0 := (hb.cell (block_lt c0)).trans c0
      replace c1 := (hb.cell (block_lt c1)).trans c1
      generalize l[k] = p at c0 c1 HG
      obtain ⟨G, hG⟩ : ∃ G, G = grp kind (l.take k) := ⟨_, rfl⟩
      rw [← hG] at HO HG hgl
      clear hG HE
      obtain ⟨ps, pv⟩ := p
      generalize wr = w1 at *
      go_wp2
      go_loopw [6] (fun jv wq => ∃ (j : Nat) (x : Int), jv = .int .i64 j ∧ j ≤ n ∧ k < j ∧ Below w1.heap.size w1 wq ∧ wq.heap[w1.heap.size]? = some (.cells #[.string ps, .int .i64 x] 67 (0, 0)) ∧ Hid (grp kind (l.take j) = G ++ [(ps, x)])) (fun jv _ => n - (intOf jv).toNat)
      case atStart => exact ⟨k + 1, pv, by go_num, by omega, by omega, blw_box _, heap_alloc_new _ _, HG⟩
      case round =>
        obtain ⟨j, x, rfl, hjn, hkj, hbq, hP, HJ⟩ := hrel
        clear c0 c1 HG
        have P0 : wr.cell? ⟨w1.heap.size, 0, none⟩ = some (.string ps) := by rw [cell_of_row wr _ _ _ _ (0, 0) hP]; rfl
        have P1 : wr.cell? ⟨w1.heap.size, 1, none⟩ = some (.int .i64 x) := by rw [cell_of_row wr _ _ _ _ (0, 0) hP]; rfl
        have fz : wr.frozen? ⟨w1.heap.size, 1, none⟩ = false := frozen_of_row wr _ _ _ _ hP
        have HP := Lib.hid hP
        clear hP
        by_cases hjlt : j < n
        · have hjlt' : j < l.length := by have := HN.out; omega
          obtain ⟨b', off', ea, d0, d1⟩ := HC.out j hjlt'
          injection ea with ea
          injection ea with ea eo
          subst ea eo
          have hbw := blw_step hb hbq
          replace d0 := (hbw.cell (block_lt d0)).trans d0
          replace d1 := (hbw.cell (block_lt d1)).trans d1
          have HS : Hid (grp kind (l.take (j + 1)) = Grp.step kind (G ++ [(ps, x)]) l[j]) := by
            show _ = _
            rw [List.take_succ_eq_append_getElem hjlt', grp_snoc, HJ.out]
          have HQ : Hid (l[j]? = some l[j]) := List.getElem?_eq_getElem hjlt'
          generalize l[j] = q at d0 d1 HS HQ
          obtain ⟨qs, qv⟩ := q
          simp only at d0 d1
          by_cases hk : qs = ps
          · subst hk
            have hjd : decide ((j : Int) < (n : Int)) = true := decide_eq_true (by omega)
            have HS2 : Hid (grp kind (l.take (j + 1)) = G ++ [(qs, two kind x qv)]) := by
              show _ = _
              rw [HS.out, step_same kind G (qs, x) (qs, qv) rfl]
            have T2 := Lib.hid (twoR_any kind x qv)
            clear HS HJ
            generalize two kind x qv = y at *
            go_wp2
            go_quiet (fail)
            go_wp2
            obtain ⟨w2, hw2⟩ : ∃ w2, w2 = wr.drewN nq := ⟨_, rfl⟩
            have hb2 : Below wr.heap.size wr w2 := by rw [hw2]; exact blw_drewN _ _
            have HP2 : Hid (w2.heap[w1.heap.size]? = some (.cells #[.string qs, .int .i64 x] 67 (0, 0))) := by rw [hw2]; exact HP.out
            replace P1 := (hb2.cell (block_lt P1)).trans P1
            replace d1 := (hb2.cell (block_lt d1)).trans d1
            have fz2 : w2.frozen? ⟨w1.heap.size, 1, none⟩ = false := by rw [hw2]; exact fz
            rw [← hw2]
            clear hw2 P0 d0 fz HP
            go_region_with (go_at_call 85; refine (T2.out _).mono ?_; rintro _ _ ⟨rfl, rfl⟩)
            all_goals
              have hb3 : Below w1.heap.size w1 (w2.setCell ⟨w1.heap.size, 1, none⟩ (.int .i64 y)).drew := ((blw_step hbq hb2).setCell (Nat.le_refl _) _).drew
              have HP3 : Hid ((w2.setCell ⟨w1.heap.size, 1, none⟩ (.int .i64 y)).drew.heap[w1.heap.size]? = some (.cells #[.string qs, .int .i64 y] 67 (0, 0))) := heap_set HP2.out _
              clear P1 d1 fz2 HP2
              generalize (w2.setCell ⟨w1.heap.size, 1, none⟩ (.int .i64 y)).drew = w3 at *
              go_wp2
              go_roundw
              case rel => exact ⟨j + 1, y, by go_num, by omega, by omega, hb3, HP3.out, HS2⟩
              case measure => simp [intOf]; omega
          · have hE := neq_list hk
            have hjd : decide ((j : Int) < (n : Int)) = true := decide_eq_true (by omega)
            have HEND : Hid (Ends (grp kind (l.take j)) l j) := by
              show Ends _ _ _
              rw [HJ.out]
              refine ends_of (.inr fun p hp => ?_)
              rw [HQ.out, Option.some.injEq] at hp
              subst hp
              exact fun e => hk e.symm
            clear HS HQ
            go_wp2
            go_quiet (fail)
            go_wp2_with (at_builtin; refine Hid.out ?_)
            refine Lib.hid ?_
            have hbq2 := blw_step hbq (blw_step (blw_drewN wr nq) (blw_box (.cells #[.string ps, .int .i64 x] 67)))
            refine wpList_append_pairs (w0 := w) rfl (.tmp 44) (.tmp 46) rfl _ G rfl (owns_blw HO.out hbq2) (.slice (some ⟨wr.heap.size, 0, none⟩) 1 1) [(ps, x)] rfl (isPairs_one ps x _ _ (by simp)) (by simp; omega) (blw_step hb hbq2) ?_
            intro v2 w2 hown2 hb2
            have HO2 : Hid (w2.ownsRow w.heap.size 67 2 v2 (grp kind (l.take j)).length (cellsP (grp kind (l.take j)))) := by rw [HJ.out]; exact hown2
            clear P0 P1 fz HP d0 d1 hE hk HO HC hown2
            go_wp2
            go_roundw
            case rel => exact ⟨j, rfl, by omega, hb2, HO2, HEND⟩
            case measure => simp [intOf]; omega
        · have hjd : decide ((j : Int) < (n : Int)) = false := decide_eq_false (by omega)
          have HEND : Hid (Ends (grp kind (l.take j)) l j) := by
            show Ends _ _ _
            rw [HJ.out]
            exact ends_of (.inl (by have := HN.out; omega))
          have hjn' : j = n := by omega
          have HJN := Lib.hid hjn'
          clear hjn'
          go_wp2
          go_quiet (fail)
          go_wp2_with (at_builtin; refine Hid.out ?_)
          refine Lib.hid ?_
          have hbq2 := blw_step hbq (blw_step (blw_drewN wr nq) (blw_box (.cells #[.string ps, .int .i64 x] 67)))
          refine wpList_append_pairs (w0 := w) rfl (.tmp 44) (.tmp 46) rfl _ G rfl (owns_blw HO.out hbq2) (.slice (some ⟨wr.heap.size, 0, none⟩) 1 1) [(ps, x)] rfl (isPairs_one ps x _ _ (by simp)) (by simp; omega) (blw_step hb hbq2) ?_
          intro v2 w2 hown2 hb2
          have HO2 : Hid (w2.ownsRow w.heap.size 67 2 v2 (grp kind (l.take j)).length (cellsP (grp kind (l.take j)))) := by rw [HJ.out]; exact hown2
          clear P0 P1 fz HP HO HC hown2
          go_wp2
          go_roundw
          case rel => exact ⟨j, rfl, by omega, hb2, HO2, HEND⟩
          case measure => simp [intOf]; omega
    · have hfin : Hid (wr.ownsRow w.heap.size 67 2 u5 (grp kind l).length (cellsP (grp kind l))) := by
        have h1 := HO.out
        rw [List.take_of_length_le (by have := HN.out; omega)] at h1
        exact h1
      clear HC HO HE
      go_wp2
      go_ret
      exact ⟨_, rfl, hfin.out, hb⟩
theorem grouped_any (kind : Int) (v : Value) (l : List (ByteArray × Int)) (w : World) (h : IsPairs w v l) (hl : l.length ≤ 1000000) :
    Calls Tryz.prog 55 #[.int .i64 kind, v] w fun e w' => ∃ u, e = .returned u ∧ IsPairs w' u (grp kind l) ∧ Below w.heap.size w w' :=
  (grouped_own kind v l w h hl).mono fun _ _ ⟨u, h1, h2, h3⟩ => ⟨u, h1, owns_isPairs h2, h3⟩
end Go.Proofs.YtmgpacenooncjaaGreatDoor.Pp
/- A block that is known whole: its cells, stores into it, other blocks. -/
namespace Go.Proofs.YtmgpacenooncjaaGreatDoor.Pp
open Go.ChangeShapes Go.WideShapes Go.ChangeAt Go.RowKit
/-- The block g holds just these. -/
def Blk (w : World) (g : Nat) (t : TypeId) (xs : List Value) : Prop := w.heap[g]? = some (.cells xs.toArray t (0, 0))
theorem Blk.lt {w : World} {g : Nat} {t : TypeId} {xs : List Value} (h : Blk w g t xs) : g < w.heap.size := by
  rcases Nat.lt_or_ge g w.heap.size with hb | hb
  · exact hb
  · unfold Blk at h; rw [Array.getElem?_eq_none hb] at h; cases h
theorem Blk.cell {w : World} {g : Nat} {t : TypeId} {xs : List Value} (h : Blk w g t xs) (i : Nat) : w.cell? ⟨g, i, none⟩ = xs[i]? := by
  rw [cell_of_row w g i _ t (0, 0) h]; simp
theorem Blk.at {w : World} {g : Nat} {t : TypeId} {xs : List Value} (h : Blk w g t xs) {i : Nat} {v : Value} (hv : xs[i]? = some v) : w.cell? ⟨g, i, none⟩ = some v := (h.cell i).trans hv
theorem Blk.frozen {w : World} {g : Nat} {t : TypeId} {xs : List Value} (h : Blk w g t xs) (i : Nat) : w.frozen? ⟨g, i, none⟩ = false := frozen_of_row w g i _ t h
theorem Blk.set {w : World} {g : Nat} {t : TypeId} {xs : List Value} (h : Blk w g t xs) (i : Nat) (v : Value) : Blk (w.setCell ⟨g, i, none⟩ v) g t (xs.set i v) := by
  unfold Blk
  rw [heap_setCell_same w g i _ t v h]
  simp
theorem Blk.other {w : World} {g g' : Nat} {t : TypeId} {xs : List Value} (h : Blk w g t xs) (i : Nat) (v : Value) (hne : g ≠ g') : Blk (w.setCell ⟨g', i, none⟩ v) g t xs := (Below.heap_setCell w ⟨g', i, none⟩ v g hne).trans h
theorem Blk.blw {w w' : World} {g : Nat} {t : TypeId} {xs : List Value} (h : Blk w g t xs) (hb : Below w.heap.size w w') : Blk w' g t xs := (hb.block g h.lt).trans h
theorem Blk.drewN {w : World} {g : Nat} {t : TypeId} {xs : List Value} (h : Blk w g t xs) (n : Nat) : Blk (w.drewN n) g t xs := h
theorem Blk.drew {w : World} {g : Nat} {t : TypeId} {xs : List Value} (h : Blk w g t xs) : Blk w.drew g t xs := h
theorem Blk.new (w : World) (cs : Array Value) (t : TypeId) : Blk (w.alloc (.cells cs t)) w.heap.size t cs.toList := by
  unfold Blk
  rw [heap_alloc_new]
theorem owns_blk {w : World} {base g n : Nat} {e : TypeId} {size : Nat} {xs : List Value} (h : w.ownsRow base e size (.slice (some ⟨g, 0, none⟩) n n) n xs) : Blk w g e xs ∧ base ≤ g := by
  rcases h.2 with ⟨h1, _⟩ | ⟨g', cap', cur, h1, h2, h3, _, _, h6, h7⟩
  · cases h1
  · injection h1 with e1 e2 e3
    injection e1 with e1
    injection e1 with e1
    subst e1 e3
    refine ⟨?_, h2⟩
    unfold Blk
    rw [h3, ← h7, List.take_of_length_le (by simp; omega)]
theorem set_mid {α : Type} (A : List α) (z v : α) (B : List α) (i : Nat) (h : i = A.length) : (A ++ z :: B).set i v = A ++ v :: B := by
  subst h
  rw [List.set_append_right _ _ (Nat.le_refl _), Nat.sub_self]
  rfl
end Go.Proofs.YtmgpacenooncjaaGreatDoor.Pp
/- Folders: Merge, and how its row lies; lists that are read back. -/
namespace Go.Proofs.YtmgpacenooncjaaGreatDoor.Pp
open Go.ChangeShapes Go.WideShapes Go.ChangeAt Go.RowKit
open Stable
set_option maxRecDepth 100000 in
set_option maxHeartbeats 1000000 in
theorem merge_full (v : Value) (ls : List (List (ByteArray × Int))) (w : World) (h : IsLists w v ls) (hl : ls.length ≤ 1000000) (hs : ls.flatten.length ≤ 1000000) :
    Calls Tryz.prog 61 #[v] w fun e w' => ∃ u Z, e = .returned u ∧ Sorted Z ∧ SE ls.flatten Z ∧ Z.length = ls.flatten.length ∧ IsPairs w' u Z ∧ Below w.heap.size w w' ∧ ∃ g, u = .slice (some ⟨g, 0, none⟩) Z.length Z.length := by
  have H := Lib.hid h
  have HSZ := Lib.hid hs
  obtain ⟨ao, cap, hv, _⟩ := h
  obtain ⟨n, hn⟩ : ∃ n, n = ls.length := ⟨_, rfl⟩
  subst hv
  rw [← hn] at H hl ⊢
  have HN := Lib.hid hn
  clear hn hs
  go_enter Tryz.func61, Tryz.ntmps61
  go_wp2_with fail
  go_loopw [3, 8] (fun av kv wr => ∃ (k : Nat), kv = .int .i64 k ∧ k ≤ n ∧ Below w.heap.size w wr ∧ Hid (wr.ownsRow w.heap.size 67 2 av (flatT ls k).length (cellsP (flatT ls k)))) (fun _ kv _ => n - (intOf kv).toNat)
  case atStart => exact ⟨0, by go_num, Nat.zero_le _, Below.refl _ _, owns_nil _ _⟩
  case round =>
    obtain ⟨k, rfl, hkn, hb, HO⟩ := hrel
    by_cases hlt : k < n
    · obtain ⟨b, off, u, ea, c0, hu⟩ := isLists_at H.out k (by have := HN.out; omega)
      subst ea
      have k0 := (hb.cell (block_lt c0)).trans c0
      have HU := Lib.hid (isPairs_below hu hb)
      obtain ⟨au, cu, eu, _⟩ := hu
      generalize (lsAt ls k).length = nu at eu
      subst eu
      clear c0
      go_wp2_with (at_builtin; refine Hid.out ?_)
      refine Lib.hid ?_
      refine wpList_append_pairs (w0 := w) rfl (.tmp 12) (.tmp 13) rfl _ (flatT ls k) rfl HO.out _ (lsAt ls k) rfl HU.out (by have h1 := flatT_le ls (k + 1); rw [flatT_succ ls k (by have := HN.out; omega), List.length_append] at h1; have := HSZ.out; omega) hb ?_
      intro v2 w2 hown2 hb2
      rw [← flatT_succ ls k (by have := HN.out; omega)] at hown2
      have HO2 := Lib.hid hown2
      clear hown2 k0 HU HO hb
      go_wp2
      go_roundw
      case rel => exact ⟨k + 1, by go_num, by omega, hb2, HO2⟩
      case measure => simp [intOf]; omega
    · have hk : flatT ls k = ls.flatten := by unfold flatT; rw [List.take_of_length_le (by have := HN.out; omega)]
      rw [hk] at HO
      have C1 := Lib.hid (sort_full _ ls.flatten wr (owns_isPairs HO.out) HSZ.out)
      clear HO hk
      go_wp2_with (go_at_call 50; refine Hid.out ?_)
      refine Lib.hid ?_
      refine C1.out.mono ?_
      rintro _ w2 ⟨u, Z, rfl, z1, z2, z3, z4, hb2, gz, hgz⟩
      have HGZ : Hid (u = .slice (some ⟨gz, 0, none⟩) Z.length Z.length) := by show _ = _; rw [z3]; exact hgz
      clear hgz
      have HB := hb.trans (hb2.mono hb.size)
      have HZ := Lib.hid z3
      clear C1 hb2 z3
      go_wp2
      go_ret
      exact ⟨u, Z, rfl, z1, z2, HZ.out, z4, HB, gz, HGZ.out⟩
theorem flat_cellsP (l : List (ByteArray × Int)) : flat l = cellsP l := rfl
theorem readOwn (l : List (ByteArray × Int)) (w : World) (E : Env w) (hf : Fits l) (hl : l.length ≤ 60000) :
    Calls Tryz.prog 56 #[.string (bs (textL l))] w fun e w' => ∃ v, e = .returned (.tuple #[v, .nilIface]) ∧ w'.ownsRow w.heap.size 67 2 v l.length (cellsP l) ∧ Below w.heap.size w w' := by
  refine (parse_own (textL l) w E (by have := textL_len hf; omega)).mono ?_
  rintro e w' ⟨⟨v, rfl, hv⟩, hb⟩
  obtain ⟨h1, h2⟩ := pairs_conv l hf
  rw [h1] at hv
  rw [h2]
  exact ⟨v, rfl, hv, hb⟩
end Go.Proofs.YtmgpacenooncjaaGreatDoor.Pp
/- Mapper: where a run stands, as a text; a run that is told where one stood. -/
namespace Go.Proofs.YtmgpacenooncjaaGreatDoor
open Go.ChangeShapes Go.WideShapes Go.ChangeAt Go.RowKit
/-- A run's text: how many records are done, ahead of its pairs. -/
def saveL (done : Nat) (M : List (ByteArray × Int)) : List UInt8 := Pp.textL ((⟨#[]⟩, (done : Int)) :: M)
theorem saveL_eq (done : Nat) (M : List (ByteArray × Int)) : bs (saveL done M) = bs (Pp.textL [(⟨#[]⟩, (done : Int))]) ++ bs (Pp.textL M) := by
  have e : saveL done M = Pp.textL [(⟨#[]⟩, (done : Int))] ++ Pp.textL M := by simp [saveL, Pp.textL]
  rw [e]
  apply ByteArray.ext
  apply Array.ext'
  simp [bs]
set_option maxRecDepth 100000 in
set_option maxHeartbeats 1000000 in
theorem msave_any (R done : Nat) (j : Jb) (rv lv mv : Value) (lines : List (List UInt8)) (M : List (ByteArray × Int)) (w : World) (E : Pp.EnvT w) (h : IsMR w R j rv lv lines done mv M) (hf : Pp.Fits M) (hl : M.length ≤ 59999) (hd : done ≤ 1000) :
    Calls Tryz.prog 24 #[.pointer (some ⟨R, 0, none⟩)] w fun e w' => e = .returned (.string (bs (saveL done M))) ∧ Below w.heap.size w w' := by
  have c5 := h.blk.at (i := 5) (v := .int .i64 done) rfl
  have c6 := h.blk.at (i := 6) (v := mv) rfl
  have hp := owa_isPairs h.row
  obtain ⟨t1, ht1⟩ : ∃ t, t = bs (Pp.textL [(⟨#[]⟩, (done : Int))]) := ⟨_, rfl⟩
  obtain ⟨t2, ht2⟩ : ∃ t, t = bs (Pp.textL M) := ⟨_, rfl⟩
  have hf1 : Pp.Fits [((⟨#[]⟩ : ByteArray), (done : Int))] := by intro p hp; rw [List.mem_singleton] at hp; subst hp; refine ⟨Nat.zero_le _, ?_, ?_⟩ <;> simp only <;> omega
  have T1 : Hid (∀ (B : Nat) (w' : World), Pp.IsPairs w' (.slice (some ⟨B, 0, none⟩) 1 1) [(⟨#[]⟩, (done : Int))] → Below w.heap.size w w' → Calls Tryz.prog 57 #[.slice (some ⟨B, 0, none⟩) 1 1] w' fun e w'' => e = .returned (.string t1) ∧ Below w'.heap.size w' w'') := fun B w' hp hb => by
    rw [ht1]
    exact Pp.text_anyT _ _ w' (E.below hb) hp hf1 (by simp)
  have T2 : Hid (∀ w', Below w.heap.size w w' → Calls Tryz.prog 57 #[mv] w' fun e w'' => e = .returned (.string t2) ∧ Below w'.heap.size w' w'') := fun w' hb => by
    rw [ht2]
    exact Pp.text_anyT _ _ w' (E.below hb) (Pp.isPairs_below hp hb) hf (by omega)
  have hs1 : t1.size ≤ 1100 := by rw [ht1, bs_size]; exact Pp.textL_len hf1
  have hs2 : t2.size ≤ 66000000 := by rw [ht2, bs_size]; have := Pp.textL_len hf; omega
  have HE : Hid (bs (saveL done M) = t1 ++ t2) := by show _ = _; rw [saveL_eq, ht1, ht2]
  have HB : Hid (∀ w', Below w.heap.size w w' → w'.cell? ⟨R, 5, none⟩ = some (.int .i64 done) ∧ w'.cell? ⟨R, 6, none⟩ = some mv) := fun w' hb => ⟨cell_below c5 hb, cell_below c6 hb⟩
  obtain ⟨ma, mc, rfl, -⟩ := hp
  have hsz : ¬ 9223372036854775807 < t1.size + t2.size := by omega
  obtain ⟨ml, hml⟩ : ∃ ml, ml = M.length := ⟨_, rfl⟩
  rw [← hml] at T2 HB c6
  have e6 := (HB.out _ (below_box (.cells #[.string ⟨#[]⟩, .int .i64 done] 67))).2
  clear ht1 ht2 h hf1 hs1 hs2 hml hf hl
  go_enter Tryz.func24, Tryz.ntmps24
  go_upto_region 1 with fail
  go_region_with (first | (go_at_call_of 57 (Value.slice ma ml mc); refine (T2.out _ HB2.out).mono ?_; rintro _ w3 ⟨rfl, hb3⟩; have HB3 : Hid (Below w.heap.size w w3) := below_trans HB2.out hb3; clear hb3) | (go_at_call 57; refine (T1.out _ _ (by first | exact Pp.isPairs_one _ _ 1 _ rfl | exact Pp.isPairs_below (Pp.isPairs_one _ _ 1 _ rfl) (Pp.blw_drew (Below.refl _ _))) (by first | exact below_box _ | exact below_trans (Pp.blw_drew (Below.refl _ _)) (below_box _) | exact Pp.blw_drew (below_box _))).mono ?_; rintro _ w2 ⟨rfl, hb2⟩; have HB2 : Hid (Below w.heap.size w w2) := (by first | exact below_trans (below_box _) hb2 | exact below_trans (below_trans (Pp.blw_drew (Below.refl _ _)) (below_box _)) hb2 | exact below_trans (Pp.blw_drew (below_box _)) hb2); obtain ⟨d5, d6⟩ := HB.out w2 HB2.out; clear hb2 c5 e6))
  all_goals
    (try simp only [Exit.then])
    rw [← HE.out]
    go_wp2
    go_ret
    exact ⟨rfl, HB3.out⟩
end Go.Proofs.YtmgpacenooncjaaGreatDoor
/- Mapper: a run that is told where one stood. -/
namespace Go.Proofs.YtmgpacenooncjaaGreatDoor
open Go.ChangeShapes Go.WideShapes Go.ChangeAt Go.RowKit
set_option maxRecDepth 100000 in
set_option maxHeartbeats 2000000 in
theorem mload_any (R done d : Nat) (j : Jb) (rv lv mv : Value) (lines : List (List UInt8)) (M0 M : List (ByteArray × Int)) (w : World) (E : Pp.Env w) (h : IsMR w R j rv lv lines done mv M0) (hf : Pp.Fits M) (hl : M.length ≤ 59999) (hd : d ≤ lines.length) (hn : lines.length ≤ 1000) :
    Calls Tryz.prog 23 #[.pointer (some ⟨R, 0, none⟩), .string (bs (saveL d M))] w fun e w' => ∃ mv', e = .returned (.bool true) ∧ IsMR w' R j rv lv lines d mv' M ∧ FrM w w' R none ∧ ∀ b, mv'.ownBlock = some b → w.heap.size ≤ b := by
  have hf1 : Pp.Fits ((⟨#[]⟩, (d : Int)) :: M) := by
    intro p hp
    rcases List.mem_cons.1 hp with rfl | hp
    · refine ⟨Nat.zero_le _, ?_, ?_⟩ <;> simp only <;> omega
    · exact hf p hp
  have P := Lib.hid (Pp.readOwn ((⟨#[]⟩, (d : Int)) :: M) w E hf1 (by simp; omega))
  rw [show Pp.bs (Pp.textL ((⟨#[]⟩, (d : Int)) :: M)) = bs (saveL d M) from rfl] at P
  obtain ⟨la, lc, elv, -⟩ := h.lines w (Below.refl _ _)
  subst elv
  have HR := Lib.hid h
  rw [List.length_map] at h
  obtain ⟨ln, hln⟩ : ∃ ln, ln = lines.length := ⟨_, rfl⟩
  rw [List.length_map, ← hln] at HR
  have hdl : d ≤ ln := by omega
  have HLN := Lib.hid hln
  generalize bs (saveL d M) = tx at *
  clear h hf1 hf hln hd
  go_enter Tryz.func23, Tryz.ntmps23
  go_wp2_with (go_at_call 56; refine Hid.out ?_)
  refine Lib.hid ?_
  refine P.out.mono ?_
  clear P
  rintro _ w1 ⟨v, rfl, hrow, hb1⟩
  obtain ⟨nl, hnl⟩ : ∃ nl, nl = M.length := ⟨_, rfl⟩
  rw [List.length_cons, ← hnl] at hrow
  have hg0 : ∃ g cap, v = .slice (some ⟨g, 0, none⟩) (nl + 1) cap ∧ w.heap.size ≤ g ∧ g < w1.heap.size := by
    rcases row_slice hrow with ⟨_, h0⟩ | ⟨g, cap, hv, h1, h2⟩
    · omega
    · exact ⟨g, cap, hv, h1, h2⟩
  obtain ⟨g, cap, rfl, hg, hgl⟩ := hg0
  have c0 : w1.cell? ⟨g, 0, none⟩ = some (.string ⟨#[]⟩) := by rw [hrow.cellAt 0 (by omega)]; rfl
  have c1 : w1.cell? ⟨g, 1, none⟩ = some (.int .i64 d) := by rw [hrow.cellAt 1 (by omega)]; rfl
  obtain ⟨g', off', cap', e, hnc, -, htl⟩ := (OwA.of hrow).tail (by omega)
  injection e with e1 e2 e3
  injection e1 with e1
  injection e1 with e1 e4
  subst e1 e3 e4
  have R1 := HR.out.blw hb1
  have HTL : Hid (OwA w1 w.heap.size 67 2 (.slice (if cap = 1 then some ⟨g, 0, none⟩ else some ⟨g, 0 + 2, none⟩) nl (cap - 1)) nl (Pp.cellsP M)) := by
    have e : (Pp.cellsP ((⟨#[]⟩, (d : Int)) :: M)).drop 2 = Pp.cellsP M := rfl
    rw [e] at htl
    exact htl
  obtain ⟨w2, hw2⟩ : ∃ w2, w2 = w1.alloc (.cells #[.string ⟨#[]⟩, .int .i64 d] 67) := ⟨_, rfl⟩
  have HB : Hid (Below w.heap.size w w1) := hb1
  have HR1 := Lib.hid R1
  have HNL := Lib.hid hnl
  have k4 := R1.blk.at (i := 4) (v := .slice la ln lc) rfl
  obtain ⟨H, hH⟩ : ∃ H, H = w1.heap.size := ⟨_, rfl⟩
  have hb12 : Below w1.heap.size w1 w2 := by rw [hw2]; exact below_box _
  have HH : Hid (Blk w2 H 67 [.string ⟨#[]⟩, .int .i64 d]) := by rw [hw2]; exact blk_new hH
  have HR2 := Lib.hid (R1.blw hb12)
  have HT2 := Lib.hid (HTL.out.blw hb12)
  have HB2 := Lib.hid (below_trans HB.out hb12)
  have HW2 := Lib.hid hw2
  have HHH := Lib.hid hH
  have hRw : R < w.heap.size := HR.out.blk.lt
  have hdi : ¬ (ln : Int) < (d : Int) := by omega
  have hd0 : ¬ (d : Int) < 0 := by omega
  clear R1 htl hrow hw2 hnl hb12 hH HTL HB
  go_upto_region 5 with fail
  rw [← HW2.out, ← HHH.out]
  have b0 := HH.out.at (i := 0) (v := .string ⟨#[]⟩) rfl
  have b1 := HH.out.at (i := 1) (v := .int .i64 d) rfl
  have m4 := HR2.out.blk.at (i := 4) (v := .slice la ln lc) rfl
  clear c0 c1 k4
  go_quiet (fail)
  obtain ⟨w3, hw3⟩ : ∃ w3, w3 = w2.drewN nq := ⟨_, rfl⟩
  have hb23 : Below w2.heap.size w2 w3 := by rw [hw3]; exact below_drewN _ _
  rw [← hw3]
  have HR3 := Lib.hid (HR2.out.blw hb23)
  have HT3 := Lib.hid (HT2.out.blw hb23)
  have HB3 := Lib.hid (below_trans HB2.out hb23)
  have b1 := (HH.out.blw hb23).at (i := 1) (v := .int .i64 d) rfl
  have n5 := HR3.out.blk.at (i := 5) (v := .int .i64 done) rfl
  have n6 := HR3.out.blk.at (i := 6) (v := mv) rfl
  have f5 := HR3.out.blk.frozen 5
  have f6 := HR3.out.blk.frozen 6
  have hcap1 : 1 ≤ cap := by omega
  have hRH : R ≠ H := by have := HHH.out; have := HR1.out.blk.lt; omega
  clear hw3 hb23 b0 m4 HH HR2 HT2 HB2
  have FIN : Hid (∀ (v : Value), OwA w3 w.heap.size 67 2 v nl (Pp.cellsP M) → IsMR ((w3.setCell ⟨R, 5, none⟩ (.int .i64 d)).setCell ⟨R, 6, none⟩ v).drew R j rv (.slice la ln lc) lines d v M ∧ FrM w ((w3.setCell ⟨R, 5, none⟩ (.int .i64 d)).setCell ⟨R, 6, none⟩ v).drew R none ∧ ∀ b, v.ownBlock = some b → w.heap.size ≤ b) := fun v hv => by
    have h4 := HR3.out
    have bel : Below R w3 ((w3.setCell ⟨R, 5, none⟩ (.int .i64 d)).setCell ⟨R, 6, none⟩ v) := ((Below.refl R w3).setCell (p := ⟨R, 5, none⟩) (Nat.le_refl _) _).setCell (p := ⟨R, 6, none⟩) (Nat.le_refl _) _
    have h5 := hv.low (lo := R + 1) hRw
    rw [HNL.out] at h5
    have hm : IsMR ((w3.setCell ⟨R, 5, none⟩ (.int .i64 d)).setCell ⟨R, 6, none⟩ v) R j rv (.slice la ln lc) lines d v M := ⟨(h4.blk.set 5 _).set 6 _, fun w' h' => h4.rules w' (bel.trans h'), fun w' h' => h4.lines w' (bel.trans h'), (h5.stay (Nat.lt_succ_self R)).stay (Nat.lt_succ_self R)⟩
    exact ⟨hm.blw (Pp.blw_drew (Below.refl _ _)), (((FrM.of_blw HB3.out R none).put 5 _).put 6 _).blw (Pp.blw_drew (Below.refl _ _)), fun b hb' => (hv.lt b hb').1⟩
  have HLL : Hid ((lines.map bs).length = ln) := by show _ = _; rw [List.length_map, HLN.out]
  have HTT := HT3.out
  by_cases hc : cap = 1
  · rw [if_pos hc] at HTT
    subst hc
    have hn0 : nl = 0 := by omega
    subst hn0
    have I := Lib.hid (FIN.out _ HTT)
    clear HTT HT3
    go_upto_region 7 with fail
    go_region
    all_goals
      generalize (World.drew _) = w5 at *
      clear b1 n5 n6 f5 f6
      go_wp2
      go_ret
      rw [HLL.out]
      exact ⟨_, rfl, I.out.1, I.out.2.1, I.out.2.2⟩
  · rw [if_neg hc] at HTT
    have I := Lib.hid (FIN.out _ HTT)
    clear HTT HT3
    go_upto_region 7 with fail
    go_region
    all_goals
      rw [Nat.zero_add] at I
      generalize (World.drew _) = w5 at *
      clear b1 n5 n6 f5 f6
      go_wp2
      go_ret
      rw [HLL.out]
      exact ⟨_, rfl, I.out.1, I.out.2.1, I.out.2.2⟩
end Go.Proofs.YtmgpacenooncjaaGreatDoor
/- Mapping: a run, and all that it should have made. Written by tpl/mk_mp.py. -/
namespace Go.Proofs.YtmgpacenooncjaaGreatDoor
open Go.ChangeShapes Go.WideShapes Go.ChangeAt Go.RowKit
/-- A run that goes on; beside it a job's cell, and a list of all that was made, put together apart. -/
structure MA (w wr : World) (P B R : Nat) (jv : List Value) (j : Jb) (rv lv mv : Value) (lines : List (List UInt8)) (d : Nat) (av : Value) (a : Nat) : Prop where
  org : Below w.heap.size w wr
  job : Blk wr P 24 jv
  lowP : w.heap.size ≤ P
  ltP : P < B
  run : IsMR wr R j rv lv lines d mv (madeOf j (lines.take d))
  held : MRheld B wr R j rv lv lines
  all : wr.ownsRow w.heap.size 67 2 av (madeOf j (lines.take a)).length (Pp.cellsP (madeOf j (lines.take a)))
  apart : ∀ g, av.ownBlock = some g → (g < B ∨ R < g) ∧ mv.ownBlock ≠ some g
  din : d ≤ lines.length
theorem MA.low {w wr : World} {P B R d a : Nat} {jv : List Value} {j : Jb} {rv lv mv av : Value} {lines : List (List UInt8)} (h : MA w wr P B R jv j rv lv mv lines d av a) : w.heap.size ≤ P ∧ P < R ∧ (∀ g, mv.ownBlock = some g → R < g) := by
  have h1 := h.held.low
  have h2 := h.ltP
  exact ⟨h.lowP, by omega, fun g hg => (h.run.row.lt g hg).1⟩
theorem MA.below {w wr w' : World} {P B R d a : Nat} {jv : List Value} {j : Jb} {rv lv mv av : Value} {lines : List (List UInt8)} (h : MA w wr P B R jv j rv lv mv lines d av a) (hb : Below wr.heap.size wr w') : MA w w' P B R jv j rv lv mv lines d av a := by
  obtain ⟨h1, h2⟩ := h.run.stay h.held hb
  exact ⟨h.org.trans (hb.mono h.org.size), h.job.blw hb, h.lowP, h.ltP, h1, h2, ow_below h.all hb, h.apart, h.din⟩
theorem MA.step {w wr w' : World} {P B R d d' a : Nat} {jv : List Value} {j : Jb} {rv lv mv mv' av : Value} {lines : List (List UInt8)} (h : MA w wr P B R jv j rv lv mv lines d av a) (hr : IsMR w' R j rv lv lines d' mv' (madeOf j (lines.take d'))) (hd : d' ≤ lines.length) (hF : FrM wr w' R mv.ownBlock) (ho : mv'.ownBlock = mv.ownBlock ∨ ∀ b, mv'.ownBlock = some b → wr.heap.size ≤ b) : MA w w' P B R jv j rv lv mv' lines d' av a := by
  obtain ⟨l1, l2, l3⟩ := h.low
  have hB := h.held.low
  have hRl := h.run.blk.lt
  have hk : ∀ k, k < R → wr.heap[k]? = w'.heap[k]? := fun k hk => by
    refine (hF.block k (by omega) (by omega) (fun e => ?_)).symm
    have := l3 k e.symm
    omega
  refine ⟨⟨hF.os.trans h.org.os, hF.tape.trans h.org.tape, hF.output.trans h.org.output, Nat.le_trans h.org.size hF.size, fun k hk2 => (hk k (by omega)).symm.trans (h.org.block k hk2)⟩, (hk P (by omega)).symm.trans h.job, h.lowP, h.ltP, hr, h.held.keeps (fun k _ h2 => (hk k h2).symm), ?_, fun g hg => ?_, hd⟩
  · refine ow_kept h.all fun g hg => hF.block g ((h.all.lt g hg).2) (fun e => ?_) (fun e => (h.apart g hg).2 e.symm)
    rcases (h.apart g hg).1 with h1 | h1 <;> omega
  · refine ⟨(h.apart g hg).1, fun e => ?_⟩
    rcases ho with ho | ho
    · exact (h.apart g hg).2 (ho.symm.trans e)
    · have h1 := ho g e
      have h2 := (h.all.lt g hg).2
      omega
theorem MA.grow {w wr w' : World} {P B R d a a' : Nat} {jv : List Value} {j : Jb} {rv lv mv av av' : Value} {lines : List (List UInt8)} (h : MA w wr P B R jv j rv lv mv lines d av a) (ho : w'.ownsRow w.heap.size 67 2 av' (madeOf j (lines.take a')).length (Pp.cellsP (madeOf j (lines.take a')))) (hg : wr.grownBy w' av.ownBlock) (hat : av'.ownBlock = av.ownBlock ∨ av'.ownBlock = none ∨ ∃ b, av'.ownBlock = some b ∧ wr.heap.size ≤ b) : MA w w' P B R jv j rv lv mv lines d av' a' := by
  obtain ⟨l1, l2, l3⟩ := h.low
  have hB := h.held.low
  have hRl := h.run.blk.lt
  have hk : Keeps B R wr w' := Keeps.of_grown hg (Nat.le_of_lt hRl) (fun g e => by rcases (h.apart g e).1 with h1 | h1 <;> omega)
  have hh := h.held.keeps hk
  refine ⟨h.org.grown hg h.org.size (fun g hg => (h.all.lt g hg).1), blk_ow h.job h.all (by decide) hg, h.lowP, h.ltP, ⟨?_, fun w2 h2 => hh.rules w2 (fun k _ hk => h2.block k hk), fun w2 h2 => hh.lines w2 (fun k _ hk => h2.block k hk), h.run.row.grown hg (fun g hm e => (h.apart g e.symm).2 hm)⟩, hh, ho, fun g hg' => ?_, h.din⟩
  · refine (hg.block R hRl (fun e => ?_)).trans h.run.blk
    rcases (h.apart R e.symm).1 with h1 | h1 <;> omega
  · rcases hat with e | e | ⟨b, e, hb⟩
    · exact h.apart g (e.symm.trans hg')
    · rw [e] at hg'; cases hg'
    · rw [e] at hg'
      injection hg' with hg'
      subst hg'
      refine ⟨.inr (by omega), fun e2 => ?_⟩
      have := (h.run.row.lt b e2).2
      omega
/-- Another run, just made, then loaded, in its place. -/
theorem MA.swap {w wr w3 w4 : World} {P B R R2 d a : Nat} {jv : List Value} {j : Jb} {rv lv mv rv2 lv2 mv2 av : Value} {lines : List (List UInt8)} (h : MA w wr P B R jv j rv lv mv lines d av a) (hb : Below wr.heap.size wr w3) (hh : MRheld wr.heap.size w3 R2 j rv2 lv2 lines) (hR3 : R2 < w3.heap.size) (hr : IsMR w4 R2 j rv2 lv2 lines d mv2 (madeOf j (lines.take d))) (hF : FrM w3 w4 R2 none) (ho : ∀ b, mv2.ownBlock = some b → w3.heap.size ≤ b) : MA w w4 P wr.heap.size R2 jv j rv2 lv2 mv2 lines d av a := by
  have h3 := h.below hb
  have hlow := hh.low
  have hPl := h.job.lt
  have hsz := h.org.size
  have hk : ∀ k, k < w3.heap.size → k ≠ R2 → w4.heap[k]? = w3.heap[k]? := fun k h1 h2 => hF.block k h1 h2 (by simp)
  refine ⟨⟨hF.os.trans h3.org.os, hF.tape.trans h3.org.tape, hF.output.trans h3.org.output, Nat.le_trans h3.org.size hF.size, fun k hk2 => (hk k (by have := h3.org.size; omega) (by omega)).trans (h3.org.block k hk2)⟩, (hk P h3.job.lt (by omega)).trans h3.job, h.lowP, hPl, hr, hh.keeps (fun k h1 h2 => hk k (by omega) (by omega)), ow_kept h3.all fun g hg => hk g (h3.all.lt g hg).2 (by have := (h.all.lt g hg).2; omega), fun g hg => ⟨.inl (h.all.lt g hg).2, fun e => ?_⟩, h.din⟩
  have h1 := ho g e
  have h2 := (h3.all.lt g hg).2
  omega
set_option maxRecDepth 100000 in
set_option maxHeartbeats 1000000 in
theorem at_any (R done : Nat) (j : Jb) (rv lv mv : Value) (lines : List (List UInt8)) (M : List (ByteArray × Int)) (w : World) (h : IsMR w R j rv lv lines done mv M) :
    Calls Tryz.prog 19 #[.pointer (some ⟨R, 0, none⟩)] w fun e w' => e = .returned (.int .i64 (done : Int)) ∧ w' = w := by
  have c5 := h.blk.at (i := 5) (v := .int .i64 done) rfl
  clear h
  go_enter Tryz.func19, Tryz.ntmps19
  go_wp2
  go_ret
  exact ⟨rfl, rfl⟩
theorem made_take_len2 {j : Jb} {lines : List (List UInt8)} (hf : jobFault j = 0) (hlo : ∀ x ∈ lines, x.length ≤ 150) (hn : lines.length ≤ 60) (d : Nat) : (madeOf j (lines.take d)).length ≤ 59999 := by
  have h1 := made_len j 150 (lines.take d) (jobFault_parts hf).2.1 (fun x hx => hlo x (List.mem_of_mem_take hx))
  have h2 : (lines.take d).length ≤ 60 := by rw [List.length_take]; omega
  have h3 := Nat.mul_le_mul_right (4 * (150 + 1)) h2
  omega
theorem wpList_append_prs {w : World} {ops : Array Oper} {rest : List Oper} {o : Oper} {a : Act} {Q : Exit → Act → World → Prop} (hgd : o.guard = none) (s x : Operand)
    (ho : o.op = .call { callee := .builtin .append, args := #[s, x], argTypes := #[42, 42] })
    {base n : Nat} {v xv : Value} {A B : List (ByteArray × Int)} (hs : a.eval s = v) (hown : w.ownsRow base 67 2 v n (Pp.cellsP A)) (hn : n = A.length) (hx : a.eval x = xv) (hB : Pp.IsPairs w xv B) (hlen : A.length + B.length ≤ 1000000) (hbase : base ≤ w.heap.size) {N : Nat} (hN : (A ++ B).length = N)
    (h : ∀ va vc w', w'.ownsRow base 67 2 (.slice va N vc) N (Pp.cellsP (A ++ B)) → w.grownBy w' v.ownBlock → ((Value.slice va N vc).ownBlock = v.ownBlock ∨ (Value.slice va N vc).ownBlock = some w.heap.size) → wpList Tryz.prog ops Q rest (a.put o.dst (.slice va N vc)) w') : wpList Tryz.prog ops Q (o :: rest) a w := by
  refine wpList_plain hgd fun K hK' => ?_
  obtain ⟨va, vc, w', hr, h2, h3, h4⟩ := run_append_prs o.type hown hn hB rfl hlen hbase
  rw [hN] at hr h2 h4
  unfold Oper.wp execOp
  simp only [ho, resolve, invoke, builtin, Sem.run_bind, Sem.run_pure, Result.andThen_ok, List.map_toArray, List.map_cons, List.map_nil, hs, hx, hr]
  exact hK' _ _ (h va vc w' h2 h3 h4)
end Go.Proofs.YtmgpacenooncjaaGreatDoor
/- Contracts of the document's answer over expressions: noEnd, parts, shaped, ExprFault. -/
namespace Go.Proofs.YtmgpacenooncjaaGreatDoor
open Go.ChangeShapes Go.WideShapes Go.ChangeAt Go.RowKit
theorem at_bs (x : List UInt8) (j : Nat) (h : j < x.length) (hq : j < (bs x).size) : (bs x)[j]'hq = x[j]'h := by simp only [bs]; rfl
theorem byte_is {x : List UInt8} {j : Nat} (hq : j < (bs x).size) (c : UInt8) (n : Int) (hn : n = (c.toNat : Int)) : ((((bs x)[j]'hq).toNat : Int) == n) = decide (x[j]? = some c) := by
  have h : j < x.length := by rw [bs_size] at hq; exact hq
  rw [at_bs x j h hq, List.getElem?_eq_getElem h, hn]
  by_cases hc : x[j] = c
  · simp [hc]
  · rw [decide_eq_false (by simpa using hc), beq_eq_false_iff_ne]
    intro hh
    exact hc (UInt8.toNat_inj.1 (by omega))
set_option maxRecDepth 100000 in
theorem noEnd_any (s : List UInt8) (w : World) (hs : s.length ≤ 1000000000) :
    Calls Tryz.prog 39 #[.string (bs s)] w fun r w' => r = .returned (.bool (!s.contains 10)) ∧ w' = w := by
  have hsz : (bs s).size ≤ 1000000000 := by rw [bs_size]; exact hs
  have HS := Lib.hid (bs_size s)
  obtain ⟨R, hR⟩ : ∃ R, R = !s.contains 10 := ⟨_, rfl⟩
  rw [← hR]
  have HR := Lib.hid hR
  clear hR
  go_enter Tryz.func39, Tryz.ntmps39
  go_wp2
  go_loop [3] (fun iv => ∃ i : Nat, i ≤ (bs s).size ∧ iv = .int .i64 i ∧ Hid ((s.take i).contains 10 = false)) (fun iv => (bs s).size - (intOf iv).toNat)
  case atStart => exact ⟨0, Nat.zero_le _, rfl, (show _ = false from rfl)⟩
  case round =>
    obtain ⟨i, hi, rfl, hp⟩ := hrel
    by_cases hlt : i < (bs s).size
    · obtain ⟨x, hx⟩ : ∃ x, s[i]? = some x := ⟨s[i]'(by have := HS.out; omega), by simp⟩
      have hb := byte_is hlt 10 10 rfl
      by_cases hc : x = 10
      · subst hc
        rw [hx] at hb
        simp only [decide_true] at hb
        have hin : Hid (s.contains 10 = true) := by
          show _ = true
          rw [List.contains_iff_mem]
          exact List.mem_of_getElem? hx
        clear hx
        go_wp2
        go_ret
        have h2 := hin.out
        exact ⟨ret_bool (by rw [HR.out, h2]; rfl), rfl⟩
      · have hb2 : decide (s[i]? = some (10 : UInt8)) = false := by rw [hx]; simp [hc]
        rw [hb2] at hb
        have hnx : Hid ((s.take (i + 1)).contains 10 = false) := by
          show _ = false
          rw [take_snoc hx]
          have h3 := hp.out
          have hc' : ¬ (10 = x) := fun h => hc h.symm
          simp at h3 ⊢
          exact ⟨h3, hc'⟩
        clear hb2 hx
        go_wp2
        go_round
        case rel => exact ⟨i + 1, by omega, by go_num, hnx⟩
        case measure => simp [intOf]; omega
    · have hall : Hid (s.contains 10 = false) := by
        show _ = false
        have h3 := hp.out
        rw [List.take_of_length_le (by have := HS.out; omega)] at h3
        exact h3
      go_wp2
      go_ret
      have h2 := hall.out
      exact ⟨ret_bool (by rw [HR.out, h2]; rfl), rfl⟩
set_option maxRecDepth 100000 in
set_option maxHeartbeats 1000000 in
theorem parts_any {w : World} {sv : Value} {e : Ex} (h : IsEx w sv e) : e.wt ≤ 1000000000 → ∀ w', Below w.heap.size w w' →
    Calls Tryz.prog 71 #[e.val sv] w' fun r w'' => r = .returned (.tuple #[.int .i64 e.cnt, .int .i64 e.dep]) ∧ Below w'.heap.size w' w'' := by
  induction h using IsEx.ind with
  | mk k n s a cap l b off A ha hc kids ih =>
    intro hw w1 hb
    simp only [Ex.wt] at hw
    simp only [Ex.val, Ex.k, Ex.n, Ex.s, Ex.cnt, Ex.dep]
    have hl := len_wtL l
    have hcw : Ex.cnt.cntL l ≤ Ex.wt.wtL l := by
      clear hl hw hc kids ih ha
      induction l with
      | nil => simp [Ex.cnt.cntL]
      | cons x l ih => have := cnt_wt x; simp only [Ex.cnt.cntL, Ex.wt.wtL]; omega
    have hdw : Ex.dep.depL l ≤ Ex.cnt.cntL l := by
      clear hl hw hc kids ih ha hcw
      induction l with
      | nil => simp [Ex.dep.depL]
      | cons x l ih => have := dep_cnt x; simp only [Ex.cnt.cntL, Ex.dep.depL]; omega
    have HA := Lib.hid ha
    have HC := Lib.hid hc
    clear ha hc
    go_enter Tryz.func71, Tryz.ntmps71
    go_wp2
    go_loopw [4, 5, 6] (fun nv dv iv wr => ∃ (i c p : Nat), i ≤ l.length ∧ iv = .int .i64 i ∧ nv = .int .i64 c ∧ dv = .int .i64 p ∧ c ≤ 1 + Ex.cnt.cntL l ∧ p ≤ Ex.dep.depL l ∧ Hid (c = 1 + Ex.cnt.cntL (l.take i) ∧ p = Ex.dep.depL (l.take i)) ∧ Below w1.heap.size w1 wr ∧ wr.cell? ⟨w1.heap.size, 3, none⟩ = some (.slice a l.length cap)) (fun _ _ iv _ => l.length - (intOf iv).toNat)
    case atStart => exact ⟨0, 1, 0, Nat.zero_le _, rfl, rfl, rfl, by omega, by omega, ⟨rfl, rfl⟩, below_box _, by simp⟩
    case round =>
      obtain ⟨i, c, p, hi, rfl, rfl, rfl, hcl, hpl, hcp, hbr, cb⟩ := hrel
      by_cases hlt : i < l.length
      · obtain ⟨x, hx⟩ : ∃ x, l[i]? = some x := ⟨l[i], by simp⟩
        have ea := HA.out (by omega)
        subst ea
        have hbw := below_trans hb hbr
        obtain ⟨c0, c1, c2, c3⟩ := HC.out i x hx
        replace c0 := cell_below c0 hbw
        replace c1 := cell_below c1 hbw
        replace c2 := cell_below c2 hbw
        replace c3 := cell_below c3 hbw
        have I := Lib.hid (ih i x hx (by have := wt_kid hx; omega) wr hbw)
        have hn1 : Hid (c + x.cnt = 1 + Ex.cnt.cntL (l.take (i + 1)) ∧ max p x.dep = Ex.dep.depL (l.take (i + 1))) := by
          obtain ⟨h1, h2⟩ := hcp.out
          rw [h1, h2]
          exact ⟨by rw [cntL_take hx]; omega, by rw [depL_take hx]⟩
        have hc2 : c + x.cnt ≤ 1 + Ex.cnt.cntL l := by
          rw [hn1.out.1]
          have := cntL_le l (i + 1)
          omega
        have hp2 : max p x.dep ≤ Ex.dep.depL l := by
          rw [hn1.out.2]
          exact depL_le l (i + 1)
        clear hx ih
        unfold Ex.val at I
        generalize x.cnt = xc at *
        generalize x.dep = xd at *
        go_wp2_with (go_at_call 71; refine Hid.out ?_)
        refine Lib.hid ?_
        refine I.out.mono ?_
        rintro _ w2 ⟨rfl, hb2⟩
        have cb2 := cell_below cb hb2
        have hmx : max (p : Int) (xd : Int) = ((max p xd : Nat) : Int) := by omega
        clear c0 c1 c2 c3
        go_wp2
        go_roundw
        case rel => exact ⟨i + 1, c + xc, max p xd, by omega, by go_num, by go_num, by first | rfl | (rw [hmx]) | simp, hc2, hp2, hn1, below_trans hbr hb2, cb2⟩
        case measure => simp [intOf]; omega
      · have hfin : Hid (c = 1 + Ex.cnt.cntL l ∧ p = Ex.dep.depL l) := by
          have h1 := hcp.out
          rw [List.take_of_length_le (by omega)] at h1
          exact h1
        go_wp2
        go_ret2
        obtain ⟨h1, h2⟩ := hfin.out
        refine ⟨?_, hbr⟩
        rw [← h1, ← h2]
        simp
        omega
end Go.Proofs.YtmgpacenooncjaaGreatDoor
/- Contracts of the document's answer: Words, Str, Int over expressions that may be. -/
namespace Go.Proofs.YtmgpacenooncjaaGreatDoor
open Go.ChangeShapes Go.WideShapes Go.ChangeAt Go.RowKit
/-- Words so far, and the word that is begun. -/
def wst (acc : List (List UInt8)) (cur : List UInt8) : List UInt8 → List (List UInt8) × List UInt8
  | [] => (acc, cur)
  | b :: r => if b = 32 then wst (if cur = [] then acc else acc ++ [cur]) [] r else wst acc (cur ++ [b]) r
theorem wst_go (l : List UInt8) : ∀ acc cur, (wst acc cur l).1 ++ (if (wst acc cur l).2 = [] then [] else [(wst acc cur l).2]) = acc ++ wgo cur l := by
  induction l with
  | nil => intro acc cur; rfl
  | cons b r ih =>
    intro acc cur
    unfold wst wgo
    by_cases hb : b = 32
    · rw [if_pos hb, if_pos hb, ih]
      by_cases hc : cur = []
      · rw [if_pos hc, if_pos hc]
      · rw [if_neg hc, if_neg hc]; simp
    · rw [if_neg hb, if_neg hb, ih]
theorem wst_snoc (l : List UInt8) (b : UInt8) : ∀ acc cur, wst acc cur (l ++ [b]) = if b = 32 then ((if (wst acc cur l).2 = [] then (wst acc cur l).1 else (wst acc cur l).1 ++ [(wst acc cur l).2]), []) else ((wst acc cur l).1, (wst acc cur l).2 ++ [b]) := by
  induction l with
  | nil => intro acc cur; by_cases hb : b = 32 <;> by_cases hc : cur = [] <;> simp [wst, hb, hc]
  | cons x r ih =>
    intro acc cur
    simp only [List.cons_append, wst]
    split <;> exact ih _ _
theorem wst_len (l : List UInt8) : ∀ acc cur, (wst acc cur l).1.length ≤ acc.length + l.length ∧ (wst acc cur l).2.length ≤ cur.length + l.length := by
  induction l with
  | nil => intro acc cur; simp [wst]
  | cons b r ih =>
    intro acc cur
    unfold wst
    split
    · have h := ih (if cur = [] then acc else acc ++ [cur]) []
      have h2 : (if cur = [] then acc else acc ++ [cur]).length ≤ acc.length + 1 := by split <;> simp
      simp only [List.length_cons, List.length_nil] at h ⊢
      omega
    · have h := ih acc (cur ++ [b])
      simp only [List.length_cons, List.length_nil, List.length_append] at h ⊢
      omega
theorem bs_one (l : List UInt8) (k : Nat) (x : UInt8) (hx : l[k]? = some x) : (bs l).extract k (k + 1) = bs [x] := by
  obtain ⟨hk, rfl⟩ := List.getElem?_eq_some_iff.1 hx
  apply ByteArray.ext
  apply Array.ext'
  rw [ByteArray.data_extract]
  simp only [bs, Array.toList_extract, List.extract_eq_take_drop]
  simp [List.take_one, List.head?_drop, hk]
/-- Words so far at a place. -/
def wat (s : List UInt8) (i : Nat) : List (List UInt8) × List UInt8 := if i ≤ s.length then wst [] [] (s.take i) else (wordsL s, [])
theorem wat_zero (s : List UInt8) : wat s 0 = ([], []) := by simp [wat, wst]
theorem wat_some {s : List UInt8} {i : Nat} {x : UInt8} (hx : s[i]? = some x) : wat s (i + 1) = if x = 32 then ((if (wat s i).2 = [] then (wat s i).1 else (wat s i).1 ++ [(wat s i).2]), []) else ((wat s i).1, (wat s i).2 ++ [x]) := by
  have hi : i < s.length := (List.getElem?_eq_some_iff.1 hx).1
  have e1 : wat s i = wst [] [] (s.take i) := if_pos (by omega)
  have e2 : wat s (i + 1) = wst [] [] (s.take (i + 1)) := if_pos (by omega)
  rw [e1, e2, take_snoc hx, wst_snoc]
theorem wat_end {s : List UInt8} {i : Nat} (hi : i = s.length) : wat s (i + 1) = ((if (wat s i).2 = [] then (wat s i).1 else (wat s i).1 ++ [(wat s i).2]), []) := by
  have h := wst_go s [] []
  have e1 : wat s i = wst [] [] s := by
    have e0 : wat s i = wst [] [] (s.take i) := if_pos (by omega)
    rw [e0, List.take_of_length_le (by omega)]
  have e2 : wat s (i + 1) = (wordsL s, []) := if_neg (by omega)
  rw [e1, e2]
  have h2 : wordsL s = (wst [] [] s).1 ++ (if (wst [] [] s).2 = [] then [] else [(wst [] [] s).2]) := by rw [h]; rfl
  rw [h2]
  by_cases hc : (wst [] [] s).2 = [] <;> simp [hc]
theorem wat_all (s : List UInt8) (i : Nat) (h : s.length < i) : wat s i = (wordsL s, []) := by unfold wat; rw [if_neg (by omega)]
theorem wat_len (s : List UInt8) (i : Nat) : (wat s i).1.length ≤ s.length ∧ (wat s i).2.length ≤ s.length := by
  unfold wat
  split
  · have h := wst_len (s.take i) [] []
    rw [List.length_take] at h
    simp only [List.length_nil] at h
    omega
  · exact ⟨words_len s, by simp⟩
set_option maxRecDepth 100000 in
set_option maxHeartbeats 2000000 in
theorem rwords_own (s : List UInt8) (w : World) (hs : s.length ≤ 1000000) :
    Calls Tryz.prog 43 #[.string (bs s)] w fun e w' => ∃ a cap, e = .returned (.slice a (wordsL s).length cap) ∧ Hid (w'.ownsRow w.heap.size 9 1 (.slice a (wordsL s).length cap) (wordsL s).length (strs (wordsL s))) ∧ Below w.heap.size w w' := by
  obtain ⟨i0, hi, hz0, hz1, hz2⟩ := info_parts infoStr
  have hsz : (bs s).size ≤ 1000000 := by rw [bs_size]; exact hs
  have HS := Lib.hid (bs_size s)
  go_enter Tryz.func43, Tryz.ntmps43
  go_wp2
  go_loopw [3, 4, 5] (fun lv cv iv wr => ∃ (i : Nat) (acc : List (List UInt8)) (cur : List UInt8), i ≤ (bs s).size + 1 ∧ iv = .int .i64 i ∧ cv = .string (bs cur) ∧ Hid (wat s i = (acc, cur)) ∧ acc.length ≤ 1000000 ∧ (bs cur).size ≤ 1000000 ∧ wr.ownsRow w.heap.size 9 1 lv acc.length (strs acc) ∧ Below w.heap.size w wr) (fun _ _ iv _ => (bs s).size + 1 - (intOf iv).toNat)
  case atStart => exact ⟨0, [], [], Nat.zero_le _, rfl, rfl, wat_zero s, by simp, by decide, World.ownsRow_nil _ _ _ _, Below.refl _ _⟩
  case round =>
    obtain ⟨i, acc, cur, hil, rfl, rfl, HWA, hal, hcl, hown, hb⟩ := hrel
    by_cases hend : (bs s).size < i
    · have hfin : Hid (acc = wordsL s) := by
        show _ = _
        have h1 := HWA.out
        rw [wat_all s i (by have := HS.out; omega)] at h1
        injection h1 with h1 h2
        exact h1.symm
      have h1 := hown
      rw [hfin.out] at h1
      have hfv := Lib.hid h1
      have hft := isTexts_of h1
      clear h1 hown
      obtain ⟨a, cap, hv, _⟩ := hft
      rw [List.length_map] at hv
      subst hv
      go_wp2
      go_ret
      exact ⟨a, cap, rfl, hfv, hb⟩
    by_cases hlt : i < (bs s).size
    · obtain ⟨x, hx⟩ : ∃ x, s[i]? = some x := ⟨s[i]'(by have := HS.out; omega), by simp⟩
      have hby := byte_is hlt 32 32 rfl
      by_cases hc : x = 32
      · have hb2 : decide (s[i]? = some (32 : UInt8)) = true := by rw [hx, hc]; simp
        rw [hb2] at hby
        have HNX := Lib.hid (wat_some hx)
        have HNL := Lib.hid (wat_len s (i + 1))
        have HPU : Hid (wat s (i + 1) = ((if cur = [] then acc else acc ++ [cur]), [])) := by
          show _ = _
          rw [HNX.out, if_pos hc, HWA.out]
        clear hb2 hx HNX
        cases hcur : cur with
        | nil =>
          subst hcur
          have hT : (bs []).toList.isEmpty = true := by rw [bs_toList]; rfl
          have HP2 : Hid (wat s (i + 1) = (acc, [])) := by
            have h1 := HPU.out
            rw [if_pos rfl] at h1
            exact h1
          clear HPU
          go_wp2
          go_roundw
          case rel => exact ⟨i + 1, acc, [], by omega, by go_num, rfl, HP2, hal, by decide, hown, hb⟩
          case measure => simp [intOf]; omega
        | cons c0 c1 =>
          rw [← hcur]
          have hT : (bs cur).toList.isEmpty = false := by rw [bs_toList, hcur]; rfl
          have HP2 : Hid (wat s (i + 1) = (acc ++ [cur], [])) := by
            have h1 := HPU.out
            rw [if_neg (by rw [hcur]; simp)] at h1
            exact h1
          have hal2 : (acc ++ [cur]).length ≤ 1000000 := by
            have h1 := HNL.out.1
            rw [HP2.out] at h1
            exact Nat.le_trans h1 hs
          clear HPU hcur
          go_wp2_with (at_builtin; refine Hid.out ?_)
          refine Lib.hid ?_
          have hbs := hb.size
          refine wpList_append_own _ rfl (.tmp 31) (.tmp 33) 25 rfl w.heap.size 9 i0 (.string ⟨#[]⟩) 1 16 Tryz.underlying25 hi hz0 hz1 hz2 rfl (by decide) _ _ _ rfl (hown.alloc _) ⟨wr.heap.size, 0, none⟩ 1 1 (strs [cur]) rfl rfl ?c1 (strs_one _) ?c2 ?c3 ?c4 ?_
          case c1 => exact lit_cells rfl (show 1 ≤ maxLen by decide)
          case c2 => unfold maxLen; omega
          case c3 => omega
          case c4 => simp; omega
          intro v2 w2 hown2 hg2 _
          have hb2 : Below w.heap.size w w2 := (hb.alloc (by omega) _).grown hg2 (by simp; omega) (fun k hk => (hown.lt k hk).1)
          have hown3 : Hid (w2.ownsRow w.heap.size 9 1 v2 (acc ++ [cur]).length (strs (acc ++ [cur]))) := by
            show World.ownsRow _ _ _ _ _ _ _
            rw [strs_append, List.length_append]
            exact hown2
          clear hown hown2 hg2 hb
          go_wp2
          go_roundw
          case rel => exact ⟨i + 1, acc ++ [cur], [], by omega, by go_num, rfl, HP2, hal2, by decide, hown3.out, hb2⟩
          case measure => simp [intOf]; omega
      · have hb2 : decide (s[i]? = some (32 : UInt8)) = false := by rw [hx]; simp [hc]
        rw [hb2] at hby
        have HNX := Lib.hid (wat_some hx)
        have HNL := Lib.hid (wat_len s (i + 1))
        have HPU : Hid (wat s (i + 1) = (acc, cur ++ [x])) := by
          show _ = _
          rw [HNX.out, if_neg hc, HWA.out]
        have hcl2 : (bs (cur ++ [x])).size ≤ 1000000 := by
          have h1 := HNL.out.2
          rw [HPU.out] at h1
          rw [bs_size]
          exact Nat.le_trans h1 hs
        obtain ⟨j, hj⟩ : ∃ j, j = i + 1 := ⟨_, rfl⟩
        have hj1 : (i : Int) + 1 = (j : Int) := by omega
        have hj2 : i ≤ j := by omega
        have hj3 : j ≤ (bs s).size := by omega
        have hj4 : i < j := by omega
        have HEX := Lib.hid (bs_one s i x hx)
        rw [← hj] at HEX HPU
        have HAP : Hid (bs cur ++ bs [x] = bs (cur ++ [x])) := bs_append _ _
        have h1s : ((bs s).extract i j).size = 1 := by rw [HEX.out]; rfl
        clear hb2 hx HNX hj HNL
        have n1 : ¬ 9223372036854775807 < (bs cur).size + 1 := by omega
        go_wp2
        go_roundw
        case rel => exact ⟨j, acc, cur ++ [x], by omega, rfl, by rw [← HAP.out, ← HEX.out], HPU, hal, hcl2, hown, hb⟩
        case measure => simp [intOf]; omega
    · have HNL := Lib.hid (wat_len s (i + 1))
      have HPU : Hid (wat s (i + 1) = ((if cur = [] then acc else acc ++ [cur]), [])) := by
        show _ = _
        rw [wat_end (by have := HS.out; omega), HWA.out]
      cases hcur : cur with
      | nil =>
        subst hcur
        have hT : (bs []).toList.isEmpty = true := by rw [bs_toList]; rfl
        have HP2 : Hid (wat s (i + 1) = (acc, [])) := by
          have h1 := HPU.out
          rw [if_pos rfl] at h1
          exact h1
        clear HPU
        go_wp2
        go_roundw
        case rel => exact ⟨i + 1, acc, [], by omega, by go_num, rfl, HP2, hal, by decide, hown, hb⟩
        case measure => simp [intOf]; omega
      | cons c0 c1 =>
        rw [← hcur]
        have hT : (bs cur).toList.isEmpty = false := by rw [bs_toList, hcur]; rfl
        have HP2 : Hid (wat s (i + 1) = (acc ++ [cur], [])) := by
          have h1 := HPU.out
          rw [if_neg (by rw [hcur]; simp)] at h1
          exact h1
        have hal2 : (acc ++ [cur]).length ≤ 1000000 := by
          have h1 := HNL.out.1
          rw [HP2.out] at h1
          exact Nat.le_trans h1 hs
        clear HPU hcur
        go_wp2_with (at_builtin; refine Hid.out ?_)
        refine Lib.hid ?_
        have hbs := hb.size
        refine wpList_append_own _ rfl (.tmp 31) (.tmp 33) 25 rfl w.heap.size 9 i0 (.string ⟨#[]⟩) 1 16 Tryz.underlying25 hi hz0 hz1 hz2 rfl (by decide) _ _ _ rfl (hown.alloc _) ⟨wr.heap.size, 0, none⟩ 1 1 (strs [cur]) rfl rfl ?c1 (strs_one _) ?c2 ?c3 ?c4 ?_
        case c1 => exact lit_cells rfl (show 1 ≤ maxLen by decide)
        case c2 => unfold maxLen; omega
        case c3 => omega
        case c4 => simp; omega
        intro v2 w2 hown2 hg2 _
        have hb2 : Below w.heap.size w w2 := (hb.alloc (by omega) _).grown hg2 (by simp; omega) (fun k hk => (hown.lt k hk).1)
        have hown3 : Hid (w2.ownsRow w.heap.size 9 1 v2 (acc ++ [cur]).length (strs (acc ++ [cur]))) := by
          show World.ownsRow _ _ _ _ _ _ _
          rw [strs_append, List.length_append]
          exact hown2
        clear hown hown2 hg2 hb
        go_wp2
        go_roundw
        case rel => exact ⟨i + 1, acc ++ [cur], [], by omega, by go_num, rfl, HP2, hal2, by decide, hown3.out, hb2⟩
        case measure => simp [intOf]; omega
theorem rwords_any (s : List UInt8) (w : World) (hs : s.length ≤ 1000000) :
    Calls Tryz.prog 43 #[.string (bs s)] w fun e w' => ∃ a cap, e = .returned (.slice a (wordsL s).length cap) ∧ Hid (IsTexts w' (.slice a (wordsL s).length cap) ((wordsL s).map bs)) ∧ Below w.heap.size w w' :=
  (rwords_own s w hs).mono fun _ _ ⟨a, c, h1, h2, h3⟩ => ⟨a, c, h1, isTexts_of h2.out, h3⟩
end Go.Proofs.YtmgpacenooncjaaGreatDoor
/- Contracts of the document's answer: Str and Int of expressions that may be. Made out of ExT's by program. -/
namespace Go.Proofs.YtmgpacenooncjaaGreatDoor
open Go.ChangeShapes Go.WideShapes Go.ChangeAt Go.RowKit
/-- A record, and the word of it that is looked at. -/
def rc (line it : List UInt8) : Rc := ⟨line, it, wordsL line⟩
set_option maxRecDepth 100000 in
set_option maxHeartbeats 1000000 in
theorem rstr_any (line it : List UInt8) (hline : line.length ≤ 1000000) (each : Bool) {w : World} {sv : Value} {e : Ex} (h : IsEx w sv e) : e.ok true each = true → e.len (rc line it) ≤ 1000000000 → ∀ w', Below w.heap.size w w' →
    Calls Tryz.prog 44 #[e.val sv, .string (bs line), .string (bs it)] w' fun r w'' => r = .returned (.string (bs (e.str (rc line it)))) ∧ Below w'.heap.size w' w'' := by
  have hmix : Tryz.prog.follows .mixedOrders = true := by kernel_rfl
  induction h using IsEx.ind with
  | mk k n s a cap l b off A ha hc kids ih =>
    intro hok hlen w1 hb
    have HA := Lib.hid ha
    have HC := Lib.hid hc
    have hcase := ok_text hok
    clear ha hc hok kids
    simp only [Ex.val, Ex.k, Ex.n, Ex.s]
    rcases hcase with rfl | rfl | ⟨rfl, h0, h1⟩ | rfl | ⟨rfl, hl2, hok2⟩ | ⟨rfl, hl1, h0, h1, hok1⟩
    · go_enter Tryz.func44, Tryz.ntmps44
      go_wp2
      go_ret
      exact ⟨rfl, below_box _⟩
    · go_enter Tryz.func44, Tryz.ntmps44
      go_wp2
      go_ret
      exact ⟨rfl, below_box _⟩
    · obtain ⟨m, rfl⟩ : ∃ m : Nat, n = (m : Int) := ⟨n.toNat, by omega⟩
      have WD := Lib.hid (fun w => rwords_any line w hline)
      go_enter Tryz.func44, Tryz.ntmps44
      go_wp2_with (go_at_call 43; refine Hid.out ?_)
      refine Lib.hid ?_
      refine (WD.out _).mono ?_
      rintro _ w2 ⟨ra, rcp, rfl, HT, hb2⟩
      have e1 := cell_below (a := ⟨w1.heap.size, 1, none⟩) (v := .int .i64 m) (by simp) hb2
      have hb3 := below_trans (below_box _) hb2
      clear hb2
      cases hx : (wordsL line)[m]? with
      | none =>
        have hm : (wordsL line).length ≤ m := by simpa using hx
        have HV : Hid (bs ((Ex.mk 3 m s l).str (rc line it)) = ⟨#[]⟩) := by
          show _ = _
          simp [Ex.str, rc, hx]; rfl
        clear hx
        generalize (wordsL line).length = nw at *
        go_wp2
        go_ret
        exact ⟨by rw [HV.out]; rfl, hb3⟩
      | some x =>
        have hm : m < (wordsL line).length := (List.getElem?_eq_some_iff.1 hx).1
        obtain ⟨bb, oo, rfl, cc⟩ := texts_get HT.out m x hx
        have HV : Hid (bs ((Ex.mk 3 m s l).str (rc line it)) = bs x) := by
          show _ = _
          simp [Ex.str, rc, hx]
        clear hx HT
        generalize (wordsL line).length = nw at *
        go_wp2
        go_ret
        exact ⟨by rw [HV.out]; rfl, hb3⟩
    · go_enter Tryz.func44, Tryz.ntmps44
      go_wp2
      go_ret
      exact ⟨rfl, below_box _⟩
    · obtain ⟨x, y, rfl⟩ := two_of hl2
      simp only [Ex.ok.okL, Bool.and_true, Bool.and_eq_true] at hok2
      have hlen2 : x.len (rc line it) + y.len (rc line it) ≤ 1000000000 := by simpa [Ex.len, Ex.len.lenL] using hlen
      have ea := HA.out (by simp)
      subst ea
      obtain ⟨w2, hw2⟩ : ∃ w2, w2 = w1.alloc (.cells #[.int .i64 5, .int .i64 n, .string (bs s), .slice (some ⟨b, off, none⟩) 2 cap] 56) := ⟨_, rfl⟩
      have hbx : Below w1.heap.size w1 w2 := by rw [hw2]; exact below_box _
      have hbw := below_trans hb hbx
      have D1 : Hid (∀ d os, Calls Tryz.prog 44 #[x.val (A 0), .string (bs line), .string (bs it)] (Sort.grow (redrawn w2 d) os) fun e w'' => e = .returned (.string (bs (x.str (rc line it)))) ∧ ∃ p : Regrown, w'' = Sort.grow (redrawn w2 p.d) p.os) := fun d os => Calls.regrown_of (ih 0 x rfl hok2.1 (by omega) _ (below_trans hbw (below_regrown _ _ _)))
      have D2 : Hid (∀ d os, Calls Tryz.prog 44 #[y.val (A 1), .string (bs line), .string (bs it)] (Sort.grow (redrawn w2 d) os) fun e w'' => e = .returned (.string (bs (y.str (rc line it)))) ∧ ∃ p : Regrown, w'' = Sort.grow (redrawn w2 p.d) p.os) := fun d os => Calls.regrown_of (ih 1 y rfl hok2.2 (by omega) _ (below_trans hbw (below_regrown _ _ _)))
      obtain ⟨c0, c1, c2, c3⟩ := HC.out 0 x rfl
      obtain ⟨d0, d1, d2, d3⟩ := HC.out 1 y rfl
      simp at c0 c1 c2 c3 d0 d1 d2 d3
      replace c0 := cell_regrown (cell_below c0 hbw)
      replace c1 := cell_regrown (cell_below c1 hbw)
      replace c2 := cell_regrown (cell_below c2 hbw)
      replace c3 := cell_regrown (cell_below c3 hbw)
      replace d0 := cell_regrown (cell_below d0 hbw)
      replace d1 := cell_regrown (cell_below d1 hbw)
      replace d2 := cell_regrown (cell_below d2 hbw)
      replace d3 := cell_regrown (cell_below d3 hbw)
      have e3 : w2.cell? ⟨w1.heap.size, 3, none⟩ = some (.slice (some ⟨b, off, none⟩) 2 cap) := by rw [hw2]; simp
      replace e3 := cell_regrown e3
      have sx := str_len (rc line it) x
      have sy := str_len (rc line it) y
      rw [← bs_size] at sx sy
      have HE : Hid (bs (x.str (rc line it)) ++ bs (y.str (rc line it)) = bs ((Ex.mk 5 n s [x, y]).str (rc line it))) := by
        show _ = _
        rw [bs_append]
        simp [Ex.str, Ex.str.strL]
      unfold Ex.val at D1 D2
      have HW2 := Lib.hid hw2
      have HBX := Lib.hid hbx
      clear hw2 hbx hbw ih HC HA hok2 hlen
      generalize x.k = xk at *
      generalize x.n = xn at *
      generalize bs x.s = xs at *
      generalize A 0 = xa at *
      generalize y.k = yk at *
      generalize y.n = yn at *
      generalize bs y.s = ys at *
      generalize A 1 = ya at *
      generalize bs (x.str (rc line it)) = X at *
      generalize bs (y.str (rc line it)) = Y at *
      have n1 : ¬ 9223372036854775807 < X.size + Y.size := by omega
      go_enter Tryz.func44, Tryz.ntmps44
      go_wp2
      rw [← HW2.out]
      refine wp_region_quiet_below hmix (by kernel_rfl) ?_
      repeat (quiet_step (first | (go_at_call_of 44 (Value.agg #[Value.int IntKind.i64 yk, Value.int IntKind.i64 yn, Value.string ys, ya]); exact D2.out _ _) | (go_at_call 44; exact D1.out _ _)))
      refine wpQuiet_nil ?_
      intro _ hw'
      obtain ⟨⟨dq, osq⟩, hw''⟩ := hw'
      subst hw''
      have hbb : Below w1.heap.size w1 (Sort.grow (redrawn w2 dq) osq) := below_trans HBX.out (below_regrown w2 dq osq)
      generalize Sort.grow (redrawn w2 dq) osq = w3 at *
      go_wp2
      go_ret
      exact ⟨by rw [← HE.out]; rfl, hbb⟩
    · obtain ⟨x, rfl⟩ := one_of hl1
      obtain ⟨m, rfl⟩ : ∃ m : Nat, n = (m : Int) := ⟨n.toNat, by omega⟩
      simp only [Ex.ok.okL, Bool.and_true] at hok1
      have hlen2 : x.len (rc line it) ≤ 1000000000 := by simpa [Ex.len, Ex.len.lenL] using hlen
      have ea := HA.out (by simp)
      subst ea
      obtain ⟨w2, hw2⟩ : ∃ w2, w2 = w1.alloc (.cells #[.int .i64 6, .int .i64 m, .string (bs s), .slice (some ⟨b, off, none⟩) 1 cap] 56) := ⟨_, rfl⟩
      have hbx : Below w1.heap.size w1 w2 := by rw [hw2]; exact below_box _
      have hbw := below_trans hb hbx
      have D1 := Lib.hid (ih 0 x rfl hok1 (by omega) w2 hbw)
      obtain ⟨c0, c1, c2, c3⟩ := HC.out 0 x rfl
      simp at c0 c1 c2 c3
      replace c0 := cell_below c0 hbw
      replace c1 := cell_below c1 hbw
      replace c2 := cell_below c2 hbw
      replace c3 := cell_below c3 hbw
      have sx := str_len (rc line it) x
      rw [← bs_size] at sx
      have HE : Hid ((bs (x.str (rc line it))).extract 0 m = bs ((Ex.mk 6 m s [x]).str (rc line it))) := by
        show _ = _
        rw [bs_take]
        simp [Ex.str, Ex.str.strL]
      have HF : Hid ((bs (x.str (rc line it))).size ≤ m → bs (x.str (rc line it)) = bs ((Ex.mk 6 m s [x]).str (rc line it))) := by
        show _ → _
        intro hh
        rw [bs_size] at hh
        simp [Ex.str, Ex.str.strL, List.take_of_length_le hh]
      unfold Ex.val at D1
      rw [hw2] at c0 c1 c2 c3
      have HW2 := Lib.hid hw2
      have HBX := Lib.hid hbx
      clear hw2 hbx hbw ih HC HA hok1 hlen
      generalize x.k = xk at *
      generalize x.n = xn at *
      generalize bs x.s = xs at *
      generalize A 0 = xa at *
      generalize bs (x.str (rc line it)) = X at *
      go_enter Tryz.func44, Tryz.ntmps44
      go_wp2_with (go_at_call 44; refine Hid.out ?_)
      refine Lib.hid ?_
      rw [← HW2.out]
      refine D1.out.mono ?_
      rintro _ w3 ⟨rfl, hb3⟩
      have e1 := cell_below (a := ⟨w1.heap.size, 1, none⟩) (v := .int .i64 m) (by rw [HW2.out]; simp) hb3
      have hbb := below_trans HBX.out hb3
      clear c0 c1 c2 c3 D1 hb3
      by_cases hm : m < X.size
      · go_wp2
        go_ret
        exact ⟨by rw [← HE.out]; rfl, hbb⟩
      · go_wp2
        go_ret
        exact ⟨by rw [← HF.out (by omega)]; rfl, hbb⟩
set_option maxRecDepth 100000 in
set_option maxHeartbeats 1000000 in
theorem rint_any (line it : List UInt8) (hline : line.length ≤ 1000000) (each : Bool) {w : World} {sv : Value} {e : Ex} (h : IsEx w sv e) : e.ok false each = true → e.far (rc line it) ≤ 1000000000 → ∀ w', Below w.heap.size w w' →
    Calls Tryz.prog 45 #[e.val sv, .string (bs line), .string (bs it)] w' fun r w'' => r = .returned (.int .i64 (e.num (rc line it))) ∧ Below w'.heap.size w' w'' := by
  have hmix : Tryz.prog.follows .mixedOrders = true := by kernel_rfl
  induction h using IsEx.ind with
  | mk k n s a cap l b off A ha hc kids ih =>
    intro hok hfar w1 hb
    have HA := Lib.hid ha
    have HC := Lib.hid hc
    have hcase := ok_num hok
    have KS := Lib.hid (fun i x hx => rstr_any line it hline each (kids i x hx))
    clear ha hc hok kids
    simp only [Ex.val, Ex.k, Ex.n, Ex.s]
    rcases hcase with rfl | ⟨rfl, hl1, hok1⟩ | rfl | ⟨rfl, hl2, hok2⟩
    · go_enter Tryz.func45, Tryz.ntmps45
      go_wp2
      go_ret
      exact ⟨rfl, below_box _⟩
    · obtain ⟨x, rfl⟩ := one_of hl1
      simp only [Ex.ok.okL, Bool.and_true] at hok1
      have hlen2 : x.len (rc line it) ≤ 1000000000 := by simpa [Ex.far, Ex.len.lenL] using hfar
      have ea := HA.out (by simp)
      subst ea
      obtain ⟨w2, hw2⟩ : ∃ w2, w2 = w1.alloc (.cells #[.int .i64 8, .int .i64 n, .string (bs s), .slice (some ⟨b, off, none⟩) 1 cap] 56) := ⟨_, rfl⟩
      have hbx : Below w1.heap.size w1 w2 := by rw [hw2]; exact below_box _
      have hbw := below_trans hb hbx
      have D1 := Lib.hid (KS.out 0 x rfl hok1 (by omega) w2 hbw)
      obtain ⟨c0, c1, c2, c3⟩ := HC.out 0 x rfl
      simp at c0 c1 c2 c3
      replace c0 := cell_below c0 hbw
      replace c1 := cell_below c1 hbw
      replace c2 := cell_below c2 hbw
      replace c3 := cell_below c3 hbw
      have sx := str_len (rc line it) x
      rw [← bs_size] at sx
      have HE : Hid (((bs (x.str (rc line it))).size : Int) = (Ex.mk 8 n s [x]).num (rc line it)) := by
        show _ = _
        rw [bs_size]
        simp [Ex.num, Ex.str.strL]
      unfold Ex.val at D1
      rw [hw2] at c0 c1 c2 c3
      have HW2 := Lib.hid hw2
      have HBX := Lib.hid hbx
      clear hw2 hbx hbw ih HC HA hok1 hfar KS
      generalize x.k = xk at *
      generalize x.n = xn at *
      generalize bs x.s = xs at *
      generalize A 0 = xa at *
      generalize bs (x.str (rc line it)) = X at *
      go_enter Tryz.func45, Tryz.ntmps45
      go_wp2_with (go_at_call 44; refine Hid.out ?_)
      refine Lib.hid ?_
      rw [← HW2.out]
      refine D1.out.mono ?_
      rintro _ w3 ⟨rfl, hb3⟩
      have hbb := below_trans HBX.out hb3
      clear c0 c1 c2 c3 D1 hb3
      go_wp2
      go_ret
      exact ⟨by rw [← HE.out]; rfl, hbb⟩
    · have WD := Lib.hid (fun w => rwords_any line w hline)
      have HV : Hid ((Ex.mk 9 n s l).num (rc line it) = ((wordsL line).length : Int)) := by
        show _ = _
        simp [Ex.num, rc]
      generalize (Ex.mk 9 n s l).num (rc line it) = V at *
      go_enter Tryz.func45, Tryz.ntmps45
      go_wp2_with (go_at_call 43; refine Hid.out ?_)
      refine Lib.hid ?_
      refine (WD.out _).mono ?_
      rintro _ w2 ⟨ra, rcp, rfl, HT, hb2⟩
      go_wp2
      go_ret
      exact ⟨by rw [HV.out]; rfl, below_trans (below_box _) hb2⟩
    · obtain ⟨x, y, rfl⟩ := two_of hl2
      simp only [Ex.ok.okL, Bool.and_true, Bool.and_eq_true] at hok2
      have hlen2 : x.far (rc line it) + y.far (rc line it) ≤ 1000000000 := by simpa [Ex.far, Ex.far.farL] using hfar
      have ea := HA.out (by simp)
      subst ea
      obtain ⟨w2, hw2⟩ : ∃ w2, w2 = w1.alloc (.cells #[.int .i64 10, .int .i64 n, .string (bs s), .slice (some ⟨b, off, none⟩) 2 cap] 56) := ⟨_, rfl⟩
      have hbx : Below w1.heap.size w1 w2 := by rw [hw2]; exact below_box _
      have hbw := below_trans hb hbx
      have D1 : Hid (∀ d os, Calls Tryz.prog 45 #[x.val (A 0), .string (bs line), .string (bs it)] (Sort.grow (redrawn w2 d) os) fun e w'' => e = .returned (.int .i64 (x.num (rc line it))) ∧ ∃ p : Regrown, w'' = Sort.grow (redrawn w2 p.d) p.os) := fun d os => Calls.regrown_of (ih 0 x rfl hok2.1 (by omega) _ (below_trans hbw (below_regrown _ _ _)))
      have D2 : Hid (∀ d os, Calls Tryz.prog 45 #[y.val (A 1), .string (bs line), .string (bs it)] (Sort.grow (redrawn w2 d) os) fun e w'' => e = .returned (.int .i64 (y.num (rc line it))) ∧ ∃ p : Regrown, w'' = Sort.grow (redrawn w2 p.d) p.os) := fun d os => Calls.regrown_of (ih 1 y rfl hok2.2 (by omega) _ (below_trans hbw (below_regrown _ _ _)))
      obtain ⟨c0, c1, c2, c3⟩ := HC.out 0 x rfl
      obtain ⟨d0, d1, d2, d3⟩ := HC.out 1 y rfl
      simp at c0 c1 c2 c3 d0 d1 d2 d3
      replace c0 := cell_regrown (cell_below c0 hbw)
      replace c1 := cell_regrown (cell_below c1 hbw)
      replace c2 := cell_regrown (cell_below c2 hbw)
      replace c3 := cell_regrown (cell_below c3 hbw)
      replace d0 := cell_regrown (cell_below d0 hbw)
      replace d1 := cell_regrown (cell_below d1 hbw)
      replace d2 := cell_regrown (cell_below d2 hbw)
      replace d3 := cell_regrown (cell_below d3 hbw)
      have e3 : w2.cell? ⟨w1.heap.size, 3, none⟩ = some (.slice (some ⟨b, off, none⟩) 2 cap) := by rw [hw2]; simp
      replace e3 := cell_regrown e3
      have sx := num_far (rc line it) x
      have sy := num_far (rc line it) y
      have HE : Hid (x.num (rc line it) + y.num (rc line it) = (Ex.mk 10 n s [x, y]).num (rc line it)) := by
        show _ = _
        simp [Ex.num, Ex.num.numL]
      unfold Ex.val at D1 D2
      have HW2 := Lib.hid hw2
      have HBX := Lib.hid hbx
      clear hw2 hbx hbw ih HC HA hok2 hfar KS
      generalize x.k = xk at *
      generalize x.n = xn at *
      generalize bs x.s = xs at *
      generalize A 0 = xa at *
      generalize y.k = yk at *
      generalize y.n = yn at *
      generalize bs y.s = ys at *
      generalize A 1 = ya at *
      generalize x.num (rc line it) = X at *
      generalize y.num (rc line it) = Y at *
      generalize x.far (rc line it) = fx at *
      generalize y.far (rc line it) = fy at *
      have b1 : -1000000000 ≤ X ∧ X ≤ 1000000000 := by omega
      have b2 : -1000000000 ≤ Y ∧ Y ≤ 1000000000 := by omega
      clear sx sy hlen2
      obtain ⟨b1, b1'⟩ := b1
      obtain ⟨b2, b2'⟩ := b2
      go_enter Tryz.func45, Tryz.ntmps45
      go_wp2
      rw [← HW2.out]
      refine wp_region_quiet_below hmix (by kernel_rfl) ?_
      repeat (quiet_step (first | (go_at_call_of 45 (Value.agg #[Value.int IntKind.i64 yk, Value.int IntKind.i64 yn, Value.string ys, ya]); exact D2.out _ _) | (go_at_call 45; exact D1.out _ _)))
      refine wpQuiet_nil ?_
      intro _ hw'
      obtain ⟨⟨dq, osq⟩, hw''⟩ := hw'
      subst hw''
      have hbb : Below w1.heap.size w1 (Sort.grow (redrawn w2 dq) osq) := below_trans HBX.out (below_regrown w2 dq osq)
      generalize Sort.grow (redrawn w2 dq) osq = w3 at *
      go_wp2
      go_ret
      refine ⟨?_, hbb⟩
      show Ending.returned (.int .i64 (IntKind.i64.wrap (X + Y))) = _
      rw [wrap_mid (X + Y) (by omega) (by omega), ← HE.out]
end Go.Proofs.YtmgpacenooncjaaGreatDoor
/- The document's pairs of a record: what is made by now. Written by tpl/mk_tp.py. -/
namespace Go.Proofs.YtmgpacenooncjaaGreatDoor
open Go.ChangeShapes Go.WideShapes Go.ChangeAt Go.RowKit
theorem bs_cut (l : List UInt8) (k : Nat) : (bs l).extract 0 k = bs (l.take k) := by
  apply ByteArray.ext
  apply Array.ext'
  simp [bs]
/-- What the document's PairsMade has made by now, beside its job and the rule that it is at. -/
structure Pk (w wr : World) (P B : Nat) (jv cs : List Value) (lv : Value) (acc : List (ByteArray × Int)) : Prop where
  org : Below w.heap.size w wr
  row : wr.ownsRow w.heap.size 67 2 lv acc.length (Pp.cellsP acc)
  job : Blk wr P 24 jv
  rule : Blk wr B 58 cs
theorem Pk.below {w wr w' : World} {P B : Nat} {jv cs : List Value} {lv : Value} {acc : List (ByteArray × Int)} (h : Pk w wr P B jv cs lv acc) (hb : Below wr.heap.size wr w') : Pk w w' P B jv cs lv acc :=
  ⟨h.org.trans (hb.mono h.org.size), ow_below h.row hb, h.job.blw hb, h.rule.blw hb⟩
theorem Pk.grown {w wr w' : World} {P B : Nat} {jv cs : List Value} {lv lv' : Value} {acc acc' : List (ByteArray × Int)} (h : Pk w wr P B jv cs lv acc) (ho : w'.ownsRow w.heap.size 67 2 lv' acc'.length (Pp.cellsP acc')) (hg : wr.grownBy w' lv.ownBlock) : Pk w w' P B jv cs lv' acc' :=
  ⟨h.org.grown hg h.org.size (fun k hk => (h.row.lt k hk).1), ho, blk_ow h.job h.row (by decide) hg, blk_ow h.rule h.row (by decide) hg⟩
end Go.Proofs.YtmgpacenooncjaaGreatDoor
/- The document's pairs of a record: a look, always. Written by tpl/mk_tp.py. -/
namespace Go.Proofs.YtmgpacenooncjaaGreatDoor
open Go.ChangeShapes Go.WideShapes Go.ChangeAt Go.RowKit
set_option maxRecDepth 1000000 in
set_option maxHeartbeats 4000000 in
theorem made_b3_0 (w : World) (P B k tn tc an ac : Nat) (fo sl : Int) (eb : Bool) (jr : Value) (r : Rl) (ai ak av ta aa : Option Addr) (ci ck cv : Nat) (line it : List UInt8) (its : List (List UInt8)) (acc : List (ByteArray × Int)) (w0 : World) (K : Act → World → Prop) (s0 s3 s4 s6 s10 s11 s12 s13 s14 s15 s16 s17 s18 s19 s20 s21 s22 s23 s24 s25 s26 s27 s28 s29 s30 s31 s32 s33 s34 s35 s36 s37 s38 s39 s40 s41 s42 s43 s44 s45 s46 s47 s48 s49 s50 s51 s52 s53 s54 s55 s56 s57 s58 s59 s60 s61 s62 s63 s64 s65 s66 s67 s68 s69 s70 s71 s72 s73 s74 s75 s76 s77 s78 s79 s80 s81 s82 s83 s84 s85 : Value)
    (hI : Pk w w0 P B [jr, .int .i64 fo, .bool eb, .int .i64 sl] (ruleCells r ai ak av ci ck cv) (.slice aa an ac) acc)
    (han : an = acc.length)
    (hal : acc.length ≤ 500000)
    (hT : IsTexts w0 (.slice ta tn tc) (its.map bs))
    (hit : its[k]? = some it)
    (htn : tn = its.length)
    (hX : Hid (∀ w', Below w.heap.size w w' → IsEx w' (.slice ai r.iff.a.length ci) r.iff ∧ IsEx w' (.slice ak r.key.a.length ck) r.key ∧ IsEx w' (.slice av r.val.a.length cv) r.val))
    (hR : Hid (RlIn r))
    (hline : line.length ≤ 100000)
    (hrc : Hid (RcIn (rc line it) 100000))
    (hwn : r.when = 0)
    (HK : Hid (∀ (z10 z11 z12 z36 z37 z38 z39 z40 z41 z42 z43 z44 z45 z46 z47 z48 z49 z50 z51 z52 z53 z54 z55 z56 z57 z58 z59 z60 z61 z62 z63 z64 z65 z66 z67 z68 z69 z70 z71 z72 z73 z74 z75 z76 z77 z78 z79 z80 z81 z82 z83 z84 : Value) (v2 : Value) (wx : World), Pk w wx P B [jr, .int .i64 fo, .bool eb, .int .i64 sl] (ruleCells r ai ak av ci ck cv) v2 (acc ++ (if holdsB r (rc line it) = true then [pairL r fo (rc line it)] else [])) → (∀ B v m ys, w0.ownsRow B 9 1 v m ys → wx.ownsRow B 9 1 v m ys) → K ⟨#[s0, .string (bs line), .pointer (some ⟨P, 0, none⟩), s3, s4, v2, s6, .pointer (some ⟨B, 0, none⟩), .slice ta tn tc, .int .i64 (k : Int), z10, z11, z12, s13, s14, s15, s16, s17, s18, s19, s20, s21, s22, s23, s24, s25, s26, s27, s28, s29, s30, s31, s32, s33, s34, s35, z36, z37, z38, z39, z40, z41, z42, z43, z44, z45, z46, z47, z48, z49, z50, z51, z52, z53, z54, z55, z56, z57, z58, z59, z60, z61, z62, z63, z64, z65, z66, z67, z68, z69, z70, z71, z72, z73, z74, z75, z76, z77, z78, z79, z80, z81, z82, z83, z84, s85], []⟩ wx)) :
    Code.wp Tryz.prog (pieceIn Tryz.f16.body 3) (Exit.then K fun _ _ _ => False) ⟨#[s0, .string (bs line), .pointer (some ⟨P, 0, none⟩), s3, s4, .slice aa an ac, s6, .pointer (some ⟨B, 0, none⟩), .slice ta tn tc, .int .i64 (k : Int), s10, s11, s12, s13, s14, s15, s16, s17, s18, s19, s20, s21, s22, s23, s24, s25, s26, s27, s28, s29, s30, s31, s32, s33, s34, s35, s36, s37, s38, s39, s40, s41, s42, s43, s44, s45, s46, s47, s48, s49, s50, s51, s52, s53, s54, s55, s56, s57, s58, s59, s60, s61, s62, s63, s64, s65, s66, s67, s68, s69, s70, s71, s72, s73, s74, s75, s76, s77, s78, s79, s80, s81, s82, s83, s84, s85], []⟩ w0 := by
  obtain ⟨ip, hp0, hp1, hp2, hp3⟩ := info_parts pairInfo2
  have hmix : Tryz.prog.follows .mixedOrders = true := by kernel_rfl
  have HI := Lib.hid hI
  have STR : Hid (∀ (e : Ex) (sv : Value) (w' : World), Below w.heap.size w w' → IsEx w' sv e → faultE e true true = 0 → Calls Tryz.prog 44 #[e.val sv, .string (bs line), .string (bs it)] w' fun q w'' => q = .returned (.string (bs (e.str (rc line it)))) ∧ Below w'.heap.size w' w'') := fun e sv w' hb he hf =>
    rstr_any line it (by omega) true he (fault_ok hf) (by have := fault_len hf hrc.out; omega) w' (Below.refl _ _)
  have INT : Hid (∀ (w' : World), Below w.heap.size w w' → Calls Tryz.prog 45 #[r.val.val (.slice av r.val.a.length cv), .string (bs line), .string (bs it)] w' fun q w'' => q = .returned (.int .i64 (r.val.num (rc line it))) ∧ Below w'.heap.size w' w'') := fun w' hb =>
    rint_any line it (by omega) true (hX.out w' hb).2.2 (fault_ok hR.out.val) (by have := fault_far hR.out.val hrc.out; omega) w' (Below.refl _ _)
  have hkt : k < its.length := (List.getElem?_eq_some_iff.1 hit).1
  obtain ⟨tb, toff, rfl, t0⟩ : ∃ tb toff, ta = some ⟨tb, toff, none⟩ ∧ w0.cell? ⟨tb, toff + k, none⟩ = some (.string (bs it)) := by
    obtain ⟨a', c', e, hc⟩ := hT
    obtain ⟨b, off, ea, c0⟩ := hc k (by rw [List.length_map]; exact hkt)
    injection e with e1
    refine ⟨b, off, e1.trans ea, ?_⟩
    rw [List.getElem_map, (List.getElem?_eq_some_iff.1 hit).2] at c0
    exact c0
  have HT0 : Hid (∀ w', Below w0.heap.size w0 w' → w'.cell? ⟨tb, toff + k, none⟩ = some (.string (bs it))) := fun w' hb => cell_below t0 hb
  have hki : (k : Int) < (tn : Int) := by omega
  have hktn : k < tn := by omega
  have HAN := Lib.hid han
  have ORG := Lib.hid hI.org
  obtain ⟨q0, q1, q2, q3, q4, q5, q6, q7, q8, q9, q10, q11, q12, q13, q14⟩ := ruleAt hI.rule
  have kf := hI.job.at (i := 1) (v := .int .i64 fo) rfl
  clear hI hT htn hit han
  conv => arg 2; whnf
  have HOLD : Hid (holdsB r (rc line it) = true) := by show _ = _; unfold holdsB; rw [hwn]; rfl
  rw [hwn] at q1
  go_upto_region 15 with fail
  clear q0 q1 q2 q3 q4 q5 q6 q7 q8 q9 q10 q11 q12 q13 q14 t0
  have HIZ : Hid (Pk w w0 P B [jr, .int .i64 fo, .bool eb, .int .i64 sl] (ruleCells r ai ak av ci ck cv) (.slice aa an ac) acc) := HI.out
  have HBZ : Hid (Below w0.heap.size w0 w0) := Below.refl _ _
  obtain ⟨q0, q1, q2, q3, q4, q5, q6, q7, q8, q9, q10, q11, q12, q13, q14⟩ := ruleAt HIZ.out.rule
  have t0 := HT0.out w0 HBZ.out
  have KEY : Hid (∀ w', Below w0.heap.size w0 w' → Calls Tryz.prog 44 #[r.key.val (.slice ak r.key.a.length ck), .string (bs line), .string (bs it)] w' fun q w'' => q = .returned (.string (bs (r.key.str (rc line it)))) ∧ Below w'.heap.size w' w'') := fun w' hb => STR.out r.key _ w' (HIZ.out.org.trans (hb.mono HIZ.out.org.size)) (hX.out w' (HIZ.out.org.trans (hb.mono HIZ.out.org.size))).2.1 hR.out.key
  unfold Ex.val at KEY
  obtain ⟨ks, hks⟩ : ∃ ks, ks = r.key.str (rc line it) := ⟨_, rfl⟩
  rw [← hks] at KEY
  have HKS := Lib.hid hks
  have hsz : (bs ks).size = ks.length := bs_size ks
  clear hks
  have k7 := cell_regrown q7
  have k8 := cell_regrown q8
  have k9 := cell_regrown q9
  have k10 := cell_regrown q10
  have kt := cell_regrown t0
  have cK : Hid (∀ d os, Calls Tryz.prog 44 #[.agg #[.int .i64 r.key.k, .int .i64 r.key.n, .string (bs r.key.s), .slice ak r.key.a.length ck], .string (bs line), .string (bs it)] (Sort.grow (redrawn w0 d) os) fun q w'' => q = .returned (.string (bs ks)) ∧ ∃ p : Regrown, w'' = Sort.grow (redrawn w0 p.d) p.os) := fun d os => Calls.regrown_of (KEY.out _ (below_regrown w0 d os))
  go_upto_region 15 with fail
  refine wp_region_quiet_below hmix (by kernel_rfl) ?_
  repeat (quiet_step (first | (go_at_call 44; exact cK.out _ _)))
  refine wpQuiet_nil ?_
  intro _ hw'
  obtain ⟨⟨dq, osq⟩, hw''⟩ := hw'
  subst hw''
  have HB3 : Hid (Below w0.heap.size w0 (Sort.grow (redrawn w0 dq) osq)) := below_regrown w0 dq osq
  generalize Sort.grow (redrawn w0 dq) osq = w3 at *
  clear q0 q1 q2 q3 q4 q5 q6 q7 q8 q9 q10 q11 q12 q13 q14 t0 kf k7 k8 k9 k10 kt cK
  all_goals
    have HI3 := Lib.hid (HIZ.out.below HB3.out)
    have HKT : Hid (bs (ks.take 20) = (pairL r fo (rc line it)).1) := by show _ = _; rw [HKS.out]; rfl
    by_cases h20 : 20 < ks.length
    case' pos =>
      have h20i : (20 : Int) < (ks.length : Int) := by omega
      have hex : (bs ks).extract 0 20 = bs (ks.take 20) := bs_cut ks 20
      have HEX := Lib.hid hex
      clear hex
      go_upto_region 18 with fail
      rw [HEX.out]
    case' neg =>
      have h20i : ¬ (20 : Int) < (ks.length : Int) := by omega
      have hex : ks = ks.take 20 := (List.take_of_length_le (by omega)).symm
      have HEX : Hid (bs ks = bs (ks.take 20)) := by show _ = _; rw [← hex]
      clear hex
      go_upto_region 18 with fail
      rw [HEX.out]
    all_goals
      obtain ⟨p0, p1, p2, p3, p4, p5, p6, p7, p8, p9, p10, p11, p12, p13, p14⟩ := ruleAt HI3.out.rule
      have t1 := HT0.out w3 (below_trans HBZ.out HB3.out)
      have INT3 : Hid (∀ w', Below w3.heap.size w3 w' → Calls Tryz.prog 45 #[r.val.val (.slice av r.val.a.length cv), .string (bs line), .string (bs it)] w' fun q w'' => q = .returned (.int .i64 (r.val.num (rc line it))) ∧ Below w'.heap.size w' w'') := fun w' hb => INT.out w' (HI3.out.org.trans (hb.mono HI3.out.org.size))
      unfold Ex.val at INT3
      have k11 := cell_regrown p11
      have k12 := cell_regrown p12
      have k13 := cell_regrown p13
      have k14 := cell_regrown p14
      have ku := cell_regrown t1
      have cV : Hid (∀ d os, Calls Tryz.prog 45 #[.agg #[.int .i64 r.val.k, .int .i64 r.val.n, .string (bs r.val.s), .slice av r.val.a.length cv], .string (bs line), .string (bs it)] (Sort.grow (redrawn w3 d) os) fun q w'' => q = .returned (.int .i64 (r.val.num (rc line it))) ∧ ∃ p : Regrown, w'' = Sort.grow (redrawn w3 p.d) p.os) := fun d os => Calls.regrown_of (INT3.out _ (below_regrown w3 d os))
      refine wp_region_quiet_below hmix (by kernel_rfl) ?_
      repeat (quiet_step (first | (go_at_call 45; exact cV.out _ _)))
      refine wpQuiet_nil ?_
      intro _ hw'
      obtain ⟨⟨dq2, osq2⟩, hw''⟩ := hw'
      subst hw''
      have HB4 : Hid (Below w3.heap.size w3 (Sort.grow (redrawn w3 dq2) osq2)) := below_regrown w3 dq2 osq2
      generalize Sort.grow (redrawn w3 dq2) osq2 = w4 at *
      clear p0 p1 p2 p3 p4 p5 p6 p7 p8 p9 p10 p11 p12 p13 p14 t1 k11 k12 k13 k14 ku cV
      all_goals
        have HI4 := Lib.hid (HI3.out.below HB4.out)
        have kf := HI4.out.job.at (i := 1) (v := .int .i64 fo) rfl
        have HFV : Hid ((pairL r fo (rc line it)).2 = Pp.firstI fo (r.val.num (rc line it))) := (show _ = _ from rfl)
        generalize r.val.num (rc line it) = nv at *
        by_cases h4 : fo = 4
        · have h4i : (fo == 4) = true := by simp [h4]
          have HPV : Hid (pairL r fo (rc line it) = (bs (ks.take 20), 1)) := by show _ = _; rw [HKT.out]; exact Prod.ext rfl (by rw [HFV.out]; simp [Pp.firstI, h4])
          clear h4
          go_upto_region 21 with fail
          clear kf h4i
          go_wp2_with (at_builtin; refine Hid.out ?_)
          refine Lib.hid ?_
          refine wpList_append_own _ rfl (.tmp 79) (.tmp 83) 42 rfl w.heap.size 67 ip (.agg #[.string ⟨#[]⟩, .int .i64 0]) 2 24 Tryz.underlying42 hp0 hp1 hp2 hp3 rfl (by decide) (.slice aa an ac) acc.length (Pp.cellsP acc) rfl (HI4.out.row.alloc _) ⟨w4.heap.size, 0, none⟩ 1 1 [.string (bs (ks.take 20)), .int .i64 1] rfl rfl ?c1 ?c5 ?c2 ?c3 ?c4 ?_
          case c1 => exact lit_cells rfl (show 2 ≤ maxLen by decide)
          case c5 => intro u hu; simp at hu; rcases hu with rfl | rfl <;> rfl
          case c2 => unfold maxLen; omega
          case c3 => omega
          case c4 => have := HI4.out.org.size; simp; omega
          intro v2 w9 hown9 hg9 _
          have I9 : Pk w w9 P B [jr, .int .i64 fo, .bool eb, .int .i64 sl] (ruleCells r ai ak av ci ck cv) v2 (acc ++ (if holdsB r (rc line it) = true then [pairL r fo (rc line it)] else [])) := by
            rw [if_pos HOLD.out, HPV.out]
            refine (HI4.out.below (below_box _)).grown ?_ hg9
            rw [List.length_append, Pp.cellsP_append]
            exact hown9
          go_wp2
          exact HK.out _ _ _ _ _ _ _ _ _ _ _ _ _ _ _ _ _ _ _ _ _ _ _ _ _ _ _ _ _ _ _ _ _ _ _ _ _ _ _ _ _ _ _ _ _ _ _ _ _ _ _ _ v2 w9 I9 (fun B v m ys h => ow_grown (ow_below h (below_trans (below_trans (below_trans HBZ.out HB3.out) HB4.out) (below_box _))) (HI4.out.row.alloc _) (by decide) hg9)
        · have h4i : (fo == 4) = false := by simp [h4]
          have HPV : Hid (pairL r fo (rc line it) = (bs (ks.take 20), nv)) := by show _ = _; rw [HKT.out]; exact Prod.ext rfl (by rw [HFV.out]; simp [Pp.firstI, h4])
          clear h4
          go_upto_region 21 with fail
          clear kf h4i
          go_wp2_with (at_builtin; refine Hid.out ?_)
          refine Lib.hid ?_
          refine wpList_append_own _ rfl (.tmp 79) (.tmp 83) 42 rfl w.heap.size 67 ip (.agg #[.string ⟨#[]⟩, .int .i64 0]) 2 24 Tryz.underlying42 hp0 hp1 hp2 hp3 rfl (by decide) (.slice aa an ac) acc.length (Pp.cellsP acc) rfl (HI4.out.row.alloc _) ⟨w4.heap.size, 0, none⟩ 1 1 [.string (bs (ks.take 20)), .int .i64 nv] rfl rfl ?c1 ?c5 ?c2 ?c3 ?c4 ?_
          case c1 => exact lit_cells rfl (show 2 ≤ maxLen by decide)
          case c5 => intro u hu; simp at hu; rcases hu with rfl | rfl <;> rfl
          case c2 => unfold maxLen; omega
          case c3 => omega
          case c4 => have := HI4.out.org.size; simp; omega
          intro v2 w9 hown9 hg9 _
          have I9 : Pk w w9 P B [jr, .int .i64 fo, .bool eb, .int .i64 sl] (ruleCells r ai ak av ci ck cv) v2 (acc ++ (if holdsB r (rc line it) = true then [pairL r fo (rc line it)] else [])) := by
            rw [if_pos HOLD.out, HPV.out]
            refine (HI4.out.below (below_box _)).grown ?_ hg9
            rw [List.length_append, Pp.cellsP_append]
            exact hown9
          go_wp2
          exact HK.out _ _ _ _ _ _ _ _ _ _ _ _ _ _ _ _ _ _ _ _ _ _ _ _ _ _ _ _ _ _ _ _ _ _ _ _ _ _ _ _ _ _ _ _ _ _ _ _ _ _ _ _ v2 w9 I9 (fun B v m ys h => ow_grown (ow_below h (below_trans (below_trans (below_trans HBZ.out HB3.out) HB4.out) (below_box _))) (HI4.out.row.alloc _) (by decide) hg9)
end Go.Proofs.YtmgpacenooncjaaGreatDoor
