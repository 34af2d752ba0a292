/- Folders: Step. -/
import Derived.Test.YtapflhndpcgdiaaDoorD4a
namespace Go.Proofs.YtapflhndpcgdiaaDoor
open Go.ChangeShapes Go.WideShapes Go.ChangeAt Go.RowKit
open Grp Stable
theorem wp_normal {c : Code} {Q : Exit → Act → World → Prop} {a : Act} {w : World} (h : c.wp Tryd.prog (Exit.then (fun a w => Q .normal a w) fun _ _ _ => False) a w) : c.wp Tryd.prog Q a w :=
  wp_mono h fun e a w hq => by
    cases e with
    | normal => exact hq
    | exit id => exact False.elim hq
    | goto l => exact False.elim hq
    | ret => exact False.elim hq
    | panic ch => exact False.elim hq
    | outgrown => exact False.elim hq
set_option maxRecDepth 100000 in
set_option maxHeartbeats 2000000 in
theorem step_any (R a : Nat) (kind n : Int) (ko : Option Addr) (kc : Nat) (ss : List (List (ByteArray × Int))) (ks : List ByteArray) (mo : Option Addr) (mc : Nat) (M : List (ByteArray × Int)) (w : World)
    (hr : IsRun w R kind (.slice ko ss.length kc) ss (.slice mo a mc) (M.take a)) (hM : M = grp kind ss.flatten) (hk : Segs ks ss) (ha : a ≤ ss.length) (hss : ss.length ≤ 1000) (hf : ss.flatten.length ≤ 1000) (hn0 : -9223372036854775808 ≤ n) (hn1 : n ≤ 9223372036854775807) :
    Calls Tryd.prog 28 #[.pointer (some ⟨R, 0, none⟩), .int .i64 n] w fun e w' => ∃ (a' : Nat) (mo' : Option Addr) (mc' : Nat), a' = a + min n.toNat (ss.length - a) ∧ e = .returned (.bool (decide (a' = ss.length))) ∧ IsRun w' R kind (.slice ko ss.length kc) ss (.slice mo' a' mc') (M.take a') ∧ Fr w w' R (Value.slice mo a mc).ownBlock ∧ ((Value.slice mo' a' mc').ownBlock = (Value.slice mo a mc).ownBlock ∨ ∀ b, (Value.slice mo' a' mc').ownBlock = some b → w.heap.size ≤ b) := by
  obtain ⟨i0, hi0, hz0, hz1, hz2⟩ := info_parts pairInfo
  have c0 := hr.blk.at (i := 0) (v := .int .i64 kind) rfl
  have c1 := hr.blk.at (i := 1) (v := .slice ko ss.length kc) rfl
  have c2 := hr.blk.at (i := 2) (v := .slice mo a mc) rfl
  obtain ⟨d, hd⟩ : ∃ d : Nat, (ss.length : Int) - (a : Int) = (d : Int) := ⟨ss.length - a, by omega⟩
  have HD : Hid (d = ss.length - a) := by show _ = _; omega
  have hd1 : d ≤ 1000 := by omega
  have HR := Lib.hid hr
  have HM := Lib.hid hM
  have HK := Lib.hid hk
  clear hr hM hk
  obtain ⟨c, hc⟩ : ∃ c : Int, c = min n (d : Int) := ⟨_, rfl⟩
  obtain ⟨ct, hct⟩ : ∃ ct : Nat, ct = c.toNat := ⟨_, rfl⟩
  have HCT : Hid (ct = min n.toNat (ss.length - a)) := by show _ = _; rw [hct, hc, ← HD.out]; omega
  have hcs : c ≤ 1000 := by omega
  have HCC := Lib.hid hct
  have HC := Lib.hid hc
  have hctd : a + ct ≤ ss.length := by rw [HCT.out]; omega
  clear hct hc
  go_enter Tryd.func28, Tryd.ntmps28
  go_wp2
  go_region
  rw [← HC.out]
  have HR1 := Lib.hid (HR.out.blw (blw_drew (Below.refl _ w)))
  have HF1 : Hid (Fr w w.drew R (Value.slice mo a mc).ownBlock) := Fr.of_blw (blw_drew (Below.refl _ w)) _ _
  generalize w.drew = w1 at *
  clear c0 c1 c2 HR
  go_wp2
  go_loopg [18] ct (fun gg iv wr => ∃ (k : Nat) (mo' : Option Addr) (mc' : Nat), gg = ct - k ∧ k ≤ ct ∧ iv = .int .i64 k ∧ Hid (IsRun wr R kind (.slice ko ss.length kc) ss (.slice mo' (a + k) mc') (M.take (a + k))) ∧ Hid (Fr w wr R (Value.slice mo a mc).ownBlock) ∧ Hid ((Value.slice mo' (a + k) mc').ownBlock = (Value.slice mo a mc).ownBlock ∨ ∀ b, (Value.slice mo' (a + k) mc').ownBlock = some b → w.heap.size ≤ b))
  case atStart => exact ⟨0, mo, mc, rfl, Nat.zero_le _, rfl, HR1, HF1, .inl rfl⟩
  case round =>
    clear HR1 HF1
    obtain ⟨k, mo', mc', hgk, hkc, rfl, HR, HF, HB⟩ := hrel
    have HGK := Lib.hid hgk
    clear hgk
    obtain ⟨ak, hak⟩ : ∃ ak, ak = a + k := ⟨_, rfl⟩
    rw [← hak] at HR HB
    have HAK := Lib.hid hak
    have haks : ak ≤ ss.length := by omega
    have c0 := HR.out.blk.at (i := 0) (v := .int .i64 kind) rfl
    have c1 := HR.out.blk.at (i := 1) (v := .slice ko ss.length kc) rfl
    have c2 := HR.out.blk.at (i := 2) (v := .slice mo' ak mc') rfl
    clear hak
    by_cases hlt : k < ct
    · have hltc : (k : Int) < c := by have := HCC.out; omega
      have hakl : ak < ss.length := by have := HAK.out; omega
      obtain ⟨a0', cp0, ek, hcell⟩ := HR.out.keys wr (Below.refl _ _)
      simp only [Value.slice.injEq] at ek
      obtain ⟨rfl, _, rfl⟩ := ek
      obtain ⟨kb, koff, u, rfl, k0, hu⟩ := hcell ak hakl
      have hsl : ss[ak].length ≤ 1000 := by have := mem_flat_le (List.getElem_mem hakl); omega
      have GR := Lib.hid (groups_any kind u ss[ak] wr.drew hu (by omega))
      have hMl : M.length = ss.length := by rw [HM.out]; exact segs_grp_len HK.out
      have hakM : ak < M.length := by omega
      have hg1 : grp kind ss[ak] = [M[ak]] := by
        have := segs_grp_at (kind := kind) HK.out ak hakl (by rw [← HM.out]; exact hakM)
        rw [this]
        congr 2
        exact HM.out.symm
      rw [hg1] at GR
      have HTK : Hid (M.take (ak + 1) = M.take ak ++ [M[ak]]) := List.take_succ_eq_append_getElem hakM
      have hlk : (M.take ak).length = ak := by rw [List.length_take]; omega
      obtain ⟨uo, uc, eu, hux⟩ := id hu
      clear hux hu hcell hg1 hMl hsl
      subst eu
      generalize ss[ak].length = su at *
      generalize M[ak] = q at *
      have K0 := Lib.hid k0
      have HLK := Lib.hid hlk
      clear k0 hlk c0 c1 c2
      go_upto_region 3 with fail
      refine wp_normal (r3_any R ak kb koff kc su uc mc' kind uo mo' ss M q wr _ _ _ _ _ _ _ _ _ _ _ _ _ _ _ _ _ _ _ _ _ _ _ _ _ _ _ _ _ _ _ _ _ _ _ _ _ _ _ _ _ _ _ _ _ _ _ _ _ _ _ _ _ _ _ _ HR.out hakl hss K0.out GR HTK.out HLK.out ?_)
      refine Lib.hid ?_
      intro z20 z21 z22 z23 z24 z25 z26 z27 z28 z29 z30 z31 z32 z33 z34 z35 z36 z37 z38 z39 z40 z41 z42 z43 g cap w11 hr11 hfr
      obtain ⟨hF11, ho11⟩ := hfr w _ HF.out HB.out
      have HR11 := Lib.hid hr11
      have HF11 := Lib.hid hF11
      have HO11 : Hid ((Value.slice (some ⟨g, 0, none⟩) (ak + 1) cap).ownBlock = (Value.slice mo a mc).ownBlock ∨ ∀ b, (Value.slice (some ⟨g, 0, none⟩) (ak + 1) cap).ownBlock = some b → w.heap.size ≤ b) := by
        rcases ho11 with h | h
        · exact .inl h
        · refine .inr fun b hb => ?_
          have e : some g = some b := hb
          injection e with e
          omega
      clear hr11 hfr hF11 ho11 HR HF HB K0 GR
      simp only [Exit.inBlock, Exit.then]
      go_wp2
      go_roundg (ct - (k + 1))
      case measure => have := HGK.out; omega
      case rel =>
        have e : a + (k + 1) = ak + 1 := by have := HAK.out; omega
        refine ⟨k + 1, some ⟨g, 0, none⟩, cap, rfl, by omega, by go_num, ?_, HF11, ?_⟩
        · rw [e]; exact HR11
        · rw [e]; exact HO11
    · have hge : ¬ (k : Int) < c := by have := HCC.out; omega
      have ekc : k = ct := by omega
      have HFIN : Hid (ak = a + min n.toNat (ss.length - a)) := by
        show _ = _
        rw [HAK.out, ekc, HCT.out]
      have hde : ((ak : Int) == (ss.length : Int)) = decide (ak = ss.length) := by
        by_cases h : ak = ss.length
        · simp [h]
        · rw [decide_eq_false h, beq_eq_false_iff_ne]; omega
      have HDE := Lib.hid hde
      clear ekc hde
      go_wp2
      go_region
      rw [HDE.out]
      have HR2 := Lib.hid (HR.out.blw (blw_drew (Below.refl _ wr)))
      have HF2 := Lib.hid (HF.out.blw (blw_drew (Below.refl _ wr)))
      generalize wr.drew = w12 at *
      clear c0 c1 c2 HR HF
      go_wp2
      go_ret
      exact ⟨ak, mo', mc', HFIN.out, rfl, HR2.out, HF2.out, HB.out⟩
end Go.Proofs.YtapflhndpcgdiaaDoor
