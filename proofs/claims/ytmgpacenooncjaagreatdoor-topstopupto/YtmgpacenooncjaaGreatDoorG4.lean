/- Put together of PpD4, PpD5, PpD6, S1, S2, PpSumK, N9, PpGrpsO, N10, LtT, M5, X0, PpPChk, PpPFlt, PpRise0, PpSame0, PpD7, E0, Y0, St0, OpenI, St1. -/
import Derived.Test.YtmgpacenooncjaaGreatDoorPpD4a
import Derived.Test.YtmgpacenooncjaaGreatDoorG2
import Derived.Test.YtmgpacenooncjaaGreatDoorG3
import Derived.Test.YtmgpacenooncjaaGreatDoorPpBase
import Derived.Laws.BitsAllLaws
import Derived.Test.YtmgpacenooncjaaGreatDoorPpGrps
import Derived.Test.YtmgpacenooncjaaGreatDoorTxt
import Derived.Test.YtmgpacenooncjaaGreatDoorPpOwn
import Derived.Test.YtmgpacenooncjaaGreatDoorPpIns
import Derived.Test.YtmgpacenooncjaaGreatDoorPpSymP
import Derived.Test.YtmgpacenooncjaaGreatDoorPcs
import Derived.Deep.LoopGhost
/- Folders: Step. -/
namespace Go.Proofs.YtmgpacenooncjaaGreatDoor.Pp
open Go.ChangeShapes Go.WideShapes Go.ChangeAt Go.RowKit
open Grp Stable
theorem wp_normal {c : Code} {Q : Exit → Act → World → Prop} {a : Act} {w : World} (h : c.wp Tryz.prog (Exit.then (fun a w => Q .normal a w) fun _ _ _ => False) a w) : c.wp Tryz.prog Q a w :=
  wp_mono h fun e a w hq => by
    cases e with
    | normal => exact hq
    | exit id => exact False.elim hq
    | goto l => exact False.elim hq
    | ret => exact False.elim hq
    | panic ch => exact False.elim hq
    | outgrown => exact False.elim hq
set_option maxRecDepth 100000 in
set_option maxHeartbeats 2000000 in
theorem step_any (R a : Nat) (kind n : Int) (ko : Option Addr) (kc : Nat) (ss : List (List (ByteArray × Int))) (ks : List ByteArray) (mo : Option Addr) (mc : Nat) (M : List (ByteArray × Int)) (w : World)
    (hr : IsRun w R kind (.slice ko ss.length kc) ss (.slice mo a mc) (M.take a)) (hM : M = grp kind ss.flatten) (hk : Segs ks ss) (ha : a ≤ ss.length) (hss : ss.length ≤ 60000) (hf : ss.flatten.length ≤ 60000) (hn0 : -9223372036854775808 ≤ n) (hn1 : n ≤ 9223372036854775807) :
    Calls Tryz.prog 27 #[.pointer (some ⟨R, 0, none⟩), .int .i64 n] w fun e w' => ∃ (a' : Nat) (mo' : Option Addr) (mc' : Nat), a' = a + min n.toNat (ss.length - a) ∧ e = .returned (.bool (decide (a' = ss.length))) ∧ IsRun w' R kind (.slice ko ss.length kc) ss (.slice mo' a' mc') (M.take a') ∧ Fr w w' R (Value.slice mo a mc).ownBlock ∧ ((Value.slice mo' a' mc').ownBlock = (Value.slice mo a mc).ownBlock ∨ ∀ b, (Value.slice mo' a' mc').ownBlock = some b → w.heap.size ≤ b) := by
  obtain ⟨i0, hi0, hz0, hz1, hz2⟩ := info_parts pairInfo
  have c0 := hr.blk.at (i := 0) (v := .int .i64 kind) rfl
  have c1 := hr.blk.at (i := 1) (v := .slice ko ss.length kc) rfl
  have c2 := hr.blk.at (i := 2) (v := .slice mo a mc) rfl
  obtain ⟨d, hd⟩ : ∃ d : Nat, (ss.length : Int) - (a : Int) = (d : Int) := ⟨ss.length - a, by omega⟩
  have HD : Hid (d = ss.length - a) := by show _ = _; omega
  have hd1 : d ≤ 60000 := by omega
  have HR := Lib.hid hr
  have HM := Lib.hid hM
  have HK := Lib.hid hk
  clear hr hM hk
  obtain ⟨c, hc⟩ : ∃ c : Int, c = min n (d : Int) := ⟨_, rfl⟩
  obtain ⟨ct, hct⟩ : ∃ ct : Nat, ct = c.toNat := ⟨_, rfl⟩
  have HCT : Hid (ct = min n.toNat (ss.length - a)) := by show _ = _; rw [hct, hc, ← HD.out]; omega
  have hcs : c ≤ 60000 := by omega
  have HCC := Lib.hid hct
  have HC := Lib.hid hc
  have hctd : a + ct ≤ ss.length := by rw [HCT.out]; omega
  clear hct hc
  go_enter Tryz.func27, Tryz.ntmps27
  go_wp2
  go_region
  rw [← HC.out]
  have HR1 := Lib.hid (HR.out.blw (blw_drew (Below.refl _ w)))
  have HF1 : Hid (Fr w w.drew R (Value.slice mo a mc).ownBlock) := Fr.of_blw (blw_drew (Below.refl _ w)) _ _
  generalize w.drew = w1 at *
  clear c0 c1 c2 HR
  go_wp2
  go_loopg [18] ct (fun gg iv wr => ∃ (k : Nat) (mo' : Option Addr) (mc' : Nat), gg = ct - k ∧ k ≤ ct ∧ iv = .int .i64 k ∧ Hid (IsRun wr R kind (.slice ko ss.length kc) ss (.slice mo' (a + k) mc') (M.take (a + k))) ∧ Hid (Fr w wr R (Value.slice mo a mc).ownBlock) ∧ Hid ((Value.slice mo' (a + k) mc').ownBlock = (Value.slice mo a mc).ownBlock ∨ ∀ b, (Value.slice mo' (a + k) mc').ownBlock = some b → w.heap.size ≤ b))
  case atStart => exact ⟨0, mo, mc, rfl, Nat.zero_le _, rfl, HR1, HF1, .inl rfl⟩
  case round =>
    clear HR1 HF1
    obtain ⟨k, mo', mc', hgk, hkc, rfl, HR, HF, HB⟩ := hrel
    have HGK := Lib.hid hgk
    clear hgk
    obtain ⟨ak, hak⟩ : ∃ ak, ak = a + k := ⟨_, rfl⟩
    rw [← hak] at HR HB
    have HAK := Lib.hid hak
    have haks : ak ≤ ss.length := by omega
    have c0 := HR.out.blk.at (i := 0) (v := .int .i64 kind) rfl
    have c1 := HR.out.blk.at (i := 1) (v := .slice ko ss.length kc) rfl
    have c2 := HR.out.blk.at (i := 2) (v := .slice mo' ak mc') rfl
    clear hak
    by_cases hlt : k < ct
    · have hltc : (k : Int) < c := by have := HCC.out; omega
      have hakl : ak < ss.length := by have := HAK.out; omega
      obtain ⟨a0', cp0, ek, hcell⟩ := HR.out.keys wr (Below.refl _ _)
      simp only [Value.slice.injEq] at ek
      obtain ⟨rfl, _, rfl⟩ := ek
      obtain ⟨kb, koff, u, rfl, k0, hu⟩ := hcell ak hakl
      have hsl : ss[ak].length ≤ 60000 := by have := mem_flat_le (List.getElem_mem hakl); omega
      have GR := Lib.hid (groups_any kind u ss[ak] wr.drew hu (by omega))
      have hMl : M.length = ss.length := by rw [HM.out]; exact segs_grp_len HK.out
      have hakM : ak < M.length := by omega
      have hg1 : grp kind ss[ak] = [M[ak]] := by
        have := segs_grp_at (kind := kind) HK.out ak hakl (by rw [← HM.out]; exact hakM)
        rw [this]
        congr 2
        exact HM.out.symm
      rw [hg1] at GR
      have HTK : Hid (M.take (ak + 1) = M.take ak ++ [M[ak]]) := List.take_succ_eq_append_getElem hakM
      have hlk : (M.take ak).length = ak := by rw [List.length_take]; omega
      obtain ⟨uo, uc, eu, hux⟩ := id hu
      clear hux hu hcell hg1 hMl hsl
      subst eu
      generalize ss[ak].length = su at *
      generalize M[ak] = q at *
      have K0 := Lib.hid k0
      have HLK := Lib.hid hlk
      clear k0 hlk c0 c1 c2
      go_upto_region 3 with fail
      refine wp_normal (r3_any R ak kb koff kc su uc mc' kind uo mo' ss M q wr _ _ _ _ _ _ _ _ _ _ _ _ _ _ _ _ _ _ _ _ _ _ _ _ _ _ _ _ _ _ _ _ _ _ _ _ _ _ _ _ _ _ _ _ _ _ _ _ _ _ _ _ _ _ _ _ HR.out hakl hss K0.out GR HTK.out HLK.out ?_)
      refine Lib.hid ?_
      intro z20 z21 z22 z23 z24 z25 z26 z27 z28 z29 z30 z31 z32 z33 z34 z35 z36 z37 z38 z39 z40 z41 z42 z43 g cap w11 hr11 hfr
      obtain ⟨hF11, ho11⟩ := hfr w _ HF.out HB.out
      have HR11 := Lib.hid hr11
      have HF11 := Lib.hid hF11
      have HO11 : Hid ((Value.slice (some ⟨g, 0, none⟩) (ak + 1) cap).ownBlock = (Value.slice mo a mc).ownBlock ∨ ∀ b, (Value.slice (some ⟨g, 0, none⟩) (ak + 1) cap).ownBlock = some b → w.heap.size ≤ b) := by
        rcases ho11 with h | h
        · exact .inl h
        · refine .inr fun b hb => ?_
          have e : some g = some b := hb
          injection e with e
          omega
      clear hr11 hfr hF11 ho11 HR HF HB K0 GR
      simp only [Exit.inBlock, Exit.then]
      go_wp2
      go_roundg (ct - (k + 1))
      case measure => have := HGK.out; omega
      case rel =>
        have e : a + (k + 1) = ak + 1 := by have := HAK.out; omega
        refine ⟨k + 1, some ⟨g, 0, none⟩, cap, rfl, by omega, by go_num, ?_, HF11, ?_⟩
        · rw [e]; exact HR11
        · rw [e]; exact HO11
    · have hge : ¬ (k : Int) < c := by have := HCC.out; omega
      have ekc : k = ct := by omega
      have HFIN : Hid (ak = a + min n.toNat (ss.length - a)) := by
        show _ = _
        rw [HAK.out, ekc, HCT.out]
      have hde : ((ak : Int) == (ss.length : Int)) = decide (ak = ss.length) := by
        by_cases h : ak = ss.length
        · simp [h]
        · rw [decide_eq_false h, beq_eq_false_iff_ne]; omega
      have HDE := Lib.hid hde
      clear ekc hde
      go_wp2
      go_region
      rw [HDE.out]
      have HR2 := Lib.hid (HR.out.blw (blw_drew (Below.refl _ wr)))
      have HF2 := Lib.hid (HF.out.blw (blw_drew (Below.refl _ wr)))
      generalize wr.drew = w12 at *
      clear c0 c1 c2 HR HF
      go_wp2
      go_ret
      exact ⟨ak, mo', mc', HFIN.out, rfl, HR2.out, HF2.out, HB.out⟩
end Go.Proofs.YtmgpacenooncjaaGreatDoor.Pp
/- Folders: Out, Save, begins, Load. -/
namespace Go.Proofs.YtmgpacenooncjaaGreatDoor.Pp
open Go.ChangeShapes Go.WideShapes Go.ChangeAt Go.RowKit
open Grp Stable
set_option maxRecDepth 100000 in
theorem out_anyT (R : Nat) (kind : Int) (kv mv : Value) (ss : List (List (ByteArray × Int))) (l : List (ByteArray × Int)) (w : World) (E : EnvT w) (h : IsRun w R kind kv ss mv l) (hf : Fits l) (hl : l.length ≤ 60000) :
    Calls Tryz.prog 30 #[.pointer (some ⟨R, 0, none⟩)] w fun e w' => e = .returned (.string (bs (textL l))) ∧ Below w.heap.size w w' := by
  have c2 := h.blk.at (i := 2) (v := mv) rfl
  have hp := owns_isPairs h.row
  have T := Lib.hid (text_anyT mv l w E hp hf hl)
  obtain ⟨a, c, rfl, _⟩ := hp
  generalize bs (textL l) = t at *
  go_enter Tryz.func30, Tryz.ntmps30
  go_wp2_with (go_at_call 57; refine T.out.mono ?_; rintro _ w1 ⟨rfl, hb1⟩)
  go_ret
  exact ⟨rfl, hb1⟩
theorem out_any (R : Nat) (kind : Int) (kv mv : Value) (ss : List (List (ByteArray × Int))) (l : List (ByteArray × Int)) (w : World) (E : Env w) (h : IsRun w R kind kv ss mv l) (hf : Fits l) (hl : l.length ≤ 60000) :
    Calls Tryz.prog 30 #[.pointer (some ⟨R, 0, none⟩)] w fun e w' => e = .returned (.string (bs (textL l))) ∧ Below w.heap.size w w' := out_anyT R kind kv mv ss l w E.t h hf hl
set_option maxRecDepth 100000 in
theorem save_any (R : Nat) (kind : Int) (kv mv : Value) (ss : List (List (ByteArray × Int))) (l : List (ByteArray × Int)) (w : World) (E : Env w) (h : IsRun w R kind kv ss mv l) (hf : Fits l) (hl : l.length ≤ 60000) :
    Calls Tryz.prog 29 #[.pointer (some ⟨R, 0, none⟩)] w fun e w' => e = .returned (.string (bs (textL l))) ∧ Below w.heap.size w w' := by
  have T := Lib.hid (out_any R kind kv mv ss l w E h hf hl)
  generalize bs (textL l) = t at *
  go_enter Tryz.func29, Tryz.ntmps29
  go_wp2_with (go_at_call 30; refine T.out.mono ?_; rintro _ w1 ⟨rfl, hb1⟩)
  go_ret
  exact ⟨rfl, hb1⟩
theorem segs_key : ∀ {ks : List ByteArray} {ss : List (List (ByteArray × Int))}, Segs ks ss → ∀ (i : Nat) (h : i < ss.length), ∃ p t, ss[i] = p :: t ∧ ks[i]? = some p.1
  | [], [], _, i, h => by simp at h
  | k :: ks, s :: ss, hs, i, h => by
    cases i with
    | zero =>
      cases hq : s with
      | nil => exact absurd hq hs.1.ne
      | cons p t =>
        refine ⟨p, t, by simp, ?_⟩
        rw [List.getElem?_cons_zero, ← hs.1.key p (by rw [hq]; exact List.mem_cons_self)]
    | succ i =>
      obtain ⟨p, t, h1, h2⟩ := segs_key hs.2.2 i (by simpa using h)
      exact ⟨p, t, by simpa using h1, by simpa using h2⟩
  | [], _ :: _, h, _, _ => h.elim
  | _ :: _, [], h, _, _ => h.elim
set_option maxRecDepth 100000 in
set_option maxHeartbeats 1000000 in
theorem begins_any (R : Nat) (kind : Int) (ko : Option Addr) (kc : Nat) (mv lv : Value) (ss : List (List (ByteArray × Int))) (ks : List ByteArray) (l L : List (ByteArray × Int)) (w : World) (h : IsRun w R kind (.slice ko ss.length kc) ss mv l) (hk : Segs ks ss) (hv : IsPairs w lv L) (hL : ∀ (i : Nat) (h : i < L.length), ks[i]? = some L[i].1) (hLs : L.length ≤ ss.length) (hss : ss.length ≤ 60000) :
    Calls Tryz.prog 62 #[.pointer (some ⟨R, 0, none⟩), lv] w fun e w' => e = .returned (.bool true) ∧ Below w.heap.size w w' := by
  obtain ⟨lo, lc, rfl, hlc⟩ := hv
  have c1 := h.blk.at (i := 1) (v := .slice ko ss.length kc) rfl
  have HR := Lib.hid h
  have HK := Lib.hid hk
  have HL := Lib.hid hL
  have HLC := Lib.hid hlc
  obtain ⟨n, hn⟩ : ∃ n, n = L.length := ⟨_, rfl⟩
  have HN := Lib.hid hn
  rw [← hn] at hLs ⊢
  clear h hk hL hlc hn
  go_enter Tryz.func62, Tryz.ntmps62
  go_wp2
  clear c1
  go_loopg [17] n (fun gg iv wr => ∃ i : Nat, gg = n - i ∧ i ≤ n ∧ iv = .int .i64 i ∧ Below w.heap.size w wr)
  case atStart => exact ⟨0, rfl, Nat.zero_le _, rfl, Below.refl _ _⟩
  case round =>
    obtain ⟨i, hgi, hi, rfl, hb⟩ := hrel
    have HGI := Lib.hid hgi
    clear hgi
    by_cases hlt : i < n
    · have hiL : i < L.length := by have := HN.out; omega
      have his : i < ss.length := by omega
      obtain ⟨lb, loff, rfl, l0, l1⟩ := HLC.out i hiL
      replace l0 := (hb.cell (block_lt l0)).trans l0
      replace l1 := (hb.cell (block_lt l1)).trans l1
      have hRw := HR.out.blk.lt
      have c1 := (HR.out.blw hb).blk.at (i := 1) (v := .slice ko ss.length kc) rfl
      obtain ⟨a0', cp0, ek, hcell⟩ := HR.out.keys wr (hb.mono (Nat.le_of_lt hRw))
      simp only [Value.slice.injEq] at ek
      obtain ⟨rfl, _, rfl⟩ := ek
      obtain ⟨kb, koff, u, rfl, k0, hu⟩ := hcell i his
      obtain ⟨p, t, hpt, hkp⟩ := segs_key HK.out i his
      rw [hpt] at hu
      obtain ⟨uo, uc, eu, huc⟩ := hu
      subst eu
      obtain ⟨ub, uoff, rfl, u0, _⟩ := huc 0 (by simp)
      have hpk : p.1 = L[i].1 := by
        have := HL.out i hiL
        rw [hkp] at this
        exact Option.some.inj this
      rw [List.getElem_cons_zero, hpk] at u0
      rw [Nat.zero_mul, Nat.add_zero] at u0
      have hul : 0 < (p :: t).length := by simp
      clear huc
      generalize (p :: t).length = un at *
      clear hpt hkp hcell hpk
      generalize L[i].1 = x at *
      generalize L[i].2 = y at *
      obtain ⟨w2, hw2⟩ : ∃ w2, w2 = wr.alloc (.cells #[.string x, .int .i64 y] 67) := ⟨_, rfl⟩
      have hb2 : Below wr.heap.size wr w2 := by rw [hw2]; exact blw_box _
      obtain ⟨P, hP⟩ : ∃ P, P = wr.heap.size := ⟨_, rfl⟩
      have p0 : w2.cell? ⟨P, 0, none⟩ = some (.string x) := by rw [hw2, hP]; simp
      have c12 := (hb2.cell (block_lt c1)).trans c1
      have k02 := (hb2.cell (block_lt k0)).trans k0
      have u02 := (hb2.cell (block_lt u0)).trans u0
      have hb22 := Lib.hid (blw_step hb hb2)
      have HW2 := Lib.hid hw2
      have HP := Lib.hid hP
      clear c1 k0 u0 hw2 hP hb2 hb
      go_wp2_with fail
      rw [← HW2.out, ← HP.out]
      clear HW2 HP
      go_quiet (fail)
      have hb3 : Below w.heap.size w (w2.drewN nq) := blw_step hb22.out (blw_drewN _ _)
      generalize w2.drewN nq = w3 at *
      clear c12 k02 u02 p0 l0 l1
      go_wp2
      go_roundg (n - (i + 1))
      case measure => have := HGI.out; omega
      case rel => exact ⟨i + 1, rfl, by omega, by go_num, hb3⟩
    · go_wp2
      go_ret
      exact ⟨rfl, hb⟩
end Go.Proofs.YtmgpacenooncjaaGreatDoor.Pp
/- Folders: Load. -/
namespace Go.Proofs.YtmgpacenooncjaaGreatDoor.Pp
open Go.ChangeShapes Go.WideShapes Go.ChangeAt Go.RowKit
open Grp Stable
theorem owns_lowR {w : World} {lo base : Nat} {e : TypeId} {size : Nat} {v : Value} {n : Nat} {xs : List Value} (h : w.ownsRow base e size v n xs) (hl : lo ≤ base) : w.ownsRow lo e size v n xs :=
  ⟨h.1, h.2.imp id (fun ⟨g, cap, cur, a, b, c⟩ => ⟨g, cap, cur, a, Nat.le_trans hl b, c⟩)⟩
set_option maxRecDepth 100000 in
set_option maxHeartbeats 1000000 in
theorem load_any (R : Nat) (kind : Int) (ko : Option Addr) (kc : Nat) (mv : Value) (ss : List (List (ByteArray × Int))) (ks : List ByteArray) (l L : List (ByteArray × Int)) (w : World) (E : Env w) (h : IsRun w R kind (.slice ko ss.length kc) ss mv l) (hk : Segs ks ss) (hf : Fits L) (hL : ∀ (i : Nat) (h : i < L.length), ks[i]? = some L[i].1) (hLs : L.length ≤ ss.length) (hss : ss.length ≤ 60000) :
    Calls Tryz.prog 28 #[.pointer (some ⟨R, 0, none⟩), .string (bs (textL L))] w fun e w' => ∃ (lo : Option Addr) (lc : Nat), e = .returned (.bool true) ∧ IsRun w' R kind (.slice ko ss.length kc) ss (.slice lo L.length lc) L ∧ Fr w w' R none ∧ ∀ b, (Value.slice lo L.length lc).ownBlock = some b → w.heap.size ≤ b := by
  have P := Lib.hid (readOwn L w E hf (by omega))
  have BG : Hid (∀ w1 lv, Below w.heap.size w w1 → IsPairs w1 lv L → Calls Tryz.prog 62 #[.pointer (some ⟨R, 0, none⟩), lv] w1 fun e w' => e = .returned (.bool true) ∧ Below w1.heap.size w1 w') := fun w1 lv hb hv => begins_any R kind ko kc mv lv ss ks l L w1 (h.blw hb) hk hv hL hLs (by omega)
  have HR := Lib.hid h
  clear h hk hL E
  generalize bs (textL L) = tx at *
  go_enter Tryz.func28, Tryz.ntmps28
  go_wp2_with (go_at_call 56; refine Hid.out ?_)
  refine Lib.hid ?_
  refine P.out.mono ?_
  clear P
  rintro _ w1 ⟨lv, rfl, hown, hb1⟩
  have hp := owns_isPairs hown
  have B1 := Lib.hid (BG.out w1 lv hb1 hp)
  obtain ⟨lo, lc, rfl, _⟩ := hp
  have HO := Lib.hid hown
  clear hown BG
  dsimp only
  go_wp2_with (go_at_call 62; refine Hid.out ?_)
  refine Lib.hid ?_
  refine B1.out.mono ?_
  clear B1
  rintro _ w2 ⟨rfl, hb2⟩
  have hb12 := blw_step hb1 hb2
  have HR2 := Lib.hid (HR.out.blw hb12)
  have HO2 := Lib.hid (owns_blw HO.out hb2)
  have z2 := HR2.out.blk.at (i := 2) (v := mv) rfl
  have f2 := HR2.out.blk.frozen 2
  have hRw := HR.out.blk.lt
  have HFIN : Hid (IsRun (w2.setCell ⟨R, 2, none⟩ (.slice lo L.length lc)) R kind (.slice ko ss.length kc) ss (.slice lo L.length lc) L ∧ Fr w (w2.setCell ⟨R, 2, none⟩ (.slice lo L.length lc)) R none ∧ ∀ b, (Value.slice lo L.length lc).ownBlock = some b → w.heap.size ≤ b) := by
    refine ⟨⟨HR2.out.blk.set 2 _, fun w' h' => HR2.out.keys w' (((Below.refl R w2).setCell (p := ⟨R, 2, none⟩) (Nat.le_refl _) _).trans h'), owns_putR (owns_lowR HO2.out hRw) (Nat.lt_succ_self _)⟩, (Fr.of_blw hb12 R none).put 2 _, fun b hb => (HO2.out.lt b hb).1⟩
  clear hb1 hb2 hb12 HR HO HO2 HR2
  dsimp only
  go_wp2
  go_ret
  exact ⟨lo, lc, rfl, HFIN.out⟩
end Go.Proofs.YtmgpacenooncjaaGreatDoor.Pp
/- Mapper: where a run stands, as a text; a run that is told where one stood. -/
namespace Go.Proofs.YtmgpacenooncjaaGreatDoor
open Go.ChangeShapes Go.WideShapes Go.ChangeAt Go.RowKit
/-- A run's text: how many records are done, ahead of its pairs. -/
def saveL (done : Nat) (M : List (ByteArray × Int)) : List UInt8 := Pp.textL ((⟨#[]⟩, (done : Int)) :: M)
theorem saveL_eq (done : Nat) (M : List (ByteArray × Int)) : bs (saveL done M) = bs (Pp.textL [(⟨#[]⟩, (done : Int))]) ++ bs (Pp.textL M) := by
  have e : saveL done M = Pp.textL [(⟨#[]⟩, (done : Int))] ++ Pp.textL M := by simp [saveL, Pp.textL]
  rw [e]
  apply ByteArray.ext
  apply Array.ext'
  simp [bs]
set_option maxRecDepth 100000 in
set_option maxHeartbeats 1000000 in
theorem msave_any (R done : Nat) (j : Jb) (rv lv mv : Value) (lines : List (List UInt8)) (M : List (ByteArray × Int)) (w : World) (E : Pp.EnvT w) (h : IsMR w R j rv lv lines done mv M) (hf : Pp.Fits M) (hl : M.length ≤ 59999) (hd : done ≤ 1000) :
    Calls Tryz.prog 24 #[.pointer (some ⟨R, 0, none⟩)] w fun e w' => e = .returned (.string (bs (saveL done M))) ∧ Below w.heap.size w w' := by
  have c5 := h.blk.at (i := 5) (v := .int .i64 done) rfl
  have c6 := h.blk.at (i := 6) (v := mv) rfl
  have hp := owa_isPairs h.row
  obtain ⟨t1, ht1⟩ : ∃ t, t = bs (Pp.textL [(⟨#[]⟩, (done : Int))]) := ⟨_, rfl⟩
  obtain ⟨t2, ht2⟩ : ∃ t, t = bs (Pp.textL M) := ⟨_, rfl⟩
  have hf1 : Pp.Fits [((⟨#[]⟩ : ByteArray), (done : Int))] := by intro p hp; rw [List.mem_singleton] at hp; subst hp; refine ⟨Nat.zero_le _, ?_, ?_⟩ <;> simp only <;> omega
  have T1 : Hid (∀ (B : Nat) (w' : World), Pp.IsPairs w' (.slice (some ⟨B, 0, none⟩) 1 1) [(⟨#[]⟩, (done : Int))] → Below w.heap.size w w' → Calls Tryz.prog 57 #[.slice (some ⟨B, 0, none⟩) 1 1] w' fun e w'' => e = .returned (.string t1) ∧ Below w'.heap.size w' w'') := fun B w' hp hb => by
    rw [ht1]
    exact Pp.text_anyT _ _ w' (E.below hb) hp hf1 (by simp)
  have T2 : Hid (∀ w', Below w.heap.size w w' → Calls Tryz.prog 57 #[mv] w' fun e w'' => e = .returned (.string t2) ∧ Below w'.heap.size w' w'') := fun w' hb => by
    rw [ht2]
    exact Pp.text_anyT _ _ w' (E.below hb) (Pp.isPairs_below hp hb) hf (by omega)
  have hs1 : t1.size ≤ 1100 := by rw [ht1, bs_size]; exact Pp.textL_len hf1
  have hs2 : t2.size ≤ 66000000 := by rw [ht2, bs_size]; have := Pp.textL_len hf; omega
  have HE : Hid (bs (saveL done M) = t1 ++ t2) := by show _ = _; rw [saveL_eq, ht1, ht2]
  have HB : Hid (∀ w', Below w.heap.size w w' → w'.cell? ⟨R, 5, none⟩ = some (.int .i64 done) ∧ w'.cell? ⟨R, 6, none⟩ = some mv) := fun w' hb => ⟨cell_below c5 hb, cell_below c6 hb⟩
  obtain ⟨ma, mc, rfl, -⟩ := hp
  have hsz : ¬ 9223372036854775807 < t1.size + t2.size := by omega
  obtain ⟨ml, hml⟩ : ∃ ml, ml = M.length := ⟨_, rfl⟩
  rw [← hml] at T2 HB c6
  have e6 := (HB.out _ (below_box (.cells #[.string ⟨#[]⟩, .int .i64 done] 67))).2
  clear ht1 ht2 h hf1 hs1 hs2 hml hf hl
  go_enter Tryz.func24, Tryz.ntmps24
  go_upto_region 1 with fail
  go_region_with (first | (go_at_call_of 57 (Value.slice ma ml mc); refine (T2.out _ HB2.out).mono ?_; rintro _ w3 ⟨rfl, hb3⟩; have HB3 : Hid (Below w.heap.size w w3) := below_trans HB2.out hb3; clear hb3) | (go_at_call 57; refine (T1.out _ _ (by first | exact Pp.isPairs_one _ _ 1 _ rfl | exact Pp.isPairs_below (Pp.isPairs_one _ _ 1 _ rfl) (Pp.blw_drew (Below.refl _ _))) (by first | exact below_box _ | exact below_trans (Pp.blw_drew (Below.refl _ _)) (below_box _) | exact Pp.blw_drew (below_box _))).mono ?_; rintro _ w2 ⟨rfl, hb2⟩; have HB2 : Hid (Below w.heap.size w w2) := (by first | exact below_trans (below_box _) hb2 | exact below_trans (below_trans (Pp.blw_drew (Below.refl _ _)) (below_box _)) hb2 | exact below_trans (Pp.blw_drew (below_box _)) hb2); obtain ⟨d5, d6⟩ := HB.out w2 HB2.out; clear hb2 c5 e6))
  all_goals
    (try simp only [Exit.then])
    rw [← HE.out]
    go_wp2
    go_ret
    exact ⟨rfl, HB3.out⟩
end Go.Proofs.YtmgpacenooncjaaGreatDoor
/- Mapper: a run that is told where one stood. -/
namespace Go.Proofs.YtmgpacenooncjaaGreatDoor
open Go.ChangeShapes Go.WideShapes Go.ChangeAt Go.RowKit
set_option maxRecDepth 100000 in
set_option maxHeartbeats 2000000 in
theorem mload_any (R done d : Nat) (j : Jb) (rv lv mv : Value) (lines : List (List UInt8)) (M0 M : List (ByteArray × Int)) (w : World) (E : Pp.Env w) (h : IsMR w R j rv lv lines done mv M0) (hf : Pp.Fits M) (hl : M.length ≤ 59999) (hd : d ≤ lines.length) (hn : lines.length ≤ 1000) :
    Calls Tryz.prog 23 #[.pointer (some ⟨R, 0, none⟩), .string (bs (saveL d M))] w fun e w' => ∃ mv', e = .returned (.bool true) ∧ IsMR w' R j rv lv lines d mv' M ∧ FrM w w' R none ∧ ∀ b, mv'.ownBlock = some b → w.heap.size ≤ b := by
  have hf1 : Pp.Fits ((⟨#[]⟩, (d : Int)) :: M) := by
    intro p hp
    rcases List.mem_cons.1 hp with rfl | hp
    · refine ⟨Nat.zero_le _, ?_, ?_⟩ <;> simp only <;> omega
    · exact hf p hp
  have P := Lib.hid (Pp.readOwn ((⟨#[]⟩, (d : Int)) :: M) w E hf1 (by simp; omega))
  rw [show Pp.bs (Pp.textL ((⟨#[]⟩, (d : Int)) :: M)) = bs (saveL d M) from rfl] at P
  obtain ⟨la, lc, elv, -⟩ := h.lines w (Below.refl _ _)
  subst elv
  have HR := Lib.hid h
  rw [List.length_map] at h
  obtain ⟨ln, hln⟩ : ∃ ln, ln = lines.length := ⟨_, rfl⟩
  rw [List.length_map, ← hln] at HR
  have hdl : d ≤ ln := by omega
  have HLN := Lib.hid hln
  generalize bs (saveL d M) = tx at *
  clear h hf1 hf hln hd
  go_enter Tryz.func23, Tryz.ntmps23
  go_wp2_with (go_at_call 56; refine Hid.out ?_)
  refine Lib.hid ?_
  refine P.out.mono ?_
  clear P
  rintro _ w1 ⟨v, rfl, hrow, hb1⟩
  obtain ⟨nl, hnl⟩ : ∃ nl, nl = M.length := ⟨_, rfl⟩
  rw [List.length_cons, ← hnl] at hrow
  have hg0 : ∃ g cap, v = .slice (some ⟨g, 0, none⟩) (nl + 1) cap ∧ w.heap.size ≤ g ∧ g < w1.heap.size := by
    rcases row_slice hrow with ⟨_, h0⟩ | ⟨g, cap, hv, h1, h2⟩
    · omega
    · exact ⟨g, cap, hv, h1, h2⟩
  obtain ⟨g, cap, rfl, hg, hgl⟩ := hg0
  have c0 : w1.cell? ⟨g, 0, none⟩ = some (.string ⟨#[]⟩) := by rw [hrow.cellAt 0 (by omega)]; rfl
  have c1 : w1.cell? ⟨g, 1, none⟩ = some (.int .i64 d) := by rw [hrow.cellAt 1 (by omega)]; rfl
  obtain ⟨g', off', cap', e, hnc, -, htl⟩ := (OwA.of hrow).tail (by omega)
  injection e with e1 e2 e3
  injection e1 with e1
  injection e1 with e1 e4
  subst e1 e3 e4
  have R1 := HR.out.blw hb1
  have HTL : Hid (OwA w1 w.heap.size 67 2 (.slice (if cap = 1 then some ⟨g, 0, none⟩ else some ⟨g, 0 + 2, none⟩) nl (cap - 1)) nl (Pp.cellsP M)) := by
    have e : (Pp.cellsP ((⟨#[]⟩, (d : Int)) :: M)).drop 2 = Pp.cellsP M := rfl
    rw [e] at htl
    exact htl
  obtain ⟨w2, hw2⟩ : ∃ w2, w2 = w1.alloc (.cells #[.string ⟨#[]⟩, .int .i64 d] 67) := ⟨_, rfl⟩
  have HB : Hid (Below w.heap.size w w1) := hb1
  have HR1 := Lib.hid R1
  have HNL := Lib.hid hnl
  have k4 := R1.blk.at (i := 4) (v := .slice la ln lc) rfl
  obtain ⟨H, hH⟩ : ∃ H, H = w1.heap.size := ⟨_, rfl⟩
  have hb12 : Below w1.heap.size w1 w2 := by rw [hw2]; exact below_box _
  have HH : Hid (Blk w2 H 67 [.string ⟨#[]⟩, .int .i64 d]) := by rw [hw2]; exact blk_new hH
  have HR2 := Lib.hid (R1.blw hb12)
  have HT2 := Lib.hid (HTL.out.blw hb12)
  have HB2 := Lib.hid (below_trans HB.out hb12)
  have HW2 := Lib.hid hw2
  have HHH := Lib.hid hH
  have hRw : R < w.heap.size := HR.out.blk.lt
  have hdi : ¬ (ln : Int) < (d : Int) := by omega
  have hd0 : ¬ (d : Int) < 0 := by omega
  clear R1 htl hrow hw2 hnl hb12 hH HTL HB
  go_upto_region 5 with fail
  rw [← HW2.out, ← HHH.out]
  have b0 := HH.out.at (i := 0) (v := .string ⟨#[]⟩) rfl
  have b1 := HH.out.at (i := 1) (v := .int .i64 d) rfl
  have m4 := HR2.out.blk.at (i := 4) (v := .slice la ln lc) rfl
  clear c0 c1 k4
  go_quiet (fail)
  obtain ⟨w3, hw3⟩ : ∃ w3, w3 = w2.drewN nq := ⟨_, rfl⟩
  have hb23 : Below w2.heap.size w2 w3 := by rw [hw3]; exact below_drewN _ _
  rw [← hw3]
  have HR3 := Lib.hid (HR2.out.blw hb23)
  have HT3 := Lib.hid (HT2.out.blw hb23)
  have HB3 := Lib.hid (below_trans HB2.out hb23)
  have b1 := (HH.out.blw hb23).at (i := 1) (v := .int .i64 d) rfl
  have n5 := HR3.out.blk.at (i := 5) (v := .int .i64 done) rfl
  have n6 := HR3.out.blk.at (i := 6) (v := mv) rfl
  have f5 := HR3.out.blk.frozen 5
  have f6 := HR3.out.blk.frozen 6
  have hcap1 : 1 ≤ cap := by omega
  have hRH : R ≠ H := by have := HHH.out; have := HR1.out.blk.lt; omega
  clear hw3 hb23 b0 m4 HH HR2 HT2 HB2
  have FIN : Hid (∀ (v : Value), OwA w3 w.heap.size 67 2 v nl (Pp.cellsP M) → IsMR ((w3.setCell ⟨R, 5, none⟩ (.int .i64 d)).setCell ⟨R, 6, none⟩ v).drew R j rv (.slice la ln lc) lines d v M ∧ FrM w ((w3.setCell ⟨R, 5, none⟩ (.int .i64 d)).setCell ⟨R, 6, none⟩ v).drew R none ∧ ∀ b, v.ownBlock = some b → w.heap.size ≤ b) := fun v hv => by
    have h4 := HR3.out
    have bel : Below R w3 ((w3.setCell ⟨R, 5, none⟩ (.int .i64 d)).setCell ⟨R, 6, none⟩ v) := ((Below.refl R w3).setCell (p := ⟨R, 5, none⟩) (Nat.le_refl _) _).setCell (p := ⟨R, 6, none⟩) (Nat.le_refl _) _
    have h5 := hv.low (lo := R + 1) hRw
    rw [HNL.out] at h5
    have hm : IsMR ((w3.setCell ⟨R, 5, none⟩ (.int .i64 d)).setCell ⟨R, 6, none⟩ v) R j rv (.slice la ln lc) lines d v M := ⟨(h4.blk.set 5 _).set 6 _, fun w' h' => h4.rules w' (bel.trans h'), fun w' h' => h4.lines w' (bel.trans h'), (h5.stay (Nat.lt_succ_self R)).stay (Nat.lt_succ_self R)⟩
    exact ⟨hm.blw (Pp.blw_drew (Below.refl _ _)), (((FrM.of_blw HB3.out R none).put 5 _).put 6 _).blw (Pp.blw_drew (Below.refl _ _)), fun b hb' => (hv.lt b hb').1⟩
  have HLL : Hid ((lines.map bs).length = ln) := by show _ = _; rw [List.length_map, HLN.out]
  have HTT := HT3.out
  by_cases hc : cap = 1
  · rw [if_pos hc] at HTT
    subst hc
    have hn0 : nl = 0 := by omega
    subst hn0
    have I := Lib.hid (FIN.out _ HTT)
    clear HTT HT3
    go_upto_region 7 with fail
    go_region
    all_goals
      generalize (World.drew _) = w5 at *
      clear b1 n5 n6 f5 f6
      go_wp2
      go_ret
      rw [HLL.out]
      exact ⟨_, rfl, I.out.1, I.out.2.1, I.out.2.2⟩
  · rw [if_neg hc] at HTT
    have I := Lib.hid (FIN.out _ HTT)
    clear HTT HT3
    go_upto_region 7 with fail
    go_region
    all_goals
      rw [Nat.zero_add] at I
      generalize (World.drew _) = w5 at *
      clear b1 n5 n6 f5 f6
      go_wp2
      go_ret
      rw [HLL.out]
      exact ⟨_, rfl, I.out.1, I.out.2.1, I.out.2.2⟩
end Go.Proofs.YtmgpacenooncjaaGreatDoor
/- Contracts of pair.Sum and pair.Slice. -/
namespace Go.Proofs.YtmgpacenooncjaaGreatDoor.Pp
open Go.ChangeShapes Go.WideShapes Go.ChangeAt Go.RowKit
theorem snocB (s : ByteArray) (k : Nat) (h : k < s.size) : s.data.toList.take (k + 1) = s.data.toList.take k ++ [s[k]] := by
  rw [List.take_succ_eq_append_getElem (by simpa using h)]; rfl
def stp (h : Int) (c : UInt8) : Int := bits BinOp.xor IntKind.u32 h ((c.toNat : Int) % 4294967296) * 16777619 % 4294967296
def ksum (l : List UInt8) : Int := l.foldl stp 2166136261
theorem ksum_snoc (l : List UInt8) (c : UInt8) : ksum (l ++ [c]) = bits BinOp.xor IntKind.u32 (ksum l) ((c.toNat : Int) % 4294967296) * 16777619 % 4294967296 := by
  unfold ksum; rw [List.foldl_append]; rfl
theorem stp_bd (h : Int) (c : UInt8) : 0 ≤ stp h c ∧ stp h c < 4294967296 := by
  unfold stp; omega
theorem ksum_bd (l : List UInt8) : 0 ≤ ksum l ∧ ksum l < 4294967296 := by
  unfold ksum
  rcases List.eq_nil_or_concat l with rfl | ⟨l, c, rfl⟩
  · simp
  · rw [List.concat_eq_append, List.foldl_append]; exact stp_bd _ _
theorem ret_int {k : IntKind} {a b : Int} (h : a = b) : Ending.returned (.int k a) = .returned (.int k b) := by rw [h]

set_option maxHeartbeats 400000 in
theorem sum_any (s : ByteArray) (w : World) (hs : s.size ≤ maxLen) :
    Calls Tryz.prog 82 #[.string s] w fun e w' => e = .returned (.int .u32 (ksum s.data.toList)) ∧ w' = w := by
  unfold maxLen at hs
  go_enter Tryz.func82, Tryz.ntmps82
  go_wp2
  go_loop [3, 4, 7] (fun h _ j => ∃ k : Nat, k ≤ s.size ∧ j = .int .i64 k ∧ h = .int .u32 (ksum (s.data.toList.take k))) (fun _ _ i => s.size - (intOf i).toNat)
  case atStart => exact ⟨0, Nat.zero_le _, rfl, rfl⟩
  case round =>
    obtain ⟨k, hk, rfl, rfl⟩ := hrel
    by_cases hlt : k < s.size
    · have HS : Hid (ksum (s.data.toList.take (k + 1)) = bits BinOp.xor IntKind.u32 (ksum (s.data.toList.take k)) ((s[k].toNat : Int) % 4294967296) * 16777619 % 4294967296) := by
        rw [snocB s k hlt]; exact ksum_snoc _ _
      go_wp2
      go_round
      case rel => exact ⟨k + 1, by omega, by go_num, by rw [HS.out]⟩
      case measure => simp [intOf]; omega
    · go_wp2
      go_ret
      exact ⟨ret_int (by rw [List.take_of_length_le (by simp; omega)]), rfl⟩
set_option maxHeartbeats 400000 in
theorem slice_any (s : ByteArray) (n : Int) (w : World) (hs : s.size ≤ maxLen) (h1 : 1 ≤ n) (h2 : n ≤ 1000) :
    Calls Tryz.prog 51 #[.string s, .int .i64 n] w fun e w' => e = .returned (.int .i64 (ksum s.data.toList % n)) ∧ w' = w := by
  have hb := ksum_bd s.data.toList
  have hm := Int.emod_nonneg (ksum s.data.toList) (show n ≠ 0 by omega)
  have hm2 := Int.emod_lt_of_pos (ksum s.data.toList) (show 0 < n by omega)
  go_enter Tryz.func51, Tryz.ntmps51
  go_wp2_with (go_at_call 82; refine (sum_any _ _ hs).mono ?_; rintro e w' ⟨rfl, rfl⟩)
  go_ret
  exact ⟨rfl, rfl⟩
end Go.Proofs.YtmgpacenooncjaaGreatDoor.Pp
/- Mapper: a list of lists, each of its own; a run's slices, plain. -/
namespace Go.Proofs.YtmgpacenooncjaaGreatDoor
open Go.ChangeShapes Go.WideShapes Go.ChangeAt Go.RowKit
/-- In which slice a key lies. -/
def sliceN (many : Int) (k : List UInt8) : Nat := (Pp.ksum k % many).toNat
theorem sliceN_lt {many : Int} (h : 1 ≤ many) (k : List UInt8) : (sliceN many k : Int) = Pp.ksum k % many ∧ sliceN many k < many.toNat := by
  have h1 := Int.emod_nonneg (Pp.ksum k) (show many ≠ 0 by omega)
  have h2 := Int.emod_lt_of_pos (Pp.ksum k) (show 0 < many by omega)
  unfold sliceN
  omega
/-- The pairs of a slice. -/
def inSlice (many : Int) (k : Nat) (l : List (ByteArray × Int)) : List (ByteArray × Int) := l.filter fun p => decide (sliceN many (Pp.Stable.key p) = k)
theorem inSlice_snoc (many : Int) (k : Nat) (l : List (ByteArray × Int)) (p : ByteArray × Int) : inSlice many k (l ++ [p]) = if sliceN many (Pp.Stable.key p) = k then inSlice many k l ++ [p] else inSlice many k l := by
  unfold inSlice
  rw [List.filter_append]
  by_cases h : sliceN many (Pp.Stable.key p) = k
  · rw [if_pos h, List.filter_cons_of_pos (by simp [h])]; rfl
  · rw [if_neg h, List.filter_cons_of_neg (by simp [h])]; simp
/-- Lists, each of its own: the row of them, where each lies; nothing else of what was there has turned. -/
structure SL (w wr : World) (g : Nat) (vs : List Value) (ls : List (List (ByteArray × Int))) : Prop where
  lst : Blk wr g 42 vs
  low : g < w.heap.size
  len : vs.length = ls.length
  each : ∀ (k : Nat) (v : Value) (l : List (ByteArray × Int)), vs[k]? = some v → ls[k]? = some l → wr.ownsRow w.heap.size 67 2 v l.length (Pp.cellsP l)
  apart : ∀ (i j : Nat) (vi vj : Value), i ≠ j → vs[i]? = some vi → vs[j]? = some vj → ∀ g, vi.ownBlock = some g → vj.ownBlock ≠ some g
  only : Only g w wr
theorem SL.below {w wr w' : World} {g : Nat} {vs : List Value} {ls : List (List (ByteArray × Int))} (h : SL w wr g vs ls) (hb : Below wr.heap.size wr w') : SL w w' g vs ls :=
  ⟨h.lst.blw hb, h.low, h.len, fun k v l hv hl => ow_below (h.each k v l hv hl) hb, h.apart, h.only.trans (Only.of_below hb)⟩
theorem only_cell {g : Nat} {w w' : World} {a : Addr} {v : Value} (h : Only g w w') (hc : w.cell? a = some v) (hne : a.block ≠ g) : w'.cell? a = some v := by
  rw [World.cell?_of_block (h.block a.block (World.block_lt_of_cell? w a hc) (fun e => hne (Option.some.inj e)))]
  exact hc
/-- One of them has grown, and stands there anew. -/
theorem SL.put {w wr w' : World} {g i : Nat} {vs : List Value} {ls : List (List (ByteArray × Int))} {v v' : Value} {l l' : List (ByteArray × Int)} (h : SL w wr g vs ls) (hv : vs[i]? = some v) (hl : ls[i]? = some l)
    (ho : w'.ownsRow w.heap.size 67 2 v' l'.length (Pp.cellsP l')) (hg : wr.grownBy w' v.ownBlock) (hat : v'.ownBlock = v.ownBlock ∨ v'.ownBlock = none ∨ ∃ b, v'.ownBlock = some b ∧ wr.heap.size ≤ b) :
    SL w (w'.setCell ⟨g, i, none⟩ v') g (vs.set i v') (ls.set i l') := by
  have hr := h.each i v l hv hl
  have hgw := h.lst.lt
  have lst' : Blk w' g 42 vs := blk_ow h.lst hr (by decide) hg
  have old : ∀ (k : Nat) (u : Value), vs[k]? = some u → ∀ b, u.ownBlock = some b → w.heap.size ≤ b ∧ b < wr.heap.size := fun k u hu b hb => by
    obtain ⟨m, hm⟩ : ∃ m, ls[k]? = some m := ⟨ls[k]'(by rw [← h.len]; exact (List.getElem?_eq_some_iff.1 hu).1), by simp⟩
    exact (h.each k u m hu hm).lt b hb
  refine ⟨lst'.set i v', h.low, by simp [h.len], fun k u m hu hm => ?_, fun a b va vb hab hva hvb q hq => ?_, ?_⟩
  · by_cases e : k = i
    · subst e
      have hk := (List.getElem?_eq_some_iff.1 hv).1
      have hk2 := (List.getElem?_eq_some_iff.1 hl).1
      rw [List.getElem?_set, if_pos rfl, if_pos hk, Option.some.injEq] at hu
      rw [List.getElem?_set, if_pos rfl, if_pos hk2, Option.some.injEq] at hm
      subst hu hm
      exact ow_other ho lst' (by decide)
    · rw [List.getElem?_set, if_neg (fun h => e h.symm)] at hu hm
      have r := h.each k u m hu hm
      have r' : w'.ownsRow w.heap.size 67 2 u m.length (Pp.cellsP m) := r.kept hg (by
        cases hub : u.ownBlock with
        | none => exact .inl rfl
        | some b =>
          right
          intro e2
          exact h.apart k i u v e hu hv b hub e2.symm)
      exact ow_other r' lst' (by decide)
  · rw [List.getElem?_set] at hva hvb
    have newOld : ∀ (k : Nat) (u : Value), k ≠ i → vs[k]? = some u → ∀ q, v'.ownBlock = some q → u.ownBlock ≠ some q := fun k u hk hu q hq e => by
      rcases hat with h1 | h1 | ⟨b, h1, h2⟩
      · rw [h1] at hq
        exact h.apart i k v u (fun e => hk e.symm) hv hu q hq e
      · rw [h1] at hq; cases hq
      · rw [h1] at hq
        injection hq with hq
        have := (old k u hu q e).2
        omega
    by_cases ea : i = a
    · rw [if_pos ea] at hva
      split at hva
      · rw [Option.some.injEq] at hva
        subst hva
        rw [if_neg (by omega)] at hvb
        exact newOld b vb (by omega) hvb q hq
      · cases hva
    · rw [if_neg ea] at hva
      by_cases eb : i = b
      · rw [if_pos eb] at hvb
        split at hvb
        · rw [Option.some.injEq] at hvb
          subst hvb
          intro e
          exact newOld a va (by omega) hva q e hq
        · cases hvb
      · rw [if_neg eb] at hvb
        exact h.apart a b va vb hab hva hvb q hq
  · have b1 : Only g w w' := ⟨hg.os.trans h.only.os, hg.tape.trans h.only.tape, hg.output.trans h.only.output, Nat.le_trans h.only.size hg.size, fun k hk hne => (hg.block k (Nat.lt_of_lt_of_le hk h.only.size) (fun e => by have := (hr.lt k e.symm).1; omega)).trans (h.only.block k hk hne)⟩
    exact b1.setCell i v'
theorem SL.isLists {w wr : World} {g n cap : Nat} {vs : List Value} {ls : List (List (ByteArray × Int))} (h : SL w wr g vs ls) (hn : n = ls.length) : Pp.IsLists wr (.slice (some ⟨g, 0, none⟩) n cap) ls := by
  subst hn
  refine ⟨some ⟨g, 0, none⟩, cap, rfl, fun i hi => ?_⟩
  have hv : vs[i]? = some (vs[i]'(by rw [h.len]; exact hi)) := by simp
  refine ⟨g, 0, _, rfl, ?_, Pp.owns_isPairs (h.each i _ ls[i] hv (by simp))⟩
  rw [Nat.zero_add]
  exact h.lst.at hv
end Go.Proofs.YtmgpacenooncjaaGreatDoor
/- Contract of fold.Groups, its row its own. -/
namespace Go.Proofs.YtmgpacenooncjaaGreatDoor.Pp
open Go.ChangeShapes Go.WideShapes Go.ChangeAt Go.RowKit
open Grp
set_option maxRecDepth 100000 in
set_option maxHeartbeats 2000000 in
theorem groups_own (kind : Int) (v : Value) (l : List (ByteArray × Int)) (w : World) (h : IsPairs w v l) (hl : l.length ≤ 1000000) :
    Calls Tryz.prog 52 #[.int .i64 kind, v] w fun e w' => ∃ u, e = .returned u ∧ w'.ownsRow w.heap.size 67 2 u (grp kind l).length (cellsP (grp kind l)) ∧ Below w.heap.size w w' := by
  obtain ⟨ao, cap0, rfl, hc0⟩ := h
  have HC := Lib.hid hc0
  clear hc0
  obtain ⟨n, hn⟩ : ∃ n, n = l.length := ⟨_, rfl⟩
  rw [← hn] at hl ⊢
  have HN := Lib.hid hn
  clear hn
  go_enter Tryz.func52, Tryz.ntmps52
  go_wp2_with fail
  go_loopw [5, 11] (fun gv kv wr => ∃ (k : Nat), kv = .int .i64 k ∧ k ≤ n ∧ Below w.heap.size w wr ∧ Hid (wr.ownsRow w.heap.size 67 2 gv (grp kind (l.take k)).length (cellsP (grp kind (l.take k))))) (fun _ kv _ => n - (intOf kv).toNat)
  case atStart => exact ⟨0, by go_num, Nat.zero_le _, Below.refl _ _, owns_nil _ _⟩
  case round =>
    obtain ⟨k, rfl, hkn, hb, HO⟩ := hrel
    by_cases hlt : k < n
    · have hlt' : k < l.length := by have := HN.out; omega
      obtain ⟨b, off, ea, c0, c1⟩ := HC.out k hlt'
      subst ea
      have HG : Hid (grp kind (l.take (k + 1)) = Grp.step kind (grp kind (l.take k)) l[k]) := by
        show _ = _
        rw [List.take_succ_eq_append_getElem hlt', grp_snoc]
      have hgl : (grp kind (l.take k)).length ≤ k := by
        have h1 := grp_len kind (l.take k)
        have h2 := List.length_take_le k l
        omega
      replace c0 := (hb.cell (block_lt c0)).trans c0
      replace c1 := (hb.cell (block_lt c1)).trans c1
      generalize l[k] = p at c0 c1 HG
      obtain ⟨G, hG⟩ : ∃ G, G = grp kind (l.take k) := ⟨_, rfl⟩
      rw [← hG] at HO HG hgl
      clear hG
      obtain ⟨G2, hG2⟩ : ∃ G2, G2 = grp kind (l.take (k + 1)) := ⟨_, rfl⟩
      rw [← hG2] at HG
      have HG2 := Lib.hid hG2
      clear hG2
      obtain ⟨ps, pv⟩ := p
      rcases List.eq_nil_or_concat G with hG0 | ⟨A, q, hGA⟩
      · subst hG0
        obtain ⟨ga, gc, hgv⟩ : ∃ a c, u5 = .slice a 0 c := by
          rcases owns_row HO.out with ⟨h1, _⟩ | ⟨g, cap, h1, _, _⟩
          · exact ⟨_, _, h1⟩
          · exact ⟨_, _, h1⟩
        subst hgv
        go_wp2
        go_quiet (fail)
        go_wp2_with (at_builtin; refine Hid.out ?_)
        refine Lib.hid ?_
        refine wpList_append_pairs (w0 := w) rfl (.tmp 30) (.tmp 32) rfl _ [] rfl ((owns_drewN (HO.out.alloc _) _).alloc _) (.slice (some ⟨wr.heap.size + 1, 0, none⟩) 1 1) [(ps, pv)] rfl (isPairs_one ps pv _ _ (by simp)) (by simp) (blw_step hb (blw_step (blw_step (blw_box _) (blw_drewN _ _)) (blw_box _))) ?_
        intro v2 w2 hown2 hb2
        have HO2 := Lib.hid hown2
        clear c0 c1 HC HO hown2
        go_wp2
        go_roundw
        case rel => exact ⟨k + 1, by go_num, by omega, hb2, by rw [← HG2.out, HG.out]; exact HO2.out⟩
        case measure => simp [intOf]; omega
      · rw [List.concat_eq_append] at hGA
        subst hGA
        obtain ⟨g, gc, hgv, hbg, hrow⟩ : ∃ g c, u5 = .slice (some ⟨g, 0, none⟩) (A.length + 1) c ∧ w.heap.size ≤ g ∧ Row g (A ++ [q]) wr := by
          rcases owns_row HO.out with ⟨_, h2⟩ | ⟨g, cap, h1, h2, h3⟩
          · simp at h2
          · exact ⟨g, cap, by simpa using h1, h2, h3⟩
        subst hgv
        obtain ⟨q0, q1⟩ := hrow.at A.length (by simp)
        simp only [List.getElem_append_right (Nat.le_refl _), Nat.sub_self, List.getElem_singleton] at q0 q1
        have hgsz := hrow.lt
        have fz := hrow.frozen (A.length * 2 + 1)
        obtain ⟨qs, qv⟩ := q
        simp only at q0 q1
        simp only [List.length_append, List.length_cons, List.length_nil] at hgl
        obtain ⟨m, hm⟩ : ∃ m, m = A.length := ⟨_, rfl⟩
        rw [← hm] at q0 q1 fz hgl
        have HM := Lib.hid hm
        have HO' : Hid (wr.ownsRow w.heap.size 67 2 (.slice (some ⟨g, 0, none⟩) (m + 1) gc) (A ++ [(qs, qv)]).length (cellsP (A ++ [(qs, qv)]))) := by rw [hm]; exact HO.out
        rw [← hm]
        clear hm HO hrow
        have hd0 : decide ((m : Int) < 0) = false := decide_eq_false (by omega)
        by_cases hk : qs = ps
        · subst hk
          have T2 := two_any kind qv pv
          have HG3 : Hid (G2 = A ++ [(qs, two kind qv pv)]) := by
            show _ = _
            rw [HG.out, step_same kind A (qs, qv) (qs, pv) rfl]
          clear HG
          generalize two kind qv pv = x at *
          have HT2 := Lib.hid T2
          clear T2
          go_wp2
          go_quiet (fail)
          go_wp2
          obtain ⟨w1, hw1⟩ : ∃ w1, w1 = (wr.alloc (.cells #[.string qs, .int .i64 pv] 67)).drewN nq := ⟨_, rfl⟩
          have p1 : w1.cell? ⟨wr.heap.size, 1, none⟩ = some (.int .i64 pv) := by rw [hw1]; simp
          have hb1 : Below wr.heap.size wr w1 := by rw [hw1]; exact blw_step (blw_box _) (blw_drewN _ _)
          have HO1 : Hid (w1.ownsRow w.heap.size 67 2 (.slice (some ⟨g, 0, none⟩) (m + 1) gc) (A ++ [(qs, qv)]).length (cellsP (A ++ [(qs, qv)]))) := by rw [hw1]; exact owns_drewN (HO'.out.alloc _) _
          rw [← hw1]
          clear hw1 c0 c1 HC HO'
          replace q1 := (hb1.cell (p := ⟨g, m * 2 + 1, none⟩) hgsz).trans q1
          replace fz := (hb1.frozen (p := ⟨g, m * 2 + 1, none⟩) hgsz).trans fz
          go_region_with (go_at_call 83; refine (HT2.out _).mono ?_; rintro _ _ ⟨rfl, rfl⟩)
          all_goals
            have HO2 : Hid ((w1.setCell ⟨g, m * 2 + 1, none⟩ (.int .i64 x)).drew.ownsRow w.heap.size 67 2 (.slice (some ⟨g, 0, none⟩) (m + 1) gc) (A ++ [(qs, x)]).length (cellsP (A ++ [(qs, x)]))) := by
              have h1 := owns_val HO1.out x
              rw [← HM.out] at h1
              exact ⟨h1.1, h1.2⟩
            have hb2 : Below w.heap.size w (w1.setCell ⟨g, m * 2 + 1, none⟩ (.int .i64 x)).drew := blw_drew ((blw_step hb hb1).setCell hbg _)
            clear q1 fz p1 HO1
            generalize (w1.setCell ⟨g, m * 2 + 1, none⟩ (.int .i64 x)).drew = w2 at *
            go_wp2
            go_roundw
            case rel => exact ⟨k + 1, by go_num, by omega, hb2, by rw [← HG2.out, HG3.out]; exact HO2.out⟩
            case measure => simp [intOf]; omega
        · have hE := neq_list hk
          have HG3 : Hid (G2 = A ++ [(qs, qv)] ++ [(ps, pv)]) := by
            show _ = _
            rw [HG.out, step_other kind A (qs, qv) (ps, pv) hk]
          clear HG
          go_wp2
          go_quiet (fail)
          go_wp2_with (at_builtin; refine Hid.out ?_)
          refine Lib.hid ?_
          refine wpList_append_pairs (w0 := w) rfl (.tmp 30) (.tmp 32) rfl _ (A ++ [(qs, qv)]) rfl ((owns_drewN (HO'.out.alloc _) _).alloc _) (.slice (some ⟨wr.heap.size + 1, 0, none⟩) 1 1) [(ps, pv)] rfl (isPairs_one ps pv _ _ (by simp)) (by have := HM.out; simp; omega) (blw_step hb (blw_step (blw_step (blw_box _) (blw_drewN _ _)) (blw_box _))) ?_
          intro v2 w2 hown2 hb2
          have HO2 := Lib.hid hown2
          clear c0 c1 HC HO' hown2 q0 q1 fz hE hk hgsz hbg
          go_wp2
          go_roundw
          case rel => exact ⟨k + 1, by go_num, by omega, hb2, by rw [← HG2.out, HG3.out]; exact HO2.out⟩
          case measure => simp [intOf]; omega
    · have hfin : Hid (wr.ownsRow w.heap.size 67 2 u5 (grp kind l).length (cellsP (grp kind l))) := by
        have h1 := HO.out
        rw [List.take_of_length_le (by have := HN.out; omega)] at h1
        exact h1
      clear HC HO
      go_wp2
      go_ret
      exact ⟨_, rfl, hfin.out, hb⟩
end Go.Proofs.YtmgpacenooncjaaGreatDoor.Pp
/- Mapper: Slices. -/
namespace Go.Proofs.YtmgpacenooncjaaGreatDoor
open Go.ChangeShapes Go.WideShapes Go.ChangeAt Go.RowKit
/-- A slice, folded if that is wanted early. -/
def finL (early : Bool) (fold : Int) (l : List (ByteArray × Int)) : List (ByteArray × Int) := if early = true then Pp.Grp.grp fold l else l
/-- A run's slices. -/
def slicesOf (fold : Int) (early : Bool) (ns : Nat) (M : List (ByteArray × Int)) : List (List (ByteArray × Int)) := (List.range ns).map fun k => finL early fold (inSlice ns k (Pp.Tot.srt M))
theorem infoLst : (Tryz.prog.info? 42).map (fun i => (i.zero, i.size, i.bytes)) = some (some (.slice none 0 0), 1, 24) := by kernel_rfl
theorem made_nils (ns : Nat) : (madeCells (Value.slice none 0 0).cells (ns * 1)).toList = List.replicate ns (Value.slice none 0 0) := by
  rw [Nat.mul_one, show (Value.slice none 0 0).cells = #[.slice none 0 0] from rfl, toList_madeCells_one]
/-- The parts of a list by their slices. -/
def partsL (ns : Nat) (Z : List (ByteArray × Int)) : List (List (ByteArray × Int)) := (List.range ns).map fun k => inSlice ns k Z
theorem partsL_at {ns k : Nat} (h : k < ns) (Z : List (ByteArray × Int)) : (partsL ns Z)[k]? = some (inSlice ns k Z) := by
  unfold partsL
  rw [List.getElem?_map, List.getElem?_range h]
  rfl
theorem partsL_len (ns : Nat) (Z : List (ByteArray × Int)) : (partsL ns Z).length = ns := by simp [partsL]
theorem partsL_snoc {ns : Nat} (Z : List (ByteArray × Int)) (p : ByteArray × Int) (i : Nat) (hi : sliceN ns (Pp.Stable.key p) = i) (hn : i < ns) : partsL ns (Z ++ [p]) = (partsL ns Z).set i (inSlice ns i Z ++ [p]) := by
  apply List.ext_getElem?
  intro k
  rw [List.getElem?_set, partsL_len]
  by_cases hk : k < ns
  · rw [partsL_at hk, inSlice_snoc, hi]
    by_cases e : i = k
    · subst e; rw [if_pos rfl, if_pos rfl, if_pos hn]
    · rw [if_neg e, if_neg e, partsL_at hk]
  · rw [List.getElem?_eq_none (by rw [partsL_len]; omega), if_neg (by omega), List.getElem?_eq_none (by rw [partsL_len]; omega)]
theorem partsL_nil (ns : Nat) : partsL ns [] = List.replicate ns [] := by
  apply List.ext_getElem?
  intro k
  by_cases hk : k < ns
  · rw [partsL_at hk, List.getElem?_replicate, if_pos hk]; rfl
  · rw [List.getElem?_eq_none (by rw [partsL_len]; omega), List.getElem?_replicate, if_neg hk]
/-- The parts, so many of them folded. -/
def earlyL (fo : Int) (ns : Nat) (Z : List (ByteArray × Int)) (i : Nat) : List (List (ByteArray × Int)) := (List.range ns).map fun k => if k < i then Pp.Grp.grp fo (inSlice ns k Z) else inSlice ns k Z
theorem earlyL_at {fo : Int} {ns k : Nat} (h : k < ns) (Z : List (ByteArray × Int)) (i : Nat) : (earlyL fo ns Z i)[k]? = some (if k < i then Pp.Grp.grp fo (inSlice ns k Z) else inSlice ns k Z) := by
  unfold earlyL
  rw [List.getElem?_map, List.getElem?_range h]
  rfl
theorem earlyL_len (fo : Int) (ns : Nat) (Z : List (ByteArray × Int)) (i : Nat) : (earlyL fo ns Z i).length = ns := by simp [earlyL]
theorem earlyL_zero (fo : Int) (ns : Nat) (Z : List (ByteArray × Int)) : earlyL fo ns Z 0 = partsL ns Z := by simp [earlyL, partsL]
theorem earlyL_succ {fo : Int} {ns i : Nat} (h : i < ns) (Z : List (ByteArray × Int)) : earlyL fo ns Z (i + 1) = (earlyL fo ns Z i).set i (Pp.Grp.grp fo (inSlice ns i Z)) := by
  apply List.ext_getElem?
  intro k
  rw [List.getElem?_set, earlyL_len]
  by_cases hk : k < ns
  · rw [earlyL_at hk]
    by_cases e : i = k
    · subst e; rw [if_pos rfl, if_pos hk, if_pos (by omega)]
    · rw [if_neg e, earlyL_at hk]
      by_cases h2 : k < i
      · rw [if_pos h2, if_pos (by omega)]
      · rw [if_neg h2, if_neg (by omega)]
  · rw [List.getElem?_eq_none (by rw [earlyL_len]; omega), if_neg (by omega), List.getElem?_eq_none (by rw [earlyL_len]; omega)]
theorem earlyL_all (fo : Int) (ns : Nat) (M : List (ByteArray × Int)) : earlyL fo ns (Pp.Tot.srt M) ns = slicesOf fo true ns M := by
  unfold earlyL slicesOf finL
  apply List.map_congr_left
  intro k hk
  rw [List.mem_range] at hk
  rw [if_pos hk, if_pos rfl]
/-- What Slices gives: lists, each of its own. -/
def SlicesGive (w : World) (fo : Int) (ea : Bool) (ns : Nat) (M : List (ByteArray × Int)) (r : Ending) (w' : World) : Prop := ∃ g vs w2, r = .returned (.slice (some ⟨g, 0, none⟩) ns ns) ∧ SL w2 w' g vs (slicesOf fo ea ns M) ∧ w.heap.size ≤ g ∧ w.heap.size ≤ w2.heap.size ∧ Below w.heap.size w w'
set_option maxRecDepth 100000 in
set_option maxHeartbeats 4000000 in
theorem slices_own (R done : Nat) (l : List Rl) (fo : Int) (ea : Bool) (ns : Nat) (rv lv mv : Value) (lines : List (List UInt8)) (M : List (ByteArray × Int)) (w : World) (hr : IsMR w R ⟨l, fo, ea, (ns : Int)⟩ rv lv lines done mv M) (hs1 : 1 ≤ ns) (hs2 : ns ≤ 4) (hM : M.length ≤ 1000000) (hk : ∀ p ∈ M, p.1.size ≤ 1000) :
    Calls Tryz.prog 21 #[.pointer (some ⟨R, 0, none⟩)] w fun e w' => SlicesGive w fo ea ns M e w' := by
  obtain ⟨i0, hi0, hz0, hz1, hz2⟩ := info_parts infoLst
  have hRl := hr.blk.lt
  have HR := Lib.hid hr
  have c3 := hr.blk.at (i := 3) (v := .int .i64 (ns : Int)) rfl
  clear hr
  go_enter Tryz.func21, Tryz.ntmps21
  go_wp2_with (at_make; refine Hid.out ?_)
  refine Lib.hid ?_
  refine wpList_make_full w rfl (.tmp 12) (.tmp 12) 48 rfl w.heap.size 42 i0 _ 1 Tryz.underlying48 hi0 hz0 hz1 _ _ _ _ ns rfl rfl rfl rfl (by rw [hz2]; omega) (by unfold maxLen; omega) (Nat.le_refl _) ?_
  intro w1 hown hgrow
  have hb1 : Below w.heap.size w w1 := ⟨hgrow.os, hgrow.tape, hgrow.output, hgrow.size, fun k hk => hgrow.block k hk (by simp)⟩
  obtain ⟨hblk, -⟩ := owns_blk hown
  rw [made_nils ns] at hblk
  obtain ⟨g, hg⟩ : ∃ g, g = w.heap.size := ⟨_, rfl⟩
  rw [← hg] at hblk
  have R1 := HR.out.blw hb1
  have c6 := R1.blk.at (i := 6) (v := mv) rfl
  have hmv := owa_isPairs R1.row
  have SF := Lib.hid (Pp.sort_full mv M w1 hmv hM)
  obtain ⟨ma, mc, emv⟩ := id hmv
  have emv1 := emv.1
  subst emv1
  have HBLK := Lib.hid hblk
  have HB1 := Lib.hid hb1
  have HGG := Lib.hid hg
  have HK := Lib.hid hk
  have HRI := Lib.hid hz0
  rw [← hg]
  clear hown hgrow hb1 hblk hmv emv hg hk hz0 hz1 hz2 hi0 HRI c3 R1
  go_wp2_with (go_at_call 50; refine Hid.out ?_)
  refine Lib.hid ?_
  refine SF.out.mono ?_
  rintro _ w2 ⟨u, Z, rfl, hso, hse, hzl, hzp, hb12, gu, rfl⟩
  obtain rfl := Pp.Tot.srt_eq hso hse
  obtain ⟨n, hn⟩ : ∃ n, n = M.length := ⟨_, rfl⟩
  have hn1 : n ≤ 1000000 := by omega
  rw [← hn] at hzl hzp ⊢
  have S0 : Hid (SL w2 w2 g (List.replicate ns (Value.slice none 0 0)) (partsL ns ((Pp.Tot.srt M).take 0))) := by
    refine ⟨HBLK.out.blw hb12, Nat.lt_of_lt_of_le HBLK.out.lt hb12.size, by rw [partsL_len, List.length_replicate], fun k v l hv hl => ?_, fun i j vi vj _ hvi _ q hq => ?_, Only.refl _ _⟩
    · rw [List.take_zero, partsL_nil, List.getElem?_replicate] at hl
      rw [List.getElem?_replicate] at hv
      split at hv
      · rename_i h
        rw [if_pos h, Option.some.injEq] at hl
        rw [Option.some.injEq] at hv
        subst hv hl
        exact World.ownsRow_nil _ _ _ _
      · cases hv
    · rw [List.getElem?_replicate] at hvi
      split at hvi
      · rw [Option.some.injEq] at hvi
        subst hvi
        cases hq
      · cases hvi
  have HZK : Hid (∀ (k : Nat) (p : ByteArray × Int), (Pp.Tot.srt M)[k]? = some p → p.1.size ≤ 1000) := fun k p hp => HK.out p (Pp.Tot.srt_mem.1 (List.mem_of_getElem? hp))
  have HRw2 := Lib.hid (HR.out.blw (below_trans HB1.out hb12))
  have hRg : R < g := by rw [HGG.out]; exact hRl
  have HB2 := Lib.hid (below_trans HB1.out hb12)
  have HZP := Lib.hid hzp
  have HZL := Lib.hid hzl
  have HN := Lib.hid hn
  have HGB : Hid (∀ k, k < n → gu ≠ g) := fun k hk e => by
    obtain ⟨a', c', e1, hc⟩ := HZP.out
    obtain ⟨b, off, e2, c0, -⟩ := hc k (by rw [HZL.out]; exact hk)
    injection e1 with e1
    rw [← e1] at e2
    injection e2 with e2
    injection e2 with e2 e3
    subst e2 e3
    rw [e] at c0
    rw [S0.out.lst.cell, List.getElem?_replicate] at c0
    split at c0 <;> cases c0
  obtain ⟨Z, hZ⟩ : ∃ Z, Z = Pp.Tot.srt M := ⟨_, rfl⟩
  have HZE : Hid (Pp.Tot.srt M = Z) := hZ.symm
  rw [← hZ] at S0 HZK HZP HZL
  clear hZ hso hse hzl hzp hb12 hn SF c6 HBLK HB1 HR HK
  dsimp only
  go_wp2
  go_loopg [20] n (fun gg iv wr => ∃ (k : Nat) (vs : List Value), gg = n - k ∧ k ≤ n ∧ iv = .int .i64 k ∧ Hid (SL w2 wr g vs (partsL ns (Z.take k))))
  case atStart => exact ⟨0, _, rfl, Nat.zero_le _, rfl, S0⟩
  case round =>
    clear S0
    obtain ⟨k, vs, hgk, hk, rfl, HS⟩ := hrel
    have HGK := Lib.hid hgk
    clear hgk
    by_cases hlt : k < n
    · have hkz : k < Z.length := by rw [HZL.out]; exact hlt
      obtain ⟨a', c', e1, hc⟩ := HZP.out
      obtain ⟨b, off, e2, c0, c1⟩ := hc k hkz
      rw [Value.slice.injEq] at e1
      obtain ⟨e1, -, -⟩ := e1
      rw [← e1, Option.some.injEq, Addr.mk.injEq] at e2
      obtain ⟨e2, e3, -⟩ := e2
      rw [← e2, ← e3] at c0 c1
      simp only [Nat.zero_add] at c0 c1
      clear e1 e2 e3
      have hgn := HGB.out k hlt
      replace c0 := only_cell HS.out.only c0 hgn
      replace c1 := only_cell HS.out.only c1 hgn
      have HPK : Hid (Z[k].1.size ≤ 1000) := HZK.out k Z[k] (by simp)
      have HSN : Hid (Z.take (k + 1) = Z.take k ++ [Z[k]]) := List.take_succ_eq_append_getElem hkz
      obtain ⟨i, hi⟩ : ∃ i, i = sliceN ns (Pp.Stable.key Z[k]) := ⟨_, rfl⟩
      obtain ⟨hi1, hi2⟩ := sliceN_lt (many := (ns : Int)) (by omega) (Pp.Stable.key Z[k])
      rw [← hi] at hi1 hi2
      have hin : i < ns := by simpa using hi2
      have SLC : Hid (∀ w', Calls Tryz.prog 51 #[.string Z[k].1, .int .i64 (ns : Int)] w' fun e w'' => e = .returned (.int .i64 (i : Int)) ∧ w'' = w') := fun w' => by
        have h := Pp.slice_any Z[k].1 (ns : Int) w' (by unfold maxLen; have := HPK.out; omega) (by omega) (by omega)
        have e : Pp.ksum Z[k].1.data.toList % (ns : Int) = (i : Int) := by
          rw [hi1]
          unfold Pp.Stable.key
          rw [ByteArray.toList_eq]
        rw [e] at h
        exact h
      have HI := Lib.hid hi
      generalize Z[k] = p at *
      obtain ⟨ps, pv⟩ := p
      simp only at c0 c1 SLC HPK
      obtain ⟨w3, hw3⟩ : ∃ w3, w3 = wr.alloc (.cells #[.string ps, .int .i64 pv] 67) := ⟨_, rfl⟩
      obtain ⟨Pb, hPb⟩ : ∃ Pb, Pb = wr.heap.size := ⟨_, rfl⟩
      have PB : Blk w3 Pb 67 [.string ps, .int .i64 pv] := by rw [hw3]; exact blk_new hPb
      have hb3 : Below wr.heap.size wr w3 := by rw [hw3]; exact below_box _
      have S3 := Lib.hid (HS.out.below hb3)
      have hR3 : w3.cell? ⟨R, 3, none⟩ = some (.int .i64 (ns : Int)) := only_cell S3.out.only (HRw2.out.blk.at (i := 3) (v := .int .i64 (ns : Int)) rfl) (by simp; omega)
      have b0 := PB.at (i := 0) (v := .string ps) rfl
      have HPB := Lib.hid PB
      have HW3 := Lib.hid hw3
      have HPP := Lib.hid hPb
      clear hw3 hPb PB hb3 hc hi hi1 hi2 HS
      go_upto_region 5 with fail
      rw [← HW3.out, ← HPP.out]
      clear HW3 HPP c0 c1
      go_quiet ((go_at_call 51; exact Calls.quiet_of_same (SLC.out _)))
      obtain ⟨w4, hw4⟩ : ∃ w4, w4 = w3.drewN nq := ⟨_, rfl⟩
      have hb34 : Below w3.heap.size w3 w4 := by rw [hw4]; exact below_drewN _ _
      rw [← hw4]
      have S4 := Lib.hid (S3.out.below hb34)
      have PB4 := Lib.hid (HPB.out.blw hb34)
      obtain ⟨vi, hvi⟩ : ∃ vi, vs[i]? = some vi := ⟨vs[i]'(by rw [S4.out.len, partsL_len]; exact hin), by simp⟩
      have hLi := partsL_at hin (Z.take k)
      have hown := S4.out.each i vi _ hvi hLi
      have HLL : (inSlice ns i (Z.take k)).length ≤ 1000000 := by
        unfold inSlice
        have h1 := List.length_filter_le (fun p => decide (sliceN ns (Pp.Stable.key p) = i)) (Z.take k)
        have h2 := List.length_take_le' k Z
        have := HZL.out
        omega
      have HLK : (inSlice ns i (Z.take k)).length + 1 ≤ 1000000 := by
        unfold inSlice
        have h1 := List.length_filter_le (fun p => decide (sliceN ns (Pp.Stable.key p) = i)) (Z.take k)
        have h2 : (Z.take k).length ≤ k := List.length_take_le k Z
        have := HZL.out
        omega
      have HPS : Hid (partsL ns (Z.take (k + 1)) = (partsL ns (Z.take k)).set i (inSlice ns i (Z.take k) ++ [(ps, pv)])) := by
        show _ = _
        rw [HSN.out]
        exact partsL_snoc _ _ i HI.out.symm hin
      obtain ⟨via, vic, evi⟩ : ∃ va vc, vi = .slice va (inSlice ns i (Z.take k)).length vc := by
        rcases row_slice hown with ⟨h1, h2⟩ | ⟨g', c, h1, _⟩
        · exact ⟨_, _, by rw [h1, h2]⟩
        · exact ⟨_, _, h1⟩
      subst evi
      have HOWN := Lib.hid hown
      have HVI := Lib.hid hvi
      have HLI := Lib.hid hLi
      have HLKK := Lib.hid HLK
      generalize inSlice ns i (Z.take k) = L at *
      obtain ⟨ni, hni⟩ : ∃ ni, ni = L.length := ⟨_, rfl⟩
      rw [← hni] at HOWN HVI hvi
      have HNI := Lib.hid hni
      have l0 := S4.out.lst.at hvi
      have l0a : (w4.alloc (.cells #[.string ps, .int .i64 pv] 67)).cell? ⟨g, i, none⟩ = some (.slice via ni vic) := cell_below l0 (below_box _)
      have p0 := PB4.out.at (i := 0) (v := .string ps) rfl
      have p1 := PB4.out.at (i := 1) (v := .int .i64 pv) rfl
      have hsz4 := S4.out.only.size
      have HSZ4 := Lib.hid hsz4
      clear hw4 hb34 S3 HPB hLi hown hni HLL HLK b0 hR3 hvi hsz4
      have HOWN4 : Hid (∀ wc, Below w4.heap.size w4 wc → wc.ownsRow w2.heap.size 67 2 (.slice via ni vic) ni (Pp.cellsP L)) := fun wc hb => ow_below HOWN.out hb
      have HPUT : Hid (∀ (wc w5 : World) (va : Option Addr) (vc : Nat), Below w4.heap.size w4 wc → w5.ownsRow w2.heap.size 67 2 (.slice va (ni + 1) vc) (ni + 1) (Pp.cellsP (L ++ [(ps, pv)])) → wc.grownBy w5 (Value.slice via ni vic).ownBlock → ((Value.slice va (ni + 1) vc).ownBlock = (Value.slice via ni vic).ownBlock ∨ (Value.slice va (ni + 1) vc).ownBlock = some wc.heap.size) → (w5.cell? ⟨g, i, none⟩ = some (.slice via ni vic) ∧ w5.frozen? ⟨g, i, none⟩ = false) ∧ Hid (SL w2 (w5.setCell ⟨g, i, none⟩ (.slice va (ni + 1) vc)) g (vs.set i (.slice va (ni + 1) vc)) (partsL ns (Z.take (k + 1))))) := fun wc w5 va vc hb ho hg hat => by
        have S5 := S4.out.below hb
        have hbk := blk_ow S5.lst (HOWN4.out wc hb) (by decide) hg
        refine ⟨⟨hbk.at HVI.out, hbk.frozen i⟩, ?_⟩
        show SL _ _ _ _ _
        rw [HPS.out]
        refine S5.put HVI.out HLI.out (by rw [List.length_append, ← HNI.out]; exact ho) hg ?_
        rcases hat with h | h
        · exact .inl h
        · exact .inr (.inr ⟨_, h, Nat.le_refl _⟩)
      go_wp2
      go_region_law (first | (refine step_append_prs rfl (.tmp 37) (.tmp 39) rfl (base := w2.heap.size) (n := ni) (v := .slice via ni vic) (xv := .slice (some ⟨w4.heap.size, 0, none⟩) 1 1) (A := L) (B := [(ps, pv)]) (N := ni + 1) (by simp [Act.eval]) (HOWN4.out _ (by first | exact below_box _ | exact below_trans (Pp.blw_drew (Below.refl _ w4)) (below_box _) | exact Pp.blw_drew (below_box _))) HNI.out (by simp [Act.eval]) (by first | exact Pp.isPairs_one ps pv 1 _ (by simp) | exact Pp.isPairs_below (Pp.isPairs_one ps pv 1 _ (by simp)) (Pp.blw_drew (Below.refl _ _))) HLKK.out (by have := HSZ4.out; simp; omega) (by rw [List.length_append, ← HNI.out]; rfl) ?_; intro va vc w5 hown5 hgrow5 hat5; obtain ⟨⟨l5, f5⟩, HP5⟩ := HPUT.out _ w5 va vc (by first | exact below_box _ | exact below_trans (Pp.blw_drew (Below.refl _ w4)) (below_box _) | exact Pp.blw_drew (below_box _)) hown5 hgrow5 hat5; clear hown5 hgrow5 hat5) | fail)
      all_goals
        generalize w5.setCell ⟨g, i, none⟩ (.slice va (ni + 1) vc) = w6 at *
        clear l0 l0a p0 p1 l5 f5 HPUT HOWN4 HOWN S4 PB4 SLC HPS
        (try simp only [Exit.inBlock, Exit.then])
        go_wp2
        go_roundg (n - (k + 1))
        case measure => have := HGK.out; omega
        case rel => exact ⟨k + 1, _, rfl, by omega, by go_num, HP5⟩
    · have hkn : k = n := by omega
      have HF0 : Hid (Z.take k = Z) := List.take_of_length_le (by have := HZL.out; omega)
      rw [HF0.out] at HS
      have hR2 : wr.cell? ⟨R, 2, none⟩ = some (.bool ea) := only_cell HS.out.only (HRw2.out.blk.at (i := 2) (v := .bool ea) rfl) (by simp; omega)
      have HBW : Hid (Below w.heap.size w wr) := ⟨HS.out.only.os.trans HB2.out.os, HS.out.only.tape.trans HB2.out.tape, HS.out.only.output.trans HB2.out.output, Nat.le_trans HB2.out.size HS.out.only.size, fun q hq => (HS.out.only.block q (Nat.lt_of_lt_of_le hq HB2.out.size) (fun e => by injection e with e; have := HGG.out; omega)).trans (HB2.out.block q hq)⟩
      clear hkn HF0
      cases ea with
      | false =>
        have HE : Hid (slicesOf fo false ns M = partsL ns Z) := by
          show _ = _
          unfold slicesOf
          rw [HZE.out]
          rfl
        go_wp2
        go_ret
        exact ⟨g, vs, w2, rfl, by rw [HE.out]; exact HS.out, Nat.le_of_eq HGG.out.symm, HB2.out.size, HBW.out⟩
      | true =>
        rw [← earlyL_zero fo] at HS
        have HIL : Hid (∀ k, (inSlice ns k Z).length ≤ 1000000) := fun k => by
          unfold inSlice
          have h1 := List.length_filter_le (fun p => decide (sliceN ns (Pp.Stable.key p) = k)) Z
          have := HZL.out
          omega
        have HFE : Hid (earlyL fo ns Z ns = slicesOf fo true ns M) := by
          show _ = _
          rw [← HZE.out]
          exact earlyL_all fo ns M
        go_wp2
        clear hR2 hlt HGK hk
        go_loopg [50] ns (fun gg iv wq => ∃ (i : Nat) (vs : List Value), gg = ns - i ∧ i ≤ ns ∧ iv = .int .i64 i ∧ Hid (SL w2 wq g vs (earlyL fo ns Z i)))
        case atStart => exact ⟨0, _, rfl, Nat.zero_le _, rfl, HS⟩
        case round =>
          clear HS HBW
          obtain ⟨i, vs, hgi, hi, rfl, HS⟩ := hrel
          have HGI := Lib.hid hgi
          clear hgi
          by_cases hlt : i < ns
          · obtain ⟨vi, hvi⟩ : ∃ vi, vs[i]? = some vi := ⟨vs[i]'(by rw [HS.out.len, earlyL_len]; exact hlt), by simp⟩
            have hLi := earlyL_at (fo := fo) hlt Z i
            rw [if_neg (Nat.lt_irrefl i)] at hLi
            have hown := HS.out.each i vi _ hvi hLi
            obtain ⟨via, vic, evi⟩ : ∃ va vc, vi = .slice va (inSlice ns i Z).length vc := by
              rcases row_slice hown with ⟨h1, h2⟩ | ⟨g', c, h1, _⟩
              · exact ⟨_, _, by rw [h1, h2]⟩
              · exact ⟨_, _, h1⟩
            subst evi
            have HSU : Hid (earlyL fo ns Z (i + 1) = (earlyL fo ns Z i).set i (Pp.Grp.grp fo (inSlice ns i Z))) := earlyL_succ hlt Z
            have hli := HIL.out i
            have GR : Hid (∀ wc, Below wr.heap.size wr wc → Calls Tryz.prog 52 #[.int .i64 fo, .slice via (inSlice ns i Z).length vic] wc fun e w' => ∃ ua uc, e = .returned (.slice ua (Pp.Grp.grp fo (inSlice ns i Z)).length uc) ∧ w'.ownsRow wc.heap.size 67 2 (.slice ua (Pp.Grp.grp fo (inSlice ns i Z)).length uc) (Pp.Grp.grp fo (inSlice ns i Z)).length (Pp.cellsP (Pp.Grp.grp fo (inSlice ns i Z))) ∧ Below wc.heap.size wc w') := fun wc hb => by
              refine (Pp.groups_own fo _ (inSlice ns i Z) wc (Pp.isPairs_below (Pp.owns_isPairs hown) hb) hli).mono ?_
              rintro e w' ⟨u, rfl, h1, h2⟩
              obtain ⟨ua, uc, rfl⟩ : ∃ va vc, u = .slice va (Pp.Grp.grp fo (inSlice ns i Z)).length vc := by
                rcases row_slice h1 with ⟨h3, h4⟩ | ⟨g', c, h3, _⟩
                · exact ⟨_, _, by rw [h3, h4]⟩
                · exact ⟨_, _, h3⟩
              exact ⟨ua, uc, rfl, h1, h2⟩
            have HSC := Lib.hid HS.out
            have HVI := Lib.hid hvi
            have HLI := Lib.hid hLi
            have PUT : Hid (∀ (wc w' : World) (ua : Option Addr) (uc : Nat), Below wr.heap.size wr wc → w'.ownsRow wc.heap.size 67 2 (.slice ua (Pp.Grp.grp fo (inSlice ns i Z)).length uc) (Pp.Grp.grp fo (inSlice ns i Z)).length (Pp.cellsP (Pp.Grp.grp fo (inSlice ns i Z))) → Below wc.heap.size wc w' → (w'.cell? ⟨g, i, none⟩ = some (.slice via (inSlice ns i Z).length vic) ∧ w'.frozen? ⟨g, i, none⟩ = false) ∧ Hid (SL w2 (w'.setCell ⟨g, i, none⟩ (.slice ua (Pp.Grp.grp fo (inSlice ns i Z)).length uc)) g (vs.set i (.slice ua (Pp.Grp.grp fo (inSlice ns i Z)).length uc)) (earlyL fo ns Z (i + 1)))) := fun wc w' ua uc hb ho hb2 => by
              have S5 := HSC.out.below hb
              have hbk := S5.lst.blw hb2
              refine ⟨⟨hbk.at HVI.out, hbk.frozen i⟩, ?_⟩
              show SL _ _ _ _ _
              rw [HSU.out]
              refine S5.put HVI.out HLI.out (ow_low ho S5.only.size) ⟨hb2.os, hb2.tape, hb2.output, hb2.size, fun k hk _ => hb2.block k hk⟩ ?_
              cases hq : (Value.slice ua (Pp.Grp.grp fo (inSlice ns i Z)).length uc).ownBlock with
              | none => exact .inr (.inl rfl)
              | some b => exact .inr (.inr ⟨b, rfl, (ho.lt b hq).1⟩)
            have l0 := HS.out.lst.at hvi
            have hR1 : wr.cell? ⟨R, 1, none⟩ = some (.int .i64 fo) := only_cell HS.out.only (HRw2.out.blk.at (i := 1) (v := .int .i64 fo) rfl) (by simp; omega)
            generalize (Pp.Grp.grp fo (inSlice ns i Z)).length = gl at *
            generalize (inSlice ns i Z).length = il at *
            clear hown hvi hLi HS HSC HVI HLI HSU hli
            go_upto_region 12 with fail
            go_region_with (go_at_call 52; refine (GR.out _ (by first | exact Below.refl _ _ | exact Pp.blw_drew (Below.refl _ wr))).mono ?_; rintro _ w9 ⟨ua, uc, rfl, ho, hb9⟩; obtain ⟨⟨l9, f9⟩, HP9⟩ := PUT.out _ w9 ua uc (by first | exact Below.refl _ _ | exact Pp.blw_drew (Below.refl _ wr)) ho hb9; clear ho hb9 l0 hR1)
            all_goals
              generalize w9.setCell ⟨g, i, none⟩ (.slice ua gl uc) = w10 at *
              clear l9 f9 PUT GR
              (try simp only [Exit.inBlock, Exit.then])
              go_wp2
              go_roundg (ns - (i + 1))
              case measure => have := HGI.out; omega
              case rel => exact ⟨i + 1, _, rfl, by omega, by go_num, HP9⟩
          · have him : i = ns := by omega
            have HL : Hid (SL w2 wr g vs (slicesOf fo true ns M)) := by
              have h := HS.out
              rw [him, HFE.out] at h
              exact h
            have HBW : Hid (Below w.heap.size w wr) := ⟨HS.out.only.os.trans HB2.out.os, HS.out.only.tape.trans HB2.out.tape, HS.out.only.output.trans HB2.out.output, Nat.le_trans HB2.out.size HS.out.only.size, fun q hq => (HS.out.only.block q (Nat.lt_of_lt_of_le hq HB2.out.size) (fun e => by injection e with e; have := HGG.out; omega)).trans (HB2.out.block q hq)⟩
            clear him
            go_wp2
            go_ret
            exact ⟨g, vs, w2, rfl, HL.out, Nat.le_of_eq HGG.out.symm, HB2.out.size, HBW.out⟩
theorem slices_any (R done : Nat) (l : List Rl) (fo : Int) (ea : Bool) (ns : Nat) (rv lv mv : Value) (lines : List (List UInt8)) (M : List (ByteArray × Int)) (w : World) (hr : IsMR w R ⟨l, fo, ea, (ns : Int)⟩ rv lv lines done mv M) (hs1 : 1 ≤ ns) (hs2 : ns ≤ 4) (hM : M.length ≤ 1000000) (hk : ∀ p ∈ M, p.1.size ≤ 1000) :
    Calls Tryz.prog 21 #[.pointer (some ⟨R, 0, none⟩)] w fun e w' => ∃ u, e = .returned u ∧ Pp.IsLists w' u (slicesOf fo ea ns M) ∧ Below w.heap.size w w' :=
  (slices_own R done l fo ea ns rv lv mv lines M w hr hs1 hs2 hM hk).mono fun _ _ ⟨g, _, _, h1, h2, _, _, h5⟩ => ⟨_, h1, h2.isLists (by simp [slicesOf]), h5⟩
end Go.Proofs.YtmgpacenooncjaaGreatDoor
/- Contract of LightTexts. -/
namespace Go.Proofs.YtmgpacenooncjaaGreatDoor
open Go.ChangeShapes Go.WideShapes Go.ChangeAt Go.RowKit
def lightT (l : List ByteArray) (most : Int) : Bool := l.all fun t => decide ((t.size : Int) ≤ most)
theorem lightT_step (l : List ByteArray) (most : Int) (k : Nat) (h : k < l.length) : lightT (l.take (k + 1)) most = (lightT (l.take k) most && decide ((l[k].size : Int) ≤ most)) := by
  unfold lightT
  rw [List.take_succ_eq_append_getElem h, List.all_append]
  simp
theorem lightT_out (l : List ByteArray) (most : Int) (k : Nat) (h : k < l.length) (h6 : most < (l[k].size : Int)) : lightT l most = false := by
  unfold lightT
  rw [List.all_eq_false]
  exact ⟨l[k], List.getElem_mem h, by simp; omega⟩
set_option maxRecDepth 100000 in
set_option maxHeartbeats 400000 in
theorem lightTexts_any (v : Value) (l : List ByteArray) (many most : Int) (w : World) (h : IsTexts w v l) (hl : l.length ≤ maxLen) :
    Calls Tryz.prog 8 #[v, .int .i64 many, .int .i64 most] w fun e w' => e = .returned (.bool (decide ((l.length : Int) ≤ many) && lightT l most)) ∧ w' = w := by
  unfold maxLen at hl
  obtain ⟨a, cap, rfl, hc⟩ := h
  by_cases hm : (l.length : Int) ≤ many
  · go_enter Tryz.func8, Tryz.ntmps8
    go_wp2
    go_loop [7] (fun i => ∃ k : Nat, k ≤ l.length ∧ i = .int .i64 k ∧ lightT (l.take k) most = true) (fun i => l.length - (intOf i).toNat)
    case atStart => exact ⟨0, Nat.zero_le _, rfl, rfl⟩
    case round =>
      obtain ⟨k, hk, rfl, hp⟩ := hrel
      have HP := Lib.hid hp
      clear hp
      by_cases hlt : k < l.length
      · obtain ⟨b, off, rfl, c0⟩ := hc k hlt
        clear hc
        by_cases h6 : (l[k].size : Int) ≤ most
        · go_wp2
          go_round
          case rel => exact ⟨k + 1, by omega, by go_num, by rw [lightT_step l most k hlt, HP.out]; simpa using h6⟩
          case measure => simp [intOf]; omega
        · go_wp2
          go_ret
          exact ⟨ret_bool (by simp [lightT_out l most k hlt (by omega)]), rfl⟩
      · clear hc
        go_wp2
        go_ret
        have hp := HP.out
        rw [List.take_of_length_le (by omega)] at hp
        exact ⟨ret_bool (by simp [hp]), rfl⟩
  · go_enter Tryz.func8, Tryz.ntmps8
    go_wp2
    go_ret
    exact ⟨ret_bool (by rw [show decide ((l.length : Int) ≤ many) = false from decide_eq_false (by omega), Bool.false_and]), rfl⟩
end Go.Proofs.YtmgpacenooncjaaGreatDoor
/- Mapper: the closed fact ready; the walk of TopRules. -/
namespace Go.Proofs.YtmgpacenooncjaaGreatDoor
open Go.ChangeShapes Go.WideShapes Go.ChangeAt Go.RowKit
def litRl : Rl := ⟨false, 0, .mk 0 0 [] [], [], .mk 2 0 [] [], .mk 9 0 [] []⟩
def litJb : Jb := ⟨[litRl], 1, false, 1⟩
theorem nilEx (w : World) (k : Int) : IsEx w (.slice none 0 0) (.mk k 0 [] []) :=
  IsEx.mk k 0 [] none 0 [] 0 0 (fun _ => undef) (fun h => by simp at h) (fun i x hx => by simp at hx) (fun i x hx => by simp at hx)
theorem litJb_fault : jobFault litJb = 0 := by decide +kernel
theorem litJb_pairs : rulesP litJb.rules litJb.fold [97, 32, 98] = [(⟨#[97, 32, 98]⟩, 2)] := by decide +kernel
theorem litJb_wt : rulesWt litJb.rules ≤ 1000000000 := by decide +kernel
theorem isRules_sub {w : World} {b off n cap i : Nat} {l : List Rl} {r : Rl} (h : IsRules w (.slice (some ⟨b, off, none⟩) n cap) l) (hr : l[i]? = some r) (cap' : Nat) : IsRules w (.slice (some ⟨b, off + i * 15, none⟩) 1 cap') [r] := by
  obtain ⟨a, cap0, b0, off0, AI, AK, AV, e, ha, hc⟩ := h
  have hi := (List.getElem?_eq_some_iff.1 hr).1
  have ha' := ha (by omega)
  injection e with e1 e2 e3
  rw [ha'] at e1
  injection e1 with e1
  injection e1 with e1 e4
  subst e1 e4
  refine ⟨_, cap', b, off + i * 15, fun k => AI (i + k), fun k => AK (i + k), fun k => AV (i + k), rfl, fun _ => rfl, fun k x hx => ?_⟩
  have hk : k = 0 ∧ r = x := by
    cases k with
    | zero => simpa using hx
    | succ k => simp at hx
  obtain ⟨rfl, rfl⟩ := hk
  have := hc i r hr
  simpa using this
set_option maxRecDepth 100000 in
set_option maxHeartbeats 1000000 in
theorem ready_any (w : World) (E : EnvS w) : Calls Tryz.prog 31 #[] w fun e w' => e = .returned (.bool true) ∧ Below w.heap.size w w' := by
  obtain ⟨w1, hw1⟩ : ∃ w1, w1 = w.alloc (.cells #[.bool false, .int .i64 0, .int .i64 0, .int .i64 0, .string ⟨#[]⟩, .slice none 0 0, .string ⟨#[]⟩, .int .i64 2, .int .i64 0, .string ⟨#[]⟩, .slice none 0 0, .int .i64 9, .int .i64 0, .string ⟨#[]⟩, .slice none 0 0] 58) := ⟨_, rfl⟩
  have hB : Blk w1 w.heap.size 58 [.bool false, .int .i64 0, .int .i64 0, .int .i64 0, .string ⟨#[]⟩, .slice none 0 0, .string ⟨#[]⟩, .int .i64 2, .int .i64 0, .string ⟨#[]⟩, .slice none 0 0, .int .i64 9, .int .i64 0, .string ⟨#[]⟩, .slice none 0 0] := by rw [hw1]; exact blk_new rfl
  obtain ⟨w2, hw2⟩ : ∃ w2, w2 = w1.alloc (.cells #[.slice (some ⟨w.heap.size, 0, none⟩) 1 1, .int .i64 1, .bool false, .int .i64 1] 24) := ⟨_, rfl⟩
  have hs1 : w1.heap.size = w.heap.size + 1 := by rw [hw1]; simp
  have hb1 : Below w.heap.size w w1 := by rw [hw1]; exact below_box _
  have hb12 : Below w1.heap.size w1 w2 := by rw [hw2]; exact below_box _
  have hb2 := below_trans hb1 hb12
  have hR : IsRules w2 (.slice (some ⟨w.heap.size, 0, none⟩) 1 1) litJb.rules := by
    have hB2 := hB.blw hb12
    refine ⟨_, 1, w.heap.size, 0, fun _ => .slice none 0 0, fun _ => .slice none 0 0, fun _ => .slice none 0 0, rfl, fun _ => rfl, fun i x hx => ?_⟩
    have hk : i = 0 ∧ litRl = x := by
      cases i with
      | zero => simpa [litJb] using hx
      | succ i => simp [litJb] at hx
    obtain ⟨rfl, rfl⟩ := hk
    refine ⟨⟨hB2.at rfl, hB2.at rfl, hB2.at rfl, hB2.at rfl, hB2.at rfl, hB2.at rfl, hB2.at rfl, hB2.at rfl, hB2.at rfl, hB2.at rfl, hB2.at rfl, hB2.at rfl, hB2.at rfl, hB2.at rfl, hB2.at rfl⟩, nilEx _ _, nilEx _ _, nilEx _ _⟩
  have JB2 : Blk w2 (w.heap.size + 1) 24 [.slice (some ⟨w.heap.size, 0, none⟩) 1 1, .int .i64 1, .bool false, .int .i64 1] := by rw [hw2]; exact blk_new hs1.symm
  have P := Lib.hid (pairs_any litJb _ [97, 32, 98] w2 hR litJb_wt litJb_fault (by decide) (E.lower hb2))
  rw [litJb_pairs] at P
  have k0 := JB2.at (i := 0) (v := .slice (some ⟨w.heap.size, 0, none⟩) 1 1) rfl
  have k1 := JB2.at (i := 1) (v := .int .i64 1) rfl
  have k2 := JB2.at (i := 2) (v := .bool false) rfl
  have k3 := JB2.at (i := 3) (v := .int .i64 1) rfl
  rw [hw1] at hw2
  have HW2 := Lib.hid hw2
  have HB2 := Lib.hid hb2
  clear hw1 hw2 hB hs1 hb1 hb12 hb2 hR JB2 E
  go_enter Tryz.func31, Tryz.ntmps31
  go_upto_region 2 with fail
  rw [← HW2.out]
  clear HW2
  go_wp2_with (go_at_call 18; refine Hid.out ?_)
  refine Lib.hid ?_
  refine P.out.mono ?_
  clear P
  rintro _ w3 ⟨u, rfl, hrow, hb3⟩
  have hP := Pp.owns_isPairs hrow
  have SP := Lib.hid (Pp.samePairs_any u (.slice (some ⟨w3.heap.size, 0, none⟩) 1 1) [(⟨#[97, 32, 98]⟩, 2)] [(⟨#[97, 32, 98]⟩, 2)] (w3.alloc (.cells #[.string ⟨#[97, 32, 98]⟩, .int .i64 2] 67)) (Pp.isPairs_below hP (below_box _)) (Pp.isPairs_one _ _ _ _ rfl) (by decide))
  rw [decide_eq_true rfl] at SP
  have hb := below_trans HB2.out hb3
  obtain ⟨ua, uc, rfl, -⟩ := hP
  clear hrow hb3
  dsimp only
  go_wp2_with (go_at_call 17; refine Hid.out ?_)
  refine Lib.hid ?_
  refine SP.out.mono ?_
  rintro _ w4 ⟨rfl, nd, hd⟩
  have hb4 : Below w.heap.size w w4 := by rw [hd]; exact below_trans (below_trans hb (below_box _)) (below_drewN _ _)
  clear hd SP
  go_wp2
  go_ret
  exact ⟨rfl, hb4⟩
end Go.Proofs.YtmgpacenooncjaaGreatDoor
/- Mapper: plain facts of jobs that may be, of what they make, of slices. -/
namespace Go.Proofs.YtmgpacenooncjaaGreatDoor
open Go.ChangeShapes Go.WideShapes Go.ChangeAt Go.RowKit
theorem rule_small {x : Rl} (hx : ruleFault x = 0) : x.wt ≤ 2000 := by
  have h := rlIn_of hx
  have h1 := fault_wt h.key
  have h2 := fault_wt h.val
  have h0 : whenFault x = 0 := by
    unfold ruleFault at hx
    by_cases h3 : whenFault x ≠ 0
    · rw [if_pos h3] at hx; exact absurd hx h3
    · exact Decidable.not_not.1 h3
  have h3 : x.iff.wt ≤ 630 ∧ x.s.length ≤ 20 := by
    rcases h.when with h4 | ⟨h4, h5⟩
    · unfold whenFault at h0
      rw [if_pos h4] at h0
      have h6 : (x.iff.zero && x.s.isEmpty) = true := by
        cases h7 : (x.iff.zero && x.s.isEmpty) with
        | true => rfl
        | false => rw [h7] at h0; simp at h0
      simp only [Bool.and_eq_true, Ex.zero, decide_eq_true_eq, List.isEmpty_iff] at h6
      refine ⟨?_, by rw [h6.2]; simp⟩
      cases he : x.iff with
      | mk k n s a =>
        rw [he] at h6
        simp only [Ex.s, Ex.a] at h6
        rw [h6.1.1.2, List.eq_nil_of_length_eq_zero h6.1.2]
        simp [Ex.wt, Ex.wt.wtL]
    · refine ⟨fault_wt h5, ?_⟩
      unfold whenFault at h0
      rw [if_neg (by omega), if_pos h4] at h0
      by_cases h6 : fitsB x.s 20 = true
      · unfold fitsB at h6
        simp only [Bool.and_eq_true, decide_eq_true_eq] at h6
        exact h6.1
      · rw [if_neg h6] at h0; omega
  unfold Rl.wt
  omega
theorem job_small {j : Jb} (h : jobFault j = 0) : rulesWt j.rules ≤ 8000 := by
  obtain ⟨_, h4, _, _, _, _, hf⟩ := jobFault_parts h
  have hall := rulesFault_all hf
  have gen : ∀ l : List Rl, (∀ x ∈ l, ruleFault x = 0) → rulesWt l ≤ l.length * 2000 := by
    intro l
    induction l with
    | nil => intro _; simp [rulesWt]
    | cons x l ih =>
      intro hl
      have h1 := rule_small (hl x (by simp))
      have h2 := ih fun y hy => hl y (by simp [hy])
      unfold rulesWt at h2 ⊢
      simp only [List.map_cons, List.sum_cons, List.length_cons]
      omega
  have := gen j.rules hall
  omega
theorem made_key {j : Jb} {lines : List (List UInt8)} {p : ByteArray × Int} (h : p ∈ madeOf j lines) : p.1.size ≤ 20 := by
  unfold madeOf rulesP ruleP at h
  simp only [List.mem_flatMap, List.mem_map] at h
  obtain ⟨_, _, r, _, x, _, rfl⟩ := h
  unfold pairL
  simp only [bs_size, List.length_take]
  omega
theorem sum_slices (ns : Nat) (h1 : 1 ≤ ns) (Z : List (ByteArray × Int)) : ((List.range ns).map fun k => (inSlice ns k Z).length).sum = Z.length := by
  have one : ∀ (m i : Nat), i < m → ((List.range m).map fun k => if i = k then 1 else 0).sum = 1 := by
    intro m
    induction m with
    | zero => intro i hi; omega
    | succ m ih =>
      intro i hi
      rw [List.range_succ, List.map_append, List.sum_append]
      by_cases e : i = m
      · subst e
        have z : ∀ q, q ≤ i → ((List.range q).map fun k => if i = k then 1 else 0).sum = 0 := by
          intro q
          induction q with
          | zero => intro _; rfl
          | succ q ihq =>
            intro hq
            rw [List.range_succ, List.map_append, List.sum_append, ihq (by omega)]
            simp; omega
        rw [z i (Nat.le_refl _)]
        simp
      · rw [ih i (by omega)]
        simp [e]
  have add : ∀ (m : Nat) (f g : Nat → Nat), ((List.range m).map fun k => f k + g k).sum = ((List.range m).map f).sum + ((List.range m).map g).sum := by
    intro m f g
    induction m with
    | zero => rfl
    | succ m ih => simp only [List.range_succ, List.map_append, List.sum_append, ih, List.map_cons, List.map_nil, List.sum_cons, List.sum_nil]; omega
  induction Z with
  | nil =>
    have : (fun k => (inSlice (ns : Int) k ([] : List (ByteArray × Int))).length) = fun _ => 0 := by funext k; rfl
    rw [this]
    have z : ∀ m, ((List.range m).map fun _ => 0).sum = 0 := by intro m; induction m with
      | zero => rfl
      | succ m ih => simp [List.range_succ, ih]
    rw [z]; rfl
  | cons p Z ih =>
    have hs := (sliceN_lt (many := (ns : Int)) (by omega) (Pp.Stable.key p)).2
    have e : (fun k => (inSlice (ns : Int) k (p :: Z)).length) = fun k => (if sliceN ns (Pp.Stable.key p) = k then 1 else 0) + (inSlice (ns : Int) k Z).length := by
      funext k
      unfold inSlice
      by_cases h : sliceN ns (Pp.Stable.key p) = k
      · rw [List.filter_cons_of_pos (by simp [h]), if_pos h, List.length_cons]; omega
      · rw [List.filter_cons_of_neg (by simp [h]), if_neg h]; omega
    rw [e, add, ih, one ns _ (by simpa using hs), List.length_cons]
    omega
theorem slicesOf_at {fo : Int} {ea : Bool} {ns k : Nat} (h : k < ns) (M : List (ByteArray × Int)) : (slicesOf fo ea ns M)[k]? = some (finL ea fo (inSlice ns k (Pp.Tot.srt M))) := by
  unfold slicesOf
  rw [List.getElem?_map, List.getElem?_range h]
  rfl
theorem grp_mem_key {kind : Int} {l : List (ByteArray × Int)} {p : ByteArray × Int} (h : p ∈ Pp.Grp.grp kind l) : ∃ q ∈ l, Pp.Stable.key q = Pp.Stable.key p := by
  by_cases hq : ∃ q ∈ l, Pp.Stable.key q = Pp.Stable.key p
  · exact hq
  · have h1 := Pp.Tot.tot_none kind (Pp.Stable.key p) l (fun q hq2 e => hq ⟨q, hq2, e⟩)
    have h2 := Pp.Tot.tot_some kind h
    rw [Pp.Tot.tot_grp] at h2
    exact absurd h1 h2
/-- Each pair of a slice lies in the one of its key; the keys rise; folded, each is there once. -/
theorem slice_key {fo : Int} {ea : Bool} {ns k : Nat} {Z : List (ByteArray × Int)} {p : ByteArray × Int} (h : p ∈ finL ea fo (inSlice ns k Z)) : sliceN ns (Pp.Stable.key p) = k := by
  unfold finL at h
  split at h
  · obtain ⟨q, hq, e⟩ := grp_mem_key h
    unfold inSlice at hq
    rw [List.mem_filter] at hq
    rw [← e]
    exact of_decide_eq_true hq.2
  · unfold inSlice at h
    rw [List.mem_filter] at h
    exact of_decide_eq_true h.2
theorem slice_rises {fo : Int} {ns k : Nat} (M : List (ByteArray × Int)) : Pp.Tot.Rises (finL true fo (inSlice ns k (Pp.Tot.srt M))) := by
  unfold finL inSlice
  rw [if_pos rfl]
  exact Pp.Tot.rises_grp fo _ (Pp.Tot.Sorted.filter (Pp.Tot.srt_sorted M) _)
theorem slice_sorted {fo : Int} {ea : Bool} {ns k : Nat} (M : List (ByteArray × Int)) : Pp.Stable.Sorted (finL ea fo (inSlice ns k (Pp.Tot.srt M))) := by
  cases ea with
  | true => exact Pp.Tot.Rises.sorted (slice_rises M)
  | false => exact Pp.Tot.Sorted.filter (Pp.Tot.srt_sorted M) _
theorem fin_len {fo : Int} {ea : Bool} (l : List (ByteArray × Int)) : (finL ea fo l).length ≤ l.length ∧ (ea = false → (finL ea fo l).length = l.length) := by
  unfold finL
  cases ea with
  | true => exact ⟨Pp.Grp.grp_len fo l, fun h => by cases h⟩
  | false => exact ⟨Nat.le_refl _, fun _ => rfl⟩
/-- How many pairs are in the first so many slices. -/
def upto (fo : Int) (ea : Bool) (ns : Nat) (M : List (ByteArray × Int)) (k : Nat) : Nat := ((List.range k).map fun i => (finL ea fo (inSlice ns i (Pp.Tot.srt M))).length).sum
theorem upto_succ (fo : Int) (ea : Bool) (ns : Nat) (M : List (ByteArray × Int)) (k : Nat) : upto fo ea ns M (k + 1) = upto fo ea ns M k + (finL ea fo (inSlice ns k (Pp.Tot.srt M))).length := by
  unfold upto
  rw [List.range_succ, List.map_append, List.sum_append]
  simp
theorem upto_le (fo : Int) (ea : Bool) (ns : Nat) (h1 : 1 ≤ ns) (M : List (ByteArray × Int)) : upto fo ea ns M ns ≤ M.length ∧ (ea = false → upto fo ea ns M ns = M.length) := by
  have hs := sum_slices ns h1 (Pp.Tot.srt M)
  rw [Pp.Tot.srt_len] at hs
  have le : ∀ m, upto fo ea ns M m ≤ ((List.range m).map fun k => (inSlice (ns : Int) k (Pp.Tot.srt M)).length).sum ∧ (ea = false → upto fo ea ns M m = ((List.range m).map fun k => (inSlice (ns : Int) k (Pp.Tot.srt M)).length).sum) := by
    intro m
    induction m with
    | zero => exact ⟨Nat.le_refl _, fun _ => rfl⟩
    | succ m ih =>
      have h2 := fin_len (fo := fo) (ea := ea) (inSlice ns m (Pp.Tot.srt M))
      rw [upto_succ, List.range_succ, List.map_append, List.sum_append]
      simp only [List.map_cons, List.map_nil, List.sum_cons, List.sum_nil, Nat.add_zero]
      exact ⟨Nat.add_le_add ih.1 h2.1, fun h => by rw [ih.2 h, h2.2 h]⟩
  obtain ⟨h2, h3⟩ := le ns
  rw [hs] at h2 h3
  exact ⟨h2, h3⟩
end Go.Proofs.YtmgpacenooncjaaGreatDoor
/- Contract of pair.Check: what a pair may be. -/
namespace Go.Proofs.YtmgpacenooncjaaGreatDoor.Pp
open Go.ChangeShapes Go.WideShapes Go.ChangeAt Go.RowKit
def badB (p : ByteArray × Int) : Bool := decide (20 < p.1.size) || decide (p.2 < -1000000000) || decide (1000000000 < p.2)
def faultV (b : Bool) : Value := if b then .iface 70 (.int .i64 1) else .nilIface
def faultN (b : Bool) : Int := if b then 1 else 0
end Go.Proofs.YtmgpacenooncjaaGreatDoor.Pp
/- Contract of the document's PairFault. -/
namespace Go.Proofs.YtmgpacenooncjaaGreatDoor.Pp
open Go.ChangeShapes Go.WideShapes Go.ChangeAt Go.RowKit
end Go.Proofs.YtmgpacenooncjaaGreatDoor.Pp
/- Contract of threshfloorlaw.rising. Written by tpl/mk_rise.py. -/
namespace Go.Proofs.YtmgpacenooncjaaGreatDoor.Pp
open Go.ChangeShapes Go.WideShapes Go.ChangeAt Go.RowKit
open Stable
def RisesP (l : List (ByteArray × Int)) : Prop := ∀ k, 1 ≤ k → k < l.length → bl (key (pr l k)) (key (pr l (k - 1))) = false
theorem isPairs_some {w : World} {ao : Option Addr} {n cap : Nat} {l : List (ByteArray × Int)} (h : IsPairs w (.slice ao n cap) l) (hl : 0 < l.length) : ∃ b off, ao = some ⟨b, off, none⟩ ∧ ∀ i, i < l.length → w.cell? ⟨b, off + i * 2, none⟩ = some (.string (pr l i).1) ∧ w.cell? ⟨b, off + i * 2 + 1, none⟩ = some (.int .i64 (pr l i).2) := by
  obtain ⟨a, c, e, hc⟩ := h
  injection e with e1 e2 e3
  obtain ⟨b, off, ea, _⟩ := hc 0 hl
  refine ⟨b, off, e1.trans ea, fun i hi => ?_⟩
  obtain ⟨b', off', ea', c0, c1⟩ := hc i hi
  rw [ea] at ea'
  injection ea' with ea'
  injection ea' with e4 e5
  subst e4 e5
  rw [pr_eq l i hi] at c0 c1
  exact ⟨c0, c1⟩
end Go.Proofs.YtmgpacenooncjaaGreatDoor.Pp
/- Contract of threshfloorlaw.same: an error by its number. -/
namespace Go.Proofs.YtmgpacenooncjaaGreatDoor.Pp
open Go.ChangeShapes Go.WideShapes Go.ChangeAt Go.RowKit
theorem assert_err (n : Int) (w : World) : Sem.run Tryz.prog (Instr.typeAssert (Value.iface 70 (Value.int IntKind.i64 n)) 31 70 true) w = .ok (.tuple #[.int .i64 n, .bool true]) w := by kernel_rfl
set_option maxRecDepth 100000 in
theorem same_err (n : Int) (w : World) (h : 0 < n) : Calls Tryz.prog 11 #[.iface 70 (.int .i64 n), .int .i64 n] w fun e w' => e = .returned (.bool true) ∧ Below w.heap.size w w' := by
  have ta := assert_err n
  go_enter Tryz.func11, Tryz.ntmps11
  go_wp2
  go_ret
  exact ⟨rfl, Below.refl _ _⟩
set_option maxRecDepth 100000 in
theorem same_nil (w : World) : Calls Tryz.prog 11 #[.nilIface, .int .i64 0] w fun e w' => e = .returned (.bool true) ∧ Below w.heap.size w w' := by
  go_enter Tryz.func11, Tryz.ntmps11
  go_wp2
  go_ret
  exact ⟨rfl, Below.refl _ _⟩
end Go.Proofs.YtmgpacenooncjaaGreatDoor.Pp
/- Folders: what is known of the groups; the law's closed fact. -/
namespace Go.Proofs.YtmgpacenooncjaaGreatDoor.Pp
open Go.ChangeShapes Go.WideShapes Go.ChangeAt Go.RowKit
open Grp Stable
/-- A pair whose key is short, and whose value fits. -/
def Ok1 (p : ByteArray × Int) : Prop := p.1.size ≤ 1000 ∧ -9223372036854775808 ≤ p.2 ∧ p.2 ≤ 9223372036854775807
theorem two_fit (kind a b : Int) (ha : -9223372036854775808 ≤ a ∧ a ≤ 9223372036854775807) (hb : -9223372036854775808 ≤ b ∧ b ≤ 9223372036854775807) : -9223372036854775808 ≤ two kind a b ∧ two kind a b ≤ 9223372036854775807 := by
  unfold two
  split
  · omega
  · split
    · omega
    · rw [wrap_eq]
      have h1 := Int.le_bmod (x := a + b) (m := 18446744073709551616) (by decide)
      have h2 := Int.bmod_lt (x := a + b) (m := 18446744073709551616) (by decide)
      omega
theorem fits_step (kind : Int) (A : List (ByteArray × Int)) (p : ByteArray × Int) (hA : Fits A) (hp : Ok1 p) : Fits (Grp.step kind A p) := by
  rcases List.eq_nil_or_concat A with rfl | ⟨A, q, rfl⟩
  · intro r hr
    rw [step_nil, List.mem_singleton] at hr
    subst hr
    exact hp
  · rw [List.concat_eq_append] at *
    have hq := hA q (by simp)
    by_cases h : q.1 = p.1
    · rw [step_same _ _ _ _ h]
      intro r hr
      rcases List.mem_append.1 hr with hr | hr
      · exact hA r (by simp [hr])
      · rw [List.mem_singleton] at hr
        subst hr
        exact ⟨hq.1, two_fit kind _ _ hq.2 hp.2⟩
    · rw [step_other _ _ _ _ h]
      intro r hr
      rcases List.mem_append.1 hr with hr | hr
      · exact hA r hr
      · rw [List.mem_singleton] at hr
        subst hr
        exact hp
theorem fits_grp (kind : Int) (l : List (ByteArray × Int)) (h : Fits l) : Fits (grp kind l) := by
  have : ∀ (b A : List (ByteArray × Int)), Fits A → (∀ p ∈ b, Ok1 p) → Fits (b.foldl (Grp.step kind) A) := by
    intro b
    induction b with
    | nil => intro A hA _; exact hA
    | cons p b ih => intro A hA hb; exact ih _ (fits_step kind A p hA (hb p List.mem_cons_self)) (fun q hq => hb q (List.mem_cons_of_mem _ hq))
  exact this l [] (fun p hp => by cases hp) h
theorem fits_se {l m : List (ByteArray × Int)} (h : SE l m) (hl : Fits l) : Fits m := fun p hp => hl p (h.symm.mem hp)
theorem fits_take {l : List (ByteArray × Int)} (n : Nat) (h : Fits l) : Fits (l.take n) := fun p hp => h p (List.mem_of_mem_take hp)
theorem owns_cap {w : World} {base : Nat} {v : Value} {L : List (ByteArray × Int)} (h : w.ownsRow base 67 2 v L.length (cellsP L)) : ∃ a cap, v = .slice a L.length cap ∧ L.length ≤ cap := by
  rcases h.2 with ⟨rfl, h0⟩ | ⟨g, cap, cur, rfl, _, _, h4, _⟩
  · exact ⟨none, 0, by rw [h0], by omega⟩
  · exact ⟨some ⟨g, 0, none⟩, cap, rfl, h4⟩
/-- What is known behind New and a whole Step, of lists that are known. -/
theorem fresh_grp {w w' : World} {ls : List (List (ByteArray × Int))} {kind : Int} {R : Nat} {kv : Value} {Z : List (ByteArray × Int)} {ks : List ByteArray} {ss : List (List (ByteArray × Int))} (h : Fresh w w' ls kind R kv Z ks ss) {X : List (ByteArray × Int)} (hX : Sorted X) (hse : SE ls.flatten X) : Z = X ∧ ss.length = (grp kind X).length := by
  have e : Z = X := sorted_unique Z X h.sorted hX ((h.se.symm).trans hse)
  subst e
  exact ⟨rfl, by rw [← h.flat, segs_grp_len h.segs]⟩
def litF : List (ByteArray × Int) := [(⟨#[97]⟩, 2), (⟨#[97]⟩, 3)]
theorem litF_grp : grp 1 litF = [(⟨#[97]⟩, 5)] := by decide +kernel
theorem litF_sorted : Sorted litF := List.pairwise_cons.2 ⟨fun q hq => by rw [List.mem_singleton] at hq; subst hq; decide +kernel, List.pairwise_singleton _ _⟩
theorem litF_text : (bs (textL [(⟨#[97]⟩, 5)])).toList = [49, 58, 97, 32, 53, 10] := by rw [bs_toList]; decide +kernel
theorem litF_fits : Fits [((⟨#[97]⟩ : ByteArray), (5 : Int))] := by intro p hp; simp only [List.mem_singleton] at hp; subst hp; decide
end Go.Proofs.YtmgpacenooncjaaGreatDoor.Pp
/- Folding early: plain facts; bounds of what is made; what a whole run of a folder gives. -/
namespace Go.Proofs.YtmgpacenooncjaaGreatDoor
open Go.ChangeShapes Go.WideShapes Go.ChangeAt Go.RowKit
theorem made_small {j : Jb} (h : jobFault j = 0) {lines : List (List UInt8)} (hl : ∀ x ∈ lines, x.length ≤ 1000) {p : ByteArray × Int} (hp : p ∈ madeOf j lines) : p.1.size ≤ 20 ∧ -70000 ≤ p.2 ∧ p.2 ≤ 70000 := by
  refine ⟨made_key hp, ?_⟩
  unfold madeOf at hp
  rw [List.mem_flatMap] at hp
  obtain ⟨x, hx, hp⟩ := hp
  unfold rulesP at hp
  rw [List.mem_flatMap] at hp
  obtain ⟨r, hr, hp⟩ := hp
  unfold ruleP at hp
  rw [List.mem_map] at hp
  obtain ⟨R, hR, rfl⟩ := hp
  have hin := (rcIn_look (rcIn_of x 1000 (hl x hx)) (List.mem_filter.1 hR).1).1
  have rf := rulesFault_all (jobFault_parts h).2.2.2.2.2.2 r hr
  have h1 := fault_far (rlIn_of rf).val hin
  have h2 := num_far R r.val
  unfold pairL Pp.firstI
  simp only
  split <;> omega
theorem made_fits {j : Jb} (h : jobFault j = 0) {lines : List (List UInt8)} (hl : ∀ x ∈ lines, x.length ≤ 1000) : Pp.Fits (madeOf j lines) := fun p hp => by
  have := made_small h hl hp
  omega
theorem made_len (j : Jb) (K : Nat) (lines : List (List UInt8)) (h4 : j.rules.length ≤ 4) (hl : ∀ x ∈ lines, x.length ≤ K) : (madeOf j lines).length ≤ lines.length * (4 * (K + 1)) := by
  induction lines with
  | nil => simp [madeOf]
  | cons x l ih =>
    have h1 := rulesP_len j.rules j.fold x
    have h2 := hl x (by simp)
    have h3 := Nat.mul_le_mul h4 (show x.length + 1 ≤ K + 1 by omega)
    have h5 := ih fun y hy => hl y (by simp [hy])
    have e : madeOf j (x :: l) = rulesP j.rules j.fold x ++ madeOf j l := by simp [madeOf]
    rw [e, List.length_append, List.length_cons, Nat.succ_mul]
    omega
/-- What a part gives to a slice. -/
def partOf (fo : Int) (ea : Bool) (ns i : Nat) (j : Jb) (p : List (List UInt8)) : List (ByteArray × Int) := finL ea fo (inSlice ns i (Pp.Tot.srt (madeOf j p)))
theorem tot_slice (fo : Int) (ns i : Nat) (k : List UInt8) (M : List (ByteArray × Int)) : Pp.Tot.tot fo k (inSlice ns i (Pp.Tot.srt M)) = if decide (sliceN ns k = i) = true then Pp.Tot.tot fo k M else none := by
  unfold inSlice
  rw [Pp.Tot.tot_filter fo k (fun k => decide (sliceN ns k = i)), Pp.Tot.tot_srt]
theorem tot_part (fo : Int) (ea : Bool) (ns i : Nat) (j : Jb) (k : List UInt8) (p : List (List UInt8)) : Pp.Tot.tot fo k (partOf fo ea ns i j p) = if decide (sliceN ns k = i) = true then Pp.Tot.tot fo k (madeOf j p) else none := by
  unfold partOf finL
  split
  · rw [Pp.Tot.tot_grp, tot_slice]
  · rw [tot_slice]
theorem tot_parts (fo : Int) (ea : Bool) (ns i : Nat) (j : Jb) (k : List UInt8) (ps : List (List (List UInt8))) : Pp.Tot.tot fo k ((ps.map (partOf fo ea ns i j)).flatten) = if decide (sliceN ns k = i) = true then Pp.Tot.tot fo k (madeOf j ps.flatten) else none := by
  induction ps with
  | nil => simp [madeOf, Pp.Tot.tot]
  | cons p ps ih =>
    rw [List.map_cons, List.flatten_cons, List.flatten_cons, Pp.Tot.tot_append, ih, tot_part, madeOf_append, Pp.Tot.tot_append]
    split
    · rfl
    · rfl
/-- What a slice of a job is, however its parts are cut, and folded early or not. -/
theorem early_grp (fo : Int) (ea : Bool) (ns i : Nat) (j : Jb) (ps : List (List (List UInt8))) (Z : List (ByteArray × Int)) (hs : Pp.Stable.Sorted Z) (he : Pp.Stable.SE ((ps.map (partOf fo ea ns i j)).flatten) Z) : Pp.Grp.grp fo Z = Pp.Grp.grp fo (inSlice ns i (Pp.Tot.srt (madeOf j ps.flatten))) := by
  refine Pp.Tot.grp_unique fo hs (Pp.Tot.Sorted.filter (Pp.Tot.srt_sorted _) _) fun k => ?_
  rw [← Pp.Tot.tot_se fo k he, tot_parts, tot_slice]
theorem part_len (fo : Int) (ea : Bool) (ns i : Nat) (j : Jb) (p : List (List UInt8)) : (partOf fo ea ns i j p).length ≤ (madeOf j p).length := by
  unfold partOf
  have h1 := (fin_len (fo := fo) (ea := ea) (inSlice ns i (Pp.Tot.srt (madeOf j p)))).1
  have h2 : (inSlice ns i (Pp.Tot.srt (madeOf j p))).length ≤ (Pp.Tot.srt (madeOf j p)).length := List.length_filter_le _ _
  rw [Pp.Tot.srt_len] at h2
  omega
theorem parts_len (fo : Int) (ea : Bool) (ns i : Nat) (j : Jb) (ps : List (List (List UInt8))) : ((ps.map (partOf fo ea ns i j)).flatten).length ≤ (madeOf j ps.flatten).length := by
  induction ps with
  | nil => simp [madeOf]
  | cons p ps ih =>
    rw [List.map_cons, List.flatten_cons, List.flatten_cons, madeOf_append, List.length_append, List.length_append]
    have := part_len fo ea ns i j p
    omega
theorem inSlice_fits (ns i : Nat) {M : List (ByteArray × Int)} (h : Pp.Fits M) : Pp.Fits (inSlice ns i (Pp.Tot.srt M)) := fun p hp => h p (Pp.Tot.srt_mem.1 (List.mem_filter.1 hp).1)
/-- The texts of a job's slices. -/
def plainT (j : Jb) (ns : Nat) (lines : List (List UInt8)) : List ByteArray := (List.range ns).map fun i => bs (Pp.textL (Pp.Grp.grp j.fold (inSlice ns i (Pp.Tot.srt (madeOf j lines)))))
/-- A folder that was just made goes on to its end. -/
theorem fstep_all (R : Nat) (kind n : Int) (kv : Value) (w w1 : World) (ls : List (List (ByteArray × Int))) (Z : List (ByteArray × Int)) (ks : List ByteArray) (ss : List (List (ByteArray × Int))) (h : Pp.Fresh w w1 ls kind R kv Z ks ss) (hl : ls.flatten.length ≤ 60000) (hn0 : 60000 ≤ n) (hn1 : n ≤ 9223372036854775807) :
    Calls Tryz.prog 27 #[.pointer (some ⟨R, 0, none⟩), .int .i64 n] w1 fun e w' => e = .returned (.bool true) ∧ ∃ mv, Pp.IsRun w' R kind kv ss mv (Pp.Grp.grp kind Z) ∧ Below w.heap.size w w' := by
  obtain ⟨ko, kc, rfl⟩ : ∃ ko kc, kv = .slice ko ss.length kc := by
    obtain ⟨a, c, e, _⟩ := h.run.keys w1 (Below.refl _ _)
    exact ⟨a, c, e⟩
  have hM := Pp.segs_grp_len (kind := kind) h.segs
  rw [h.flat] at hM
  have hg := Pp.Grp.grp_len kind Z
  have hz : Z.length ≤ 60000 := by rw [h.len]; exact hl
  have hr : Pp.IsRun w1 R kind (.slice ko ss.length kc) ss (.slice none 0 0) ((Pp.Grp.grp kind Z).take 0) := by rw [List.take_zero]; exact h.run
  refine (Pp.step_any R 0 kind n ko kc ss ks none 0 (Pp.Grp.grp kind Z) w1 hr (by rw [h.flat]) h.segs (Nat.zero_le _) (by omega) (by rw [h.flat]; exact hz) (by omega) hn1).mono ?_
  rintro e w' ⟨a', mo, mc, ha, rfl, hr2, hF, ho⟩
  have e : a' = ss.length := by rw [ha]; omega
  subst e
  rw [List.take_of_length_le (Nat.le_of_eq hM)] at hr2
  refine ⟨by simp, _, hr2, ?_⟩
  exact h.bel.trans (hF.below h.bel.size h.low (fun b hb => by cases hb))
end Go.Proofs.YtmgpacenooncjaaGreatDoor
/- TopParts: plain facts: slices of a whole are those of its parts, merged; a part of a list of texts. -/
namespace Go.Proofs.YtmgpacenooncjaaGreatDoor
open Go.ChangeShapes Go.WideShapes Go.ChangeAt Go.RowKit
theorem inSlice_append (many : Int) (k : Nat) (a b : List (ByteArray × Int)) : inSlice many k (a ++ b) = inSlice many k a ++ inSlice many k b := by unfold inSlice; rw [List.filter_append]
theorem merge_slices (many : Int) (k : Nat) (A B Z : List (ByteArray × Int)) (hs : Pp.Stable.Sorted Z) (he : Pp.Stable.SE (inSlice many k (Pp.Tot.srt A) ++ inSlice many k (Pp.Tot.srt B)) Z) : Z = inSlice many k (Pp.Tot.srt (A ++ B)) := by
  have h1 : Pp.Stable.SE (Pp.Tot.srt A ++ Pp.Tot.srt B) (Pp.Tot.srt (A ++ B)) := ((Pp.Tot.se_srt A).append (Pp.Tot.se_srt B)).trans (Pp.Tot.srt_se (A ++ B))
  have h2 := Pp.Tot.SE.filter h1 (fun kk => decide (sliceN many kk = k))
  rw [← inSlice_append] at he
  have h3 : Pp.Stable.Sorted (inSlice many k (Pp.Tot.srt (A ++ B))) := Pp.Tot.Sorted.filter (Pp.Tot.srt_sorted _) _
  exact Pp.Stable.sorted_unique _ _ hs h3 (he.symm.trans h2)
theorem fault_early (l : List Rl) (fo : Int) (e e' : Bool) (sl : Int) : jobFault ⟨l, fo, e, sl⟩ = jobFault ⟨l, fo, e', sl⟩ := rfl
theorem made_early (l : List Rl) (fo : Int) (e e' : Bool) (sl : Int) (lines : List (List UInt8)) : madeOf ⟨l, fo, e, sl⟩ lines = madeOf ⟨l, fo, e', sl⟩ lines := rfl
theorem texts_take {w : World} {a : Option Addr} {n c c' k : Nat} {l : List (List UInt8)} (h : IsTexts w (.slice a n c) (l.map bs)) (hk : k ≤ l.length) : IsTexts w (.slice a k c') ((l.take k).map bs) := by
  obtain ⟨a', cap, e, hc⟩ := h
  injection e with e1 e2 e3
  subst e1
  refine ⟨a, c', by simp [Nat.min_eq_left hk], fun i hi => ?_⟩
  have hi2 : i < k := by simp at hi; omega
  obtain ⟨b, off, ea, c0⟩ := hc i (by simp; omega)
  exact ⟨b, off, ea, by simpa using c0⟩
theorem texts_drop {w : World} {b off n c c' k : Nat} {l : List (List UInt8)} (h : IsTexts w (.slice (some ⟨b, off, none⟩) n c) (l.map bs)) : IsTexts w (.slice (some ⟨b, off + k, none⟩) (l.length - k) c') ((l.drop k).map bs) := by
  obtain ⟨a', cap, e, hc⟩ := h
  injection e with e1 e2 e3
  subst e1
  refine ⟨some ⟨b, off + k, none⟩, c', by simp, fun i hi => ?_⟩
  have hi2 : k + i < (l.map bs).length := by simp at hi ⊢; omega
  obtain ⟨b', off', ea, c0⟩ := hc (k + i) hi2
  rw [Option.some.injEq, Addr.mk.injEq] at ea
  obtain ⟨rfl, rfl, -⟩ := ea
  refine ⟨b, off + k, rfl, ?_⟩
  rw [Nat.add_assoc, c0]
  simp
theorem lists_below {w w' : World} {v : Value} {ls : List (List (ByteArray × Int))} (h : Pp.IsLists w v ls) (hb : Below w.heap.size w w') : Pp.IsLists w' v ls := by
  obtain ⟨a, cap, rfl, hc⟩ := h
  refine ⟨a, cap, rfl, fun i hi => ?_⟩
  obtain ⟨b, off, u, e, c0, hu⟩ := hc i hi
  exact ⟨b, off, u, e, cell_below c0 hb, Pp.isPairs_below hu hb⟩
theorem lsAt_slices {fo : Int} {ns i : Nat} (h : i < ns) (M : List (ByteArray × Int)) : Pp.lsAt (slicesOf fo false ns M) i = inSlice ns i (Pp.Tot.srt M) := by
  unfold Pp.lsAt
  rw [slicesOf_at h]
  rfl
theorem slice_at {w : World} {a : Option Addr} {c ns : Nat} {fo : Int} {M : List (ByteArray × Int)} (h : Pp.IsLists w (.slice a ns c) (slicesOf fo false ns M)) (i : Nat) (hi : i < ns) : ∃ b off u, a = some ⟨b, off, none⟩ ∧ w.cell? ⟨b, off + i, none⟩ = some u ∧ Pp.IsPairs w u (inSlice ns i (Pp.Tot.srt M)) := by
  have h1 := Pp.isLists_at h i (by simp [slicesOf]; exact hi)
  rw [lsAt_slices hi] at h1
  exact h1
theorem inSlice_len (many : Int) (k : Nat) (M : List (ByteArray × Int)) : (inSlice many k (Pp.Tot.srt M)).length ≤ M.length := by
  unfold inSlice
  exact Nat.le_trans (List.length_filter_le _ _) (Nat.le_of_eq (Pp.Tot.srt_len M))
set_option maxRecDepth 100000 in
theorem merge_two {u1 u2 : Value} {L1 L2 L3 : List (ByteArray × Int)} {w' w2 : World} (hw2 : Below (w'.alloc (.cells #[u1, u2] 42)).heap.size (w'.alloc (.cells #[u1, u2] 42)) w2) (h1 : Pp.IsPairs w' u1 L1) (h2 : Pp.IsPairs w' u2 L2) (hl1 : L1.length ≤ 400000) (hl2 : L2.length ≤ 400000) (hM : ∀ Z, Pp.Stable.Sorted Z → Pp.Stable.SE (L1 ++ L2) Z → Z = L3) :
    Calls Tryz.prog 61 #[.slice (some ⟨w'.heap.size, 0, none⟩) 2 2] w2 fun e w'' => ∃ ma mc, e = .returned (.slice ma L3.length mc) ∧ Pp.IsPairs w'' (.slice ma L3.length mc) L3 ∧ Below w'.heap.size w' w'' := by
  have hB : Blk w2 w'.heap.size 42 [u1, u2] := (blk_new rfl).blw hw2
  have hb : Below w'.heap.size w' w2 := below_trans (below_box _) hw2
  have hL : Pp.IsLists w2 (.slice (some ⟨w'.heap.size, 0, none⟩) 2 2) [L1, L2] := by
    refine ⟨_, 2, rfl, fun i hi => ?_⟩
    match i, hi with
    | 0, _ => exact ⟨_, 0, u1, rfl, hB.at rfl, Pp.isPairs_below h1 hb⟩
    | 1, _ => exact ⟨_, 0, u2, rfl, hB.at rfl, Pp.isPairs_below h2 hb⟩
  refine (Pp.merge_any _ [L1, L2] _ hL (by simp) (by simp; omega)).mono ?_
  rintro e w'' ⟨u, Z, rfl, hs, he, _, hp, hb2⟩
  have e3 : Z = L3 := hM Z hs (by simpa using he)
  subst e3
  obtain ⟨ma, mc, rfl, hq⟩ := id hp
  exact ⟨ma, mc, rfl, hp, below_trans hb hb2⟩
theorem and1023 (x : Int) : 0 ≤ bits .and .i64 x 1023 ∧ bits .and .i64 x 1023 ≤ 1023 := by
  have h2 : (BitVec.ofInt 64 (1023 : Int)).toNat = 1023 := by decide
  have e : bits .and .i64 x 1023 = IntKind.i64.wrap ((BitVec.ofInt 64 x &&& BitVec.ofInt 64 1023).toNat : Int) := rfl
  have hle : (BitVec.ofInt 64 x &&& BitVec.ofInt 64 1023).toNat ≤ 1023 := by
    rw [BitVec.toNat_and, h2]; exact Nat.and_le_right
  rw [e, wrap_small _ (by omega) (by omega)]
  omega
end Go.Proofs.YtmgpacenooncjaaGreatDoor
/- Stops: a run that goes on beside another. Written by tpl/mk_st.py. -/
namespace Go.Proofs.YtmgpacenooncjaaGreatDoor
open Go.ChangeShapes Go.WideShapes Go.ChangeAt Go.RowKit
/-- A list of numbers that came in. -/
def IsNums (w : World) (v : Value) (l : List Int) : Prop :=
  ∃ a cap, v = .slice a l.length cap ∧ ∀ i (h : i < l.length), ∃ b off, a = some ⟨b, off, none⟩ ∧ w.cell? ⟨b, off + i, none⟩ = some (.int .i64 l[i])
theorem IsNums.below {w w' : World} {v : Value} {l : List Int} (h : IsNums w v l) (hb : Below w.heap.size w w') : IsNums w' v l := by
  obtain ⟨a, c, e, hc⟩ := h
  refine ⟨a, c, e, fun i hi => ?_⟩
  obtain ⟨b, off, ea, c0⟩ := hc i hi
  exact ⟨b, off, ea, cell_below c0 hb⟩
/-- A run that goes on, others beside it: but for its first block all that was there stays. -/
structure MS (wS wr : World) (R0 Rb : Nat) (j : Jb) (rv lv mv : Value) (lines : List (List UInt8)) (d : Nat) : Prop where
  only : Only R0 wS wr
  run : IsMR wr Rb j rv lv lines d mv (madeOf j (lines.take d))
  din : d ≤ lines.length
  place : Rb = R0 ∨ wS.heap.size ≤ Rb
  own : ∀ g, mv.ownBlock = some g → wS.heap.size ≤ g
theorem MS.below {wS wr w' : World} {R0 Rb d : Nat} {j : Jb} {rv lv mv : Value} {lines : List (List UInt8)} (h : MS wS wr R0 Rb j rv lv mv lines d) (hb : Below wr.heap.size wr w') : MS wS w' R0 Rb j rv lv mv lines d :=
  ⟨h.only.trans (Only.of_below hb), h.run.blw hb, h.din, h.place, h.own⟩
theorem MS.step {wS wr w' : World} {R0 Rb d d' : Nat} {j : Jb} {rv lv mv mv' : Value} {lines : List (List UInt8)} (h : MS wS wr R0 Rb j rv lv mv lines d) (hr : IsMR w' Rb j rv lv lines d' mv' (madeOf j (lines.take d'))) (hd : d' ≤ lines.length) (hF : FrM wr w' Rb mv.ownBlock) (ho : mv'.ownBlock = mv.ownBlock ∨ ∀ b, mv'.ownBlock = some b → wr.heap.size ≤ b) : MS wS w' R0 Rb j rv lv mv' lines d' := by
  have hsz := h.only.size
  refine ⟨⟨hF.os.trans h.only.os, hF.tape.trans h.only.tape, hF.output.trans h.only.output, Nat.le_trans hsz hF.size, fun k hk hne => ?_⟩, hr, hd, h.place, fun g hg => ?_⟩
  · refine (hF.block k (Nat.lt_of_lt_of_le hk hsz) (fun e => ?_) (fun e => ?_)).trans (h.only.block k hk hne)
    · rcases h.place with hp | hp
      · exact hne (by rw [e, hp])
      · omega
    · have := h.own k e.symm
      omega
  · rcases ho with ho | ho
    · exact h.own g (by rw [← ho]; exact hg)
    · have := ho g hg
      omega
theorem MS.org {w wS wr : World} {R0 Rb d : Nat} {j : Jb} {rv lv mv : Value} {lines : List (List UInt8)} (h : MS wS wr R0 Rb j rv lv mv lines d) (hw : Below w.heap.size w wS) (hR : w.heap.size ≤ R0) : Below w.heap.size w wr :=
  ⟨h.only.os.trans hw.os, h.only.tape.trans hw.tape, h.only.output.trans hw.output, Nat.le_trans hw.size h.only.size, fun k hk => (h.only.block k (Nat.lt_of_lt_of_le hk hw.size) (fun e => by injection e with e; omega)).trans (hw.block k hk)⟩
theorem MS.blk {wS wr : World} {R0 Rb d g : Nat} {t : TypeId} {xs : List Value} {j : Jb} {rv lv mv : Value} {lines : List (List UInt8)} (h : MS wS wr R0 Rb j rv lv mv lines d) (hb : Blk wS g t xs) (hne : g ≠ R0) : Blk wr g t xs :=
  (h.only.block g hb.lt (fun e => hne (Option.some.inj e))).trans hb
theorem made_take_len {j : Jb} {lines : List (List UInt8)} (hf : jobFault j = 0) (hlo : ∀ x ∈ lines, x.length ≤ 120) (hn : lines.length ≤ 60) (d : Nat) : (madeOf j (lines.take d)).length ≤ 59999 := by
  have h1 := made_len j 120 (lines.take d) (jobFault_parts hf).2.1 (fun x hx => hlo x (List.mem_of_mem_take hx))
  have h2 : (lines.take d).length ≤ 60 := by rw [List.length_take]; omega
  have h3 := Nat.mul_le_mul_right (4 * (120 + 1)) h2
  omega
end Go.Proofs.YtmgpacenooncjaaGreatDoor
/- A list of numbers, as it was handed in, opened: what it holds. -/
namespace Go.Proofs.YtmgpacenooncjaaGreatDoor
open Go.ChangeShapes Go.WideShapes Go.ChangeAt Go.RowKit Go.Deep
namespace OpenI
open OpenE OpenT
theorem cells1n : Tryz.prog.cellsOf 3 = 1 := by kernel_rfl
set_option maxRecDepth 100000 in
theorem nums1 {H : Type} {enc : TypeId × Value → H} {W : World} {fuel : Nat} {sv : Value} {x : DataW H × List MemPlace} (h : DataW.trod enc Tryz.prog W 0 (fun _ => true) true fuel 26 [sv] = some x) :
    ∃ l : List Int, l.length ≤ Rows.uptoBulk x.1 ∧ IsNums W sv l ∧ ∀ n ∈ l, -9223372036854775808 ≤ n ∧ n ≤ 9223372036854775807 := by
  rcases DataW.trod_slice Tryz.underlying26 h with ⟨h0, rfl⟩ | ⟨a, len, cap, elems, rest, n, hfu, hcs, rfl, hb, hl, hm, hlen, hel, _, _⟩
  · simp only [List.cons.injEq, and_true] at h0
    subst h0
    exact ⟨[], by simp, ⟨none, 0, rfl, fun i hi => absurd hi (by simp)⟩, fun n hn => by cases hn⟩
  · simp only [List.cons.injEq, and_true] at hcs
    subst hcs
    have each : ∀ i, i < len → ∃ s : Int, W.cell? (a.add (i * 1)) = some (.int .i64 s) ∧ -9223372036854775808 ≤ s ∧ s ≤ 9223372036854775807 := by
      intro i hi
      have key := hel i hi
      rw [List.getElem?_eq_getElem (by omega)] at key
      obtain ⟨cs', h1, h2⟩ := Option.bind_eq_some_iff.1 key
      rw [cells1n] at h1
      obtain ⟨_, hcl, hcell⟩ := World.cells?_some h1
      obtain ⟨s, e0, _, hk⟩ := DataW.trod_int Tryz.underlying3 h2
      subst e0
      have bd := bounds_i64 hk
      have c0 := hcell 0 (by omega)
      refine ⟨s, ?_, bd.1, bd.2⟩
      simpa [Addr.add] using c0
    haveI : Inhabited Int := ⟨0⟩
    obtain ⟨q, hq⟩ := choose_lt each
    have hspot : 0 < len → a.spot = none := fun hpos => by
      have h1 := World.cell?_spot (hq 0 hpos).1
      simpa [Addr.add] using h1
    obtain ⟨b, off, spot⟩ := a
    refine ⟨(List.range len).map q, ?_, ⟨some ⟨b, off, spot⟩, cap, by simp, fun i hi => ?_⟩, fun n hn => ?_⟩
    · have h1 := many_le (elems.map (·.1))
      simp only [List.length_map, hlen, List.length_range, Rows.uptoBulk] at h1 ⊢
      omega
    · have hi' : i < len := by simpa using hi
      have hs := hspot (by omega)
      simp only at hs
      subst hs
      have c0 := (hq i hi').1
      rw [none_add] at c0
      exact ⟨b, off, rfl, by simpa using c0⟩
    · rw [List.mem_map] at hn
      obtain ⟨i, hi, rfl⟩ := hn
      exact (hq i (by simpa using hi)).2
set_option maxRecDepth 100000 in
theorem nums {H : Type} {enc : TypeId × Value → H} {W : World} {base : Nat} {d : DataW H} {p : List MemPlace} {v : Value} (hv : Value.okWide Tryz.prog W .any base 26 v) (h : DataW.Trod enc Tryz.prog W 0 (fun _ => true) true 26 v d p) :
    ∃ (l : List Int) (a : Option Addr) (c : Nat), v = .slice a l.length c ∧ IsNums W (.slice a l.length c) l ∧ l.length ≤ Rows.uptoBulk d ∧ ∀ n ∈ l, -9223372036854775808 ≤ n ∧ n ≤ 9223372036854775807 := by
  obtain ⟨a0, len0, cap0, rfl⟩ := okWide_slice Tryz.underlying26 hv
  obtain ⟨fuel, hf⟩ := h
  obtain ⟨l, h1, h2, h3⟩ := nums1 (x := (d, p)) (by simpa [Value.cells] using hf)
  obtain ⟨a1, c1, e, -⟩ := id h2
  injection e with e1 e2 e3
  subst e2
  exact ⟨l, a0, cap0, rfl, h2, h1, h3⟩
end OpenI
end Go.Proofs.YtmgpacenooncjaaGreatDoor
/- Stops: a step, and perhaps a stop. Written by tpl/mk_st.py. -/
namespace Go.Proofs.YtmgpacenooncjaaGreatDoor
open Go.ChangeShapes Go.WideShapes Go.ChangeAt Go.RowKit
set_option maxRecDepth 1000000 in
set_option maxHeartbeats 4000000 in
theorem stop_b1 (SD : StepDoes) (w wS : World) (P R0 Rb i ns ln lc rn rc sn sc d sb soff : Nat) (nn fo : Int) (ea : Bool) (l : List Rl) (ra la : Option Addr) (rv lv mv : Value) (lines : List (List UInt8)) (w0 : World) (K : Act → World → Prop) (s0 s4 s5 s6 s7 s8 s9 s10 s12 s14 s15 s16 s17 s18 s19 s20 s21 s22 s23 s24 s25 s26 s27 s28 s29 s30 s31 s32 s33 s34 s35 s36 s37 s38 s39 s40 s41 s42 s43 s44 s45 s46 s47 s48 s49 s50 s51 s52 s53 s54 s55 s56 s57 s58 s59 s60 s61 s62 s63 s64 s65 s66 s67 s68 s69 s70 s71 s72 s73 s74 s75 s76 s77 s78 s79 s80 s81 s82 s83 s84 s85 s86 s87 s88 s89 s90 s91 s92 s93 s94 s95 s96 s97 s98 s99 s100 s101 s102 s103 s104 s105 s106 s107 s108 s109 s110 s111 s112 s113 s114 s115 s116 s117 s118 s119 s120 s121 s122 s123 s124 s125 s126 s127 s128 s129 s130 s131 s132 s133 s134 s135 s136 s137 s138 s139 s140 s141 s142 s143 s144 s145 s146 s147 s148 s149 s150 s151 s152 s153 s154 s155 s156 s157 s158 s159 s160 s161 s162 s163 s164 s165 s166 s167 s168 s169 s170 s171 s172 s173 s174 s175 s176 s177 s178 s179 s180 s181 s182 s183 s184 s185 s186 s187 : Value)
    (HE : Hid (∀ w', Below w.heap.size w w' → EnvS w'))
    (HP : Hid (∀ w', Below w.heap.size w w' → Pp.Env w'))
    (HR : Hid (∀ w', Below w.heap.size w w' → IsRules w' (.slice ra rn rc) l))
    (HV : Hid (∀ w', Below w.heap.size w w' → IsTexts w' (.slice la ln lc) (lines.map bs)))
    (hln : Hid (ln = lines.length))
    (hJ : Hid (jobFault ⟨l, fo, ea, (ns : Int)⟩ = 0))
    (hLO : Hid (∀ x ∈ lines, x.length ≤ 120))
    (h60 : ln ≤ 60)
    (hwS : Hid (Below w.heap.size w wS))
    (hPR : w.heap.size ≤ R0 ∧ P ≠ R0 ∧ R0 < wS.heap.size)
    (hPB : Hid (Blk wS P 24 [.slice ra rn rc, .int .i64 fo, .bool ea, .int .i64 (ns : Int)]))
    (hst : w0.cell? ⟨sb, soff + i, none⟩ = some (.int .i64 nn))
    (hnn : -9223372036854775808 ≤ nn ∧ nn ≤ 9223372036854775807)
    (his : i < sn)
    (hi20 : i < 20)
    (hM : MS wS w0 R0 Rb ⟨l, fo, ea, (ns : Int)⟩ rv lv mv lines d)
    (HK : Hid (∀ (z6 z14 z15 z16 z88 z89 z90 z91 z92 z93 z94 z95 z96 z97 z98 z99 z100 z101 z102 z103 z104 z105 z106 z107 z108 z109 z110 z111 z112 z113 z114 z115 z116 z117 z118 z119 : Value) (R2 d2 : Nat) (rv2 lv2 mv2 : Value) (wx : World), MS wS wx R0 R2 ⟨l, fo, ea, (ns : Int)⟩ rv2 lv2 mv2 lines d2 → K ⟨#[s0, .slice la ln lc, .slice (some ⟨sb, soff, none⟩) sn sc, .pointer (some ⟨P, 0, none⟩), s4, s5, z6, s7, s8, s9, s10, .pointer (some ⟨R2, 0, none⟩), s12, .int .i64 (i : Int), z14, z15, z16, s17, s18, s19, s20, s21, s22, s23, s24, s25, s26, s27, s28, s29, s30, s31, s32, s33, s34, s35, s36, s37, s38, s39, s40, s41, s42, s43, s44, s45, s46, s47, s48, s49, s50, s51, s52, s53, s54, s55, s56, s57, s58, s59, s60, s61, s62, s63, s64, s65, s66, s67, s68, s69, s70, s71, s72, s73, s74, s75, s76, s77, s78, s79, s80, s81, s82, s83, s84, s85, s86, s87, z88, z89, z90, z91, z92, z93, z94, z95, z96, z97, z98, z99, z100, z101, z102, z103, z104, z105, z106, z107, z108, z109, z110, z111, z112, z113, z114, z115, z116, z117, z118, z119, s120, s121, s122, s123, s124, s125, s126, s127, s128, s129, s130, s131, s132, s133, s134, s135, s136, s137, s138, s139, s140, s141, s142, s143, s144, s145, s146, s147, s148, s149, s150, s151, s152, s153, s154, s155, s156, s157, s158, s159, s160, s161, s162, s163, s164, s165, s166, s167, s168, s169, s170, s171, s172, s173, s174, s175, s176, s177, s178, s179, s180, s181, s182, s183, s184, s185, s186, s187], []⟩ wx)) :
    Code.wp Tryz.prog (pieceIn Tryz.f4.body 1) (Exit.then K fun _ _ _ => False) ⟨#[s0, .slice la ln lc, .slice (some ⟨sb, soff, none⟩) sn sc, .pointer (some ⟨P, 0, none⟩), s4, s5, s6, s7, s8, s9, s10, .pointer (some ⟨Rb, 0, none⟩), s12, .int .i64 (i : Int), s14, s15, s16, s17, s18, s19, s20, s21, s22, s23, s24, s25, s26, s27, s28, s29, s30, s31, s32, s33, s34, s35, s36, s37, s38, s39, s40, s41, s42, s43, s44, s45, s46, s47, s48, s49, s50, s51, s52, s53, s54, s55, s56, s57, s58, s59, s60, s61, s62, s63, s64, s65, s66, s67, s68, s69, s70, s71, s72, s73, s74, s75, s76, s77, s78, s79, s80, s81, s82, s83, s84, s85, s86, s87, s88, s89, s90, s91, s92, s93, s94, s95, s96, s97, s98, s99, s100, s101, s102, s103, s104, s105, s106, s107, s108, s109, s110, s111, s112, s113, s114, s115, s116, s117, s118, s119, s120, s121, s122, s123, s124, s125, s126, s127, s128, s129, s130, s131, s132, s133, s134, s135, s136, s137, s138, s139, s140, s141, s142, s143, s144, s145, s146, s147, s148, s149, s150, s151, s152, s153, s154, s155, s156, s157, s158, s159, s160, s161, s162, s163, s164, s165, s166, s167, s168, s169, s170, s171, s172, s173, s174, s175, s176, s177, s178, s179, s180, s181, s182, s183, s184, s185, s186, s187], []⟩ w0 := by
  have hn6 : lines.length ≤ 60 := by rw [← hln.out]; exact h60
  have HORG : Hid (∀ (wr : World) (R : Nat) (rv lv mv : Value) (d : Nat), MS wS wr R0 R ⟨l, fo, ea, (ns : Int)⟩ rv lv mv lines d → Below w.heap.size w wr) := fun wr R rv lv mv d h => h.org hwS.out hPR.1
  have hRlow : ∀ R, (R = R0 ∨ wS.heap.size ≤ R) → w.heap.size ≤ R := fun R h => by
    rcases h with h | h
    · rw [h]; exact hPR.1
    · exact Nat.le_trans hwS.out.size h
  have HRL := Lib.hid hRlow
  have HIN : Hid (∀ (wr : World) (R : Nat) (rv lv mv : Value) (d : Nat), MS wS wr R0 R ⟨l, fo, ea, (ns : Int)⟩ rv lv mv lines d → MRin wr R ⟨l, fo, ea, (ns : Int)⟩ lines) := fun wr R rv lv mv d h =>
    ⟨hJ.out, by have h1 := job_small hJ.out; simp only at h1 ⊢; omega, hn6, fun x hx => by have := hLO.out x hx; omega, fun w' hb' => HE.out w' ((HORG.out _ _ _ _ _ _ h).trans (hb'.mono (HRL.out _ h.place)))⟩
  have hwt := job_small hJ.out
  have NEW : Hid (∀ (wr : World) (R : Nat) (rv lv mv : Value) (d : Nat), MS wS wr R0 R ⟨l, fo, ea, (ns : Int)⟩ rv lv mv lines d → Calls Tryz.prog 14 #[.agg #[.slice ra rn rc, .int .i64 fo, .bool ea, .int .i64 (ns : Int)], .slice la ln lc] wr fun e w'' => ∃ R2 rv2 lv2, e = .returned (.tuple #[.pointer (some ⟨R2, 0, none⟩), .nilIface]) ∧ Hid (IsMR w'' R2 ⟨l, fo, ea, (ns : Int)⟩ rv2 lv2 lines 0 (.slice none 0 0) []) ∧ Hid (wr.heap.size ≤ R2) ∧ Below wr.heap.size wr w'') := fun wr R rv lv mv d h => by
    have hbw := HORG.out _ _ _ _ _ _ h
    refine (new_ok ⟨l, fo, ea, (ns : Int)⟩ (.slice ra rn rc) (.slice la ln lc) lines wr (HR.out wr hbw) (by omega) hJ.out (HV.out wr hbw) hn6 (HE.out wr hbw)).mono ?_
    rintro e w'' ⟨R2, rv2, lv2, rfl, h1, h2, h3⟩
    exact ⟨R2, rv2, lv2, rfl, h1, h2, h3⟩
  have HLEN : Hid (∀ d, (madeOf ⟨l, fo, ea, (ns : Int)⟩ (lines.take d)).length ≤ 59999 ∧ Pp.Fits (madeOf ⟨l, fo, ea, (ns : Int)⟩ (lines.take d))) := fun d => ⟨made_take_len hJ.out hLO.out hn6 d, made_fits hJ.out (fun x hx => by have := hLO.out x (List.mem_of_mem_take hx); omega)⟩
  have HSV : Hid (∀ (wr : World) (R : Nat) (rv lv mv : Value) (d : Nat), MS wS wr R0 R ⟨l, fo, ea, (ns : Int)⟩ rv lv mv lines d → Calls Tryz.prog 24 #[.pointer (some ⟨R, 0, none⟩)] wr fun e w' => e = .returned (.string (bs (saveL d (madeOf ⟨l, fo, ea, (ns : Int)⟩ (lines.take d))))) ∧ Below wr.heap.size wr w') := fun wr R rv lv mv d h =>
    msave_any R d ⟨l, fo, ea, (ns : Int)⟩ rv lv mv lines _ wr (HP.out wr (HORG.out _ _ _ _ _ _ h)).t h.run (HLEN.out d).2 (HLEN.out d).1 (by have := h.din; omega)
  have SD1 := Lib.hid (SD Rb d nn ⟨l, fo, ea, (ns : Int)⟩ rv lv mv lines w0 hM.run (HIN.out _ _ _ _ _ _ hM) hM.din hnn.1 hnn.2)
  have HM := Lib.hid hM
  have hiI : (i : Int) < (sn : Int) := by omega
  obtain ⟨par, hpar⟩ : ∃ par, ((i : Int) % 2 == 0) = par := ⟨_, rfl⟩
  clear hM hRlow hwt hnn SD
  conv => arg 2; whnf
  go_wp2_with (go_at_call 15; refine Hid.out ?_)
  refine Lib.hid ?_
  refine SD1.out.mono ?_
  clear SD1
  rintro _ w1 ⟨d1, mv1, hd1, rfl, hr1, hF1, ho1⟩
  have HM1 := Lib.hid (HM.out.step hr1 (by have := HM.out.din; omega) hF1 ho1)
  clear hd1 hr1 hF1 ho1 hst
  cases par with
  | false =>
    go_wp2
    exact HK.out _ _ _ _ _ _ _ _ _ _ _ _ _ _ _ _ _ _ _ _ _ _ _ _ _ _ _ _ _ _ _ _ _ _ _ _ Rb d1 rv lv mv1 w1 HM1.out
  | true =>
    have SV := Lib.hid (HSV.out w1 Rb rv lv mv1 d1 HM1.out)
    obtain ⟨tx, htx⟩ : ∃ tx, tx = bs (saveL d1 (madeOf ⟨l, fo, ea, (ns : Int)⟩ (lines.take d1))) := ⟨_, rfl⟩
    rw [← htx] at SV
    have HTX := Lib.hid htx
    clear htx
    go_wp2_with (go_at_call 24; refine Hid.out ?_)
    refine Lib.hid ?_
    refine SV.out.mono ?_
    clear SV
    rintro _ w2 ⟨rfl, hb12⟩
    have HM2 := Lib.hid (HM1.out.below hb12)
    have PB := Lib.hid (HM2.out.blk hPB.out hPR.2.1)
    have k0 := PB.out.at (i := 0) (v := .slice ra rn rc) rfl
    have k1 := PB.out.at (i := 1) (v := .int .i64 fo) rfl
    have k2 := PB.out.at (i := 2) (v := .bool ea) rfl
    have k3 := PB.out.at (i := 3) (v := .int .i64 (ns : Int)) rfl
    have NW := Lib.hid (NEW.out w2 Rb rv lv mv1 d1 HM2.out)
    clear hb12 HM1
    go_wp2_with (go_at_call 14; refine Hid.out ?_)
    refine Lib.hid ?_
    refine NW.out.mono ?_
    clear NW
    rintro _ w3 ⟨Rc, rvc, lvc, rfl, HC3, HRC, hb23⟩
    have HM3 := Lib.hid (HM2.out.below hb23)
    have HRS : Hid (wS.heap.size ≤ Rc) := Nat.le_trans HM2.out.only.size HRC.out
    have LD := Lib.hid (mload_any Rc 0 d1 ⟨l, fo, ea, (ns : Int)⟩ rvc lvc (.slice none 0 0) lines [] (madeOf ⟨l, fo, ea, (ns : Int)⟩ (lines.take d1)) w3 (HP.out w3 (HORG.out _ _ _ _ _ _ HM3.out)) HC3.out (HLEN.out d1).2 (HLEN.out d1).1 HM3.out.din (by omega))
    rw [← HTX.out] at LD
    clear k0 k1 k2 k3 hb23 HM2 PB HRC
    go_wp2_with (go_at_call 23; refine Hid.out ?_)
    refine Lib.hid ?_
    refine LD.out.mono ?_
    clear LD
    rintro _ w4 ⟨mvc, rfl, hrc4, hF4, hown4⟩
    have HS3 : Hid (wS.heap.size ≤ w3.heap.size) := HM3.out.only.size
    have HM4 : Hid (MS wS w4 R0 Rc ⟨l, fo, ea, (ns : Int)⟩ rvc lvc mvc lines d1) := by
      have h := HM3.out.only
      refine ⟨⟨hF4.os.trans h.os, hF4.tape.trans h.tape, hF4.output.trans h.output, Nat.le_trans h.size hF4.size, fun k hk hne => ?_⟩, hrc4, HM3.out.din, .inr HRS.out, fun g hg => Nat.le_trans HS3.out (hown4 g hg)⟩
      exact (hF4.block k (Nat.lt_of_lt_of_le hk h.size) (by have := HRS.out; omega) (fun e => by cases e)).trans (h.block k hk hne)
    have SV2 := Lib.hid (HSV.out w4 Rc rvc lvc mvc d1 HM4.out)
    rw [← HTX.out] at SV2
    clear hrc4 hF4 hown4 HM3 HC3
    go_wp2_with (go_at_call 24; refine Hid.out ?_)
    refine Lib.hid ?_
    refine SV2.out.mono ?_
    clear SV2
    rintro _ w5 ⟨rfl, hb45⟩
    have HM5 := Lib.hid (HM4.out.below hb45)
    have hbne : (tx.toList == tx.toList) = true := by simp
    clear hb45 HM4
    go_wp2
    exact HK.out _ _ _ _ _ _ _ _ _ _ _ _ _ _ _ _ _ _ _ _ _ _ _ _ _ _ _ _ _ _ _ _ _ _ _ _ Rc d1 rvc lvc mvc w5 HM5.out
end Go.Proofs.YtmgpacenooncjaaGreatDoor
