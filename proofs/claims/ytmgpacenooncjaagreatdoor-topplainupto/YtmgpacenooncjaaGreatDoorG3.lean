/- Put together of PpD4, PpD5, PpD6, PpPChk, PpPFlt, PpRise0, PpSame0, PpD7, E0, Pl1, ExR, ExV, ExW, Tp0, Tp1, Tp2, Tp3, Tp4, Tp5, Tp6. -/
import Derived.Test.YtmgpacenooncjaaGreatDoorPpD4a
import Derived.Test.YtmgpacenooncjaaGreatDoorPpBase
import Derived.Test.YtmgpacenooncjaaGreatDoorPpOwn
import Derived.Test.YtmgpacenooncjaaGreatDoorPpIns
import Derived.Test.YtmgpacenooncjaaGreatDoorPpSymP
import Derived.Test.YtmgpacenooncjaaGreatDoorG2
import Derived.Test.YtmgpacenooncjaaGreatDoorPcs
import Derived.Deep.LoopGhost
import Derived.Test.YtmgpacenooncjaaGreatDoorExU
import Derived.Lib.QuietBelow
import Derived.Test.YtmgpacenooncjaaGreatDoorN2
/- Folders: Step. -/
namespace Go.Proofs.YtmgpacenooncjaaGreatDoor.Pp
open Go.ChangeShapes Go.WideShapes Go.ChangeAt Go.RowKit
open Grp Stable
theorem wp_normal {c : Code} {Q : Exit → Act → World → Prop} {a : Act} {w : World} (h : c.wp Tryz.prog (Exit.then (fun a w => Q .normal a w) fun _ _ _ => False) a w) : c.wp Tryz.prog Q a w :=
  wp_mono h fun e a w hq => by
    cases e with
    | normal => exact hq
    | exit id => exact False.elim hq
    | goto l => exact False.elim hq
    | ret => exact False.elim hq
    | panic ch => exact False.elim hq
    | outgrown => exact False.elim hq
set_option maxRecDepth 100000 in
set_option maxHeartbeats 2000000 in
theorem step_any (R a : Nat) (kind n : Int) (ko : Option Addr) (kc : Nat) (ss : List (List (ByteArray × Int))) (ks : List ByteArray) (mo : Option Addr) (mc : Nat) (M : List (ByteArray × Int)) (w : World)
    (hr : IsRun w R kind (.slice ko ss.length kc) ss (.slice mo a mc) (M.take a)) (hM : M = grp kind ss.flatten) (hk : Segs ks ss) (ha : a ≤ ss.length) (hss : ss.length ≤ 60000) (hf : ss.flatten.length ≤ 60000) (hn0 : -9223372036854775808 ≤ n) (hn1 : n ≤ 9223372036854775807) :
    Calls Tryz.prog 27 #[.pointer (some ⟨R, 0, none⟩), .int .i64 n] w fun e w' => ∃ (a' : Nat) (mo' : Option Addr) (mc' : Nat), a' = a + min n.toNat (ss.length - a) ∧ e = .returned (.bool (decide (a' = ss.length))) ∧ IsRun w' R kind (.slice ko ss.length kc) ss (.slice mo' a' mc') (M.take a') ∧ Fr w w' R (Value.slice mo a mc).ownBlock ∧ ((Value.slice mo' a' mc').ownBlock = (Value.slice mo a mc).ownBlock ∨ ∀ b, (Value.slice mo' a' mc').ownBlock = some b → w.heap.size ≤ b) := by
  obtain ⟨i0, hi0, hz0, hz1, hz2⟩ := info_parts pairInfo
  have c0 := hr.blk.at (i := 0) (v := .int .i64 kind) rfl
  have c1 := hr.blk.at (i := 1) (v := .slice ko ss.length kc) rfl
  have c2 := hr.blk.at (i := 2) (v := .slice mo a mc) rfl
  obtain ⟨d, hd⟩ : ∃ d : Nat, (ss.length : Int) - (a : Int) = (d : Int) := ⟨ss.length - a, by omega⟩
  have HD : Hid (d = ss.length - a) := by show _ = _; omega
  have hd1 : d ≤ 60000 := by omega
  have HR := Lib.hid hr
  have HM := Lib.hid hM
  have HK := Lib.hid hk
  clear hr hM hk
  obtain ⟨c, hc⟩ : ∃ c : Int, c = min n (d : Int) := ⟨_, rfl⟩
  obtain ⟨ct, hct⟩ : ∃ ct : Nat, ct = c.toNat := ⟨_, rfl⟩
  have HCT : Hid (ct = min n.toNat (ss.length - a)) := by show _ = _; rw [hct, hc, ← HD.out]; omega
  have hcs : c ≤ 60000 := by omega
  have HCC := Lib.hid hct
  have HC := Lib.hid hc
  have hctd : a + ct ≤ ss.length := by rw [HCT.out]; omega
  clear hct hc
  go_enter Tryz.func27, Tryz.ntmps27
  go_wp2
  go_region
  rw [← HC.out]
  have HR1 := Lib.hid (HR.out.blw (blw_drew (Below.refl _ w)))
  have HF1 : Hid (Fr w w.drew R (Value.slice mo a mc).ownBlock) := Fr.of_blw (blw_drew (Below.refl _ w)) _ _
  generalize w.drew = w1 at *
  clear c0 c1 c2 HR
  go_wp2
  go_loopg [18] ct (fun gg iv wr => ∃ (k : Nat) (mo' : Option Addr) (mc' : Nat), gg = ct - k ∧ k ≤ ct ∧ iv = .int .i64 k ∧ Hid (IsRun wr R kind (.slice ko ss.length kc) ss (.slice mo' (a + k) mc') (M.take (a + k))) ∧ Hid (Fr w wr R (Value.slice mo a mc).ownBlock) ∧ Hid ((Value.slice mo' (a + k) mc').ownBlock = (Value.slice mo a mc).ownBlock ∨ ∀ b, (Value.slice mo' (a + k) mc').ownBlock = some b → w.heap.size ≤ b))
  case atStart => exact ⟨0, mo, mc, rfl, Nat.zero_le _, rfl, HR1, HF1, .inl rfl⟩
  case round =>
    clear HR1 HF1
    obtain ⟨k, mo', mc', hgk, hkc, rfl, HR, HF, HB⟩ := hrel
    have HGK := Lib.hid hgk
    clear hgk
    obtain ⟨ak, hak⟩ : ∃ ak, ak = a + k := ⟨_, rfl⟩
    rw [← hak] at HR HB
    have HAK := Lib.hid hak
    have haks : ak ≤ ss.length := by omega
    have c0 := HR.out.blk.at (i := 0) (v := .int .i64 kind) rfl
    have c1 := HR.out.blk.at (i := 1) (v := .slice ko ss.length kc) rfl
    have c2 := HR.out.blk.at (i := 2) (v := .slice mo' ak mc') rfl
    clear hak
    by_cases hlt : k < ct
    · have hltc : (k : Int) < c := by have := HCC.out; omega
      have hakl : ak < ss.length := by have := HAK.out; omega
      obtain ⟨a0', cp0, ek, hcell⟩ := HR.out.keys wr (Below.refl _ _)
      simp only [Value.slice.injEq] at ek
      obtain ⟨rfl, _, rfl⟩ := ek
      obtain ⟨kb, koff, u, rfl, k0, hu⟩ := hcell ak hakl
      have hsl : ss[ak].length ≤ 60000 := by have := mem_flat_le (List.getElem_mem hakl); omega
      have GR := Lib.hid (groups_any kind u ss[ak] wr.drew hu (by omega))
      have hMl : M.length = ss.length := by rw [HM.out]; exact segs_grp_len HK.out
      have hakM : ak < M.length := by omega
      have hg1 : grp kind ss[ak] = [M[ak]] := by
        have := segs_grp_at (kind := kind) HK.out ak hakl (by rw [← HM.out]; exact hakM)
        rw [this]
        congr 2
        exact HM.out.symm
      rw [hg1] at GR
      have HTK : Hid (M.take (ak + 1) = M.take ak ++ [M[ak]]) := List.take_succ_eq_append_getElem hakM
      have hlk : (M.take ak).length = ak := by rw [List.length_take]; omega
      obtain ⟨uo, uc, eu, hux⟩ := id hu
      clear hux hu hcell hg1 hMl hsl
      subst eu
      generalize ss[ak].length = su at *
      generalize M[ak] = q at *
      have K0 := Lib.hid k0
      have HLK := Lib.hid hlk
      clear k0 hlk c0 c1 c2
      go_upto_region 3 with fail
      refine wp_normal (r3_any R ak kb koff kc su uc mc' kind uo mo' ss M q wr _ _ _ _ _ _ _ _ _ _ _ _ _ _ _ _ _ _ _ _ _ _ _ _ _ _ _ _ _ _ _ _ _ _ _ _ _ _ _ _ _ _ _ _ _ _ _ _ _ _ _ _ _ _ _ _ HR.out hakl hss K0.out GR HTK.out HLK.out ?_)
      refine Lib.hid ?_
      intro z20 z21 z22 z23 z24 z25 z26 z27 z28 z29 z30 z31 z32 z33 z34 z35 z36 z37 z38 z39 z40 z41 z42 z43 g cap w11 hr11 hfr
      obtain ⟨hF11, ho11⟩ := hfr w _ HF.out HB.out
      have HR11 := Lib.hid hr11
      have HF11 := Lib.hid hF11
      have HO11 : Hid ((Value.slice (some ⟨g, 0, none⟩) (ak + 1) cap).ownBlock = (Value.slice mo a mc).ownBlock ∨ ∀ b, (Value.slice (some ⟨g, 0, none⟩) (ak + 1) cap).ownBlock = some b → w.heap.size ≤ b) := by
        rcases ho11 with h | h
        · exact .inl h
        · refine .inr fun b hb => ?_
          have e : some g = some b := hb
          injection e with e
          omega
      clear hr11 hfr hF11 ho11 HR HF HB K0 GR
      simp only [Exit.inBlock, Exit.then]
      go_wp2
      go_roundg (ct - (k + 1))
      case measure => have := HGK.out; omega
      case rel =>
        have e : a + (k + 1) = ak + 1 := by have := HAK.out; omega
        refine ⟨k + 1, some ⟨g, 0, none⟩, cap, rfl, by omega, by go_num, ?_, HF11, ?_⟩
        · rw [e]; exact HR11
        · rw [e]; exact HO11
    · have hge : ¬ (k : Int) < c := by have := HCC.out; omega
      have ekc : k = ct := by omega
      have HFIN : Hid (ak = a + min n.toNat (ss.length - a)) := by
        show _ = _
        rw [HAK.out, ekc, HCT.out]
      have hde : ((ak : Int) == (ss.length : Int)) = decide (ak = ss.length) := by
        by_cases h : ak = ss.length
        · simp [h]
        · rw [decide_eq_false h, beq_eq_false_iff_ne]; omega
      have HDE := Lib.hid hde
      clear ekc hde
      go_wp2
      go_region
      rw [HDE.out]
      have HR2 := Lib.hid (HR.out.blw (blw_drew (Below.refl _ wr)))
      have HF2 := Lib.hid (HF.out.blw (blw_drew (Below.refl _ wr)))
      generalize wr.drew = w12 at *
      clear c0 c1 c2 HR HF
      go_wp2
      go_ret
      exact ⟨ak, mo', mc', HFIN.out, rfl, HR2.out, HF2.out, HB.out⟩
end Go.Proofs.YtmgpacenooncjaaGreatDoor.Pp
/- Folders: Out, Save, begins, Load. -/
namespace Go.Proofs.YtmgpacenooncjaaGreatDoor.Pp
open Go.ChangeShapes Go.WideShapes Go.ChangeAt Go.RowKit
open Grp Stable
set_option maxRecDepth 100000 in
theorem out_anyT (R : Nat) (kind : Int) (kv mv : Value) (ss : List (List (ByteArray × Int))) (l : List (ByteArray × Int)) (w : World) (E : EnvT w) (h : IsRun w R kind kv ss mv l) (hf : Fits l) (hl : l.length ≤ 60000) :
    Calls Tryz.prog 30 #[.pointer (some ⟨R, 0, none⟩)] w fun e w' => e = .returned (.string (bs (textL l))) ∧ Below w.heap.size w w' := by
  have c2 := h.blk.at (i := 2) (v := mv) rfl
  have hp := owns_isPairs h.row
  have T := Lib.hid (text_anyT mv l w E hp hf hl)
  obtain ⟨a, c, rfl, _⟩ := hp
  generalize bs (textL l) = t at *
  go_enter Tryz.func30, Tryz.ntmps30
  go_wp2_with (go_at_call 57; refine T.out.mono ?_; rintro _ w1 ⟨rfl, hb1⟩)
  go_ret
  exact ⟨rfl, hb1⟩
theorem out_any (R : Nat) (kind : Int) (kv mv : Value) (ss : List (List (ByteArray × Int))) (l : List (ByteArray × Int)) (w : World) (E : Env w) (h : IsRun w R kind kv ss mv l) (hf : Fits l) (hl : l.length ≤ 60000) :
    Calls Tryz.prog 30 #[.pointer (some ⟨R, 0, none⟩)] w fun e w' => e = .returned (.string (bs (textL l))) ∧ Below w.heap.size w w' := out_anyT R kind kv mv ss l w E.t h hf hl
set_option maxRecDepth 100000 in
theorem save_any (R : Nat) (kind : Int) (kv mv : Value) (ss : List (List (ByteArray × Int))) (l : List (ByteArray × Int)) (w : World) (E : Env w) (h : IsRun w R kind kv ss mv l) (hf : Fits l) (hl : l.length ≤ 60000) :
    Calls Tryz.prog 29 #[.pointer (some ⟨R, 0, none⟩)] w fun e w' => e = .returned (.string (bs (textL l))) ∧ Below w.heap.size w w' := by
  have T := Lib.hid (out_any R kind kv mv ss l w E h hf hl)
  generalize bs (textL l) = t at *
  go_enter Tryz.func29, Tryz.ntmps29
  go_wp2_with (go_at_call 30; refine T.out.mono ?_; rintro _ w1 ⟨rfl, hb1⟩)
  go_ret
  exact ⟨rfl, hb1⟩
theorem segs_key : ∀ {ks : List ByteArray} {ss : List (List (ByteArray × Int))}, Segs ks ss → ∀ (i : Nat) (h : i < ss.length), ∃ p t, ss[i] = p :: t ∧ ks[i]? = some p.1
  | [], [], _, i, h => by simp at h
  | k :: ks, s :: ss, hs, i, h => by
    cases i with
    | zero =>
      cases hq : s with
      | nil => exact absurd hq hs.1.ne
      | cons p t =>
        refine ⟨p, t, by simp, ?_⟩
        rw [List.getElem?_cons_zero, ← hs.1.key p (by rw [hq]; exact List.mem_cons_self)]
    | succ i =>
      obtain ⟨p, t, h1, h2⟩ := segs_key hs.2.2 i (by simpa using h)
      exact ⟨p, t, by simpa using h1, by simpa using h2⟩
  | [], _ :: _, h, _, _ => h.elim
  | _ :: _, [], h, _, _ => h.elim
set_option maxRecDepth 100000 in
set_option maxHeartbeats 1000000 in
theorem begins_any (R : Nat) (kind : Int) (ko : Option Addr) (kc : Nat) (mv lv : Value) (ss : List (List (ByteArray × Int))) (ks : List ByteArray) (l L : List (ByteArray × Int)) (w : World) (h : IsRun w R kind (.slice ko ss.length kc) ss mv l) (hk : Segs ks ss) (hv : IsPairs w lv L) (hL : ∀ (i : Nat) (h : i < L.length), ks[i]? = some L[i].1) (hLs : L.length ≤ ss.length) (hss : ss.length ≤ 60000) :
    Calls Tryz.prog 62 #[.pointer (some ⟨R, 0, none⟩), lv] w fun e w' => e = .returned (.bool true) ∧ Below w.heap.size w w' := by
  obtain ⟨lo, lc, rfl, hlc⟩ := hv
  have c1 := h.blk.at (i := 1) (v := .slice ko ss.length kc) rfl
  have HR := Lib.hid h
  have HK := Lib.hid hk
  have HL := Lib.hid hL
  have HLC := Lib.hid hlc
  obtain ⟨n, hn⟩ : ∃ n, n = L.length := ⟨_, rfl⟩
  have HN := Lib.hid hn
  rw [← hn] at hLs ⊢
  clear h hk hL hlc hn
  go_enter Tryz.func62, Tryz.ntmps62
  go_wp2
  clear c1
  go_loopg [17] n (fun gg iv wr => ∃ i : Nat, gg = n - i ∧ i ≤ n ∧ iv = .int .i64 i ∧ Below w.heap.size w wr)
  case atStart => exact ⟨0, rfl, Nat.zero_le _, rfl, Below.refl _ _⟩
  case round =>
    obtain ⟨i, hgi, hi, rfl, hb⟩ := hrel
    have HGI := Lib.hid hgi
    clear hgi
    by_cases hlt : i < n
    · have hiL : i < L.length := by have := HN.out; omega
      have his : i < ss.length := by omega
      obtain ⟨lb, loff, rfl, l0, l1⟩ := HLC.out i hiL
      replace l0 := (hb.cell (block_lt l0)).trans l0
      replace l1 := (hb.cell (block_lt l1)).trans l1
      have hRw := HR.out.blk.lt
      have c1 := (HR.out.blw hb).blk.at (i := 1) (v := .slice ko ss.length kc) rfl
      obtain ⟨a0', cp0, ek, hcell⟩ := HR.out.keys wr (hb.mono (Nat.le_of_lt hRw))
      simp only [Value.slice.injEq] at ek
      obtain ⟨rfl, _, rfl⟩ := ek
      obtain ⟨kb, koff, u, rfl, k0, hu⟩ := hcell i his
      obtain ⟨p, t, hpt, hkp⟩ := segs_key HK.out i his
      rw [hpt] at hu
      obtain ⟨uo, uc, eu, huc⟩ := hu
      subst eu
      obtain ⟨ub, uoff, rfl, u0, _⟩ := huc 0 (by simp)
      have hpk : p.1 = L[i].1 := by
        have := HL.out i hiL
        rw [hkp] at this
        exact Option.some.inj this
      rw [List.getElem_cons_zero, hpk] at u0
      rw [Nat.zero_mul, Nat.add_zero] at u0
      have hul : 0 < (p :: t).length := by simp
      clear huc
      generalize (p :: t).length = un at *
      clear hpt hkp hcell hpk
      generalize L[i].1 = x at *
      generalize L[i].2 = y at *
      obtain ⟨w2, hw2⟩ : ∃ w2, w2 = wr.alloc (.cells #[.string x, .int .i64 y] 67) := ⟨_, rfl⟩
      have hb2 : Below wr.heap.size wr w2 := by rw [hw2]; exact blw_box _
      obtain ⟨P, hP⟩ : ∃ P, P = wr.heap.size := ⟨_, rfl⟩
      have p0 : w2.cell? ⟨P, 0, none⟩ = some (.string x) := by rw [hw2, hP]; simp
      have c12 := (hb2.cell (block_lt c1)).trans c1
      have k02 := (hb2.cell (block_lt k0)).trans k0
      have u02 := (hb2.cell (block_lt u0)).trans u0
      have hb22 := Lib.hid (blw_step hb hb2)
      have HW2 := Lib.hid hw2
      have HP := Lib.hid hP
      clear c1 k0 u0 hw2 hP hb2 hb
      go_wp2_with fail
      rw [← HW2.out, ← HP.out]
      clear HW2 HP
      go_quiet (fail)
      have hb3 : Below w.heap.size w (w2.drewN nq) := blw_step hb22.out (blw_drewN _ _)
      generalize w2.drewN nq = w3 at *
      clear c12 k02 u02 p0 l0 l1
      go_wp2
      go_roundg (n - (i + 1))
      case measure => have := HGI.out; omega
      case rel => exact ⟨i + 1, rfl, by omega, by go_num, hb3⟩
    · go_wp2
      go_ret
      exact ⟨rfl, hb⟩
end Go.Proofs.YtmgpacenooncjaaGreatDoor.Pp
/- Folders: Load. -/
namespace Go.Proofs.YtmgpacenooncjaaGreatDoor.Pp
open Go.ChangeShapes Go.WideShapes Go.ChangeAt Go.RowKit
open Grp Stable
theorem owns_lowR {w : World} {lo base : Nat} {e : TypeId} {size : Nat} {v : Value} {n : Nat} {xs : List Value} (h : w.ownsRow base e size v n xs) (hl : lo ≤ base) : w.ownsRow lo e size v n xs :=
  ⟨h.1, h.2.imp id (fun ⟨g, cap, cur, a, b, c⟩ => ⟨g, cap, cur, a, Nat.le_trans hl b, c⟩)⟩
set_option maxRecDepth 100000 in
set_option maxHeartbeats 1000000 in
theorem load_any (R : Nat) (kind : Int) (ko : Option Addr) (kc : Nat) (mv : Value) (ss : List (List (ByteArray × Int))) (ks : List ByteArray) (l L : List (ByteArray × Int)) (w : World) (E : Env w) (h : IsRun w R kind (.slice ko ss.length kc) ss mv l) (hk : Segs ks ss) (hf : Fits L) (hL : ∀ (i : Nat) (h : i < L.length), ks[i]? = some L[i].1) (hLs : L.length ≤ ss.length) (hss : ss.length ≤ 60000) :
    Calls Tryz.prog 28 #[.pointer (some ⟨R, 0, none⟩), .string (bs (textL L))] w fun e w' => ∃ (lo : Option Addr) (lc : Nat), e = .returned (.bool true) ∧ IsRun w' R kind (.slice ko ss.length kc) ss (.slice lo L.length lc) L ∧ Fr w w' R none ∧ ∀ b, (Value.slice lo L.length lc).ownBlock = some b → w.heap.size ≤ b := by
  have P := Lib.hid (readOwn L w E hf (by omega))
  have BG : Hid (∀ w1 lv, Below w.heap.size w w1 → IsPairs w1 lv L → Calls Tryz.prog 62 #[.pointer (some ⟨R, 0, none⟩), lv] w1 fun e w' => e = .returned (.bool true) ∧ Below w1.heap.size w1 w') := fun w1 lv hb hv => begins_any R kind ko kc mv lv ss ks l L w1 (h.blw hb) hk hv hL hLs (by omega)
  have HR := Lib.hid h
  clear h hk hL E
  generalize bs (textL L) = tx at *
  go_enter Tryz.func28, Tryz.ntmps28
  go_wp2_with (go_at_call 56; refine Hid.out ?_)
  refine Lib.hid ?_
  refine P.out.mono ?_
  clear P
  rintro _ w1 ⟨lv, rfl, hown, hb1⟩
  have hp := owns_isPairs hown
  have B1 := Lib.hid (BG.out w1 lv hb1 hp)
  obtain ⟨lo, lc, rfl, _⟩ := hp
  have HO := Lib.hid hown
  clear hown BG
  dsimp only
  go_wp2_with (go_at_call 62; refine Hid.out ?_)
  refine Lib.hid ?_
  refine B1.out.mono ?_
  clear B1
  rintro _ w2 ⟨rfl, hb2⟩
  have hb12 := blw_step hb1 hb2
  have HR2 := Lib.hid (HR.out.blw hb12)
  have HO2 := Lib.hid (owns_blw HO.out hb2)
  have z2 := HR2.out.blk.at (i := 2) (v := mv) rfl
  have f2 := HR2.out.blk.frozen 2
  have hRw := HR.out.blk.lt
  have HFIN : Hid (IsRun (w2.setCell ⟨R, 2, none⟩ (.slice lo L.length lc)) R kind (.slice ko ss.length kc) ss (.slice lo L.length lc) L ∧ Fr w (w2.setCell ⟨R, 2, none⟩ (.slice lo L.length lc)) R none ∧ ∀ b, (Value.slice lo L.length lc).ownBlock = some b → w.heap.size ≤ b) := by
    refine ⟨⟨HR2.out.blk.set 2 _, fun w' h' => HR2.out.keys w' (((Below.refl R w2).setCell (p := ⟨R, 2, none⟩) (Nat.le_refl _) _).trans h'), owns_putR (owns_lowR HO2.out hRw) (Nat.lt_succ_self _)⟩, (Fr.of_blw hb12 R none).put 2 _, fun b hb => (HO2.out.lt b hb).1⟩
  clear hb1 hb2 hb12 HR HO HO2 HR2
  dsimp only
  go_wp2
  go_ret
  exact ⟨lo, lc, rfl, HFIN.out⟩
end Go.Proofs.YtmgpacenooncjaaGreatDoor.Pp
/- Contract of pair.Check: what a pair may be. -/
namespace Go.Proofs.YtmgpacenooncjaaGreatDoor.Pp
open Go.ChangeShapes Go.WideShapes Go.ChangeAt Go.RowKit
def badB (p : ByteArray × Int) : Bool := decide (20 < p.1.size) || decide (p.2 < -1000000000) || decide (1000000000 < p.2)
def faultV (b : Bool) : Value := if b then .iface 70 (.int .i64 1) else .nilIface
def faultN (b : Bool) : Int := if b then 1 else 0
end Go.Proofs.YtmgpacenooncjaaGreatDoor.Pp
/- Contract of the document's PairFault. -/
namespace Go.Proofs.YtmgpacenooncjaaGreatDoor.Pp
open Go.ChangeShapes Go.WideShapes Go.ChangeAt Go.RowKit
end Go.Proofs.YtmgpacenooncjaaGreatDoor.Pp
/- Contract of threshfloorlaw.rising. Written by tpl/mk_rise.py. -/
namespace Go.Proofs.YtmgpacenooncjaaGreatDoor.Pp
open Go.ChangeShapes Go.WideShapes Go.ChangeAt Go.RowKit
open Stable
def RisesP (l : List (ByteArray × Int)) : Prop := ∀ k, 1 ≤ k → k < l.length → bl (key (pr l k)) (key (pr l (k - 1))) = false
theorem isPairs_some {w : World} {ao : Option Addr} {n cap : Nat} {l : List (ByteArray × Int)} (h : IsPairs w (.slice ao n cap) l) (hl : 0 < l.length) : ∃ b off, ao = some ⟨b, off, none⟩ ∧ ∀ i, i < l.length → w.cell? ⟨b, off + i * 2, none⟩ = some (.string (pr l i).1) ∧ w.cell? ⟨b, off + i * 2 + 1, none⟩ = some (.int .i64 (pr l i).2) := by
  obtain ⟨a, c, e, hc⟩ := h
  injection e with e1 e2 e3
  obtain ⟨b, off, ea, _⟩ := hc 0 hl
  refine ⟨b, off, e1.trans ea, fun i hi => ?_⟩
  obtain ⟨b', off', ea', c0, c1⟩ := hc i hi
  rw [ea] at ea'
  injection ea' with ea'
  injection ea' with e4 e5
  subst e4 e5
  rw [pr_eq l i hi] at c0 c1
  exact ⟨c0, c1⟩
end Go.Proofs.YtmgpacenooncjaaGreatDoor.Pp
/- Contract of threshfloorlaw.same: an error by its number. -/
namespace Go.Proofs.YtmgpacenooncjaaGreatDoor.Pp
open Go.ChangeShapes Go.WideShapes Go.ChangeAt Go.RowKit
theorem assert_err (n : Int) (w : World) : Sem.run Tryz.prog (Instr.typeAssert (Value.iface 70 (Value.int IntKind.i64 n)) 31 70 true) w = .ok (.tuple #[.int .i64 n, .bool true]) w := by kernel_rfl
set_option maxRecDepth 100000 in
theorem same_err (n : Int) (w : World) (h : 0 < n) : Calls Tryz.prog 11 #[.iface 70 (.int .i64 n), .int .i64 n] w fun e w' => e = .returned (.bool true) ∧ Below w.heap.size w w' := by
  have ta := assert_err n
  go_enter Tryz.func11, Tryz.ntmps11
  go_wp2
  go_ret
  exact ⟨rfl, Below.refl _ _⟩
set_option maxRecDepth 100000 in
theorem same_nil (w : World) : Calls Tryz.prog 11 #[.nilIface, .int .i64 0] w fun e w' => e = .returned (.bool true) ∧ Below w.heap.size w w' := by
  go_enter Tryz.func11, Tryz.ntmps11
  go_wp2
  go_ret
  exact ⟨rfl, Below.refl _ _⟩
end Go.Proofs.YtmgpacenooncjaaGreatDoor.Pp
/- Folders: what is known of the groups; the law's closed fact. -/
namespace Go.Proofs.YtmgpacenooncjaaGreatDoor.Pp
open Go.ChangeShapes Go.WideShapes Go.ChangeAt Go.RowKit
open Grp Stable
/-- A pair whose key is short, and whose value fits. -/
def Ok1 (p : ByteArray × Int) : Prop := p.1.size ≤ 1000 ∧ -9223372036854775808 ≤ p.2 ∧ p.2 ≤ 9223372036854775807
theorem two_fit (kind a b : Int) (ha : -9223372036854775808 ≤ a ∧ a ≤ 9223372036854775807) (hb : -9223372036854775808 ≤ b ∧ b ≤ 9223372036854775807) : -9223372036854775808 ≤ two kind a b ∧ two kind a b ≤ 9223372036854775807 := by
  unfold two
  split
  · omega
  · split
    · omega
    · rw [wrap_eq]
      have h1 := Int.le_bmod (x := a + b) (m := 18446744073709551616) (by decide)
      have h2 := Int.bmod_lt (x := a + b) (m := 18446744073709551616) (by decide)
      omega
theorem fits_step (kind : Int) (A : List (ByteArray × Int)) (p : ByteArray × Int) (hA : Fits A) (hp : Ok1 p) : Fits (Grp.step kind A p) := by
  rcases List.eq_nil_or_concat A with rfl | ⟨A, q, rfl⟩
  · intro r hr
    rw [step_nil, List.mem_singleton] at hr
    subst hr
    exact hp
  · rw [List.concat_eq_append] at *
    have hq := hA q (by simp)
    by_cases h : q.1 = p.1
    · rw [step_same _ _ _ _ h]
      intro r hr
      rcases List.mem_append.1 hr with hr | hr
      · exact hA r (by simp [hr])
      · rw [List.mem_singleton] at hr
        subst hr
        exact ⟨hq.1, two_fit kind _ _ hq.2 hp.2⟩
    · rw [step_other _ _ _ _ h]
      intro r hr
      rcases List.mem_append.1 hr with hr | hr
      · exact hA r hr
      · rw [List.mem_singleton] at hr
        subst hr
        exact hp
theorem fits_grp (kind : Int) (l : List (ByteArray × Int)) (h : Fits l) : Fits (grp kind l) := by
  have : ∀ (b A : List (ByteArray × Int)), Fits A → (∀ p ∈ b, Ok1 p) → Fits (b.foldl (Grp.step kind) A) := by
    intro b
    induction b with
    | nil => intro A hA _; exact hA
    | cons p b ih => intro A hA hb; exact ih _ (fits_step kind A p hA (hb p List.mem_cons_self)) (fun q hq => hb q (List.mem_cons_of_mem _ hq))
  exact this l [] (fun p hp => by cases hp) h
theorem fits_se {l m : List (ByteArray × Int)} (h : SE l m) (hl : Fits l) : Fits m := fun p hp => hl p (h.symm.mem hp)
theorem fits_take {l : List (ByteArray × Int)} (n : Nat) (h : Fits l) : Fits (l.take n) := fun p hp => h p (List.mem_of_mem_take hp)
theorem owns_cap {w : World} {base : Nat} {v : Value} {L : List (ByteArray × Int)} (h : w.ownsRow base 67 2 v L.length (cellsP L)) : ∃ a cap, v = .slice a L.length cap ∧ L.length ≤ cap := by
  rcases h.2 with ⟨rfl, h0⟩ | ⟨g, cap, cur, rfl, _, _, h4, _⟩
  · exact ⟨none, 0, by rw [h0], by omega⟩
  · exact ⟨some ⟨g, 0, none⟩, cap, rfl, h4⟩
/-- What is known behind New and a whole Step, of lists that are known. -/
theorem fresh_grp {w w' : World} {ls : List (List (ByteArray × Int))} {kind : Int} {R : Nat} {kv : Value} {Z : List (ByteArray × Int)} {ks : List ByteArray} {ss : List (List (ByteArray × Int))} (h : Fresh w w' ls kind R kv Z ks ss) {X : List (ByteArray × Int)} (hX : Sorted X) (hse : SE ls.flatten X) : Z = X ∧ ss.length = (grp kind X).length := by
  have e : Z = X := sorted_unique Z X h.sorted hX ((h.se.symm).trans hse)
  subst e
  exact ⟨rfl, by rw [← h.flat, segs_grp_len h.segs]⟩
def litF : List (ByteArray × Int) := [(⟨#[97]⟩, 2), (⟨#[97]⟩, 3)]
theorem litF_grp : grp 1 litF = [(⟨#[97]⟩, 5)] := by decide +kernel
theorem litF_sorted : Sorted litF := List.pairwise_cons.2 ⟨fun q hq => by rw [List.mem_singleton] at hq; subst hq; decide +kernel, List.pairwise_singleton _ _⟩
theorem litF_text : (bs (textL [(⟨#[97]⟩, 5)])).toList = [49, 58, 97, 32, 53, 10] := by rw [bs_toList]; decide +kernel
theorem litF_fits : Fits [((⟨#[97]⟩ : ByteArray), (5 : Int))] := by intro p hp; simp only [List.mem_singleton] at hp; subst hp; decide
end Go.Proofs.YtmgpacenooncjaaGreatDoor.Pp
/- Folding early: plain facts; bounds of what is made; what a whole run of a folder gives. -/
namespace Go.Proofs.YtmgpacenooncjaaGreatDoor
open Go.ChangeShapes Go.WideShapes Go.ChangeAt Go.RowKit
theorem tot_slice (fo : Int) (ns i : Nat) (k : List UInt8) (M : List (ByteArray × Int)) : Pp.Tot.tot fo k (inSlice ns i (Pp.Tot.srt M)) = if decide (sliceN ns k = i) = true then Pp.Tot.tot fo k M else none := by
  unfold inSlice
  rw [Pp.Tot.tot_filter fo k (fun k => decide (sliceN ns k = i)), Pp.Tot.tot_srt]
theorem tot_part (fo : Int) (ea : Bool) (ns i : Nat) (j : Jb) (k : List UInt8) (p : List (List UInt8)) : Pp.Tot.tot fo k (partOf fo ea ns i j p) = if decide (sliceN ns k = i) = true then Pp.Tot.tot fo k (madeOf j p) else none := by
  unfold partOf finL
  split
  · rw [Pp.Tot.tot_grp, tot_slice]
  · rw [tot_slice]
theorem tot_parts (fo : Int) (ea : Bool) (ns i : Nat) (j : Jb) (k : List UInt8) (ps : List (List (List UInt8))) : Pp.Tot.tot fo k ((ps.map (partOf fo ea ns i j)).flatten) = if decide (sliceN ns k = i) = true then Pp.Tot.tot fo k (madeOf j ps.flatten) else none := by
  induction ps with
  | nil => simp [madeOf, Pp.Tot.tot]
  | cons p ps ih =>
    rw [List.map_cons, List.flatten_cons, List.flatten_cons, Pp.Tot.tot_append, ih, tot_part, madeOf_append, Pp.Tot.tot_append]
    split
    · rfl
    · rfl
/-- What a slice of a job is, however its parts are cut, and folded early or not. -/
theorem early_grp (fo : Int) (ea : Bool) (ns i : Nat) (j : Jb) (ps : List (List (List UInt8))) (Z : List (ByteArray × Int)) (hs : Pp.Stable.Sorted Z) (he : Pp.Stable.SE ((ps.map (partOf fo ea ns i j)).flatten) Z) : Pp.Grp.grp fo Z = Pp.Grp.grp fo (inSlice ns i (Pp.Tot.srt (madeOf j ps.flatten))) := by
  refine Pp.Tot.grp_unique fo hs (Pp.Tot.Sorted.filter (Pp.Tot.srt_sorted _) _) fun k => ?_
  rw [← Pp.Tot.tot_se fo k he, tot_parts, tot_slice]
theorem parts_len (fo : Int) (ea : Bool) (ns i : Nat) (j : Jb) (ps : List (List (List UInt8))) : ((ps.map (partOf fo ea ns i j)).flatten).length ≤ (madeOf j ps.flatten).length := by
  induction ps with
  | nil => simp [madeOf]
  | cons p ps ih =>
    rw [List.map_cons, List.flatten_cons, List.flatten_cons, madeOf_append, List.length_append, List.length_append]
    have := part_len fo ea ns i j p
    omega
theorem inSlice_fits (ns i : Nat) {M : List (ByteArray × Int)} (h : Pp.Fits M) : Pp.Fits (inSlice ns i (Pp.Tot.srt M)) := fun p hp => h p (Pp.Tot.srt_mem.1 (List.mem_filter.1 hp).1)
/-- The texts of a job's slices. -/
def plainT (j : Jb) (ns : Nat) (lines : List (List UInt8)) : List ByteArray := (List.range ns).map fun i => bs (Pp.textL (Pp.Grp.grp j.fold (inSlice ns i (Pp.Tot.srt (madeOf j lines)))))
/-- A folder that was just made goes on to its end. -/
theorem fstep_all (R : Nat) (kind n : Int) (kv : Value) (w w1 : World) (ls : List (List (ByteArray × Int))) (Z : List (ByteArray × Int)) (ks : List ByteArray) (ss : List (List (ByteArray × Int))) (h : Pp.Fresh w w1 ls kind R kv Z ks ss) (hl : ls.flatten.length ≤ 60000) (hn0 : 60000 ≤ n) (hn1 : n ≤ 9223372036854775807) :
    Calls Tryz.prog 27 #[.pointer (some ⟨R, 0, none⟩), .int .i64 n] w1 fun e w' => e = .returned (.bool true) ∧ ∃ mv, Pp.IsRun w' R kind kv ss mv (Pp.Grp.grp kind Z) ∧ Below w.heap.size w w' := by
  obtain ⟨ko, kc, rfl⟩ : ∃ ko kc, kv = .slice ko ss.length kc := by
    obtain ⟨a, c, e, _⟩ := h.run.keys w1 (Below.refl _ _)
    exact ⟨a, c, e⟩
  have hM := Pp.segs_grp_len (kind := kind) h.segs
  rw [h.flat] at hM
  have hg := Pp.Grp.grp_len kind Z
  have hz : Z.length ≤ 60000 := by rw [h.len]; exact hl
  have hr : Pp.IsRun w1 R kind (.slice ko ss.length kc) ss (.slice none 0 0) ((Pp.Grp.grp kind Z).take 0) := by rw [List.take_zero]; exact h.run
  refine (Pp.step_any R 0 kind n ko kc ss ks none 0 (Pp.Grp.grp kind Z) w1 hr (by rw [h.flat]) h.segs (Nat.zero_le _) (by omega) (by rw [h.flat]; exact hz) (by omega) hn1).mono ?_
  rintro e w' ⟨a', mo, mc, ha, rfl, hr2, hF, ho⟩
  have e : a' = ss.length := by rw [ha]; omega
  subst e
  rw [List.take_of_length_le (Nat.le_of_eq hM)] at hr2
  refine ⟨by simp, _, hr2, ?_⟩
  exact h.bel.trans (hF.below h.bel.size h.low (fun b hb => by cases hb))
end Go.Proofs.YtmgpacenooncjaaGreatDoor
/- A job alone: a slice is folded, and told. Written by tpl/mk_pl.py. -/
namespace Go.Proofs.YtmgpacenooncjaaGreatDoor
open Go.ChangeShapes Go.WideShapes Go.ChangeAt Go.RowKit
theorem wp_lastP {c : Code} {Q : Exit → Act → World → Prop} {a : Act} {w : World} (h : c.wp Tryz.prog (Exit.then (fun a w => Q .normal a w) fun _ _ _ => False) a w) : c.wp Tryz.prog Q a w :=
  wp_mono h fun e a w hq => by
    cases e with
    | normal => exact hq
    | exit id => exact False.elim hq
    | goto l => exact False.elim hq
    | ret => exact False.elim hq
    | panic ch => exact False.elim hq
    | outgrown => exact False.elim hq
theorem infoStP : (Tryz.prog.info? 9).map (fun i => (i.zero, i.size, i.bytes)) = some (some (.string ⟨#[]⟩), 1, 16) := by kernel_rfl
/-- What one slice is, folded, as a text. -/
def outP (fo : Int) (L : List (ByteArray × Int)) : ByteArray := bs (Pp.textL (Pp.Grp.grp fo (Pp.Tot.srt L)))
/-- A job, slices as they were cut, texts told; nothing else of what was there has turned. -/
structure PO (w wr : World) (P sb : Nat) (jv us : List Value) (ls : List (List (ByteArray × Int))) (t : List ByteArray) (ov : Value) : Prop where
  org : Below w.heap.size w wr
  job : Blk wr P 24 jv
  lst : Blk wr sb 42 us
  prs : ∀ (k : Nat) (u : Value) (L : List (ByteArray × Int)), us[k]? = some u → ls[k]? = some L → wr.ownsRow w.heap.size 67 2 u L.length (Pp.cellsP L)
  out : wr.ownsRow w.heap.size 9 1 ov t.length (t.map Value.string)
theorem PO.below {w wr w' : World} {P sb : Nat} {jv us : List Value} {ls : List (List (ByteArray × Int))} {t : List ByteArray} {ov : Value} (h : PO w wr P sb jv us ls t ov) (hb : Below wr.heap.size wr w') : PO w w' P sb jv us ls t ov :=
  ⟨h.org.trans (hb.mono h.org.size), h.job.blw hb, h.lst.blw hb, fun k u L hu hL => ow_below (h.prs k u L hu hL) hb, ow_below h.out hb⟩
theorem PO.tell {w wr w' : World} {P sb : Nat} {jv us : List Value} {ls : List (List (ByteArray × Int))} {t t' : List ByteArray} {ov ov' : Value} (h : PO w wr P sb jv us ls t ov) (ho : w'.ownsRow w.heap.size 9 1 ov' t'.length (t'.map Value.string)) (hg : wr.grownBy w' ov.ownBlock) : PO w w' P sb jv us ls t' ov' :=
  ⟨h.org.grown hg h.org.size (fun g hg => (h.out.lt g hg).1), blk_ow h.job h.out (by decide) hg, blk_ow h.lst h.out (by decide) hg, fun k u L hu hL => ow_grown (h.prs k u L hu hL) h.out (by decide) hg, ho⟩
theorem one_list {w : World} {h : Nat} {u : Value} {L : List (ByteArray × Int)} (hc : w.cell? ⟨h, 0, none⟩ = some u) (hp : Pp.IsPairs w u L) : Pp.IsLists w (.slice (some ⟨h, 0, none⟩) 1 1) [L] :=
  ⟨some ⟨h, 0, none⟩, 1, rfl, fun i hi => by
    have e : i = 0 := by simpa using hi
    subst e
    exact ⟨h, 0, u, rfl, hc, hp⟩⟩
set_option maxRecDepth 1000000 in
set_option maxHeartbeats 4000000 in
theorem plain_l1 (w : World) (P sb i ns m : Nat) (fo : Int) (jv us : List Value) (ls : List (List (ByteArray × Int))) (t : List ByteArray) (u ov : Value) (L : List (ByteArray × Int)) (w0 : World) (K : Act → World → Prop) (s0 s1 s3 s4 s5 s6 s7 s9 s10 s11 s12 s13 s14 s15 s16 s17 s18 s19 s20 s21 s22 s23 s24 s25 s26 s27 s28 s29 s30 s31 s32 s33 s34 s35 s36 s37 s38 s39 s41 s43 s44 s45 s46 s47 s48 s49 s50 s51 s52 s53 s54 s55 s56 s57 s58 s59 s60 s61 s62 s63 s64 s65 s66 s67 s68 : Value)
    (HE : Hid (∀ w', Below w.heap.size w w' → Pp.EnvT w'))
    (hI : PO w w0 P sb jv us ls t ov)
    (hjv : jv[1]? = some (.int .i64 fo))
    (hfo : Pp.kindB fo = true)
    (hu : us[i]? = some u)
    (hL : ls[i]? = some L)
    (hlt : i < ns)
    (hm : m = t.length)
    (hml : m ≤ 1000)
    (hl2 : L.length ≤ 60000)
    (hft : Pp.Fits L)
    (HK : Hid (∀ (z4 z10 z11 z12 z44 z45 z46 z47 z48 z49 z50 z51 z52 z53 z54 z55 z56 z57 z58 z59 z60 z61 z62 : Value) (ov' : Value) (wx : World), PO w wx P sb jv us ls (t ++ [outP fo L]) ov' → K ⟨#[s0, s1, .pointer (some ⟨P, 0, none⟩), s3, z4, s5, s6, s7, ov', s9, z10, z11, z12, s13, s14, s15, s16, s17, s18, s19, s20, s21, s22, s23, s24, s25, s26, s27, s28, s29, s30, s31, s32, s33, s34, s35, s36, s37, s38, s39, .slice (some ⟨sb, 0, none⟩) ns ns, s41, .int .i64 (i : Int), s43, z44, z45, z46, z47, z48, z49, z50, z51, z52, z53, z54, z55, z56, z57, z58, z59, z60, z61, z62, s63, s64, s65, s66, s67, s68], []⟩ wx)) :
    Code.wp Tryz.prog (pieceIn Tryz.f5.body 1) (Exit.then K fun _ _ _ => False) ⟨#[s0, s1, .pointer (some ⟨P, 0, none⟩), s3, s4, s5, s6, s7, ov, s9, s10, s11, s12, s13, s14, s15, s16, s17, s18, s19, s20, s21, s22, s23, s24, s25, s26, s27, s28, s29, s30, s31, s32, s33, s34, s35, s36, s37, s38, s39, .slice (some ⟨sb, 0, none⟩) ns ns, s41, .int .i64 (i : Int), s43, s44, s45, s46, s47, s48, s49, s50, s51, s52, s53, s54, s55, s56, s57, s58, s59, s60, s61, s62, s63, s64, s65, s66, s67, s68], []⟩ w0 := by
  obtain ⟨i0, hi0, hz0, hz1, hz2⟩ := info_parts infoStP
  obtain ⟨ua, uc, rfl⟩ : ∃ ua uc, u = .slice ua L.length uc := by
    rcases row_slice (hI.prs i u L hu hL) with ⟨h1, h2⟩ | ⟨g, c, h1, _⟩
    · exact ⟨none, 0, by rw [h1, h2]⟩
    · exact ⟨_, c, h1⟩
  obtain ⟨un, hun⟩ : ∃ n, n = L.length := ⟨_, rfl⟩
  rw [← hun] at hu
  obtain ⟨tx, htx⟩ : ∃ tx, tx = outP fo L := ⟨_, rfl⟩
  have HTX := Lib.hid htx
  have NEW : Hid (∀ w' h, Below w0.heap.size w0 w' → w'.cell? ⟨h, 0, none⟩ = some (.slice ua un uc) → Calls Tryz.prog 26 #[.int .i64 fo, .slice (some ⟨h, 0, none⟩) 1 1] w' fun e w'' => ∃ R kv Z ks ss wb, e = .returned (.tuple #[.pointer (some ⟨R, 0, none⟩), .nilIface]) ∧ Hid (Pp.Fresh wb w'' [L] fo R kv Z ks ss) ∧ Hid (Below w0.heap.size w0 wb)) := fun w' h hb hc => by
    refine (Pp.new_ok fo _ [L] w' hfo (one_list hc (Pp.owns_isPairs ((hI.below hb).prs i _ L hu hL))) (by simp) (by simpa using hl2)).mono ?_
    rintro e w'' ⟨R, kv, Z, ks, ss, rfl, h⟩
    exact ⟨R, kv, Z, ks, ss, w', rfl, h, hb⟩
  have HI := Lib.hid hI
  have HM := Lib.hid hm
  have HFT := Lib.hid hft
  have HL2 := Lib.hid hl2
  have c1 := hI.job.at hjv
  have cg := hI.lst.at hu
  have HJV := Lib.hid hjv
  clear hI hm hft htx hu hL hjv hl2 hun
  conv => arg 2; whnf
  go_upto_region 14 with fail
  go_wp2_with (go_at_call 26; refine Hid.out ?_)
  refine Lib.hid ?_
  refine (NEW.out _ _ (below_box _) ((blk_new (w := w0) (cs := #[.slice ua un uc]) (t := 42) rfl).at (i := 0) rfl)).mono ?_
  rintro _ w1 ⟨R, kv, Z, ks, ss, wb, rfl, HF1, HB1⟩
  clear c1 cg NEW
  dsimp only
  go_wp2_with (go_at_call 27; refine Hid.out ?_)
  refine Lib.hid ?_
  refine (fstep_all R fo 1048576 kv wb w1 [L] Z ks ss HF1.out (by simpa using HL2.out) (by decide) (by decide)).mono ?_
  rintro _ w2 ⟨rfl, mv, hr2, hb2⟩
  have HR2 := Lib.hid hr2
  have hb02 := below_trans HB1.out hb2
  have hZ : Z = Pp.Tot.srt L := by
    have h := Pp.Tot.srt_eq HF1.out.sorted HF1.out.se
    simpa using h
  have I2 := Lib.hid (HI.out.below hb02)
  have OUT : Hid (∀ w', Below w2.heap.size w2 w' → Calls Tryz.prog 30 #[.pointer (some ⟨R, 0, none⟩)] w' fun e w'' => e = .returned (.string tx) ∧ Below w'.heap.size w' w'') := fun w' hb => by
    have hf : Pp.Fits (Pp.Grp.grp fo Z) := Pp.fits_grp fo Z (by rw [hZ]; exact fun p hp => HFT.out p (Pp.Tot.srt_mem.1 hp))
    have hl : (Pp.Grp.grp fo Z).length ≤ 60000 := by
      have h1 := Pp.Grp.grp_len fo Z
      have h2 := HL2.out
      rw [hZ, Pp.Tot.srt_len] at h1
      rw [hZ]
      omega
    have he : tx = bs (Pp.textL (Pp.Grp.grp fo Z)) := by rw [HTX.out, hZ]; rfl
    rw [he]
    exact Pp.out_anyT R fo kv mv ss (Pp.Grp.grp fo Z) w' (HE.out w' (I2.out.org.trans (hb.mono I2.out.org.size))) (HR2.out.blw hb) hf hl
  clear hr2 hb2 hb02 hZ HF1 HB1
  dsimp only
  go_wp2_with (go_at_call 30; refine Hid.out ?_)
  refine Lib.hid ?_
  refine (OUT.out _ (Below.refl _ _)).mono ?_
  rintro _ w3 ⟨rfl, hb3⟩
  have I3 := Lib.hid (I2.out.below hb3)
  have h03 := I3.out.org.size
  have hm2 := HM.out
  clear hb3 I2 OUT
  go_wp2_with (at_builtin; refine Hid.out ?_)
  refine Lib.hid ?_
  refine wpList_append_own _ rfl (.tmp 58) (.tmp 61) 25 rfl w.heap.size 9 i0 (.string ⟨#[]⟩) 1 16 Tryz.underlying25 hi0 hz0 hz1 hz2 rfl (by decide) ov _ _ rfl (I3.out.out.alloc _) ⟨w3.heap.size, 0, none⟩ 1 1 [.string tx] rfl rfl ?c1 (by intro q hq; simp at hq; subst hq; rfl) ?c2 ?c3 ?c4 ?_
  case c1 => exact World.news_of_block (B := w3.heap.size) (cs := #[.string tx]) (t := 9) (fr := (0, 0)) (by exact heap_alloc_new w3 _)
  case c2 => unfold maxLen; omega
  case c3 => omega
  case c4 => simp; omega
  intro v3 w6 hown6 hg6 _
  have P6 : Hid (PO w w6 P sb jv us ls (t ++ [outP fo L]) v3) := (I3.out.below (below_box _)).tell (by rw [← HTX.out, List.length_append, List.map_append]; exact hown6) hg6
  clear hown6 hg6 I3
  go_wp2
  exact HK.out _ _ _ _ _ _ _ _ _ _ _ _ _ _ _ _ _ _ _ _ _ _ _ v3 w6 P6.out
end Go.Proofs.YtmgpacenooncjaaGreatDoor
/- Contracts of the document's answer over expressions: noEnd, parts, shaped, ExprFault. -/
namespace Go.Proofs.YtmgpacenooncjaaGreatDoor
open Go.ChangeShapes Go.WideShapes Go.ChangeAt Go.RowKit
theorem at_bs (x : List UInt8) (j : Nat) (h : j < x.length) (hq : j < (bs x).size) : (bs x)[j]'hq = x[j]'h := by simp only [bs]; rfl
theorem byte_is {x : List UInt8} {j : Nat} (hq : j < (bs x).size) (c : UInt8) (n : Int) (hn : n = (c.toNat : Int)) : ((((bs x)[j]'hq).toNat : Int) == n) = decide (x[j]? = some c) := by
  have h : j < x.length := by rw [bs_size] at hq; exact hq
  rw [at_bs x j h hq, List.getElem?_eq_getElem h, hn]
  by_cases hc : x[j] = c
  · simp [hc]
  · rw [decide_eq_false (by simpa using hc), beq_eq_false_iff_ne]
    intro hh
    exact hc (UInt8.toNat_inj.1 (by omega))
set_option maxRecDepth 100000 in
theorem noEnd_any (s : List UInt8) (w : World) (hs : s.length ≤ 1000000000) :
    Calls Tryz.prog 39 #[.string (bs s)] w fun r w' => r = .returned (.bool (!s.contains 10)) ∧ w' = w := by
  have hsz : (bs s).size ≤ 1000000000 := by rw [bs_size]; exact hs
  have HS := Lib.hid (bs_size s)
  obtain ⟨R, hR⟩ : ∃ R, R = !s.contains 10 := ⟨_, rfl⟩
  rw [← hR]
  have HR := Lib.hid hR
  clear hR
  go_enter Tryz.func39, Tryz.ntmps39
  go_wp2
  go_loop [3] (fun iv => ∃ i : Nat, i ≤ (bs s).size ∧ iv = .int .i64 i ∧ Hid ((s.take i).contains 10 = false)) (fun iv => (bs s).size - (intOf iv).toNat)
  case atStart => exact ⟨0, Nat.zero_le _, rfl, (show _ = false from rfl)⟩
  case round =>
    obtain ⟨i, hi, rfl, hp⟩ := hrel
    by_cases hlt : i < (bs s).size
    · obtain ⟨x, hx⟩ : ∃ x, s[i]? = some x := ⟨s[i]'(by have := HS.out; omega), by simp⟩
      have hb := byte_is hlt 10 10 rfl
      by_cases hc : x = 10
      · subst hc
        rw [hx] at hb
        simp only [decide_true] at hb
        have hin : Hid (s.contains 10 = true) := by
          show _ = true
          rw [List.contains_iff_mem]
          exact List.mem_of_getElem? hx
        clear hx
        go_wp2
        go_ret
        have h2 := hin.out
        exact ⟨ret_bool (by rw [HR.out, h2]; rfl), rfl⟩
      · have hb2 : decide (s[i]? = some (10 : UInt8)) = false := by rw [hx]; simp [hc]
        rw [hb2] at hb
        have hnx : Hid ((s.take (i + 1)).contains 10 = false) := by
          show _ = false
          rw [take_snoc hx]
          have h3 := hp.out
          have hc' : ¬ (10 = x) := fun h => hc h.symm
          simp at h3 ⊢
          exact ⟨h3, hc'⟩
        clear hb2 hx
        go_wp2
        go_round
        case rel => exact ⟨i + 1, by omega, by go_num, hnx⟩
        case measure => simp [intOf]; omega
    · have hall : Hid (s.contains 10 = false) := by
        show _ = false
        have h3 := hp.out
        rw [List.take_of_length_le (by have := HS.out; omega)] at h3
        exact h3
      go_wp2
      go_ret
      have h2 := hall.out
      exact ⟨ret_bool (by rw [HR.out, h2]; rfl), rfl⟩
set_option maxRecDepth 100000 in
set_option maxHeartbeats 1000000 in
theorem parts_any {w : World} {sv : Value} {e : Ex} (h : IsEx w sv e) : e.wt ≤ 1000000000 → ∀ w', Below w.heap.size w w' →
    Calls Tryz.prog 71 #[e.val sv] w' fun r w'' => r = .returned (.tuple #[.int .i64 e.cnt, .int .i64 e.dep]) ∧ Below w'.heap.size w' w'' := by
  induction h using IsEx.ind with
  | mk k n s a cap l b off A ha hc kids ih =>
    intro hw w1 hb
    simp only [Ex.wt] at hw
    simp only [Ex.val, Ex.k, Ex.n, Ex.s, Ex.cnt, Ex.dep]
    have hl := len_wtL l
    have hcw : Ex.cnt.cntL l ≤ Ex.wt.wtL l := by
      clear hl hw hc kids ih ha
      induction l with
      | nil => simp [Ex.cnt.cntL]
      | cons x l ih => have := cnt_wt x; simp only [Ex.cnt.cntL, Ex.wt.wtL]; omega
    have hdw : Ex.dep.depL l ≤ Ex.cnt.cntL l := by
      clear hl hw hc kids ih ha hcw
      induction l with
      | nil => simp [Ex.dep.depL]
      | cons x l ih => have := dep_cnt x; simp only [Ex.cnt.cntL, Ex.dep.depL]; omega
    have HA := Lib.hid ha
    have HC := Lib.hid hc
    clear ha hc
    go_enter Tryz.func71, Tryz.ntmps71
    go_wp2
    go_loopw [4, 5, 6] (fun nv dv iv wr => ∃ (i c p : Nat), i ≤ l.length ∧ iv = .int .i64 i ∧ nv = .int .i64 c ∧ dv = .int .i64 p ∧ c ≤ 1 + Ex.cnt.cntL l ∧ p ≤ Ex.dep.depL l ∧ Hid (c = 1 + Ex.cnt.cntL (l.take i) ∧ p = Ex.dep.depL (l.take i)) ∧ Below w1.heap.size w1 wr ∧ wr.cell? ⟨w1.heap.size, 3, none⟩ = some (.slice a l.length cap)) (fun _ _ iv _ => l.length - (intOf iv).toNat)
    case atStart => exact ⟨0, 1, 0, Nat.zero_le _, rfl, rfl, rfl, by omega, by omega, ⟨rfl, rfl⟩, below_box _, by simp⟩
    case round =>
      obtain ⟨i, c, p, hi, rfl, rfl, rfl, hcl, hpl, hcp, hbr, cb⟩ := hrel
      by_cases hlt : i < l.length
      · obtain ⟨x, hx⟩ : ∃ x, l[i]? = some x := ⟨l[i], by simp⟩
        have ea := HA.out (by omega)
        subst ea
        have hbw := below_trans hb hbr
        obtain ⟨c0, c1, c2, c3⟩ := HC.out i x hx
        replace c0 := cell_below c0 hbw
        replace c1 := cell_below c1 hbw
        replace c2 := cell_below c2 hbw
        replace c3 := cell_below c3 hbw
        have I := Lib.hid (ih i x hx (by have := wt_kid hx; omega) wr hbw)
        have hn1 : Hid (c + x.cnt = 1 + Ex.cnt.cntL (l.take (i + 1)) ∧ max p x.dep = Ex.dep.depL (l.take (i + 1))) := by
          obtain ⟨h1, h2⟩ := hcp.out
          rw [h1, h2]
          exact ⟨by rw [cntL_take hx]; omega, by rw [depL_take hx]⟩
        have hc2 : c + x.cnt ≤ 1 + Ex.cnt.cntL l := by
          rw [hn1.out.1]
          have := cntL_le l (i + 1)
          omega
        have hp2 : max p x.dep ≤ Ex.dep.depL l := by
          rw [hn1.out.2]
          exact depL_le l (i + 1)
        clear hx ih
        unfold Ex.val at I
        generalize x.cnt = xc at *
        generalize x.dep = xd at *
        go_wp2_with (go_at_call 71; refine Hid.out ?_)
        refine Lib.hid ?_
        refine I.out.mono ?_
        rintro _ w2 ⟨rfl, hb2⟩
        have cb2 := cell_below cb hb2
        have hmx : max (p : Int) (xd : Int) = ((max p xd : Nat) : Int) := by omega
        clear c0 c1 c2 c3
        go_wp2
        go_roundw
        case rel => exact ⟨i + 1, c + xc, max p xd, by omega, by go_num, by go_num, by first | rfl | (rw [hmx]) | simp, hc2, hp2, hn1, below_trans hbr hb2, cb2⟩
        case measure => simp [intOf]; omega
      · have hfin : Hid (c = 1 + Ex.cnt.cntL l ∧ p = Ex.dep.depL l) := by
          have h1 := hcp.out
          rw [List.take_of_length_le (by omega)] at h1
          exact h1
        go_wp2
        go_ret2
        obtain ⟨h1, h2⟩ := hfin.out
        refine ⟨?_, hbr⟩
        rw [← h1, ← h2]
        simp
        omega
end Go.Proofs.YtmgpacenooncjaaGreatDoor
/- Contracts of the document's answer: Words, Str, Int over expressions that may be. -/
namespace Go.Proofs.YtmgpacenooncjaaGreatDoor
open Go.ChangeShapes Go.WideShapes Go.ChangeAt Go.RowKit
/-- Words so far, and the word that is begun. -/
def wst (acc : List (List UInt8)) (cur : List UInt8) : List UInt8 → List (List UInt8) × List UInt8
  | [] => (acc, cur)
  | b :: r => if b = 32 then wst (if cur = [] then acc else acc ++ [cur]) [] r else wst acc (cur ++ [b]) r
theorem wst_go (l : List UInt8) : ∀ acc cur, (wst acc cur l).1 ++ (if (wst acc cur l).2 = [] then [] else [(wst acc cur l).2]) = acc ++ wgo cur l := by
  induction l with
  | nil => intro acc cur; rfl
  | cons b r ih =>
    intro acc cur
    unfold wst wgo
    by_cases hb : b = 32
    · rw [if_pos hb, if_pos hb, ih]
      by_cases hc : cur = []
      · rw [if_pos hc, if_pos hc]
      · rw [if_neg hc, if_neg hc]; simp
    · rw [if_neg hb, if_neg hb, ih]
theorem wst_snoc (l : List UInt8) (b : UInt8) : ∀ acc cur, wst acc cur (l ++ [b]) = if b = 32 then ((if (wst acc cur l).2 = [] then (wst acc cur l).1 else (wst acc cur l).1 ++ [(wst acc cur l).2]), []) else ((wst acc cur l).1, (wst acc cur l).2 ++ [b]) := by
  induction l with
  | nil => intro acc cur; by_cases hb : b = 32 <;> by_cases hc : cur = [] <;> simp [wst, hb, hc]
  | cons x r ih =>
    intro acc cur
    simp only [List.cons_append, wst]
    split <;> exact ih _ _
theorem wst_len (l : List UInt8) : ∀ acc cur, (wst acc cur l).1.length ≤ acc.length + l.length ∧ (wst acc cur l).2.length ≤ cur.length + l.length := by
  induction l with
  | nil => intro acc cur; simp [wst]
  | cons b r ih =>
    intro acc cur
    unfold wst
    split
    · have h := ih (if cur = [] then acc else acc ++ [cur]) []
      have h2 : (if cur = [] then acc else acc ++ [cur]).length ≤ acc.length + 1 := by split <;> simp
      simp only [List.length_cons, List.length_nil] at h ⊢
      omega
    · have h := ih acc (cur ++ [b])
      simp only [List.length_cons, List.length_nil, List.length_append] at h ⊢
      omega
theorem bs_one (l : List UInt8) (k : Nat) (x : UInt8) (hx : l[k]? = some x) : (bs l).extract k (k + 1) = bs [x] := by
  obtain ⟨hk, rfl⟩ := List.getElem?_eq_some_iff.1 hx
  apply ByteArray.ext
  apply Array.ext'
  rw [ByteArray.data_extract]
  simp only [bs, Array.toList_extract, List.extract_eq_take_drop]
  simp [List.take_one, List.head?_drop, hk]
/-- Words so far at a place. -/
def wat (s : List UInt8) (i : Nat) : List (List UInt8) × List UInt8 := if i ≤ s.length then wst [] [] (s.take i) else (wordsL s, [])
theorem wat_zero (s : List UInt8) : wat s 0 = ([], []) := by simp [wat, wst]
theorem wat_some {s : List UInt8} {i : Nat} {x : UInt8} (hx : s[i]? = some x) : wat s (i + 1) = if x = 32 then ((if (wat s i).2 = [] then (wat s i).1 else (wat s i).1 ++ [(wat s i).2]), []) else ((wat s i).1, (wat s i).2 ++ [x]) := by
  have hi : i < s.length := (List.getElem?_eq_some_iff.1 hx).1
  have e1 : wat s i = wst [] [] (s.take i) := if_pos (by omega)
  have e2 : wat s (i + 1) = wst [] [] (s.take (i + 1)) := if_pos (by omega)
  rw [e1, e2, take_snoc hx, wst_snoc]
theorem wat_end {s : List UInt8} {i : Nat} (hi : i = s.length) : wat s (i + 1) = ((if (wat s i).2 = [] then (wat s i).1 else (wat s i).1 ++ [(wat s i).2]), []) := by
  have h := wst_go s [] []
  have e1 : wat s i = wst [] [] s := by
    have e0 : wat s i = wst [] [] (s.take i) := if_pos (by omega)
    rw [e0, List.take_of_length_le (by omega)]
  have e2 : wat s (i + 1) = (wordsL s, []) := if_neg (by omega)
  rw [e1, e2]
  have h2 : wordsL s = (wst [] [] s).1 ++ (if (wst [] [] s).2 = [] then [] else [(wst [] [] s).2]) := by rw [h]; rfl
  rw [h2]
  by_cases hc : (wst [] [] s).2 = [] <;> simp [hc]
theorem wat_all (s : List UInt8) (i : Nat) (h : s.length < i) : wat s i = (wordsL s, []) := by unfold wat; rw [if_neg (by omega)]
theorem wat_len (s : List UInt8) (i : Nat) : (wat s i).1.length ≤ s.length ∧ (wat s i).2.length ≤ s.length := by
  unfold wat
  split
  · have h := wst_len (s.take i) [] []
    rw [List.length_take] at h
    simp only [List.length_nil] at h
    omega
  · exact ⟨words_len s, by simp⟩
set_option maxRecDepth 100000 in
set_option maxHeartbeats 2000000 in
theorem rwords_own (s : List UInt8) (w : World) (hs : s.length ≤ 1000000) :
    Calls Tryz.prog 43 #[.string (bs s)] w fun e w' => ∃ a cap, e = .returned (.slice a (wordsL s).length cap) ∧ Hid (w'.ownsRow w.heap.size 9 1 (.slice a (wordsL s).length cap) (wordsL s).length (strs (wordsL s))) ∧ Below w.heap.size w w' := by
  obtain ⟨i0, hi, hz0, hz1, hz2⟩ := info_parts infoStr
  have hsz : (bs s).size ≤ 1000000 := by rw [bs_size]; exact hs
  have HS := Lib.hid (bs_size s)
  go_enter Tryz.func43, Tryz.ntmps43
  go_wp2
  go_loopw [3, 4, 5] (fun lv cv iv wr => ∃ (i : Nat) (acc : List (List UInt8)) (cur : List UInt8), i ≤ (bs s).size + 1 ∧ iv = .int .i64 i ∧ cv = .string (bs cur) ∧ Hid (wat s i = (acc, cur)) ∧ acc.length ≤ 1000000 ∧ (bs cur).size ≤ 1000000 ∧ wr.ownsRow w.heap.size 9 1 lv acc.length (strs acc) ∧ Below w.heap.size w wr) (fun _ _ iv _ => (bs s).size + 1 - (intOf iv).toNat)
  case atStart => exact ⟨0, [], [], Nat.zero_le _, rfl, rfl, wat_zero s, by simp, by decide, World.ownsRow_nil _ _ _ _, Below.refl _ _⟩
  case round =>
    obtain ⟨i, acc, cur, hil, rfl, rfl, HWA, hal, hcl, hown, hb⟩ := hrel
    by_cases hend : (bs s).size < i
    · have hfin : Hid (acc = wordsL s) := by
        show _ = _
        have h1 := HWA.out
        rw [wat_all s i (by have := HS.out; omega)] at h1
        injection h1 with h1 h2
        exact h1.symm
      have h1 := hown
      rw [hfin.out] at h1
      have hfv := Lib.hid h1
      have hft := isTexts_of h1
      clear h1 hown
      obtain ⟨a, cap, hv, _⟩ := hft
      rw [List.length_map] at hv
      subst hv
      go_wp2
      go_ret
      exact ⟨a, cap, rfl, hfv, hb⟩
    by_cases hlt : i < (bs s).size
    · obtain ⟨x, hx⟩ : ∃ x, s[i]? = some x := ⟨s[i]'(by have := HS.out; omega), by simp⟩
      have hby := byte_is hlt 32 32 rfl
      by_cases hc : x = 32
      · have hb2 : decide (s[i]? = some (32 : UInt8)) = true := by rw [hx, hc]; simp
        rw [hb2] at hby
        have HNX := Lib.hid (wat_some hx)
        have HNL := Lib.hid (wat_len s (i + 1))
        have HPU : Hid (wat s (i + 1) = ((if cur = [] then acc else acc ++ [cur]), [])) := by
          show _ = _
          rw [HNX.out, if_pos hc, HWA.out]
        clear hb2 hx HNX
        cases hcur : cur with
        | nil =>
          subst hcur
          have hT : (bs []).toList.isEmpty = true := by rw [bs_toList]; rfl
          have HP2 : Hid (wat s (i + 1) = (acc, [])) := by
            have h1 := HPU.out
            rw [if_pos rfl] at h1
            exact h1
          clear HPU
          go_wp2
          go_roundw
          case rel => exact ⟨i + 1, acc, [], by omega, by go_num, rfl, HP2, hal, by decide, hown, hb⟩
          case measure => simp [intOf]; omega
        | cons c0 c1 =>
          rw [← hcur]
          have hT : (bs cur).toList.isEmpty = false := by rw [bs_toList, hcur]; rfl
          have HP2 : Hid (wat s (i + 1) = (acc ++ [cur], [])) := by
            have h1 := HPU.out
            rw [if_neg (by rw [hcur]; simp)] at h1
            exact h1
          have hal2 : (acc ++ [cur]).length ≤ 1000000 := by
            have h1 := HNL.out.1
            rw [HP2.out] at h1
            exact Nat.le_trans h1 hs
          clear HPU hcur
          go_wp2_with (at_builtin; refine Hid.out ?_)
          refine Lib.hid ?_
          have hbs := hb.size
          refine wpList_append_own _ rfl (.tmp 31) (.tmp 33) 25 rfl w.heap.size 9 i0 (.string ⟨#[]⟩) 1 16 Tryz.underlying25 hi hz0 hz1 hz2 rfl (by decide) _ _ _ rfl (hown.alloc _) ⟨wr.heap.size, 0, none⟩ 1 1 (strs [cur]) rfl rfl ?c1 (strs_one _) ?c2 ?c3 ?c4 ?_
          case c1 => exact lit_cells rfl (show 1 ≤ maxLen by decide)
          case c2 => unfold maxLen; omega
          case c3 => omega
          case c4 => simp; omega
          intro v2 w2 hown2 hg2 _
          have hb2 : Below w.heap.size w w2 := (hb.alloc (by omega) _).grown hg2 (by simp; omega) (fun k hk => (hown.lt k hk).1)
          have hown3 : Hid (w2.ownsRow w.heap.size 9 1 v2 (acc ++ [cur]).length (strs (acc ++ [cur]))) := by
            show World.ownsRow _ _ _ _ _ _ _
            rw [strs_append, List.length_append]
            exact hown2
          clear hown hown2 hg2 hb
          go_wp2
          go_roundw
          case rel => exact ⟨i + 1, acc ++ [cur], [], by omega, by go_num, rfl, HP2, hal2, by decide, hown3.out, hb2⟩
          case measure => simp [intOf]; omega
      · have hb2 : decide (s[i]? = some (32 : UInt8)) = false := by rw [hx]; simp [hc]
        rw [hb2] at hby
        have HNX := Lib.hid (wat_some hx)
        have HNL := Lib.hid (wat_len s (i + 1))
        have HPU : Hid (wat s (i + 1) = (acc, cur ++ [x])) := by
          show _ = _
          rw [HNX.out, if_neg hc, HWA.out]
        have hcl2 : (bs (cur ++ [x])).size ≤ 1000000 := by
          have h1 := HNL.out.2
          rw [HPU.out] at h1
          rw [bs_size]
          exact Nat.le_trans h1 hs
        obtain ⟨j, hj⟩ : ∃ j, j = i + 1 := ⟨_, rfl⟩
        have hj1 : (i : Int) + 1 = (j : Int) := by omega
        have hj2 : i ≤ j := by omega
        have hj3 : j ≤ (bs s).size := by omega
        have hj4 : i < j := by omega
        have HEX := Lib.hid (bs_one s i x hx)
        rw [← hj] at HEX HPU
        have HAP : Hid (bs cur ++ bs [x] = bs (cur ++ [x])) := bs_append _ _
        have h1s : ((bs s).extract i j).size = 1 := by rw [HEX.out]; rfl
        clear hb2 hx HNX hj HNL
        have n1 : ¬ 9223372036854775807 < (bs cur).size + 1 := by omega
        go_wp2
        go_roundw
        case rel => exact ⟨j, acc, cur ++ [x], by omega, rfl, by rw [← HAP.out, ← HEX.out], HPU, hal, hcl2, hown, hb⟩
        case measure => simp [intOf]; omega
    · have HNL := Lib.hid (wat_len s (i + 1))
      have HPU : Hid (wat s (i + 1) = ((if cur = [] then acc else acc ++ [cur]), [])) := by
        show _ = _
        rw [wat_end (by have := HS.out; omega), HWA.out]
      cases hcur : cur with
      | nil =>
        subst hcur
        have hT : (bs []).toList.isEmpty = true := by rw [bs_toList]; rfl
        have HP2 : Hid (wat s (i + 1) = (acc, [])) := by
          have h1 := HPU.out
          rw [if_pos rfl] at h1
          exact h1
        clear HPU
        go_wp2
        go_roundw
        case rel => exact ⟨i + 1, acc, [], by omega, by go_num, rfl, HP2, hal, by decide, hown, hb⟩
        case measure => simp [intOf]; omega
      | cons c0 c1 =>
        rw [← hcur]
        have hT : (bs cur).toList.isEmpty = false := by rw [bs_toList, hcur]; rfl
        have HP2 : Hid (wat s (i + 1) = (acc ++ [cur], [])) := by
          have h1 := HPU.out
          rw [if_neg (by rw [hcur]; simp)] at h1
          exact h1
        have hal2 : (acc ++ [cur]).length ≤ 1000000 := by
          have h1 := HNL.out.1
          rw [HP2.out] at h1
          exact Nat.le_trans h1 hs
        clear HPU hcur
        go_wp2_with (at_builtin; refine Hid.out ?_)
        refine Lib.hid ?_
        have hbs := hb.size
        refine wpList_append_own _ rfl (.tmp 31) (.tmp 33) 25 rfl w.heap.size 9 i0 (.string ⟨#[]⟩) 1 16 Tryz.underlying25 hi hz0 hz1 hz2 rfl (by decide) _ _ _ rfl (hown.alloc _) ⟨wr.heap.size, 0, none⟩ 1 1 (strs [cur]) rfl rfl ?c1 (strs_one _) ?c2 ?c3 ?c4 ?_
        case c1 => exact lit_cells rfl (show 1 ≤ maxLen by decide)
        case c2 => unfold maxLen; omega
        case c3 => omega
        case c4 => simp; omega
        intro v2 w2 hown2 hg2 _
        have hb2 : Below w.heap.size w w2 := (hb.alloc (by omega) _).grown hg2 (by simp; omega) (fun k hk => (hown.lt k hk).1)
        have hown3 : Hid (w2.ownsRow w.heap.size 9 1 v2 (acc ++ [cur]).length (strs (acc ++ [cur]))) := by
          show World.ownsRow _ _ _ _ _ _ _
          rw [strs_append, List.length_append]
          exact hown2
        clear hown hown2 hg2 hb
        go_wp2
        go_roundw
        case rel => exact ⟨i + 1, acc ++ [cur], [], by omega, by go_num, rfl, HP2, hal2, by decide, hown3.out, hb2⟩
        case measure => simp [intOf]; omega
theorem rwords_any (s : List UInt8) (w : World) (hs : s.length ≤ 1000000) :
    Calls Tryz.prog 43 #[.string (bs s)] w fun e w' => ∃ a cap, e = .returned (.slice a (wordsL s).length cap) ∧ Hid (IsTexts w' (.slice a (wordsL s).length cap) ((wordsL s).map bs)) ∧ Below w.heap.size w w' :=
  (rwords_own s w hs).mono fun _ _ ⟨a, c, h1, h2, h3⟩ => ⟨a, c, h1, isTexts_of h2.out, h3⟩
end Go.Proofs.YtmgpacenooncjaaGreatDoor
/- Contracts of the document's answer: Str and Int of expressions that may be. Made out of ExT's by program. -/
namespace Go.Proofs.YtmgpacenooncjaaGreatDoor
open Go.ChangeShapes Go.WideShapes Go.ChangeAt Go.RowKit
/-- A record, and the word of it that is looked at. -/
def rc (line it : List UInt8) : Rc := ⟨line, it, wordsL line⟩
set_option maxRecDepth 100000 in
set_option maxHeartbeats 1000000 in
theorem rstr_any (line it : List UInt8) (hline : line.length ≤ 1000000) (each : Bool) {w : World} {sv : Value} {e : Ex} (h : IsEx w sv e) : e.ok true each = true → e.len (rc line it) ≤ 1000000000 → ∀ w', Below w.heap.size w w' →
    Calls Tryz.prog 44 #[e.val sv, .string (bs line), .string (bs it)] w' fun r w'' => r = .returned (.string (bs (e.str (rc line it)))) ∧ Below w'.heap.size w' w'' := by
  have hmix : Tryz.prog.follows .mixedOrders = true := by kernel_rfl
  induction h using IsEx.ind with
  | mk k n s a cap l b off A ha hc kids ih =>
    intro hok hlen w1 hb
    have HA := Lib.hid ha
    have HC := Lib.hid hc
    have hcase := ok_text hok
    clear ha hc hok kids
    simp only [Ex.val, Ex.k, Ex.n, Ex.s]
    rcases hcase with rfl | rfl | ⟨rfl, h0, h1⟩ | rfl | ⟨rfl, hl2, hok2⟩ | ⟨rfl, hl1, h0, h1, hok1⟩
    · go_enter Tryz.func44, Tryz.ntmps44
      go_wp2
      go_ret
      exact ⟨rfl, below_box _⟩
    · go_enter Tryz.func44, Tryz.ntmps44
      go_wp2
      go_ret
      exact ⟨rfl, below_box _⟩
    · obtain ⟨m, rfl⟩ : ∃ m : Nat, n = (m : Int) := ⟨n.toNat, by omega⟩
      have WD := Lib.hid (fun w => rwords_any line w hline)
      go_enter Tryz.func44, Tryz.ntmps44
      go_wp2_with (go_at_call 43; refine Hid.out ?_)
      refine Lib.hid ?_
      refine (WD.out _).mono ?_
      rintro _ w2 ⟨ra, rcp, rfl, HT, hb2⟩
      have e1 := cell_below (a := ⟨w1.heap.size, 1, none⟩) (v := .int .i64 m) (by simp) hb2
      have hb3 := below_trans (below_box _) hb2
      clear hb2
      cases hx : (wordsL line)[m]? with
      | none =>
        have hm : (wordsL line).length ≤ m := by simpa using hx
        have HV : Hid (bs ((Ex.mk 3 m s l).str (rc line it)) = ⟨#[]⟩) := by
          show _ = _
          simp [Ex.str, rc, hx]; rfl
        clear hx
        generalize (wordsL line).length = nw at *
        go_wp2
        go_ret
        exact ⟨by rw [HV.out]; rfl, hb3⟩
      | some x =>
        have hm : m < (wordsL line).length := (List.getElem?_eq_some_iff.1 hx).1
        obtain ⟨bb, oo, rfl, cc⟩ := texts_get HT.out m x hx
        have HV : Hid (bs ((Ex.mk 3 m s l).str (rc line it)) = bs x) := by
          show _ = _
          simp [Ex.str, rc, hx]
        clear hx HT
        generalize (wordsL line).length = nw at *
        go_wp2
        go_ret
        exact ⟨by rw [HV.out]; rfl, hb3⟩
    · go_enter Tryz.func44, Tryz.ntmps44
      go_wp2
      go_ret
      exact ⟨rfl, below_box _⟩
    · obtain ⟨x, y, rfl⟩ := two_of hl2
      simp only [Ex.ok.okL, Bool.and_true, Bool.and_eq_true] at hok2
      have hlen2 : x.len (rc line it) + y.len (rc line it) ≤ 1000000000 := by simpa [Ex.len, Ex.len.lenL] using hlen
      have ea := HA.out (by simp)
      subst ea
      obtain ⟨w2, hw2⟩ : ∃ w2, w2 = w1.alloc (.cells #[.int .i64 5, .int .i64 n, .string (bs s), .slice (some ⟨b, off, none⟩) 2 cap] 56) := ⟨_, rfl⟩
      have hbx : Below w1.heap.size w1 w2 := by rw [hw2]; exact below_box _
      have hbw := below_trans hb hbx
      have D1 : Hid (∀ d os, Calls Tryz.prog 44 #[x.val (A 0), .string (bs line), .string (bs it)] (Sort.grow (redrawn w2 d) os) fun e w'' => e = .returned (.string (bs (x.str (rc line it)))) ∧ ∃ p : Regrown, w'' = Sort.grow (redrawn w2 p.d) p.os) := fun d os => Calls.regrown_of (ih 0 x rfl hok2.1 (by omega) _ (below_trans hbw (below_regrown _ _ _)))
      have D2 : Hid (∀ d os, Calls Tryz.prog 44 #[y.val (A 1), .string (bs line), .string (bs it)] (Sort.grow (redrawn w2 d) os) fun e w'' => e = .returned (.string (bs (y.str (rc line it)))) ∧ ∃ p : Regrown, w'' = Sort.grow (redrawn w2 p.d) p.os) := fun d os => Calls.regrown_of (ih 1 y rfl hok2.2 (by omega) _ (below_trans hbw (below_regrown _ _ _)))
      obtain ⟨c0, c1, c2, c3⟩ := HC.out 0 x rfl
      obtain ⟨d0, d1, d2, d3⟩ := HC.out 1 y rfl
      simp at c0 c1 c2 c3 d0 d1 d2 d3
      replace c0 := cell_regrown (cell_below c0 hbw)
      replace c1 := cell_regrown (cell_below c1 hbw)
      replace c2 := cell_regrown (cell_below c2 hbw)
      replace c3 := cell_regrown (cell_below c3 hbw)
      replace d0 := cell_regrown (cell_below d0 hbw)
      replace d1 := cell_regrown (cell_below d1 hbw)
      replace d2 := cell_regrown (cell_below d2 hbw)
      replace d3 := cell_regrown (cell_below d3 hbw)
      have e3 : w2.cell? ⟨w1.heap.size, 3, none⟩ = some (.slice (some ⟨b, off, none⟩) 2 cap) := by rw [hw2]; simp
      replace e3 := cell_regrown e3
      have sx := str_len (rc line it) x
      have sy := str_len (rc line it) y
      rw [← bs_size] at sx sy
      have HE : Hid (bs (x.str (rc line it)) ++ bs (y.str (rc line it)) = bs ((Ex.mk 5 n s [x, y]).str (rc line it))) := by
        show _ = _
        rw [bs_append]
        simp [Ex.str, Ex.str.strL]
      unfold Ex.val at D1 D2
      have HW2 := Lib.hid hw2
      have HBX := Lib.hid hbx
      clear hw2 hbx hbw ih HC HA hok2 hlen
      generalize x.k = xk at *
      generalize x.n = xn at *
      generalize bs x.s = xs at *
      generalize A 0 = xa at *
      generalize y.k = yk at *
      generalize y.n = yn at *
      generalize bs y.s = ys at *
      generalize A 1 = ya at *
      generalize bs (x.str (rc line it)) = X at *
      generalize bs (y.str (rc line it)) = Y at *
      have n1 : ¬ 9223372036854775807 < X.size + Y.size := by omega
      go_enter Tryz.func44, Tryz.ntmps44
      go_wp2
      rw [← HW2.out]
      refine wp_region_quiet_below hmix (by kernel_rfl) ?_
      repeat (quiet_step (first | (go_at_call_of 44 (Value.agg #[Value.int IntKind.i64 yk, Value.int IntKind.i64 yn, Value.string ys, ya]); exact D2.out _ _) | (go_at_call 44; exact D1.out _ _)))
      refine wpQuiet_nil ?_
      intro _ hw'
      obtain ⟨⟨dq, osq⟩, hw''⟩ := hw'
      subst hw''
      have hbb : Below w1.heap.size w1 (Sort.grow (redrawn w2 dq) osq) := below_trans HBX.out (below_regrown w2 dq osq)
      generalize Sort.grow (redrawn w2 dq) osq = w3 at *
      go_wp2
      go_ret
      exact ⟨by rw [← HE.out]; rfl, hbb⟩
    · obtain ⟨x, rfl⟩ := one_of hl1
      obtain ⟨m, rfl⟩ : ∃ m : Nat, n = (m : Int) := ⟨n.toNat, by omega⟩
      simp only [Ex.ok.okL, Bool.and_true] at hok1
      have hlen2 : x.len (rc line it) ≤ 1000000000 := by simpa [Ex.len, Ex.len.lenL] using hlen
      have ea := HA.out (by simp)
      subst ea
      obtain ⟨w2, hw2⟩ : ∃ w2, w2 = w1.alloc (.cells #[.int .i64 6, .int .i64 m, .string (bs s), .slice (some ⟨b, off, none⟩) 1 cap] 56) := ⟨_, rfl⟩
      have hbx : Below w1.heap.size w1 w2 := by rw [hw2]; exact below_box _
      have hbw := below_trans hb hbx
      have D1 := Lib.hid (ih 0 x rfl hok1 (by omega) w2 hbw)
      obtain ⟨c0, c1, c2, c3⟩ := HC.out 0 x rfl
      simp at c0 c1 c2 c3
      replace c0 := cell_below c0 hbw
      replace c1 := cell_below c1 hbw
      replace c2 := cell_below c2 hbw
      replace c3 := cell_below c3 hbw
      have sx := str_len (rc line it) x
      rw [← bs_size] at sx
      have HE : Hid ((bs (x.str (rc line it))).extract 0 m = bs ((Ex.mk 6 m s [x]).str (rc line it))) := by
        show _ = _
        rw [bs_take]
        simp [Ex.str, Ex.str.strL]
      have HF : Hid ((bs (x.str (rc line it))).size ≤ m → bs (x.str (rc line it)) = bs ((Ex.mk 6 m s [x]).str (rc line it))) := by
        show _ → _
        intro hh
        rw [bs_size] at hh
        simp [Ex.str, Ex.str.strL, List.take_of_length_le hh]
      unfold Ex.val at D1
      rw [hw2] at c0 c1 c2 c3
      have HW2 := Lib.hid hw2
      have HBX := Lib.hid hbx
      clear hw2 hbx hbw ih HC HA hok1 hlen
      generalize x.k = xk at *
      generalize x.n = xn at *
      generalize bs x.s = xs at *
      generalize A 0 = xa at *
      generalize bs (x.str (rc line it)) = X at *
      go_enter Tryz.func44, Tryz.ntmps44
      go_wp2_with (go_at_call 44; refine Hid.out ?_)
      refine Lib.hid ?_
      rw [← HW2.out]
      refine D1.out.mono ?_
      rintro _ w3 ⟨rfl, hb3⟩
      have e1 := cell_below (a := ⟨w1.heap.size, 1, none⟩) (v := .int .i64 m) (by rw [HW2.out]; simp) hb3
      have hbb := below_trans HBX.out hb3
      clear c0 c1 c2 c3 D1 hb3
      by_cases hm : m < X.size
      · go_wp2
        go_ret
        exact ⟨by rw [← HE.out]; rfl, hbb⟩
      · go_wp2
        go_ret
        exact ⟨by rw [← HF.out (by omega)]; rfl, hbb⟩
set_option maxRecDepth 100000 in
set_option maxHeartbeats 1000000 in
theorem rint_any (line it : List UInt8) (hline : line.length ≤ 1000000) (each : Bool) {w : World} {sv : Value} {e : Ex} (h : IsEx w sv e) : e.ok false each = true → e.far (rc line it) ≤ 1000000000 → ∀ w', Below w.heap.size w w' →
    Calls Tryz.prog 45 #[e.val sv, .string (bs line), .string (bs it)] w' fun r w'' => r = .returned (.int .i64 (e.num (rc line it))) ∧ Below w'.heap.size w' w'' := by
  have hmix : Tryz.prog.follows .mixedOrders = true := by kernel_rfl
  induction h using IsEx.ind with
  | mk k n s a cap l b off A ha hc kids ih =>
    intro hok hfar w1 hb
    have HA := Lib.hid ha
    have HC := Lib.hid hc
    have hcase := ok_num hok
    have KS := Lib.hid (fun i x hx => rstr_any line it hline each (kids i x hx))
    clear ha hc hok kids
    simp only [Ex.val, Ex.k, Ex.n, Ex.s]
    rcases hcase with rfl | ⟨rfl, hl1, hok1⟩ | rfl | ⟨rfl, hl2, hok2⟩
    · go_enter Tryz.func45, Tryz.ntmps45
      go_wp2
      go_ret
      exact ⟨rfl, below_box _⟩
    · obtain ⟨x, rfl⟩ := one_of hl1
      simp only [Ex.ok.okL, Bool.and_true] at hok1
      have hlen2 : x.len (rc line it) ≤ 1000000000 := by simpa [Ex.far, Ex.len.lenL] using hfar
      have ea := HA.out (by simp)
      subst ea
      obtain ⟨w2, hw2⟩ : ∃ w2, w2 = w1.alloc (.cells #[.int .i64 8, .int .i64 n, .string (bs s), .slice (some ⟨b, off, none⟩) 1 cap] 56) := ⟨_, rfl⟩
      have hbx : Below w1.heap.size w1 w2 := by rw [hw2]; exact below_box _
      have hbw := below_trans hb hbx
      have D1 := Lib.hid (KS.out 0 x rfl hok1 (by omega) w2 hbw)
      obtain ⟨c0, c1, c2, c3⟩ := HC.out 0 x rfl
      simp at c0 c1 c2 c3
      replace c0 := cell_below c0 hbw
      replace c1 := cell_below c1 hbw
      replace c2 := cell_below c2 hbw
      replace c3 := cell_below c3 hbw
      have sx := str_len (rc line it) x
      rw [← bs_size] at sx
      have HE : Hid (((bs (x.str (rc line it))).size : Int) = (Ex.mk 8 n s [x]).num (rc line it)) := by
        show _ = _
        rw [bs_size]
        simp [Ex.num, Ex.str.strL]
      unfold Ex.val at D1
      rw [hw2] at c0 c1 c2 c3
      have HW2 := Lib.hid hw2
      have HBX := Lib.hid hbx
      clear hw2 hbx hbw ih HC HA hok1 hfar KS
      generalize x.k = xk at *
      generalize x.n = xn at *
      generalize bs x.s = xs at *
      generalize A 0 = xa at *
      generalize bs (x.str (rc line it)) = X at *
      go_enter Tryz.func45, Tryz.ntmps45
      go_wp2_with (go_at_call 44; refine Hid.out ?_)
      refine Lib.hid ?_
      rw [← HW2.out]
      refine D1.out.mono ?_
      rintro _ w3 ⟨rfl, hb3⟩
      have hbb := below_trans HBX.out hb3
      clear c0 c1 c2 c3 D1 hb3
      go_wp2
      go_ret
      exact ⟨by rw [← HE.out]; rfl, hbb⟩
    · have WD := Lib.hid (fun w => rwords_any line w hline)
      have HV : Hid ((Ex.mk 9 n s l).num (rc line it) = ((wordsL line).length : Int)) := by
        show _ = _
        simp [Ex.num, rc]
      generalize (Ex.mk 9 n s l).num (rc line it) = V at *
      go_enter Tryz.func45, Tryz.ntmps45
      go_wp2_with (go_at_call 43; refine Hid.out ?_)
      refine Lib.hid ?_
      refine (WD.out _).mono ?_
      rintro _ w2 ⟨ra, rcp, rfl, HT, hb2⟩
      go_wp2
      go_ret
      exact ⟨by rw [HV.out]; rfl, below_trans (below_box _) hb2⟩
    · obtain ⟨x, y, rfl⟩ := two_of hl2
      simp only [Ex.ok.okL, Bool.and_true, Bool.and_eq_true] at hok2
      have hlen2 : x.far (rc line it) + y.far (rc line it) ≤ 1000000000 := by simpa [Ex.far, Ex.far.farL] using hfar
      have ea := HA.out (by simp)
      subst ea
      obtain ⟨w2, hw2⟩ : ∃ w2, w2 = w1.alloc (.cells #[.int .i64 10, .int .i64 n, .string (bs s), .slice (some ⟨b, off, none⟩) 2 cap] 56) := ⟨_, rfl⟩
      have hbx : Below w1.heap.size w1 w2 := by rw [hw2]; exact below_box _
      have hbw := below_trans hb hbx
      have D1 : Hid (∀ d os, Calls Tryz.prog 45 #[x.val (A 0), .string (bs line), .string (bs it)] (Sort.grow (redrawn w2 d) os) fun e w'' => e = .returned (.int .i64 (x.num (rc line it))) ∧ ∃ p : Regrown, w'' = Sort.grow (redrawn w2 p.d) p.os) := fun d os => Calls.regrown_of (ih 0 x rfl hok2.1 (by omega) _ (below_trans hbw (below_regrown _ _ _)))
      have D2 : Hid (∀ d os, Calls Tryz.prog 45 #[y.val (A 1), .string (bs line), .string (bs it)] (Sort.grow (redrawn w2 d) os) fun e w'' => e = .returned (.int .i64 (y.num (rc line it))) ∧ ∃ p : Regrown, w'' = Sort.grow (redrawn w2 p.d) p.os) := fun d os => Calls.regrown_of (ih 1 y rfl hok2.2 (by omega) _ (below_trans hbw (below_regrown _ _ _)))
      obtain ⟨c0, c1, c2, c3⟩ := HC.out 0 x rfl
      obtain ⟨d0, d1, d2, d3⟩ := HC.out 1 y rfl
      simp at c0 c1 c2 c3 d0 d1 d2 d3
      replace c0 := cell_regrown (cell_below c0 hbw)
      replace c1 := cell_regrown (cell_below c1 hbw)
      replace c2 := cell_regrown (cell_below c2 hbw)
      replace c3 := cell_regrown (cell_below c3 hbw)
      replace d0 := cell_regrown (cell_below d0 hbw)
      replace d1 := cell_regrown (cell_below d1 hbw)
      replace d2 := cell_regrown (cell_below d2 hbw)
      replace d3 := cell_regrown (cell_below d3 hbw)
      have e3 : w2.cell? ⟨w1.heap.size, 3, none⟩ = some (.slice (some ⟨b, off, none⟩) 2 cap) := by rw [hw2]; simp
      replace e3 := cell_regrown e3
      have sx := num_far (rc line it) x
      have sy := num_far (rc line it) y
      have HE : Hid (x.num (rc line it) + y.num (rc line it) = (Ex.mk 10 n s [x, y]).num (rc line it)) := by
        show _ = _
        simp [Ex.num, Ex.num.numL]
      unfold Ex.val at D1 D2
      have HW2 := Lib.hid hw2
      have HBX := Lib.hid hbx
      clear hw2 hbx hbw ih HC HA hok2 hfar KS
      generalize x.k = xk at *
      generalize x.n = xn at *
      generalize bs x.s = xs at *
      generalize A 0 = xa at *
      generalize y.k = yk at *
      generalize y.n = yn at *
      generalize bs y.s = ys at *
      generalize A 1 = ya at *
      generalize x.num (rc line it) = X at *
      generalize y.num (rc line it) = Y at *
      generalize x.far (rc line it) = fx at *
      generalize y.far (rc line it) = fy at *
      have b1 : -1000000000 ≤ X ∧ X ≤ 1000000000 := by omega
      have b2 : -1000000000 ≤ Y ∧ Y ≤ 1000000000 := by omega
      clear sx sy hlen2
      obtain ⟨b1, b1'⟩ := b1
      obtain ⟨b2, b2'⟩ := b2
      go_enter Tryz.func45, Tryz.ntmps45
      go_wp2
      rw [← HW2.out]
      refine wp_region_quiet_below hmix (by kernel_rfl) ?_
      repeat (quiet_step (first | (go_at_call_of 45 (Value.agg #[Value.int IntKind.i64 yk, Value.int IntKind.i64 yn, Value.string ys, ya]); exact D2.out _ _) | (go_at_call 45; exact D1.out _ _)))
      refine wpQuiet_nil ?_
      intro _ hw'
      obtain ⟨⟨dq, osq⟩, hw''⟩ := hw'
      subst hw''
      have hbb : Below w1.heap.size w1 (Sort.grow (redrawn w2 dq) osq) := below_trans HBX.out (below_regrown w2 dq osq)
      generalize Sort.grow (redrawn w2 dq) osq = w3 at *
      go_wp2
      go_ret
      refine ⟨?_, hbb⟩
      show Ending.returned (.int .i64 (IntKind.i64.wrap (X + Y))) = _
      rw [wrap_mid (X + Y) (by omega) (by omega), ← HE.out]
end Go.Proofs.YtmgpacenooncjaaGreatDoor
/- The document's pairs of a record: what is made by now. Written by tpl/mk_tp.py. -/
namespace Go.Proofs.YtmgpacenooncjaaGreatDoor
open Go.ChangeShapes Go.WideShapes Go.ChangeAt Go.RowKit
theorem bs_cut (l : List UInt8) (k : Nat) : (bs l).extract 0 k = bs (l.take k) := by
  apply ByteArray.ext
  apply Array.ext'
  simp [bs]
/-- What the document's PairsMade has made by now, beside its job and the rule that it is at. -/
structure Pk (w wr : World) (P B : Nat) (jv cs : List Value) (lv : Value) (acc : List (ByteArray × Int)) : Prop where
  org : Below w.heap.size w wr
  row : wr.ownsRow w.heap.size 67 2 lv acc.length (Pp.cellsP acc)
  job : Blk wr P 24 jv
  rule : Blk wr B 58 cs
theorem Pk.below {w wr w' : World} {P B : Nat} {jv cs : List Value} {lv : Value} {acc : List (ByteArray × Int)} (h : Pk w wr P B jv cs lv acc) (hb : Below wr.heap.size wr w') : Pk w w' P B jv cs lv acc :=
  ⟨h.org.trans (hb.mono h.org.size), ow_below h.row hb, h.job.blw hb, h.rule.blw hb⟩
theorem Pk.grown {w wr w' : World} {P B : Nat} {jv cs : List Value} {lv lv' : Value} {acc acc' : List (ByteArray × Int)} (h : Pk w wr P B jv cs lv acc) (ho : w'.ownsRow w.heap.size 67 2 lv' acc'.length (Pp.cellsP acc')) (hg : wr.grownBy w' lv.ownBlock) : Pk w w' P B jv cs lv' acc' :=
  ⟨h.org.grown hg h.org.size (fun k hk => (h.row.lt k hk).1), ho, blk_ow h.job h.row (by decide) hg, blk_ow h.rule h.row (by decide) hg⟩
end Go.Proofs.YtmgpacenooncjaaGreatDoor
/- The document's pairs of a record: a look, always. Written by tpl/mk_tp.py. -/
namespace Go.Proofs.YtmgpacenooncjaaGreatDoor
open Go.ChangeShapes Go.WideShapes Go.ChangeAt Go.RowKit
set_option maxRecDepth 1000000 in
set_option maxHeartbeats 4000000 in
theorem made_b3_0 (w : World) (P B k tn tc an ac : Nat) (fo sl : Int) (eb : Bool) (jr : Value) (r : Rl) (ai ak av ta aa : Option Addr) (ci ck cv : Nat) (line it : List UInt8) (its : List (List UInt8)) (acc : List (ByteArray × Int)) (w0 : World) (K : Act → World → Prop) (s0 s3 s4 s6 s10 s11 s12 s13 s14 s15 s16 s17 s18 s19 s20 s21 s22 s23 s24 s25 s26 s27 s28 s29 s30 s31 s32 s33 s34 s35 s36 s37 s38 s39 s40 s41 s42 s43 s44 s45 s46 s47 s48 s49 s50 s51 s52 s53 s54 s55 s56 s57 s58 s59 s60 s61 s62 s63 s64 s65 s66 s67 s68 s69 s70 s71 s72 s73 s74 s75 s76 s77 s78 s79 s80 s81 s82 s83 s84 s85 : Value)
    (hI : Pk w w0 P B [jr, .int .i64 fo, .bool eb, .int .i64 sl] (ruleCells r ai ak av ci ck cv) (.slice aa an ac) acc)
    (han : an = acc.length)
    (hal : acc.length ≤ 500000)
    (hT : IsTexts w0 (.slice ta tn tc) (its.map bs))
    (hit : its[k]? = some it)
    (htn : tn = its.length)
    (hX : Hid (∀ w', Below w.heap.size w w' → IsEx w' (.slice ai r.iff.a.length ci) r.iff ∧ IsEx w' (.slice ak r.key.a.length ck) r.key ∧ IsEx w' (.slice av r.val.a.length cv) r.val))
    (hR : Hid (RlIn r))
    (hline : line.length ≤ 100000)
    (hrc : Hid (RcIn (rc line it) 100000))
    (hwn : r.when = 0)
    (HK : Hid (∀ (z10 z11 z12 z36 z37 z38 z39 z40 z41 z42 z43 z44 z45 z46 z47 z48 z49 z50 z51 z52 z53 z54 z55 z56 z57 z58 z59 z60 z61 z62 z63 z64 z65 z66 z67 z68 z69 z70 z71 z72 z73 z74 z75 z76 z77 z78 z79 z80 z81 z82 z83 z84 : Value) (v2 : Value) (wx : World), Pk w wx P B [jr, .int .i64 fo, .bool eb, .int .i64 sl] (ruleCells r ai ak av ci ck cv) v2 (acc ++ (if holdsB r (rc line it) = true then [pairL r fo (rc line it)] else [])) → (∀ B v m ys, w0.ownsRow B 9 1 v m ys → wx.ownsRow B 9 1 v m ys) → K ⟨#[s0, .string (bs line), .pointer (some ⟨P, 0, none⟩), s3, s4, v2, s6, .pointer (some ⟨B, 0, none⟩), .slice ta tn tc, .int .i64 (k : Int), z10, z11, z12, s13, s14, s15, s16, s17, s18, s19, s20, s21, s22, s23, s24, s25, s26, s27, s28, s29, s30, s31, s32, s33, s34, s35, z36, z37, z38, z39, z40, z41, z42, z43, z44, z45, z46, z47, z48, z49, z50, z51, z52, z53, z54, z55, z56, z57, z58, z59, z60, z61, z62, z63, z64, z65, z66, z67, z68, z69, z70, z71, z72, z73, z74, z75, z76, z77, z78, z79, z80, z81, z82, z83, z84, s85], []⟩ wx)) :
    Code.wp Tryz.prog (pieceIn Tryz.f16.body 3) (Exit.then K fun _ _ _ => False) ⟨#[s0, .string (bs line), .pointer (some ⟨P, 0, none⟩), s3, s4, .slice aa an ac, s6, .pointer (some ⟨B, 0, none⟩), .slice ta tn tc, .int .i64 (k : Int), s10, s11, s12, s13, s14, s15, s16, s17, s18, s19, s20, s21, s22, s23, s24, s25, s26, s27, s28, s29, s30, s31, s32, s33, s34, s35, s36, s37, s38, s39, s40, s41, s42, s43, s44, s45, s46, s47, s48, s49, s50, s51, s52, s53, s54, s55, s56, s57, s58, s59, s60, s61, s62, s63, s64, s65, s66, s67, s68, s69, s70, s71, s72, s73, s74, s75, s76, s77, s78, s79, s80, s81, s82, s83, s84, s85], []⟩ w0 := by
  obtain ⟨ip, hp0, hp1, hp2, hp3⟩ := info_parts pairInfo2
  have hmix : Tryz.prog.follows .mixedOrders = true := by kernel_rfl
  have HI := Lib.hid hI
  have STR : Hid (∀ (e : Ex) (sv : Value) (w' : World), Below w.heap.size w w' → IsEx w' sv e → faultE e true true = 0 → Calls Tryz.prog 44 #[e.val sv, .string (bs line), .string (bs it)] w' fun q w'' => q = .returned (.string (bs (e.str (rc line it)))) ∧ Below w'.heap.size w' w'') := fun e sv w' hb he hf =>
    rstr_any line it (by omega) true he (fault_ok hf) (by have := fault_len hf hrc.out; omega) w' (Below.refl _ _)
  have INT : Hid (∀ (w' : World), Below w.heap.size w w' → Calls Tryz.prog 45 #[r.val.val (.slice av r.val.a.length cv), .string (bs line), .string (bs it)] w' fun q w'' => q = .returned (.int .i64 (r.val.num (rc line it))) ∧ Below w'.heap.size w' w'') := fun w' hb =>
    rint_any line it (by omega) true (hX.out w' hb).2.2 (fault_ok hR.out.val) (by have := fault_far hR.out.val hrc.out; omega) w' (Below.refl _ _)
  have hkt : k < its.length := (List.getElem?_eq_some_iff.1 hit).1
  obtain ⟨tb, toff, rfl, t0⟩ : ∃ tb toff, ta = some ⟨tb, toff, none⟩ ∧ w0.cell? ⟨tb, toff + k, none⟩ = some (.string (bs it)) := by
    obtain ⟨a', c', e, hc⟩ := hT
    obtain ⟨b, off, ea, c0⟩ := hc k (by rw [List.length_map]; exact hkt)
    injection e with e1
    refine ⟨b, off, e1.trans ea, ?_⟩
    rw [List.getElem_map, (List.getElem?_eq_some_iff.1 hit).2] at c0
    exact c0
  have HT0 : Hid (∀ w', Below w0.heap.size w0 w' → w'.cell? ⟨tb, toff + k, none⟩ = some (.string (bs it))) := fun w' hb => cell_below t0 hb
  have hki : (k : Int) < (tn : Int) := by omega
  have hktn : k < tn := by omega
  have HAN := Lib.hid han
  have ORG := Lib.hid hI.org
  obtain ⟨q0, q1, q2, q3, q4, q5, q6, q7, q8, q9, q10, q11, q12, q13, q14⟩ := ruleAt hI.rule
  have kf := hI.job.at (i := 1) (v := .int .i64 fo) rfl
  clear hI hT htn hit han
  conv => arg 2; whnf
  have HOLD : Hid (holdsB r (rc line it) = true) := by show _ = _; unfold holdsB; rw [hwn]; rfl
  rw [hwn] at q1
  go_upto_region 15 with fail
  clear q0 q1 q2 q3 q4 q5 q6 q7 q8 q9 q10 q11 q12 q13 q14 t0
  have HIZ : Hid (Pk w w0 P B [jr, .int .i64 fo, .bool eb, .int .i64 sl] (ruleCells r ai ak av ci ck cv) (.slice aa an ac) acc) := HI.out
  have HBZ : Hid (Below w0.heap.size w0 w0) := Below.refl _ _
  obtain ⟨q0, q1, q2, q3, q4, q5, q6, q7, q8, q9, q10, q11, q12, q13, q14⟩ := ruleAt HIZ.out.rule
  have t0 := HT0.out w0 HBZ.out
  have KEY : Hid (∀ w', Below w0.heap.size w0 w' → Calls Tryz.prog 44 #[r.key.val (.slice ak r.key.a.length ck), .string (bs line), .string (bs it)] w' fun q w'' => q = .returned (.string (bs (r.key.str (rc line it)))) ∧ Below w'.heap.size w' w'') := fun w' hb => STR.out r.key _ w' (HIZ.out.org.trans (hb.mono HIZ.out.org.size)) (hX.out w' (HIZ.out.org.trans (hb.mono HIZ.out.org.size))).2.1 hR.out.key
  unfold Ex.val at KEY
  obtain ⟨ks, hks⟩ : ∃ ks, ks = r.key.str (rc line it) := ⟨_, rfl⟩
  rw [← hks] at KEY
  have HKS := Lib.hid hks
  have hsz : (bs ks).size = ks.length := bs_size ks
  clear hks
  have k7 := cell_regrown q7
  have k8 := cell_regrown q8
  have k9 := cell_regrown q9
  have k10 := cell_regrown q10
  have kt := cell_regrown t0
  have cK : Hid (∀ d os, Calls Tryz.prog 44 #[.agg #[.int .i64 r.key.k, .int .i64 r.key.n, .string (bs r.key.s), .slice ak r.key.a.length ck], .string (bs line), .string (bs it)] (Sort.grow (redrawn w0 d) os) fun q w'' => q = .returned (.string (bs ks)) ∧ ∃ p : Regrown, w'' = Sort.grow (redrawn w0 p.d) p.os) := fun d os => Calls.regrown_of (KEY.out _ (below_regrown w0 d os))
  go_upto_region 15 with fail
  refine wp_region_quiet_below hmix (by kernel_rfl) ?_
  repeat (quiet_step (first | (go_at_call 44; exact cK.out _ _)))
  refine wpQuiet_nil ?_
  intro _ hw'
  obtain ⟨⟨dq, osq⟩, hw''⟩ := hw'
  subst hw''
  have HB3 : Hid (Below w0.heap.size w0 (Sort.grow (redrawn w0 dq) osq)) := below_regrown w0 dq osq
  generalize Sort.grow (redrawn w0 dq) osq = w3 at *
  clear q0 q1 q2 q3 q4 q5 q6 q7 q8 q9 q10 q11 q12 q13 q14 t0 kf k7 k8 k9 k10 kt cK
  all_goals
    have HI3 := Lib.hid (HIZ.out.below HB3.out)
    have HKT : Hid (bs (ks.take 20) = (pairL r fo (rc line it)).1) := by show _ = _; rw [HKS.out]; rfl
    by_cases h20 : 20 < ks.length
    case' pos =>
      have h20i : (20 : Int) < (ks.length : Int) := by omega
      have hex : (bs ks).extract 0 20 = bs (ks.take 20) := bs_cut ks 20
      have HEX := Lib.hid hex
      clear hex
      go_upto_region 18 with fail
      rw [HEX.out]
    case' neg =>
      have h20i : ¬ (20 : Int) < (ks.length : Int) := by omega
      have hex : ks = ks.take 20 := (List.take_of_length_le (by omega)).symm
      have HEX : Hid (bs ks = bs (ks.take 20)) := by show _ = _; rw [← hex]
      clear hex
      go_upto_region 18 with fail
      rw [HEX.out]
    all_goals
      obtain ⟨p0, p1, p2, p3, p4, p5, p6, p7, p8, p9, p10, p11, p12, p13, p14⟩ := ruleAt HI3.out.rule
      have t1 := HT0.out w3 (below_trans HBZ.out HB3.out)
      have INT3 : Hid (∀ w', Below w3.heap.size w3 w' → Calls Tryz.prog 45 #[r.val.val (.slice av r.val.a.length cv), .string (bs line), .string (bs it)] w' fun q w'' => q = .returned (.int .i64 (r.val.num (rc line it))) ∧ Below w'.heap.size w' w'') := fun w' hb => INT.out w' (HI3.out.org.trans (hb.mono HI3.out.org.size))
      unfold Ex.val at INT3
      have k11 := cell_regrown p11
      have k12 := cell_regrown p12
      have k13 := cell_regrown p13
      have k14 := cell_regrown p14
      have ku := cell_regrown t1
      have cV : Hid (∀ d os, Calls Tryz.prog 45 #[.agg #[.int .i64 r.val.k, .int .i64 r.val.n, .string (bs r.val.s), .slice av r.val.a.length cv], .string (bs line), .string (bs it)] (Sort.grow (redrawn w3 d) os) fun q w'' => q = .returned (.int .i64 (r.val.num (rc line it))) ∧ ∃ p : Regrown, w'' = Sort.grow (redrawn w3 p.d) p.os) := fun d os => Calls.regrown_of (INT3.out _ (below_regrown w3 d os))
      refine wp_region_quiet_below hmix (by kernel_rfl) ?_
      repeat (quiet_step (first | (go_at_call 45; exact cV.out _ _)))
      refine wpQuiet_nil ?_
      intro _ hw'
      obtain ⟨⟨dq2, osq2⟩, hw''⟩ := hw'
      subst hw''
      have HB4 : Hid (Below w3.heap.size w3 (Sort.grow (redrawn w3 dq2) osq2)) := below_regrown w3 dq2 osq2
      generalize Sort.grow (redrawn w3 dq2) osq2 = w4 at *
      clear p0 p1 p2 p3 p4 p5 p6 p7 p8 p9 p10 p11 p12 p13 p14 t1 k11 k12 k13 k14 ku cV
      all_goals
        have HI4 := Lib.hid (HI3.out.below HB4.out)
        have kf := HI4.out.job.at (i := 1) (v := .int .i64 fo) rfl
        have HFV : Hid ((pairL r fo (rc line it)).2 = Pp.firstI fo (r.val.num (rc line it))) := (show _ = _ from rfl)
        generalize r.val.num (rc line it) = nv at *
        by_cases h4 : fo = 4
        · have h4i : (fo == 4) = true := by simp [h4]
          have HPV : Hid (pairL r fo (rc line it) = (bs (ks.take 20), 1)) := by show _ = _; rw [HKT.out]; exact Prod.ext rfl (by rw [HFV.out]; simp [Pp.firstI, h4])
          clear h4
          go_upto_region 21 with fail
          clear kf h4i
          go_wp2_with (at_builtin; refine Hid.out ?_)
          refine Lib.hid ?_
          refine wpList_append_own _ rfl (.tmp 79) (.tmp 83) 42 rfl w.heap.size 67 ip (.agg #[.string ⟨#[]⟩, .int .i64 0]) 2 24 Tryz.underlying42 hp0 hp1 hp2 hp3 rfl (by decide) (.slice aa an ac) acc.length (Pp.cellsP acc) rfl (HI4.out.row.alloc _) ⟨w4.heap.size, 0, none⟩ 1 1 [.string (bs (ks.take 20)), .int .i64 1] rfl rfl ?c1 ?c5 ?c2 ?c3 ?c4 ?_
          case c1 => exact lit_cells rfl (show 2 ≤ maxLen by decide)
          case c5 => intro u hu; simp at hu; rcases hu with rfl | rfl <;> rfl
          case c2 => unfold maxLen; omega
          case c3 => omega
          case c4 => have := HI4.out.org.size; simp; omega
          intro v2 w9 hown9 hg9 _
          have I9 : Pk w w9 P B [jr, .int .i64 fo, .bool eb, .int .i64 sl] (ruleCells r ai ak av ci ck cv) v2 (acc ++ (if holdsB r (rc line it) = true then [pairL r fo (rc line it)] else [])) := by
            rw [if_pos HOLD.out, HPV.out]
            refine (HI4.out.below (below_box _)).grown ?_ hg9
            rw [List.length_append, Pp.cellsP_append]
            exact hown9
          go_wp2
          exact HK.out _ _ _ _ _ _ _ _ _ _ _ _ _ _ _ _ _ _ _ _ _ _ _ _ _ _ _ _ _ _ _ _ _ _ _ _ _ _ _ _ _ _ _ _ _ _ _ _ _ _ _ _ v2 w9 I9 (fun B v m ys h => ow_grown (ow_below h (below_trans (below_trans (below_trans HBZ.out HB3.out) HB4.out) (below_box _))) (HI4.out.row.alloc _) (by decide) hg9)
        · have h4i : (fo == 4) = false := by simp [h4]
          have HPV : Hid (pairL r fo (rc line it) = (bs (ks.take 20), nv)) := by show _ = _; rw [HKT.out]; exact Prod.ext rfl (by rw [HFV.out]; simp [Pp.firstI, h4])
          clear h4
          go_upto_region 21 with fail
          clear kf h4i
          go_wp2_with (at_builtin; refine Hid.out ?_)
          refine Lib.hid ?_
          refine wpList_append_own _ rfl (.tmp 79) (.tmp 83) 42 rfl w.heap.size 67 ip (.agg #[.string ⟨#[]⟩, .int .i64 0]) 2 24 Tryz.underlying42 hp0 hp1 hp2 hp3 rfl (by decide) (.slice aa an ac) acc.length (Pp.cellsP acc) rfl (HI4.out.row.alloc _) ⟨w4.heap.size, 0, none⟩ 1 1 [.string (bs (ks.take 20)), .int .i64 nv] rfl rfl ?c1 ?c5 ?c2 ?c3 ?c4 ?_
          case c1 => exact lit_cells rfl (show 2 ≤ maxLen by decide)
          case c5 => intro u hu; simp at hu; rcases hu with rfl | rfl <;> rfl
          case c2 => unfold maxLen; omega
          case c3 => omega
          case c4 => have := HI4.out.org.size; simp; omega
          intro v2 w9 hown9 hg9 _
          have I9 : Pk w w9 P B [jr, .int .i64 fo, .bool eb, .int .i64 sl] (ruleCells r ai ak av ci ck cv) v2 (acc ++ (if holdsB r (rc line it) = true then [pairL r fo (rc line it)] else [])) := by
            rw [if_pos HOLD.out, HPV.out]
            refine (HI4.out.below (below_box _)).grown ?_ hg9
            rw [List.length_append, Pp.cellsP_append]
            exact hown9
          go_wp2
          exact HK.out _ _ _ _ _ _ _ _ _ _ _ _ _ _ _ _ _ _ _ _ _ _ _ _ _ _ _ _ _ _ _ _ _ _ _ _ _ _ _ _ _ _ _ _ _ _ _ _ _ _ _ _ v2 w9 I9 (fun B v m ys h => ow_grown (ow_below h (below_trans (below_trans (below_trans HBZ.out HB3.out) HB4.out) (below_box _))) (HI4.out.row.alloc _) (by decide) hg9)
end Go.Proofs.YtmgpacenooncjaaGreatDoor
/- The document's pairs of a record: a look, if something is so. Written by tpl/mk_tp.py. -/
namespace Go.Proofs.YtmgpacenooncjaaGreatDoor
open Go.ChangeShapes Go.WideShapes Go.ChangeAt Go.RowKit
set_option maxRecDepth 1000000 in
set_option maxHeartbeats 4000000 in
theorem made_b3_1 (w : World) (P B k tn tc an ac : Nat) (fo sl : Int) (eb : Bool) (jr : Value) (r : Rl) (ai ak av ta aa : Option Addr) (ci ck cv : Nat) (line it : List UInt8) (its : List (List UInt8)) (acc : List (ByteArray × Int)) (w0 : World) (K : Act → World → Prop) (s0 s3 s4 s6 s10 s11 s12 s13 s14 s15 s16 s17 s18 s19 s20 s21 s22 s23 s24 s25 s26 s27 s28 s29 s30 s31 s32 s33 s34 s35 s36 s37 s38 s39 s40 s41 s42 s43 s44 s45 s46 s47 s48 s49 s50 s51 s52 s53 s54 s55 s56 s57 s58 s59 s60 s61 s62 s63 s64 s65 s66 s67 s68 s69 s70 s71 s72 s73 s74 s75 s76 s77 s78 s79 s80 s81 s82 s83 s84 s85 : Value)
    (hI : Pk w w0 P B [jr, .int .i64 fo, .bool eb, .int .i64 sl] (ruleCells r ai ak av ci ck cv) (.slice aa an ac) acc)
    (han : an = acc.length)
    (hal : acc.length ≤ 500000)
    (hT : IsTexts w0 (.slice ta tn tc) (its.map bs))
    (hit : its[k]? = some it)
    (htn : tn = its.length)
    (hX : Hid (∀ w', Below w.heap.size w w' → IsEx w' (.slice ai r.iff.a.length ci) r.iff ∧ IsEx w' (.slice ak r.key.a.length ck) r.key ∧ IsEx w' (.slice av r.val.a.length cv) r.val))
    (hR : Hid (RlIn r))
    (hline : line.length ≤ 100000)
    (hrc : Hid (RcIn (rc line it) 100000))
    (hwn : r.when = 1)
    (HK : Hid (∀ (z10 z11 z12 z36 z37 z38 z39 z40 z41 z42 z43 z44 z45 z46 z47 z48 z49 z50 z51 z52 z53 z54 z55 z56 z57 z58 z59 z60 z61 z62 z63 z64 z65 z66 z67 z68 z69 z70 z71 z72 z73 z74 z75 z76 z77 z78 z79 z80 z81 z82 z83 z84 : Value) (v2 : Value) (wx : World), Pk w wx P B [jr, .int .i64 fo, .bool eb, .int .i64 sl] (ruleCells r ai ak av ci ck cv) v2 (acc ++ (if holdsB r (rc line it) = true then [pairL r fo (rc line it)] else [])) → (∀ B v m ys, w0.ownsRow B 9 1 v m ys → wx.ownsRow B 9 1 v m ys) → K ⟨#[s0, .string (bs line), .pointer (some ⟨P, 0, none⟩), s3, s4, v2, s6, .pointer (some ⟨B, 0, none⟩), .slice ta tn tc, .int .i64 (k : Int), z10, z11, z12, s13, s14, s15, s16, s17, s18, s19, s20, s21, s22, s23, s24, s25, s26, s27, s28, s29, s30, s31, s32, s33, s34, s35, z36, z37, z38, z39, z40, z41, z42, z43, z44, z45, z46, z47, z48, z49, z50, z51, z52, z53, z54, z55, z56, z57, z58, z59, z60, z61, z62, z63, z64, z65, z66, z67, z68, z69, z70, z71, z72, z73, z74, z75, z76, z77, z78, z79, z80, z81, z82, z83, z84, s85], []⟩ wx)) :
    Code.wp Tryz.prog (pieceIn Tryz.f16.body 3) (Exit.then K fun _ _ _ => False) ⟨#[s0, .string (bs line), .pointer (some ⟨P, 0, none⟩), s3, s4, .slice aa an ac, s6, .pointer (some ⟨B, 0, none⟩), .slice ta tn tc, .int .i64 (k : Int), s10, s11, s12, s13, s14, s15, s16, s17, s18, s19, s20, s21, s22, s23, s24, s25, s26, s27, s28, s29, s30, s31, s32, s33, s34, s35, s36, s37, s38, s39, s40, s41, s42, s43, s44, s45, s46, s47, s48, s49, s50, s51, s52, s53, s54, s55, s56, s57, s58, s59, s60, s61, s62, s63, s64, s65, s66, s67, s68, s69, s70, s71, s72, s73, s74, s75, s76, s77, s78, s79, s80, s81, s82, s83, s84, s85], []⟩ w0 := by
  obtain ⟨ip, hp0, hp1, hp2, hp3⟩ := info_parts pairInfo2
  have hmix : Tryz.prog.follows .mixedOrders = true := by kernel_rfl
  have HI := Lib.hid hI
  have STR : Hid (∀ (e : Ex) (sv : Value) (w' : World), Below w.heap.size w w' → IsEx w' sv e → faultE e true true = 0 → Calls Tryz.prog 44 #[e.val sv, .string (bs line), .string (bs it)] w' fun q w'' => q = .returned (.string (bs (e.str (rc line it)))) ∧ Below w'.heap.size w' w'') := fun e sv w' hb he hf =>
    rstr_any line it (by omega) true he (fault_ok hf) (by have := fault_len hf hrc.out; omega) w' (Below.refl _ _)
  have INT : Hid (∀ (w' : World), Below w.heap.size w w' → Calls Tryz.prog 45 #[r.val.val (.slice av r.val.a.length cv), .string (bs line), .string (bs it)] w' fun q w'' => q = .returned (.int .i64 (r.val.num (rc line it))) ∧ Below w'.heap.size w' w'') := fun w' hb =>
    rint_any line it (by omega) true (hX.out w' hb).2.2 (fault_ok hR.out.val) (by have := fault_far hR.out.val hrc.out; omega) w' (Below.refl _ _)
  have hkt : k < its.length := (List.getElem?_eq_some_iff.1 hit).1
  obtain ⟨tb, toff, rfl, t0⟩ : ∃ tb toff, ta = some ⟨tb, toff, none⟩ ∧ w0.cell? ⟨tb, toff + k, none⟩ = some (.string (bs it)) := by
    obtain ⟨a', c', e, hc⟩ := hT
    obtain ⟨b, off, ea, c0⟩ := hc k (by rw [List.length_map]; exact hkt)
    injection e with e1
    refine ⟨b, off, e1.trans ea, ?_⟩
    rw [List.getElem_map, (List.getElem?_eq_some_iff.1 hit).2] at c0
    exact c0
  have HT0 : Hid (∀ w', Below w0.heap.size w0 w' → w'.cell? ⟨tb, toff + k, none⟩ = some (.string (bs it))) := fun w' hb => cell_below t0 hb
  have hki : (k : Int) < (tn : Int) := by omega
  have hktn : k < tn := by omega
  have HAN := Lib.hid han
  have ORG := Lib.hid hI.org
  obtain ⟨q0, q1, q2, q3, q4, q5, q6, q7, q8, q9, q10, q11, q12, q13, q14⟩ := ruleAt hI.rule
  have kf := hI.job.at (i := 1) (v := .int .i64 fo) rfl
  clear hI hT htn hit han
  conv => arg 2; whnf
  have hfi : faultE r.iff true true = 0 := by
    rcases hR.out.when with h | ⟨_, h⟩
    · omega
    · exact h
  rw [hwn] at q1
  have IFS : Hid (∀ w', Below w0.heap.size w0 w' → Calls Tryz.prog 44 #[r.iff.val (.slice ai r.iff.a.length ci), .string (bs line), .string (bs it)] w' fun q w'' => q = .returned (.string (bs (r.iff.str (rc line it)))) ∧ Below w'.heap.size w' w'') := fun w' hb => STR.out r.iff _ w' (ORG.out.trans (hb.mono ORG.out.size)) (hX.out w' (ORG.out.trans (hb.mono ORG.out.size))).1 hfi
  unfold Ex.val at IFS
  obtain ⟨ifs, hifs⟩ : ∃ ifs, ifs = r.iff.str (rc line it) := ⟨_, rfl⟩
  rw [← hifs] at IFS
  obtain ⟨ib, hib⟩ : ∃ ib, ((bs ifs).toList == (bs r.s).toList) = ib := ⟨_, rfl⟩
  have HIE : Hid (decide (r.iff.str (rc line it) = r.s) = ib) := by
    show _ = _
    rw [← hib, ← hifs, ByteArray.toList_eq, ByteArray.toList_eq]
    simp [bs]
    by_cases h : ifs = r.s
    · simp [h]
    · simp [h]
  clear hifs hfi
  have k2 := cell_regrown q2
  have k3 := cell_regrown q3
  have k4 := cell_regrown q4
  have k5 := cell_regrown q5
  have k6 := cell_regrown q6
  have kt := cell_regrown t0
  have cI : Hid (∀ d os, Calls Tryz.prog 44 #[.agg #[.int .i64 r.iff.k, .int .i64 r.iff.n, .string (bs r.iff.s), .slice ai r.iff.a.length ci], .string (bs line), .string (bs it)] (Sort.grow (redrawn w0 d) os) fun q w'' => q = .returned (.string (bs ifs)) ∧ ∃ p : Regrown, w'' = Sort.grow (redrawn w0 p.d) p.os) := fun d os => Calls.regrown_of (IFS.out _ (below_regrown w0 d os))
  go_upto_region 13 with fail
  refine wp_region_quiet_below hmix (by kernel_rfl) ?_
  repeat (quiet_step (first | (go_at_call 44; exact cI.out _ _)))
  refine wpQuiet_nil ?_
  intro _ hw'
  obtain ⟨⟨dq0, osq0⟩, hw''⟩ := hw'
  subst hw''
  have HB2 : Hid (Below w0.heap.size w0 (Sort.grow (redrawn w0 dq0) osq0)) := below_regrown w0 dq0 osq0
  generalize Sort.grow (redrawn w0 dq0) osq0 = w2 at *
  obtain ⟨d0, d1, d2, d3, d4, d5, d6, d7, d8, d9, d10, d11, d12, d13, d14⟩ := ruleAt (HI.out.below HB2.out).rule
  clear q0 q1 q2 q3 q4 q5 q6 q7 q8 q9 q10 q11 q12 q13 q14 t0 kf k2 k3 k4 k5 k6 kt cI
  all_goals
    rw [hwn] at d1
    cases ib with
    | false =>
      have HOLD : Hid (holdsB r (rc line it) = false) := by
        show _ = _
        have h := HIE.out
        rw [decide_eq_false_iff_not] at h
        unfold holdsB; rw [hwn]; simp [h]
      have I2 := HI.out.below HB2.out
      go_wp2
      exact HK.out _ _ _ _ _ _ _ _ _ _ _ _ _ _ _ _ _ _ _ _ _ _ _ _ _ _ _ _ _ _ _ _ _ _ _ _ _ _ _ _ _ _ _ _ _ _ _ _ _ _ _ _ _ w2 (by rw [if_neg (by rw [HOLD.out]; decide), List.append_nil]; exact I2) (fun B v m ys h => ow_below h HB2.out)
    | true =>
      have HOLD : Hid (holdsB r (rc line it) = true) := by
        show _ = _
        have h := HIE.out
        rw [decide_eq_true_eq] at h
        unfold holdsB; rw [hwn]; simp [h]
      have kf : 0 = 0 := rfl
      go_upto_region 15 with fail
      clear d0 d1 d2 d3 d4 d5 d6 d7 d8 d9 d10 d11 d12 d13 d14
      have HIZ : Hid (Pk w w2 P B [jr, .int .i64 fo, .bool eb, .int .i64 sl] (ruleCells r ai ak av ci ck cv) (.slice aa an ac) acc) := (HI.out.below HB2.out)
      have HBZ : Hid (Below w0.heap.size w0 w2) := HB2.out
      obtain ⟨q0, q1, q2, q3, q4, q5, q6, q7, q8, q9, q10, q11, q12, q13, q14⟩ := ruleAt HIZ.out.rule
      have t0 := HT0.out w2 HBZ.out
      have KEY : Hid (∀ w', Below w2.heap.size w2 w' → Calls Tryz.prog 44 #[r.key.val (.slice ak r.key.a.length ck), .string (bs line), .string (bs it)] w' fun q w'' => q = .returned (.string (bs (r.key.str (rc line it)))) ∧ Below w'.heap.size w' w'') := fun w' hb => STR.out r.key _ w' (HIZ.out.org.trans (hb.mono HIZ.out.org.size)) (hX.out w' (HIZ.out.org.trans (hb.mono HIZ.out.org.size))).2.1 hR.out.key
      unfold Ex.val at KEY
      obtain ⟨ks, hks⟩ : ∃ ks, ks = r.key.str (rc line it) := ⟨_, rfl⟩
      rw [← hks] at KEY
      have HKS := Lib.hid hks
      have hsz : (bs ks).size = ks.length := bs_size ks
      clear hks
      have k7 := cell_regrown q7
      have k8 := cell_regrown q8
      have k9 := cell_regrown q9
      have k10 := cell_regrown q10
      have kt := cell_regrown t0
      have cK : Hid (∀ d os, Calls Tryz.prog 44 #[.agg #[.int .i64 r.key.k, .int .i64 r.key.n, .string (bs r.key.s), .slice ak r.key.a.length ck], .string (bs line), .string (bs it)] (Sort.grow (redrawn w2 d) os) fun q w'' => q = .returned (.string (bs ks)) ∧ ∃ p : Regrown, w'' = Sort.grow (redrawn w2 p.d) p.os) := fun d os => Calls.regrown_of (KEY.out _ (below_regrown w2 d os))
      go_upto_region 15 with fail
      refine wp_region_quiet_below hmix (by kernel_rfl) ?_
      repeat (quiet_step (first | (go_at_call 44; exact cK.out _ _)))
      refine wpQuiet_nil ?_
      intro _ hw'
      obtain ⟨⟨dq, osq⟩, hw''⟩ := hw'
      subst hw''
      have HB3 : Hid (Below w2.heap.size w2 (Sort.grow (redrawn w2 dq) osq)) := below_regrown w2 dq osq
      generalize Sort.grow (redrawn w2 dq) osq = w3 at *
      clear q0 q1 q2 q3 q4 q5 q6 q7 q8 q9 q10 q11 q12 q13 q14 t0 kf k7 k8 k9 k10 kt cK
      all_goals
        have HI3 := Lib.hid (HIZ.out.below HB3.out)
        have HKT : Hid (bs (ks.take 20) = (pairL r fo (rc line it)).1) := by show _ = _; rw [HKS.out]; rfl
        by_cases h20 : 20 < ks.length
        case' pos =>
          have h20i : (20 : Int) < (ks.length : Int) := by omega
          have hex : (bs ks).extract 0 20 = bs (ks.take 20) := bs_cut ks 20
          have HEX := Lib.hid hex
          clear hex
          go_upto_region 18 with fail
          rw [HEX.out]
        case' neg =>
          have h20i : ¬ (20 : Int) < (ks.length : Int) := by omega
          have hex : ks = ks.take 20 := (List.take_of_length_le (by omega)).symm
          have HEX : Hid (bs ks = bs (ks.take 20)) := by show _ = _; rw [← hex]
          clear hex
          go_upto_region 18 with fail
          rw [HEX.out]
        all_goals
          obtain ⟨p0, p1, p2, p3, p4, p5, p6, p7, p8, p9, p10, p11, p12, p13, p14⟩ := ruleAt HI3.out.rule
          have t1 := HT0.out w3 (below_trans HBZ.out HB3.out)
          have INT3 : Hid (∀ w', Below w3.heap.size w3 w' → Calls Tryz.prog 45 #[r.val.val (.slice av r.val.a.length cv), .string (bs line), .string (bs it)] w' fun q w'' => q = .returned (.int .i64 (r.val.num (rc line it))) ∧ Below w'.heap.size w' w'') := fun w' hb => INT.out w' (HI3.out.org.trans (hb.mono HI3.out.org.size))
          unfold Ex.val at INT3
          have k11 := cell_regrown p11
          have k12 := cell_regrown p12
          have k13 := cell_regrown p13
          have k14 := cell_regrown p14
          have ku := cell_regrown t1
          have cV : Hid (∀ d os, Calls Tryz.prog 45 #[.agg #[.int .i64 r.val.k, .int .i64 r.val.n, .string (bs r.val.s), .slice av r.val.a.length cv], .string (bs line), .string (bs it)] (Sort.grow (redrawn w3 d) os) fun q w'' => q = .returned (.int .i64 (r.val.num (rc line it))) ∧ ∃ p : Regrown, w'' = Sort.grow (redrawn w3 p.d) p.os) := fun d os => Calls.regrown_of (INT3.out _ (below_regrown w3 d os))
          refine wp_region_quiet_below hmix (by kernel_rfl) ?_
          repeat (quiet_step (first | (go_at_call 45; exact cV.out _ _)))
          refine wpQuiet_nil ?_
          intro _ hw'
          obtain ⟨⟨dq2, osq2⟩, hw''⟩ := hw'
          subst hw''
          have HB4 : Hid (Below w3.heap.size w3 (Sort.grow (redrawn w3 dq2) osq2)) := below_regrown w3 dq2 osq2
          generalize Sort.grow (redrawn w3 dq2) osq2 = w4 at *
          clear p0 p1 p2 p3 p4 p5 p6 p7 p8 p9 p10 p11 p12 p13 p14 t1 k11 k12 k13 k14 ku cV
          all_goals
            have HI4 := Lib.hid (HI3.out.below HB4.out)
            have kf := HI4.out.job.at (i := 1) (v := .int .i64 fo) rfl
            have HFV : Hid ((pairL r fo (rc line it)).2 = Pp.firstI fo (r.val.num (rc line it))) := (show _ = _ from rfl)
            generalize r.val.num (rc line it) = nv at *
            by_cases h4 : fo = 4
            · have h4i : (fo == 4) = true := by simp [h4]
              have HPV : Hid (pairL r fo (rc line it) = (bs (ks.take 20), 1)) := by show _ = _; rw [HKT.out]; exact Prod.ext rfl (by rw [HFV.out]; simp [Pp.firstI, h4])
              clear h4
              go_upto_region 21 with fail
              clear kf h4i
              go_wp2_with (at_builtin; refine Hid.out ?_)
              refine Lib.hid ?_
              refine wpList_append_own _ rfl (.tmp 79) (.tmp 83) 42 rfl w.heap.size 67 ip (.agg #[.string ⟨#[]⟩, .int .i64 0]) 2 24 Tryz.underlying42 hp0 hp1 hp2 hp3 rfl (by decide) (.slice aa an ac) acc.length (Pp.cellsP acc) rfl (HI4.out.row.alloc _) ⟨w4.heap.size, 0, none⟩ 1 1 [.string (bs (ks.take 20)), .int .i64 1] rfl rfl ?c1 ?c5 ?c2 ?c3 ?c4 ?_
              case c1 => exact lit_cells rfl (show 2 ≤ maxLen by decide)
              case c5 => intro u hu; simp at hu; rcases hu with rfl | rfl <;> rfl
              case c2 => unfold maxLen; omega
              case c3 => omega
              case c4 => have := HI4.out.org.size; simp; omega
              intro v2 w9 hown9 hg9 _
              have I9 : Pk w w9 P B [jr, .int .i64 fo, .bool eb, .int .i64 sl] (ruleCells r ai ak av ci ck cv) v2 (acc ++ (if holdsB r (rc line it) = true then [pairL r fo (rc line it)] else [])) := by
                rw [if_pos HOLD.out, HPV.out]
                refine (HI4.out.below (below_box _)).grown ?_ hg9
                rw [List.length_append, Pp.cellsP_append]
                exact hown9
              go_wp2
              exact HK.out _ _ _ _ _ _ _ _ _ _ _ _ _ _ _ _ _ _ _ _ _ _ _ _ _ _ _ _ _ _ _ _ _ _ _ _ _ _ _ _ _ _ _ _ _ _ _ _ _ _ _ _ v2 w9 I9 (fun B v m ys h => ow_grown (ow_below h (below_trans (below_trans (below_trans HBZ.out HB3.out) HB4.out) (below_box _))) (HI4.out.row.alloc _) (by decide) hg9)
            · have h4i : (fo == 4) = false := by simp [h4]
              have HPV : Hid (pairL r fo (rc line it) = (bs (ks.take 20), nv)) := by show _ = _; rw [HKT.out]; exact Prod.ext rfl (by rw [HFV.out]; simp [Pp.firstI, h4])
              clear h4
              go_upto_region 21 with fail
              clear kf h4i
              go_wp2_with (at_builtin; refine Hid.out ?_)
              refine Lib.hid ?_
              refine wpList_append_own _ rfl (.tmp 79) (.tmp 83) 42 rfl w.heap.size 67 ip (.agg #[.string ⟨#[]⟩, .int .i64 0]) 2 24 Tryz.underlying42 hp0 hp1 hp2 hp3 rfl (by decide) (.slice aa an ac) acc.length (Pp.cellsP acc) rfl (HI4.out.row.alloc _) ⟨w4.heap.size, 0, none⟩ 1 1 [.string (bs (ks.take 20)), .int .i64 nv] rfl rfl ?c1 ?c5 ?c2 ?c3 ?c4 ?_
              case c1 => exact lit_cells rfl (show 2 ≤ maxLen by decide)
              case c5 => intro u hu; simp at hu; rcases hu with rfl | rfl <;> rfl
              case c2 => unfold maxLen; omega
              case c3 => omega
              case c4 => have := HI4.out.org.size; simp; omega
              intro v2 w9 hown9 hg9 _
              have I9 : Pk w w9 P B [jr, .int .i64 fo, .bool eb, .int .i64 sl] (ruleCells r ai ak av ci ck cv) v2 (acc ++ (if holdsB r (rc line it) = true then [pairL r fo (rc line it)] else [])) := by
                rw [if_pos HOLD.out, HPV.out]
                refine (HI4.out.below (below_box _)).grown ?_ hg9
                rw [List.length_append, Pp.cellsP_append]
                exact hown9
              go_wp2
              exact HK.out _ _ _ _ _ _ _ _ _ _ _ _ _ _ _ _ _ _ _ _ _ _ _ _ _ _ _ _ _ _ _ _ _ _ _ _ _ _ _ _ _ _ _ _ _ _ _ _ _ _ _ _ v2 w9 I9 (fun B v m ys h => ow_grown (ow_below h (below_trans (below_trans (below_trans HBZ.out HB3.out) HB4.out) (below_box _))) (HI4.out.row.alloc _) (by decide) hg9)
end Go.Proofs.YtmgpacenooncjaaGreatDoor
/- The document's pairs of a record: a look, if something is not so. Written by tpl/mk_tp.py. -/
namespace Go.Proofs.YtmgpacenooncjaaGreatDoor
open Go.ChangeShapes Go.WideShapes Go.ChangeAt Go.RowKit
set_option maxRecDepth 1000000 in
set_option maxHeartbeats 4000000 in
theorem made_b3_2 (w : World) (P B k tn tc an ac : Nat) (fo sl : Int) (eb : Bool) (jr : Value) (r : Rl) (ai ak av ta aa : Option Addr) (ci ck cv : Nat) (line it : List UInt8) (its : List (List UInt8)) (acc : List (ByteArray × Int)) (w0 : World) (K : Act → World → Prop) (s0 s3 s4 s6 s10 s11 s12 s13 s14 s15 s16 s17 s18 s19 s20 s21 s22 s23 s24 s25 s26 s27 s28 s29 s30 s31 s32 s33 s34 s35 s36 s37 s38 s39 s40 s41 s42 s43 s44 s45 s46 s47 s48 s49 s50 s51 s52 s53 s54 s55 s56 s57 s58 s59 s60 s61 s62 s63 s64 s65 s66 s67 s68 s69 s70 s71 s72 s73 s74 s75 s76 s77 s78 s79 s80 s81 s82 s83 s84 s85 : Value)
    (hI : Pk w w0 P B [jr, .int .i64 fo, .bool eb, .int .i64 sl] (ruleCells r ai ak av ci ck cv) (.slice aa an ac) acc)
    (han : an = acc.length)
    (hal : acc.length ≤ 500000)
    (hT : IsTexts w0 (.slice ta tn tc) (its.map bs))
    (hit : its[k]? = some it)
    (htn : tn = its.length)
    (hX : Hid (∀ w', Below w.heap.size w w' → IsEx w' (.slice ai r.iff.a.length ci) r.iff ∧ IsEx w' (.slice ak r.key.a.length ck) r.key ∧ IsEx w' (.slice av r.val.a.length cv) r.val))
    (hR : Hid (RlIn r))
    (hline : line.length ≤ 100000)
    (hrc : Hid (RcIn (rc line it) 100000))
    (hwn : r.when = 2)
    (HK : Hid (∀ (z10 z11 z12 z36 z37 z38 z39 z40 z41 z42 z43 z44 z45 z46 z47 z48 z49 z50 z51 z52 z53 z54 z55 z56 z57 z58 z59 z60 z61 z62 z63 z64 z65 z66 z67 z68 z69 z70 z71 z72 z73 z74 z75 z76 z77 z78 z79 z80 z81 z82 z83 z84 : Value) (v2 : Value) (wx : World), Pk w wx P B [jr, .int .i64 fo, .bool eb, .int .i64 sl] (ruleCells r ai ak av ci ck cv) v2 (acc ++ (if holdsB r (rc line it) = true then [pairL r fo (rc line it)] else [])) → (∀ B v m ys, w0.ownsRow B 9 1 v m ys → wx.ownsRow B 9 1 v m ys) → K ⟨#[s0, .string (bs line), .pointer (some ⟨P, 0, none⟩), s3, s4, v2, s6, .pointer (some ⟨B, 0, none⟩), .slice ta tn tc, .int .i64 (k : Int), z10, z11, z12, s13, s14, s15, s16, s17, s18, s19, s20, s21, s22, s23, s24, s25, s26, s27, s28, s29, s30, s31, s32, s33, s34, s35, z36, z37, z38, z39, z40, z41, z42, z43, z44, z45, z46, z47, z48, z49, z50, z51, z52, z53, z54, z55, z56, z57, z58, z59, z60, z61, z62, z63, z64, z65, z66, z67, z68, z69, z70, z71, z72, z73, z74, z75, z76, z77, z78, z79, z80, z81, z82, z83, z84, s85], []⟩ wx)) :
    Code.wp Tryz.prog (pieceIn Tryz.f16.body 3) (Exit.then K fun _ _ _ => False) ⟨#[s0, .string (bs line), .pointer (some ⟨P, 0, none⟩), s3, s4, .slice aa an ac, s6, .pointer (some ⟨B, 0, none⟩), .slice ta tn tc, .int .i64 (k : Int), s10, s11, s12, s13, s14, s15, s16, s17, s18, s19, s20, s21, s22, s23, s24, s25, s26, s27, s28, s29, s30, s31, s32, s33, s34, s35, s36, s37, s38, s39, s40, s41, s42, s43, s44, s45, s46, s47, s48, s49, s50, s51, s52, s53, s54, s55, s56, s57, s58, s59, s60, s61, s62, s63, s64, s65, s66, s67, s68, s69, s70, s71, s72, s73, s74, s75, s76, s77, s78, s79, s80, s81, s82, s83, s84, s85], []⟩ w0 := by
  obtain ⟨ip, hp0, hp1, hp2, hp3⟩ := info_parts pairInfo2
  have hmix : Tryz.prog.follows .mixedOrders = true := by kernel_rfl
  have HI := Lib.hid hI
  have STR : Hid (∀ (e : Ex) (sv : Value) (w' : World), Below w.heap.size w w' → IsEx w' sv e → faultE e true true = 0 → Calls Tryz.prog 44 #[e.val sv, .string (bs line), .string (bs it)] w' fun q w'' => q = .returned (.string (bs (e.str (rc line it)))) ∧ Below w'.heap.size w' w'') := fun e sv w' hb he hf =>
    rstr_any line it (by omega) true he (fault_ok hf) (by have := fault_len hf hrc.out; omega) w' (Below.refl _ _)
  have INT : Hid (∀ (w' : World), Below w.heap.size w w' → Calls Tryz.prog 45 #[r.val.val (.slice av r.val.a.length cv), .string (bs line), .string (bs it)] w' fun q w'' => q = .returned (.int .i64 (r.val.num (rc line it))) ∧ Below w'.heap.size w' w'') := fun w' hb =>
    rint_any line it (by omega) true (hX.out w' hb).2.2 (fault_ok hR.out.val) (by have := fault_far hR.out.val hrc.out; omega) w' (Below.refl _ _)
  have hkt : k < its.length := (List.getElem?_eq_some_iff.1 hit).1
  obtain ⟨tb, toff, rfl, t0⟩ : ∃ tb toff, ta = some ⟨tb, toff, none⟩ ∧ w0.cell? ⟨tb, toff + k, none⟩ = some (.string (bs it)) := by
    obtain ⟨a', c', e, hc⟩ := hT
    obtain ⟨b, off, ea, c0⟩ := hc k (by rw [List.length_map]; exact hkt)
    injection e with e1
    refine ⟨b, off, e1.trans ea, ?_⟩
    rw [List.getElem_map, (List.getElem?_eq_some_iff.1 hit).2] at c0
    exact c0
  have HT0 : Hid (∀ w', Below w0.heap.size w0 w' → w'.cell? ⟨tb, toff + k, none⟩ = some (.string (bs it))) := fun w' hb => cell_below t0 hb
  have hki : (k : Int) < (tn : Int) := by omega
  have hktn : k < tn := by omega
  have HAN := Lib.hid han
  have ORG := Lib.hid hI.org
  obtain ⟨q0, q1, q2, q3, q4, q5, q6, q7, q8, q9, q10, q11, q12, q13, q14⟩ := ruleAt hI.rule
  have kf := hI.job.at (i := 1) (v := .int .i64 fo) rfl
  clear hI hT htn hit han
  conv => arg 2; whnf
  have hfi : faultE r.iff true true = 0 := by
    rcases hR.out.when with h | ⟨_, h⟩
    · omega
    · exact h
  rw [hwn] at q1
  have IFS : Hid (∀ w', Below w0.heap.size w0 w' → Calls Tryz.prog 44 #[r.iff.val (.slice ai r.iff.a.length ci), .string (bs line), .string (bs it)] w' fun q w'' => q = .returned (.string (bs (r.iff.str (rc line it)))) ∧ Below w'.heap.size w' w'') := fun w' hb => STR.out r.iff _ w' (ORG.out.trans (hb.mono ORG.out.size)) (hX.out w' (ORG.out.trans (hb.mono ORG.out.size))).1 hfi
  unfold Ex.val at IFS
  obtain ⟨ifs, hifs⟩ : ∃ ifs, ifs = r.iff.str (rc line it) := ⟨_, rfl⟩
  rw [← hifs] at IFS
  obtain ⟨ib, hib⟩ : ∃ ib, ((bs ifs).toList == (bs r.s).toList) = ib := ⟨_, rfl⟩
  have HIE : Hid (decide (r.iff.str (rc line it) = r.s) = ib) := by
    show _ = _
    rw [← hib, ← hifs, ByteArray.toList_eq, ByteArray.toList_eq]
    simp [bs]
    by_cases h : ifs = r.s
    · simp [h]
    · simp [h]
  clear hifs hfi
  have k2 := cell_regrown q2
  have k3 := cell_regrown q3
  have k4 := cell_regrown q4
  have k5 := cell_regrown q5
  have k6 := cell_regrown q6
  have kt := cell_regrown t0
  have cI : Hid (∀ d os, Calls Tryz.prog 44 #[.agg #[.int .i64 r.iff.k, .int .i64 r.iff.n, .string (bs r.iff.s), .slice ai r.iff.a.length ci], .string (bs line), .string (bs it)] (Sort.grow (redrawn w0 d) os) fun q w'' => q = .returned (.string (bs ifs)) ∧ ∃ p : Regrown, w'' = Sort.grow (redrawn w0 p.d) p.os) := fun d os => Calls.regrown_of (IFS.out _ (below_regrown w0 d os))
  go_upto_region 13 with fail
  refine wp_region_quiet_below hmix (by kernel_rfl) ?_
  repeat (quiet_step (first | (go_at_call 44; exact cI.out _ _)))
  refine wpQuiet_nil ?_
  intro _ hw'
  obtain ⟨⟨dq0, osq0⟩, hw''⟩ := hw'
  subst hw''
  have HB2 : Hid (Below w0.heap.size w0 (Sort.grow (redrawn w0 dq0) osq0)) := below_regrown w0 dq0 osq0
  generalize Sort.grow (redrawn w0 dq0) osq0 = w2 at *
  obtain ⟨d0, d1, d2, d3, d4, d5, d6, d7, d8, d9, d10, d11, d12, d13, d14⟩ := ruleAt (HI.out.below HB2.out).rule
  clear q0 q1 q2 q3 q4 q5 q6 q7 q8 q9 q10 q11 q12 q13 q14 t0 kf k2 k3 k4 k5 k6 kt cI
  all_goals
    rw [hwn] at d1
    cases ib with
    | true =>
      have HOLD : Hid (holdsB r (rc line it) = false) := by
        show _ = _
        have h := HIE.out
        rw [decide_eq_true_eq] at h
        unfold holdsB; rw [hwn]; simp [h]
      have I2 := HI.out.below HB2.out
      go_wp2
      exact HK.out _ _ _ _ _ _ _ _ _ _ _ _ _ _ _ _ _ _ _ _ _ _ _ _ _ _ _ _ _ _ _ _ _ _ _ _ _ _ _ _ _ _ _ _ _ _ _ _ _ _ _ _ _ w2 (by rw [if_neg (by rw [HOLD.out]; decide), List.append_nil]; exact I2) (fun B v m ys h => ow_below h HB2.out)
    | false =>
      have HOLD : Hid (holdsB r (rc line it) = true) := by
        show _ = _
        have h := HIE.out
        rw [decide_eq_false_iff_not] at h
        unfold holdsB; rw [hwn]; simp [h]
      have kf : 0 = 0 := rfl
      go_upto_region 15 with fail
      clear d0 d1 d2 d3 d4 d5 d6 d7 d8 d9 d10 d11 d12 d13 d14
      have HIZ : Hid (Pk w w2 P B [jr, .int .i64 fo, .bool eb, .int .i64 sl] (ruleCells r ai ak av ci ck cv) (.slice aa an ac) acc) := (HI.out.below HB2.out)
      have HBZ : Hid (Below w0.heap.size w0 w2) := HB2.out
      obtain ⟨q0, q1, q2, q3, q4, q5, q6, q7, q8, q9, q10, q11, q12, q13, q14⟩ := ruleAt HIZ.out.rule
      have t0 := HT0.out w2 HBZ.out
      have KEY : Hid (∀ w', Below w2.heap.size w2 w' → Calls Tryz.prog 44 #[r.key.val (.slice ak r.key.a.length ck), .string (bs line), .string (bs it)] w' fun q w'' => q = .returned (.string (bs (r.key.str (rc line it)))) ∧ Below w'.heap.size w' w'') := fun w' hb => STR.out r.key _ w' (HIZ.out.org.trans (hb.mono HIZ.out.org.size)) (hX.out w' (HIZ.out.org.trans (hb.mono HIZ.out.org.size))).2.1 hR.out.key
      unfold Ex.val at KEY
      obtain ⟨ks, hks⟩ : ∃ ks, ks = r.key.str (rc line it) := ⟨_, rfl⟩
      rw [← hks] at KEY
      have HKS := Lib.hid hks
      have hsz : (bs ks).size = ks.length := bs_size ks
      clear hks
      have k7 := cell_regrown q7
      have k8 := cell_regrown q8
      have k9 := cell_regrown q9
      have k10 := cell_regrown q10
      have kt := cell_regrown t0
      have cK : Hid (∀ d os, Calls Tryz.prog 44 #[.agg #[.int .i64 r.key.k, .int .i64 r.key.n, .string (bs r.key.s), .slice ak r.key.a.length ck], .string (bs line), .string (bs it)] (Sort.grow (redrawn w2 d) os) fun q w'' => q = .returned (.string (bs ks)) ∧ ∃ p : Regrown, w'' = Sort.grow (redrawn w2 p.d) p.os) := fun d os => Calls.regrown_of (KEY.out _ (below_regrown w2 d os))
      go_upto_region 15 with fail
      refine wp_region_quiet_below hmix (by kernel_rfl) ?_
      repeat (quiet_step (first | (go_at_call 44; exact cK.out _ _)))
      refine wpQuiet_nil ?_
      intro _ hw'
      obtain ⟨⟨dq, osq⟩, hw''⟩ := hw'
      subst hw''
      have HB3 : Hid (Below w2.heap.size w2 (Sort.grow (redrawn w2 dq) osq)) := below_regrown w2 dq osq
      generalize Sort.grow (redrawn w2 dq) osq = w3 at *
      clear q0 q1 q2 q3 q4 q5 q6 q7 q8 q9 q10 q11 q12 q13 q14 t0 kf k7 k8 k9 k10 kt cK
      all_goals
        have HI3 := Lib.hid (HIZ.out.below HB3.out)
        have HKT : Hid (bs (ks.take 20) = (pairL r fo (rc line it)).1) := by show _ = _; rw [HKS.out]; rfl
        by_cases h20 : 20 < ks.length
        case' pos =>
          have h20i : (20 : Int) < (ks.length : Int) := by omega
          have hex : (bs ks).extract 0 20 = bs (ks.take 20) := bs_cut ks 20
          have HEX := Lib.hid hex
          clear hex
          go_upto_region 18 with fail
          rw [HEX.out]
        case' neg =>
          have h20i : ¬ (20 : Int) < (ks.length : Int) := by omega
          have hex : ks = ks.take 20 := (List.take_of_length_le (by omega)).symm
          have HEX : Hid (bs ks = bs (ks.take 20)) := by show _ = _; rw [← hex]
          clear hex
          go_upto_region 18 with fail
          rw [HEX.out]
        all_goals
          obtain ⟨p0, p1, p2, p3, p4, p5, p6, p7, p8, p9, p10, p11, p12, p13, p14⟩ := ruleAt HI3.out.rule
          have t1 := HT0.out w3 (below_trans HBZ.out HB3.out)
          have INT3 : Hid (∀ w', Below w3.heap.size w3 w' → Calls Tryz.prog 45 #[r.val.val (.slice av r.val.a.length cv), .string (bs line), .string (bs it)] w' fun q w'' => q = .returned (.int .i64 (r.val.num (rc line it))) ∧ Below w'.heap.size w' w'') := fun w' hb => INT.out w' (HI3.out.org.trans (hb.mono HI3.out.org.size))
          unfold Ex.val at INT3
          have k11 := cell_regrown p11
          have k12 := cell_regrown p12
          have k13 := cell_regrown p13
          have k14 := cell_regrown p14
          have ku := cell_regrown t1
          have cV : Hid (∀ d os, Calls Tryz.prog 45 #[.agg #[.int .i64 r.val.k, .int .i64 r.val.n, .string (bs r.val.s), .slice av r.val.a.length cv], .string (bs line), .string (bs it)] (Sort.grow (redrawn w3 d) os) fun q w'' => q = .returned (.int .i64 (r.val.num (rc line it))) ∧ ∃ p : Regrown, w'' = Sort.grow (redrawn w3 p.d) p.os) := fun d os => Calls.regrown_of (INT3.out _ (below_regrown w3 d os))
          refine wp_region_quiet_below hmix (by kernel_rfl) ?_
          repeat (quiet_step (first | (go_at_call 45; exact cV.out _ _)))
          refine wpQuiet_nil ?_
          intro _ hw'
          obtain ⟨⟨dq2, osq2⟩, hw''⟩ := hw'
          subst hw''
          have HB4 : Hid (Below w3.heap.size w3 (Sort.grow (redrawn w3 dq2) osq2)) := below_regrown w3 dq2 osq2
          generalize Sort.grow (redrawn w3 dq2) osq2 = w4 at *
          clear p0 p1 p2 p3 p4 p5 p6 p7 p8 p9 p10 p11 p12 p13 p14 t1 k11 k12 k13 k14 ku cV
          all_goals
            have HI4 := Lib.hid (HI3.out.below HB4.out)
            have kf := HI4.out.job.at (i := 1) (v := .int .i64 fo) rfl
            have HFV : Hid ((pairL r fo (rc line it)).2 = Pp.firstI fo (r.val.num (rc line it))) := (show _ = _ from rfl)
            generalize r.val.num (rc line it) = nv at *
            by_cases h4 : fo = 4
            · have h4i : (fo == 4) = true := by simp [h4]
              have HPV : Hid (pairL r fo (rc line it) = (bs (ks.take 20), 1)) := by show _ = _; rw [HKT.out]; exact Prod.ext rfl (by rw [HFV.out]; simp [Pp.firstI, h4])
              clear h4
              go_upto_region 21 with fail
              clear kf h4i
              go_wp2_with (at_builtin; refine Hid.out ?_)
              refine Lib.hid ?_
              refine wpList_append_own _ rfl (.tmp 79) (.tmp 83) 42 rfl w.heap.size 67 ip (.agg #[.string ⟨#[]⟩, .int .i64 0]) 2 24 Tryz.underlying42 hp0 hp1 hp2 hp3 rfl (by decide) (.slice aa an ac) acc.length (Pp.cellsP acc) rfl (HI4.out.row.alloc _) ⟨w4.heap.size, 0, none⟩ 1 1 [.string (bs (ks.take 20)), .int .i64 1] rfl rfl ?c1 ?c5 ?c2 ?c3 ?c4 ?_
              case c1 => exact lit_cells rfl (show 2 ≤ maxLen by decide)
              case c5 => intro u hu; simp at hu; rcases hu with rfl | rfl <;> rfl
              case c2 => unfold maxLen; omega
              case c3 => omega
              case c4 => have := HI4.out.org.size; simp; omega
              intro v2 w9 hown9 hg9 _
              have I9 : Pk w w9 P B [jr, .int .i64 fo, .bool eb, .int .i64 sl] (ruleCells r ai ak av ci ck cv) v2 (acc ++ (if holdsB r (rc line it) = true then [pairL r fo (rc line it)] else [])) := by
                rw [if_pos HOLD.out, HPV.out]
                refine (HI4.out.below (below_box _)).grown ?_ hg9
                rw [List.length_append, Pp.cellsP_append]
                exact hown9
              go_wp2
              exact HK.out _ _ _ _ _ _ _ _ _ _ _ _ _ _ _ _ _ _ _ _ _ _ _ _ _ _ _ _ _ _ _ _ _ _ _ _ _ _ _ _ _ _ _ _ _ _ _ _ _ _ _ _ v2 w9 I9 (fun B v m ys h => ow_grown (ow_below h (below_trans (below_trans (below_trans HBZ.out HB3.out) HB4.out) (below_box _))) (HI4.out.row.alloc _) (by decide) hg9)
            · have h4i : (fo == 4) = false := by simp [h4]
              have HPV : Hid (pairL r fo (rc line it) = (bs (ks.take 20), nv)) := by show _ = _; rw [HKT.out]; exact Prod.ext rfl (by rw [HFV.out]; simp [Pp.firstI, h4])
              clear h4
              go_upto_region 21 with fail
              clear kf h4i
              go_wp2_with (at_builtin; refine Hid.out ?_)
              refine Lib.hid ?_
              refine wpList_append_own _ rfl (.tmp 79) (.tmp 83) 42 rfl w.heap.size 67 ip (.agg #[.string ⟨#[]⟩, .int .i64 0]) 2 24 Tryz.underlying42 hp0 hp1 hp2 hp3 rfl (by decide) (.slice aa an ac) acc.length (Pp.cellsP acc) rfl (HI4.out.row.alloc _) ⟨w4.heap.size, 0, none⟩ 1 1 [.string (bs (ks.take 20)), .int .i64 nv] rfl rfl ?c1 ?c5 ?c2 ?c3 ?c4 ?_
              case c1 => exact lit_cells rfl (show 2 ≤ maxLen by decide)
              case c5 => intro u hu; simp at hu; rcases hu with rfl | rfl <;> rfl
              case c2 => unfold maxLen; omega
              case c3 => omega
              case c4 => have := HI4.out.org.size; simp; omega
              intro v2 w9 hown9 hg9 _
              have I9 : Pk w w9 P B [jr, .int .i64 fo, .bool eb, .int .i64 sl] (ruleCells r ai ak av ci ck cv) v2 (acc ++ (if holdsB r (rc line it) = true then [pairL r fo (rc line it)] else [])) := by
                rw [if_pos HOLD.out, HPV.out]
                refine (HI4.out.below (below_box _)).grown ?_ hg9
                rw [List.length_append, Pp.cellsP_append]
                exact hown9
              go_wp2
              exact HK.out _ _ _ _ _ _ _ _ _ _ _ _ _ _ _ _ _ _ _ _ _ _ _ _ _ _ _ _ _ _ _ _ _ _ _ _ _ _ _ _ _ _ _ _ _ _ _ _ _ _ _ _ v2 w9 I9 (fun B v m ys h => ow_grown (ow_below h (below_trans (below_trans (below_trans HBZ.out HB3.out) HB4.out) (below_box _))) (HI4.out.row.alloc _) (by decide) hg9)
end Go.Proofs.YtmgpacenooncjaaGreatDoor
/- The document's pairs of a record: all looks of a rule. Written by tpl/mk_tp.py. -/
namespace Go.Proofs.YtmgpacenooncjaaGreatDoor
open Go.ChangeShapes Go.WideShapes Go.ChangeAt Go.RowKit
set_option maxRecDepth 1000000 in
set_option maxHeartbeats 4000000 in
theorem made_b3 (w : World) (P B k tn tc an ac : Nat) (fo sl : Int) (eb : Bool) (jr : Value) (r : Rl) (ai ak av ta aa : Option Addr) (ci ck cv : Nat) (line it : List UInt8) (its : List (List UInt8)) (acc : List (ByteArray × Int)) (w0 : World) (K : Act → World → Prop) (s0 s3 s4 s6 s10 s11 s12 s13 s14 s15 s16 s17 s18 s19 s20 s21 s22 s23 s24 s25 s26 s27 s28 s29 s30 s31 s32 s33 s34 s35 s36 s37 s38 s39 s40 s41 s42 s43 s44 s45 s46 s47 s48 s49 s50 s51 s52 s53 s54 s55 s56 s57 s58 s59 s60 s61 s62 s63 s64 s65 s66 s67 s68 s69 s70 s71 s72 s73 s74 s75 s76 s77 s78 s79 s80 s81 s82 s83 s84 s85 : Value)
    (hI : Pk w w0 P B [jr, .int .i64 fo, .bool eb, .int .i64 sl] (ruleCells r ai ak av ci ck cv) (.slice aa an ac) acc)
    (han : an = acc.length)
    (hal : acc.length ≤ 500000)
    (hT : IsTexts w0 (.slice ta tn tc) (its.map bs))
    (hit : its[k]? = some it)
    (htn : tn = its.length)
    (hX : Hid (∀ w', Below w.heap.size w w' → IsEx w' (.slice ai r.iff.a.length ci) r.iff ∧ IsEx w' (.slice ak r.key.a.length ck) r.key ∧ IsEx w' (.slice av r.val.a.length cv) r.val))
    (hR : Hid (RlIn r))
    (hline : line.length ≤ 100000)
    (hrc : Hid (RcIn (rc line it) 100000))
    (HK : Hid (∀ (z10 z11 z12 z36 z37 z38 z39 z40 z41 z42 z43 z44 z45 z46 z47 z48 z49 z50 z51 z52 z53 z54 z55 z56 z57 z58 z59 z60 z61 z62 z63 z64 z65 z66 z67 z68 z69 z70 z71 z72 z73 z74 z75 z76 z77 z78 z79 z80 z81 z82 z83 z84 : Value) (v2 : Value) (wx : World), Pk w wx P B [jr, .int .i64 fo, .bool eb, .int .i64 sl] (ruleCells r ai ak av ci ck cv) v2 (acc ++ (if holdsB r (rc line it) = true then [pairL r fo (rc line it)] else [])) → (∀ B v m ys, w0.ownsRow B 9 1 v m ys → wx.ownsRow B 9 1 v m ys) → K ⟨#[s0, .string (bs line), .pointer (some ⟨P, 0, none⟩), s3, s4, v2, s6, .pointer (some ⟨B, 0, none⟩), .slice ta tn tc, .int .i64 (k : Int), z10, z11, z12, s13, s14, s15, s16, s17, s18, s19, s20, s21, s22, s23, s24, s25, s26, s27, s28, s29, s30, s31, s32, s33, s34, s35, z36, z37, z38, z39, z40, z41, z42, z43, z44, z45, z46, z47, z48, z49, z50, z51, z52, z53, z54, z55, z56, z57, z58, z59, z60, z61, z62, z63, z64, z65, z66, z67, z68, z69, z70, z71, z72, z73, z74, z75, z76, z77, z78, z79, z80, z81, z82, z83, z84, s85], []⟩ wx)) :
    Code.wp Tryz.prog (pieceIn Tryz.f16.body 3) (Exit.then K fun _ _ _ => False) ⟨#[s0, .string (bs line), .pointer (some ⟨P, 0, none⟩), s3, s4, .slice aa an ac, s6, .pointer (some ⟨B, 0, none⟩), .slice ta tn tc, .int .i64 (k : Int), s10, s11, s12, s13, s14, s15, s16, s17, s18, s19, s20, s21, s22, s23, s24, s25, s26, s27, s28, s29, s30, s31, s32, s33, s34, s35, s36, s37, s38, s39, s40, s41, s42, s43, s44, s45, s46, s47, s48, s49, s50, s51, s52, s53, s54, s55, s56, s57, s58, s59, s60, s61, s62, s63, s64, s65, s66, s67, s68, s69, s70, s71, s72, s73, s74, s75, s76, s77, s78, s79, s80, s81, s82, s83, s84, s85], []⟩ w0 := by
  rcases hR.out.when with h | ⟨h | h, _⟩
  · exact made_b3_0 w P B k tn tc an ac fo sl eb jr r ai ak av ta aa ci ck cv line it its acc w0 K s0 s3 s4 s6 s10 s11 s12 s13 s14 s15 s16 s17 s18 s19 s20 s21 s22 s23 s24 s25 s26 s27 s28 s29 s30 s31 s32 s33 s34 s35 s36 s37 s38 s39 s40 s41 s42 s43 s44 s45 s46 s47 s48 s49 s50 s51 s52 s53 s54 s55 s56 s57 s58 s59 s60 s61 s62 s63 s64 s65 s66 s67 s68 s69 s70 s71 s72 s73 s74 s75 s76 s77 s78 s79 s80 s81 s82 s83 s84 s85 hI han hal hT hit htn hX hR hline hrc h HK
  · exact made_b3_1 w P B k tn tc an ac fo sl eb jr r ai ak av ta aa ci ck cv line it its acc w0 K s0 s3 s4 s6 s10 s11 s12 s13 s14 s15 s16 s17 s18 s19 s20 s21 s22 s23 s24 s25 s26 s27 s28 s29 s30 s31 s32 s33 s34 s35 s36 s37 s38 s39 s40 s41 s42 s43 s44 s45 s46 s47 s48 s49 s50 s51 s52 s53 s54 s55 s56 s57 s58 s59 s60 s61 s62 s63 s64 s65 s66 s67 s68 s69 s70 s71 s72 s73 s74 s75 s76 s77 s78 s79 s80 s81 s82 s83 s84 s85 hI han hal hT hit htn hX hR hline hrc h HK
  · exact made_b3_2 w P B k tn tc an ac fo sl eb jr r ai ak av ta aa ci ck cv line it its acc w0 K s0 s3 s4 s6 s10 s11 s12 s13 s14 s15 s16 s17 s18 s19 s20 s21 s22 s23 s24 s25 s26 s27 s28 s29 s30 s31 s32 s33 s34 s35 s36 s37 s38 s39 s40 s41 s42 s43 s44 s45 s46 s47 s48 s49 s50 s51 s52 s53 s54 s55 s56 s57 s58 s59 s60 s61 s62 s63 s64 s65 s66 s67 s68 s69 s70 s71 s72 s73 s74 s75 s76 s77 s78 s79 s80 s81 s82 s83 s84 s85 hI han hal hT hit htn hX hR hline hrc h HK
set_option maxRecDepth 1000000 in
set_option maxHeartbeats 4000000 in
theorem made_b2 (w : World) (P B tn tc an ac : Nat) (fo sl : Int) (eb : Bool) (jr : Value) (r : Rl) (ai ak av ta aa : Option Addr) (ci ck cv : Nat) (line : List UInt8) (its : List (List UInt8)) (acc : List (ByteArray × Int)) (w0 : World) (K : Act → World → Prop) (s0 s3 s4 s6 s10 s11 s12 s13 s14 s15 s16 s17 s18 s19 s20 s21 s22 s23 s24 s25 s26 s27 s28 s29 s30 s31 s32 s33 s34 s35 s36 s37 s38 s39 s40 s41 s42 s43 s44 s45 s46 s47 s48 s49 s50 s51 s52 s53 s54 s55 s56 s57 s58 s59 s60 s61 s62 s63 s64 s65 s66 s67 s68 s69 s70 s71 s72 s73 s74 s75 s76 s77 s78 s79 s80 s81 s82 s83 s84 s85 : Value)
    (hI : Pk w w0 P B [jr, .int .i64 fo, .bool eb, .int .i64 sl] (ruleCells r ai ak av ci ck cv) (.slice aa an ac) acc)
    (hal : acc.length ≤ 400004)
    (hts : w0.ownsRow w.heap.size 9 1 (.slice ta tn tc) tn (strs its))
    (htn : tn = its.length)
    (hil : its.length ≤ 90000)
    (hX : Hid (∀ w', Below w.heap.size w w' → IsEx w' (.slice ai r.iff.a.length ci) r.iff ∧ IsEx w' (.slice ak r.key.a.length ck) r.key ∧ IsEx w' (.slice av r.val.a.length cv) r.val))
    (hR : Hid (RlIn r))
    (hline : line.length ≤ 100000)
    (hrc : Hid (∀ it ∈ its, RcIn (rc line it) 100000))
    (HK : Hid (∀ (z9 z10 z11 z12 z30 z31 z32 z33 z34 z35 z36 z37 z38 z39 z40 z41 z42 z43 z44 z45 z46 z47 z48 z49 z50 z51 z52 z53 z54 z55 z56 z57 z58 z59 z60 z61 z62 z63 z64 z65 z66 z67 z68 z69 z70 z71 z72 z73 z74 z75 z76 z77 z78 z79 z80 z81 z82 z83 z84 : Value) (v2 : Value) (wx : World), Pk w wx P B [jr, .int .i64 fo, .bool eb, .int .i64 sl] (ruleCells r ai ak av ci ck cv) v2 (acc ++ ((its.map (rc line)).filter (holdsB r)).map (pairL r fo)) → K ⟨#[s0, .string (bs line), .pointer (some ⟨P, 0, none⟩), s3, s4, v2, s6, .pointer (some ⟨B, 0, none⟩), .slice ta tn tc, z9, z10, z11, z12, s13, s14, s15, s16, s17, s18, s19, s20, s21, s22, s23, s24, s25, s26, s27, s28, s29, z30, z31, z32, z33, z34, z35, z36, z37, z38, z39, z40, z41, z42, z43, z44, z45, z46, z47, z48, z49, z50, z51, z52, z53, z54, z55, z56, z57, z58, z59, z60, z61, z62, z63, z64, z65, z66, z67, z68, z69, z70, z71, z72, z73, z74, z75, z76, z77, z78, z79, z80, z81, z82, z83, z84, s85], []⟩ wx)) :
    Code.wp Tryz.prog (pieceIn Tryz.f16.body 2) (Exit.then K fun _ _ _ => False) ⟨#[s0, .string (bs line), .pointer (some ⟨P, 0, none⟩), s3, s4, .slice aa an ac, s6, .pointer (some ⟨B, 0, none⟩), .slice ta tn tc, .int .i64 0, s10, s11, s12, s13, s14, s15, s16, s17, s18, s19, s20, s21, s22, s23, s24, s25, s26, s27, s28, s29, s30, s31, s32, s33, s34, s35, s36, s37, s38, s39, s40, s41, s42, s43, s44, s45, s46, s47, s48, s49, s50, s51, s52, s53, s54, s55, s56, s57, s58, s59, s60, s61, s62, s63, s64, s65, s66, s67, s68, s69, s70, s71, s72, s73, s74, s75, s76, s77, s78, s79, s80, s81, s82, s83, s84, s85], []⟩ w0 := by
  have HI : Hid (Pk w w0 P B [jr, .int .i64 fo, .bool eb, .int .i64 sl] (ruleCells r ai ak av ci ck cv) (.slice aa an ac) (acc ++ (((its.map (rc line)).take 0).filter (holdsB r)).map (pairL r fo))) := by
    show Pk _ _ _ _ _ _ _ _
    rw [List.take_zero, List.filter_nil, List.map_nil, List.append_nil]
    exact hI
  have HTS := Lib.hid hts
  have HTN := Lib.hid htn
  have htb : tn ≤ 90000 := by omega
  clear hI hts htn
  conv => arg 2; whnf
  go_wp2_with fail
  go_loopg [5, 9] tn (fun gg lv iv wr => ∃ k : Nat, gg = tn - k ∧ k ≤ tn ∧ iv = .int .i64 k ∧ Hid (Pk w wr P B [jr, .int .i64 fo, .bool eb, .int .i64 sl] (ruleCells r ai ak av ci ck cv) lv (acc ++ (((its.map (rc line)).take k).filter (holdsB r)).map (pairL r fo))) ∧ Hid (wr.ownsRow w.heap.size 9 1 (.slice ta tn tc) tn (strs its)))
  case atStart => exact ⟨0, rfl, Nat.zero_le _, rfl, HI, HTS⟩
  case round =>
    clear HI HTS
    obtain ⟨k, hgk, hk, rfl, HI, HTS⟩ := hrel
    have HGK := Lib.hid hgk
    clear hgk
    by_cases hlt : k < tn
    · obtain ⟨it, hit⟩ : ∃ it, its[k]? = some it := ⟨its[k]'(by have := HTN.out; omega), by simp⟩
      have hx : (its.map (rc line))[k]? = some (rc line it) := by rw [List.getElem?_map, hit]; rfl
      have HTK := Lib.hid (ruleP_take r fo (its.map (rc line)) k (rc line it) hx)
      have hlen : (acc ++ (((its.map (rc line)).take k).filter (holdsB r)).map (pairL r fo)).length ≤ 500000 := by
        rw [List.length_append, List.length_map]
        have h1 := List.length_filter_le (holdsB r) ((its.map (rc line)).take k)
        have h2 := List.length_take_le' k (its.map (rc line))
        rw [List.length_map] at h2
        omega
      obtain ⟨ak2, hak⟩ : ∃ l, l = acc ++ (((its.map (rc line)).take k).filter (holdsB r)).map (pairL r fo) := ⟨_, rfl⟩
      rw [← hak] at HI hlen
      obtain ⟨aa2, ac2, e⟩ : ∃ a c, u5 = .slice a ak2.length c := by
        rcases row_slice HI.out.row with ⟨h1, h2⟩ | ⟨g, c, h1, _⟩
        · exact ⟨none, 0, by rw [h1, h2]⟩
        · exact ⟨_, c, h1⟩
      have HAK : Hid (acc ++ (((its.map (rc line)).take (k + 1)).filter (holdsB r)).map (pairL r fo) = ak2 ++ (if holdsB r (rc line it) = true then [pairL r fo (rc line it)] else [])) := by
        show _ = _
        rw [HTK.out, hak, List.append_assoc]
      subst e
      have HIT := Lib.hid hit
      have HLEN := Lib.hid hlen
      have HLT := Lib.hid hlt
      obtain ⟨an2, han2⟩ : ∃ n, n = ak2.length := ⟨_, rfl⟩
      rw [← han2] at HI
      have HAN2 := Lib.hid han2
      rw [← han2]
      clear hit hx hlen hak HTK han2
      go_upto_block 3 with fail
      refine wp_norm (made_b3 w P B k tn tc an2 ac2 fo sl eb jr r ai ak av ta aa2 ci ck cv line it its ak2 _ _ _ _ _ _ _ _ _ _ _ _ _ _ _ _ _ _ _ _ _ _ _ _ _ _ _ _ _ _ _ _ _ _ _ _ _ _ _ _ _ _ _ _ _ _ _ _ _ _ _ _ _ _ _ _ _ _ _ _ _ _ _ _ _ _ _ _ _ _ _ _ _ _ _ _ _ _ _ _ _ _ HI.out HAN2.out HLEN.out (isTexts_of (by rw [← HTN.out]; exact HTS.out)) HIT.out HTN.out hX hR hline (hrc.out it (List.mem_of_getElem? HIT.out)) ?_)
      refine Lib.hid ?_
      intro z10 z11 z12 z36 z37 z38 z39 z40 z41 z42 z43 z44 z45 z46 z47 z48 z49 z50 z51 z52 z53 z54 z55 z56 z57 z58 z59 z60 z61 z62 z63 z64 z65 z66 z67 z68 z69 z70 z71 z72 z73 z74 z75 z76 z77 z78 z79 z80 z81 z82 z83 z84 v2 wx hIx hOx
      have HIX := Lib.hid hIx
      have HTX : Hid (wx.ownsRow w.heap.size 9 1 (.slice ta tn tc) tn (strs its)) := hOx _ _ _ _ HTS.out
      clear hIx hOx HI HTS
      go_wp2
      go_roundg (tn - (k + 1))
      case measure => have := HGK.out; have := HLT.out; omega
      case rel => exact ⟨k + 1, rfl, HLT.out, by have := HTN.out; have := HLT.out; go_num, by rw [HAK.out]; exact HIX.out, HTX⟩
    · have HF : Hid (Pk w wr P B [jr, .int .i64 fo, .bool eb, .int .i64 sl] (ruleCells r ai ak av ci ck cv) u5 (acc ++ ((its.map (rc line)).filter (holdsB r)).map (pairL r fo))) := by
        have h := HI.out
        rw [List.take_of_length_le (by rw [List.length_map]; have := HTN.out; omega)] at h
        exact h
      clear HI
      go_wp2
      exact HK.out _ _ _ _ _ _ _ _ _ _ _ _ _ _ _ _ _ _ _ _ _ _ _ _ _ _ _ _ _ _ _ _ _ _ _ _ _ _ _ _ _ _ _ _ _ _ _ _ _ _ _ _ _ _ _ _ _ _ _ _ wr HF.out
end Go.Proofs.YtmgpacenooncjaaGreatDoor
/- The document's pairs of a record: a rule. Written by tpl/mk_tp.py. -/
namespace Go.Proofs.YtmgpacenooncjaaGreatDoor
open Go.ChangeShapes Go.WideShapes Go.ChangeAt Go.RowKit
/-- What the document's PairsMade has made by now, beside its job. -/
structure Qk (w wr : World) (P : Nat) (jv : List Value) (lv : Value) (acc : List (ByteArray × Int)) : Prop where
  org : Below w.heap.size w wr
  row : wr.ownsRow w.heap.size 67 2 lv acc.length (Pp.cellsP acc)
  job : Blk wr P 24 jv
theorem Qk.below {w wr w' : World} {P : Nat} {jv : List Value} {lv : Value} {acc : List (ByteArray × Int)} (h : Qk w wr P jv lv acc) (hb : Below wr.heap.size wr w') : Qk w w' P jv lv acc :=
  ⟨h.org.trans (hb.mono h.org.size), ow_below h.row hb, h.job.blw hb⟩
theorem Pk.q {w wr : World} {P B : Nat} {jv cs : List Value} {lv : Value} {acc : List (ByteArray × Int)} (h : Pk w wr P B jv cs lv acc) : Qk w wr P jv lv acc := ⟨h.org, h.row, h.job⟩
theorem looks_its (r : Rl) (kind : Int) (line : List UInt8) : ruleP r kind (ofL line) = (((if r.each = true then wordsL line else [[]]).map (rc line)).filter (holdsB r)).map (pairL r kind) := by
  unfold ruleP looksL
  split <;> rfl
theorem wp_last {c : Code} {Q : Exit → Act → World → Prop} {a : Act} {w : World} (h : c.wp Tryz.prog (Exit.then (fun a w => Q .normal a w) fun _ _ _ => False) a w) : c.wp Tryz.prog Q a w :=
  wp_mono h fun e a w hq => by
    cases e with
    | normal => exact hq
    | exit id => exact False.elim hq
    | goto l => exact False.elim hq
    | ret => exact False.elim hq
    | panic ch => exact False.elim hq
    | outgrown => exact False.elim hq
set_option maxRecDepth 1000000 in
set_option maxHeartbeats 4000000 in
theorem made_b1 (w : World) (P i rn rcap an ac : Nat) (fo sl : Int) (eb : Bool) (r : Rl) (ra aa : Option Addr) (l : List Rl) (line : List UInt8) (acc : List (ByteArray × Int)) (w0 : World) (K : Act → World → Prop) (s0 s3 s4 s7 s8 s9 s10 s11 s12 s13 s14 s15 s16 s17 s18 s19 s20 s21 s22 s23 s24 s25 s26 s27 s28 s29 s30 s31 s32 s33 s34 s35 s36 s37 s38 s39 s40 s41 s42 s43 s44 s45 s46 s47 s48 s49 s50 s51 s52 s53 s54 s55 s56 s57 s58 s59 s60 s61 s62 s63 s64 s65 s66 s67 s68 s69 s70 s71 s72 s73 s74 s75 s76 s77 s78 s79 s80 s81 s82 s83 s84 s85 : Value)
    (hI : Qk w w0 P [.slice ra rn rcap, .int .i64 fo, .bool eb, .int .i64 sl] (.slice aa an ac) acc)
    (hal : acc.length ≤ 400004)
    (hr : l[i]? = some r)
    (hrn : rn = l.length)
    (HRS : Hid (∀ w', Below w.heap.size w w' → IsRules w' (.slice ra rn rcap) l))
    (hR : Hid (RlIn r))
    (hline : line.length ≤ 80000)
    (HK : Hid (∀ (z7 z8 z9 z10 z11 z12 z20 z21 z22 z23 z24 z25 z26 z27 z28 z29 z30 z31 z32 z33 z34 z35 z36 z37 z38 z39 z40 z41 z42 z43 z44 z45 z46 z47 z48 z49 z50 z51 z52 z53 z54 z55 z56 z57 z58 z59 z60 z61 z62 z63 z64 z65 z66 z67 z68 z69 z70 z71 z72 z73 z74 z75 z76 z77 z78 z79 z80 z81 z82 z83 z84 : Value) (v2 : Value) (wx : World), Qk w wx P [.slice ra rn rcap, .int .i64 fo, .bool eb, .int .i64 sl] v2 (acc ++ ruleP r fo (ofL line)) → K ⟨#[s0, .string (bs line), .pointer (some ⟨P, 0, none⟩), s3, s4, v2, .int .i64 (i : Int), z7, z8, z9, z10, z11, z12, s13, s14, s15, s16, s17, s18, s19, z20, z21, z22, z23, z24, z25, z26, z27, z28, z29, z30, z31, z32, z33, z34, z35, z36, z37, z38, z39, z40, z41, z42, z43, z44, z45, z46, z47, z48, z49, z50, z51, z52, z53, z54, z55, z56, z57, z58, z59, z60, z61, z62, z63, z64, z65, z66, z67, z68, z69, z70, z71, z72, z73, z74, z75, z76, z77, z78, z79, z80, z81, z82, z83, z84, s85], []⟩ wx)) :
    Code.wp Tryz.prog (pieceIn Tryz.f16.body 1) (Exit.then K fun _ _ _ => False) ⟨#[s0, .string (bs line), .pointer (some ⟨P, 0, none⟩), s3, s4, .slice aa an ac, .int .i64 (i : Int), s7, s8, s9, s10, s11, s12, s13, s14, s15, s16, s17, s18, s19, s20, s21, s22, s23, s24, s25, s26, s27, s28, s29, s30, s31, s32, s33, s34, s35, s36, s37, s38, s39, s40, s41, s42, s43, s44, s45, s46, s47, s48, s49, s50, s51, s52, s53, s54, s55, s56, s57, s58, s59, s60, s61, s62, s63, s64, s65, s66, s67, s68, s69, s70, s71, s72, s73, s74, s75, s76, s77, s78, s79, s80, s81, s82, s83, s84, s85], []⟩ w0 := by
  have HI := Lib.hid hI
  have hil : i < l.length := (List.getElem?_eq_some_iff.1 hr).1
  have hii : (i : Int) < (rn : Int) := by omega
  have hin : i < rn := by omega
  obtain ⟨a', cap', b, off, AI, AK, AV, e, ha, hc⟩ := HRS.out w (Below.refl _ _)
  have ea := ha (by omega)
  rw [Value.slice.injEq] at e
  obtain ⟨e1, -, -⟩ := e
  rw [ea] at e1
  subst e1
  obtain ⟨⟨c0, c1, c2, c3, c4, c5, c6, c7, c8, c9, c10, c11, c12, c13, c14⟩, xi, xk, xv⟩ := hc i r hr
  obtain ⟨ai, ci, ei⟩ := xi.slice
  obtain ⟨ak, ck, ek⟩ := xk.slice
  obtain ⟨av, cv, ev⟩ := xv.slice
  rw [ei] at c5 xi
  rw [ek] at c10 xk
  rw [ev] at c14 xv
  have HX : Hid (∀ w', Below w.heap.size w w' → IsEx w' (.slice ai r.iff.a.length ci) r.iff ∧ IsEx w' (.slice ak r.key.a.length ck) r.key ∧ IsEx w' (.slice av r.val.a.length cv) r.val) := fun w' hb => ⟨xi.lower hb, xk.lower hb, xv.lower hb⟩
  have hbw := hI.org
  replace c0 := cell_below c0 hbw
  replace c1 := cell_below c1 hbw
  replace c2 := cell_below c2 hbw
  replace c3 := cell_below c3 hbw
  replace c4 := cell_below c4 hbw
  replace c5 := cell_below c5 hbw
  replace c6 := cell_below c6 hbw
  replace c7 := cell_below c7 hbw
  replace c8 := cell_below c8 hbw
  replace c9 := cell_below c9 hbw
  replace c10 := cell_below c10 hbw
  replace c11 := cell_below c11 hbw
  replace c12 := cell_below c12 hbw
  replace c13 := cell_below c13 hbw
  replace c14 := cell_below c14 hbw
  obtain ⟨w4, hw4⟩ : ∃ w4, w4 = w0.alloc (.cells #[.bool r.each, .int .i64 r.when, .int .i64 r.iff.k, .int .i64 r.iff.n, .string (bs r.iff.s), .slice ai r.iff.a.length ci, .string (bs r.s), .int .i64 r.key.k, .int .i64 r.key.n, .string (bs r.key.s), .slice ak r.key.a.length ck, .int .i64 r.val.k, .int .i64 r.val.n, .string (bs r.val.s), .slice av r.val.a.length cv] 58) := ⟨_, rfl⟩
  obtain ⟨B, hB⟩ : ∃ B, B = w0.heap.size := ⟨_, rfl⟩
  have RU : Blk w4 B 58 (ruleCells r ai ak av ci ck cv) := by rw [hw4]; exact blk_new hB
  have hb4 : Below w0.heap.size w0 w4 := by rw [hw4]; exact below_box _
  have k0 := hI.job.at (i := 0) (v := .slice (some ⟨b, off, none⟩) rn rcap) rfl
  obtain ⟨w5, hw5⟩ : ∃ w5, w5 = w4.alloc (.cells #[.string ⟨#[]⟩] 9) := ⟨_, rfl⟩
  obtain ⟨T0, hT0⟩ : ∃ T0, T0 = w4.heap.size := ⟨_, rfl⟩
  have hb5 : Below w4.heap.size w4 w5 := by rw [hw5]; exact below_box _
  have hs4 : w4.heap.size = w0.heap.size + 1 := by rw [hw4]; simp
  have LIT : Hid (w5.ownsRow w.heap.size 9 1 (.slice (some ⟨T0, 0, none⟩) 1 1) 1 (strs [[]])) := by
    show World.ownsRow _ _ _ _ _ _ _
    rw [hw5, hT0]
    exact World.ownsRow_lit (base := w.heap.size) (size := 1) (e := 9) w4 #[.string ⟨#[]⟩] 1 (by have := hbw.size; omega) (by decide) rfl
  have P5 : Hid (Pk w w5 P B [.slice (some ⟨b, off, none⟩) rn rcap, .int .i64 fo, .bool eb, .int .i64 sl] (ruleCells r ai ak av ci ck cv) (.slice aa an ac) acc) := by
    have h := (HI.out.below hb4).below hb5
    exact ⟨h.org, h.row, h.job, RU.blw hb5⟩
  have RU5 := RU.blw hb5
  have each5 := RU5.at (i := 0) (v := .bool r.each) rfl
  have LK := Lib.hid (looks_its r fo line)
  rw [hs4] at hT0
  rw [hw4] at hw5
  have HW5 := Lib.hid hw5
  have HBB := Lib.hid hB
  have HT0 := Lib.hid hT0
  have HAN : Hid (an = acc.length) := by
    show _ = _
    rcases row_slice hI.row with ⟨h1, h2⟩ | ⟨g, c, h1, _⟩
    · injection h1 with _ h1 _; omega
    · injection h1 with _ h1 _
  have HORG := Lib.hid hbw
  obtain ⟨eb5, heb⟩ : ∃ x, x = r.each := ⟨_, rfl⟩
  rw [← heb] at each5 LK
  have HTN : Hid (∀ it, it ∈ wordsL line ∨ it = [] → RcIn (rc line it) 100000) := fun it h => by
    have h0 := rcIn_of line 100000 (by omega)
    rcases h with h | rfl
    · exact (rcIn_look (each := true) h0 (x := rc line it) (by unfold looksL; rw [if_pos rfl]; exact List.mem_map.2 ⟨it, h, rfl⟩)).1
    · exact h0
  have HWL : Hid ((wordsL line).length ≤ 90000) := Nat.le_trans (words_len line) (by omega)
  have WD : Hid (∀ w', Calls Tryz.prog 43 #[.string (bs line)] w' fun e w'' => ∃ a cap, e = .returned (.slice a (wordsL line).length cap) ∧ Hid (w''.ownsRow w'.heap.size 9 1 (.slice a (wordsL line).length cap) (wordsL line).length (strs (wordsL line))) ∧ Below w'.heap.size w' w'') := fun w' => rwords_own line w' (by omega)
  have HRN := Lib.hid hrn
  clear hI hw4 hw5 hB hT0 hb4 hb5 hs4 RU RU5 xi xk xv hc ha ei ek ev hbw heb hrn hil
  conv => arg 2; whnf
  go_upto_region 7 with fail
  rw [← HW5.out, ← HT0.out, ← HBB.out]
  clear HW5 c0 c1 c2 c3 c4 c5 c6 c7 c8 c9 c10 c11 c12 c13 c14 k0
  cases eb5 with
  | false =>
    clear WD
    go_upto_block 2 with fail
    refine wp_last (made_b2 w P B 1 1 an ac fo sl eb _ r ai ak av (some ⟨T0, 0, none⟩) aa ci ck cv line [[]] acc _ _ _ _ _ _ _ _ _ _ _ _ _ _ _ _ _ _ _ _ _ _ _ _ _ _ _ _ _ _ _ _ _ _ _ _ _ _ _ _ _ _ _ _ _ _ _ _ _ _ _ _ _ _ _ _ _ _ _ _ _ _ _ _ _ _ _ _ _ _ _ _ _ _ _ _ _ _ _ _ _ _ P5.out hal LIT.out rfl (by decide) HX hR (by omega) (fun it h => HTN.out it (.inr (List.mem_singleton.1 h))) ?_)
    refine Lib.hid ?_
    intro z9 z10 z11 z12 z30 z31 z32 z33 z34 z35 z36 z37 z38 z39 z40 z41 z42 z43 z44 z45 z46 z47 z48 z49 z50 z51 z52 z53 z54 z55 z56 z57 z58 z59 z60 z61 z62 z63 z64 z65 z66 z67 z68 z69 z70 z71 z72 z73 z74 z75 z76 z77 z78 z79 z80 z81 z82 z83 z84 v2 wx hIx
    refine HK.out _ _ _ _ _ _ _ _ _ _ _ _ _ _ _ _ _ _ _ _ _ _ _ _ _ _ _ _ _ _ _ _ _ _ _ _ _ _ _ _ _ _ _ _ _ _ _ _ _ _ _ _ _ _ _ _ _ _ _ _ _ _ _ _ _ _ _ _ _ _ _ v2 wx ?_
    rw [LK.out]
    exact hIx.q
  | true =>
    obtain ⟨nw, hnw⟩ : ∃ nw, nw = (wordsL line).length := ⟨_, rfl⟩
    rw [← hnw] at WD
    have HNW := Lib.hid hnw
    clear hnw
    go_wp2_with (go_at_call 43; refine Hid.out ?_)
    refine Lib.hid ?_
    refine (WD.out w5).mono ?_
    clear WD
    rintro _ w6 ⟨ta, tc, rfl, HTW, hb6⟩
    have P6 := Lib.hid (P5.out.below hb6)
    have HTL : Hid (w6.ownsRow w.heap.size 9 1 (.slice ta nw tc) nw (strs (wordsL line))) := ow_low HTW.out P5.out.org.size
    clear hb6 HTW each5
    go_upto_block 2 with fail
    refine wp_last (made_b2 w P B nw tc an ac fo sl eb _ r ai ak av ta aa ci ck cv line (wordsL line) acc _ _ _ _ _ _ _ _ _ _ _ _ _ _ _ _ _ _ _ _ _ _ _ _ _ _ _ _ _ _ _ _ _ _ _ _ _ _ _ _ _ _ _ _ _ _ _ _ _ _ _ _ _ _ _ _ _ _ _ _ _ _ _ _ _ _ _ _ _ _ _ _ _ _ _ _ _ _ _ _ _ _ P6.out hal HTL.out HNW.out HWL.out HX hR (by omega) (fun it h => HTN.out it (.inl h)) ?_)
    refine Lib.hid ?_
    intro z9 z10 z11 z12 z30 z31 z32 z33 z34 z35 z36 z37 z38 z39 z40 z41 z42 z43 z44 z45 z46 z47 z48 z49 z50 z51 z52 z53 z54 z55 z56 z57 z58 z59 z60 z61 z62 z63 z64 z65 z66 z67 z68 z69 z70 z71 z72 z73 z74 z75 z76 z77 z78 z79 z80 z81 z82 z83 z84 v2 wx hIx
    refine HK.out _ _ _ _ _ _ _ _ _ _ _ _ _ _ _ _ _ _ _ _ _ _ _ _ _ _ _ _ _ _ _ _ _ _ _ _ _ _ _ _ _ _ _ _ _ _ _ _ _ _ _ _ _ _ _ _ _ _ _ _ _ _ _ _ _ _ _ _ _ _ _ v2 wx ?_
    rw [LK.out]
    exact hIx.q
end Go.Proofs.YtmgpacenooncjaaGreatDoor
/- The document's pairs of a record. -/
namespace Go.Proofs.YtmgpacenooncjaaGreatDoor
open Go.ChangeShapes Go.WideShapes Go.ChangeAt Go.RowKit
set_option maxRecDepth 1000000 in
set_option maxHeartbeats 4000000 in
theorem pairsMade_any (j : Jb) (rv : Value) (line : List UInt8) (w : World) (h : IsRules w rv j.rules) (hf : jobFault j = 0) (hline : line.length ≤ 80000) :
    Calls Tryz.prog 16 #[j.value rv, .string (bs line)] w fun e w' => ∃ u, e = .returned u ∧ w'.ownsRow w.heap.size 67 2 u (rulesP j.rules j.fold line).length (Pp.cellsP (rulesP j.rules j.fold line)) ∧ Below w.heap.size w w' := by
  obtain ⟨hl1, hl4, -, -, -, -, hrf⟩ := jobFault_parts hf
  have HRF := Lib.hid (rulesFault_all hrf)
  clear hf hrf
  obtain ⟨l, fo, eb, sl⟩ := j
  simp only [Jb.value] at *
  obtain ⟨a, cap, rfl⟩ := h.slice
  obtain ⟨n, hn⟩ : ∃ n, n = l.length := ⟨_, rfl⟩
  rw [← hn] at h hl1 hl4 ⊢
  have HRS : Hid (∀ w', Below w.heap.size w w' → IsRules w' (.slice a n cap) l) := fun w' hb => h.lower hb
  have HN := Lib.hid hn
  clear h hn
  go_enter Tryz.func16, Tryz.ntmps16
  obtain ⟨w1, hw1⟩ : ∃ w1, w1 = w.alloc (.cells #[.slice a n cap, .int .i64 fo, .bool eb, .int .i64 sl] 24) := ⟨_, rfl⟩
  obtain ⟨P, hP⟩ : ∃ P, P = w.heap.size := ⟨_, rfl⟩
  have M0 : Hid (Qk w w1 P [.slice a n cap, .int .i64 fo, .bool eb, .int .i64 sl] (.slice none 0 0) (rulesP (l.take 0) fo line)) := by
    show Qk _ _ _ _ _ _
    rw [hw1]
    exact ⟨below_box _, World.ownsRow_nil _ _ _ _, blk_new hP⟩
  have HW1 := Lib.hid hw1
  have HPP := Lib.hid hP
  clear hw1 hP
  go_upto_block 0 with fail
  rw [← HW1.out, ← HPP.out]
  clear HW1 HPP
  go_wp2_with fail
  go_loopg [5, 6] n (fun gg lv iv wr => ∃ i : Nat, gg = n - i ∧ i ≤ n ∧ iv = .int .i64 i ∧ Hid (Qk w wr P [.slice a n cap, .int .i64 fo, .bool eb, .int .i64 sl] lv (rulesP (l.take i) fo line)))
  case atStart => exact ⟨0, rfl, Nat.zero_le _, rfl, M0⟩
  case round =>
    clear M0
    obtain ⟨i, hgi, hi, rfl, HM⟩ := hrel
    have HGI := Lib.hid hgi
    clear hgi
    have k0 := HM.out.job.at (i := 0) (v := .slice a n cap) rfl
    by_cases hlt : i < n
    · obtain ⟨r, hr⟩ : ∃ r, l[i]? = some r := ⟨l[i]'(by have := HN.out; omega), by simp⟩
      have HR := Lib.hid (rlIn_of (HRF.out r (List.mem_of_getElem? hr)))
      have HRR := Lib.hid hr
      have HRP : Hid (rulesP (l.take (i + 1)) fo line = rulesP (l.take i) fo line ++ ruleP r fo (ofL line)) := by
        show _ = _
        rw [take_snoc hr, rulesP_append, rulesP_one]
      have HAL : Hid ((rulesP (l.take i) fo line).length ≤ 400004) := by
        show _ ≤ _
        have h1 := rulesP_len (l.take i) fo line
        have h2 : (l.take i).length ≤ 4 := by rw [List.length_take]; omega
        have h3 := Nat.mul_le_mul h2 (show line.length + 1 ≤ 80001 by omega)
        omega
      clear hr
      generalize rulesP (l.take i) fo line = acc at *
      obtain ⟨aa, ac, e⟩ : ∃ a c, u5 = .slice a acc.length c := by
        rcases row_slice HM.out.row with ⟨h1, h2⟩ | ⟨g, c, h1, _⟩
        · exact ⟨none, 0, by rw [h1, h2]⟩
        · exact ⟨_, c, h1⟩
      subst e
      obtain ⟨an, han⟩ : ∃ n, n = acc.length := ⟨_, rfl⟩
      rw [← han] at HM
      rw [← han]
      clear han
      go_upto_block 1 with fail
      refine wp_norm (made_b1 w P i n cap an ac fo sl eb r a aa l line acc _ _ _ _ _ _ _ _ _ _ _ _ _ _ _ _ _ _ _ _ _ _ _ _ _ _ _ _ _ _ _ _ _ _ _ _ _ _ _ _ _ _ _ _ _ _ _ _ _ _ _ _ _ _ _ _ _ _ _ _ _ _ _ _ _ _ _ _ _ _ _ _ _ _ _ _ _ _ _ _ _ _ _ _ HM.out HAL.out HRR.out HN.out HRS HR hline ?_)
      refine Lib.hid ?_
      intro z7 z8 z9 z10 z11 z12 z20 z21 z22 z23 z24 z25 z26 z27 z28 z29 z30 z31 z32 z33 z34 z35 z36 z37 z38 z39 z40 z41 z42 z43 z44 z45 z46 z47 z48 z49 z50 z51 z52 z53 z54 z55 z56 z57 z58 z59 z60 z61 z62 z63 z64 z65 z66 z67 z68 z69 z70 z71 z72 z73 z74 z75 z76 z77 z78 z79 z80 z81 z82 z83 z84 v2 wx hIx
      have HIX := Lib.hid hIx
      clear hIx HM k0
      go_wp2
      go_roundg (n - (i + 1))
      case measure => have := HGI.out; omega
      case rel => exact ⟨i + 1, rfl, hlt, by go_num, by rw [HRP.out]; exact HIX.out⟩
    · have HF : Hid (Qk w wr P [.slice a n cap, .int .i64 fo, .bool eb, .int .i64 sl] u5 (rulesP l fo line)) := by
        have h := HM.out
        rw [List.take_of_length_le (by have := HN.out; omega)] at h
        exact h
      clear HM
      go_wp2
      go_ret
      exact ⟨_, rfl, HF.out.row, HF.out.org⟩
end Go.Proofs.YtmgpacenooncjaaGreatDoor
