/- Put together of PpD4, PpD5, PpD6, PpPChk, PpPFlt, PpRise0, PpSame0, PpD7, E0, N5b, Y0, E6, E7, E4, E5, E8, E9, N8. -/
import Derived.Test.YtgkpnjnollfdaaaDoorPpD4a
import Derived.Test.YtgkpnjnollfdaaaDoorPpBase
import Derived.Test.YtgkpnjnollfdaaaDoorPpOwn
import Derived.Test.YtgkpnjnollfdaaaDoorPpIns
import Derived.Test.YtgkpnjnollfdaaaDoorPpSymP
import Derived.Test.YtgkpnjnollfdaaaDoorG2
import Derived.Test.YtgkpnjnollfdaaaDoorN6
import Derived.Deep.LoopGhost
import Derived.Test.YtgkpnjnollfdaaaDoorN7
/- Folders: Step. -/
namespace Go.Proofs.YtgkpnjnollfdaaaDoor.Pp
open Go.ChangeShapes Go.WideShapes Go.ChangeAt Go.RowKit
open Grp Stable
theorem wp_normal {c : Code} {Q : Exit → Act → World → Prop} {a : Act} {w : World} (h : c.wp Tryd.prog (Exit.then (fun a w => Q .normal a w) fun _ _ _ => False) a w) : c.wp Tryd.prog Q a w :=
  wp_mono h fun e a w hq => by
    cases e with
    | normal => exact hq
    | exit id => exact False.elim hq
    | goto l => exact False.elim hq
    | ret => exact False.elim hq
    | panic ch => exact False.elim hq
    | outgrown => exact False.elim hq
set_option maxRecDepth 100000 in
set_option maxHeartbeats 2000000 in
theorem step_any (R a : Nat) (kind n : Int) (ko : Option Addr) (kc : Nat) (ss : List (List (ByteArray × Int))) (ks : List ByteArray) (mo : Option Addr) (mc : Nat) (M : List (ByteArray × Int)) (w : World)
    (hr : IsRun w R kind (.slice ko ss.length kc) ss (.slice mo a mc) (M.take a)) (hM : M = grp kind ss.flatten) (hk : Segs ks ss) (ha : a ≤ ss.length) (hss : ss.length ≤ 60000) (hf : ss.flatten.length ≤ 60000) (hn0 : -9223372036854775808 ≤ n) (hn1 : n ≤ 9223372036854775807) :
    Calls Tryd.prog 23 #[.pointer (some ⟨R, 0, none⟩), .int .i64 n] w fun e w' => ∃ (a' : Nat) (mo' : Option Addr) (mc' : Nat), a' = a + min n.toNat (ss.length - a) ∧ e = .returned (.bool (decide (a' = ss.length))) ∧ IsRun w' R kind (.slice ko ss.length kc) ss (.slice mo' a' mc') (M.take a') ∧ Fr w w' R (Value.slice mo a mc).ownBlock ∧ ((Value.slice mo' a' mc').ownBlock = (Value.slice mo a mc).ownBlock ∨ ∀ b, (Value.slice mo' a' mc').ownBlock = some b → w.heap.size ≤ b) := by
  obtain ⟨i0, hi0, hz0, hz1, hz2⟩ := info_parts pairInfo
  have c0 := hr.blk.at (i := 0) (v := .int .i64 kind) rfl
  have c1 := hr.blk.at (i := 1) (v := .slice ko ss.length kc) rfl
  have c2 := hr.blk.at (i := 2) (v := .slice mo a mc) rfl
  obtain ⟨d, hd⟩ : ∃ d : Nat, (ss.length : Int) - (a : Int) = (d : Int) := ⟨ss.length - a, by omega⟩
  have HD : Hid (d = ss.length - a) := by show _ = _; omega
  have hd1 : d ≤ 60000 := by omega
  have HR := Lib.hid hr
  have HM := Lib.hid hM
  have HK := Lib.hid hk
  clear hr hM hk
  obtain ⟨c, hc⟩ : ∃ c : Int, c = min n (d : Int) := ⟨_, rfl⟩
  obtain ⟨ct, hct⟩ : ∃ ct : Nat, ct = c.toNat := ⟨_, rfl⟩
  have HCT : Hid (ct = min n.toNat (ss.length - a)) := by show _ = _; rw [hct, hc, ← HD.out]; omega
  have hcs : c ≤ 60000 := by omega
  have HCC := Lib.hid hct
  have HC := Lib.hid hc
  have hctd : a + ct ≤ ss.length := by rw [HCT.out]; omega
  clear hct hc
  go_enter Tryd.func23, Tryd.ntmps23
  go_wp2
  go_region
  rw [← HC.out]
  have HR1 := Lib.hid (HR.out.blw (blw_drew (Below.refl _ w)))
  have HF1 : Hid (Fr w w.drew R (Value.slice mo a mc).ownBlock) := Fr.of_blw (blw_drew (Below.refl _ w)) _ _
  generalize w.drew = w1 at *
  clear c0 c1 c2 HR
  go_wp2
  go_loopg [18] ct (fun gg iv wr => ∃ (k : Nat) (mo' : Option Addr) (mc' : Nat), gg = ct - k ∧ k ≤ ct ∧ iv = .int .i64 k ∧ Hid (IsRun wr R kind (.slice ko ss.length kc) ss (.slice mo' (a + k) mc') (M.take (a + k))) ∧ Hid (Fr w wr R (Value.slice mo a mc).ownBlock) ∧ Hid ((Value.slice mo' (a + k) mc').ownBlock = (Value.slice mo a mc).ownBlock ∨ ∀ b, (Value.slice mo' (a + k) mc').ownBlock = some b → w.heap.size ≤ b))
  case atStart => exact ⟨0, mo, mc, rfl, Nat.zero_le _, rfl, HR1, HF1, .inl rfl⟩
  case round =>
    clear HR1 HF1
    obtain ⟨k, mo', mc', hgk, hkc, rfl, HR, HF, HB⟩ := hrel
    have HGK := Lib.hid hgk
    clear hgk
    obtain ⟨ak, hak⟩ : ∃ ak, ak = a + k := ⟨_, rfl⟩
    rw [← hak] at HR HB
    have HAK := Lib.hid hak
    have haks : ak ≤ ss.length := by omega
    have c0 := HR.out.blk.at (i := 0) (v := .int .i64 kind) rfl
    have c1 := HR.out.blk.at (i := 1) (v := .slice ko ss.length kc) rfl
    have c2 := HR.out.blk.at (i := 2) (v := .slice mo' ak mc') rfl
    clear hak
    by_cases hlt : k < ct
    · have hltc : (k : Int) < c := by have := HCC.out; omega
      have hakl : ak < ss.length := by have := HAK.out; omega
      obtain ⟨a0', cp0, ek, hcell⟩ := HR.out.keys wr (Below.refl _ _)
      simp only [Value.slice.injEq] at ek
      obtain ⟨rfl, _, rfl⟩ := ek
      obtain ⟨kb, koff, u, rfl, k0, hu⟩ := hcell ak hakl
      have hsl : ss[ak].length ≤ 60000 := by have := mem_flat_le (List.getElem_mem hakl); omega
      have GR := Lib.hid (groups_any kind u ss[ak] wr.drew hu (by omega))
      have hMl : M.length = ss.length := by rw [HM.out]; exact segs_grp_len HK.out
      have hakM : ak < M.length := by omega
      have hg1 : grp kind ss[ak] = [M[ak]] := by
        have := segs_grp_at (kind := kind) HK.out ak hakl (by rw [← HM.out]; exact hakM)
        rw [this]
        congr 2
        exact HM.out.symm
      rw [hg1] at GR
      have HTK : Hid (M.take (ak + 1) = M.take ak ++ [M[ak]]) := List.take_succ_eq_append_getElem hakM
      have hlk : (M.take ak).length = ak := by rw [List.length_take]; omega
      obtain ⟨uo, uc, eu, hux⟩ := id hu
      clear hux hu hcell hg1 hMl hsl
      subst eu
      generalize ss[ak].length = su at *
      generalize M[ak] = q at *
      have K0 := Lib.hid k0
      have HLK := Lib.hid hlk
      clear k0 hlk c0 c1 c2
      go_upto_region 3 with fail
      refine wp_normal (r3_any R ak kb koff kc su uc mc' kind uo mo' ss M q wr _ _ _ _ _ _ _ _ _ _ _ _ _ _ _ _ _ _ _ _ _ _ _ _ _ _ _ _ _ _ _ _ _ _ _ _ _ _ _ _ _ _ _ _ _ _ _ _ _ _ _ _ _ _ _ _ HR.out hakl hss K0.out GR HTK.out HLK.out ?_)
      refine Lib.hid ?_
      intro z20 z21 z22 z23 z24 z25 z26 z27 z28 z29 z30 z31 z32 z33 z34 z35 z36 z37 z38 z39 z40 z41 z42 z43 g cap w11 hr11 hfr
      obtain ⟨hF11, ho11⟩ := hfr w _ HF.out HB.out
      have HR11 := Lib.hid hr11
      have HF11 := Lib.hid hF11
      have HO11 : Hid ((Value.slice (some ⟨g, 0, none⟩) (ak + 1) cap).ownBlock = (Value.slice mo a mc).ownBlock ∨ ∀ b, (Value.slice (some ⟨g, 0, none⟩) (ak + 1) cap).ownBlock = some b → w.heap.size ≤ b) := by
        rcases ho11 with h | h
        · exact .inl h
        · refine .inr fun b hb => ?_
          have e : some g = some b := hb
          injection e with e
          omega
      clear hr11 hfr hF11 ho11 HR HF HB K0 GR
      simp only [Exit.inBlock, Exit.then]
      go_wp2
      go_roundg (ct - (k + 1))
      case measure => have := HGK.out; omega
      case rel =>
        have e : a + (k + 1) = ak + 1 := by have := HAK.out; omega
        refine ⟨k + 1, some ⟨g, 0, none⟩, cap, rfl, by omega, by go_num, ?_, HF11, ?_⟩
        · rw [e]; exact HR11
        · rw [e]; exact HO11
    · have hge : ¬ (k : Int) < c := by have := HCC.out; omega
      have ekc : k = ct := by omega
      have HFIN : Hid (ak = a + min n.toNat (ss.length - a)) := by
        show _ = _
        rw [HAK.out, ekc, HCT.out]
      have hde : ((ak : Int) == (ss.length : Int)) = decide (ak = ss.length) := by
        by_cases h : ak = ss.length
        · simp [h]
        · rw [decide_eq_false h, beq_eq_false_iff_ne]; omega
      have HDE := Lib.hid hde
      clear ekc hde
      go_wp2
      go_region
      rw [HDE.out]
      have HR2 := Lib.hid (HR.out.blw (blw_drew (Below.refl _ wr)))
      have HF2 := Lib.hid (HF.out.blw (blw_drew (Below.refl _ wr)))
      generalize wr.drew = w12 at *
      clear c0 c1 c2 HR HF
      go_wp2
      go_ret
      exact ⟨ak, mo', mc', HFIN.out, rfl, HR2.out, HF2.out, HB.out⟩
end Go.Proofs.YtgkpnjnollfdaaaDoor.Pp
/- Folders: Out, Save, begins, Load. -/
namespace Go.Proofs.YtgkpnjnollfdaaaDoor.Pp
open Go.ChangeShapes Go.WideShapes Go.ChangeAt Go.RowKit
open Grp Stable
set_option maxRecDepth 100000 in
theorem out_anyT (R : Nat) (kind : Int) (kv mv : Value) (ss : List (List (ByteArray × Int))) (l : List (ByteArray × Int)) (w : World) (E : EnvT w) (h : IsRun w R kind kv ss mv l) (hf : Fits l) (hl : l.length ≤ 60000) :
    Calls Tryd.prog 22 #[.pointer (some ⟨R, 0, none⟩)] w fun e w' => e = .returned (.string (bs (textL l))) ∧ Below w.heap.size w w' := by
  have c2 := h.blk.at (i := 2) (v := mv) rfl
  have hp := owns_isPairs h.row
  have T := Lib.hid (text_anyT mv l w E hp hf hl)
  obtain ⟨a, c, rfl, _⟩ := hp
  generalize bs (textL l) = t at *
  go_enter Tryd.func22, Tryd.ntmps22
  go_wp2_with (go_at_call 8; refine T.out.mono ?_; rintro _ w1 ⟨rfl, hb1⟩)
  go_ret
  exact ⟨rfl, hb1⟩
theorem out_any (R : Nat) (kind : Int) (kv mv : Value) (ss : List (List (ByteArray × Int))) (l : List (ByteArray × Int)) (w : World) (E : Env w) (h : IsRun w R kind kv ss mv l) (hf : Fits l) (hl : l.length ≤ 60000) :
    Calls Tryd.prog 22 #[.pointer (some ⟨R, 0, none⟩)] w fun e w' => e = .returned (.string (bs (textL l))) ∧ Below w.heap.size w w' := out_anyT R kind kv mv ss l w E.t h hf hl
end Go.Proofs.YtgkpnjnollfdaaaDoor.Pp
/- Folders: Load. -/
namespace Go.Proofs.YtgkpnjnollfdaaaDoor.Pp
open Go.ChangeShapes Go.WideShapes Go.ChangeAt Go.RowKit
open Grp Stable
theorem owns_lowR {w : World} {lo base : Nat} {e : TypeId} {size : Nat} {v : Value} {n : Nat} {xs : List Value} (h : w.ownsRow base e size v n xs) (hl : lo ≤ base) : w.ownsRow lo e size v n xs :=
  ⟨h.1, h.2.imp id (fun ⟨g, cap, cur, a, b, c⟩ => ⟨g, cap, cur, a, Nat.le_trans hl b, c⟩)⟩
end Go.Proofs.YtgkpnjnollfdaaaDoor.Pp
/- Contract of pair.Check: what a pair may be. -/
namespace Go.Proofs.YtgkpnjnollfdaaaDoor.Pp
open Go.ChangeShapes Go.WideShapes Go.ChangeAt Go.RowKit
def badB (p : ByteArray × Int) : Bool := decide (20 < p.1.size) || decide (p.2 < -1000000000) || decide (1000000000 < p.2)
def faultV (b : Bool) : Value := if b then .iface 77 (.int .i64 1) else .nilIface
def faultN (b : Bool) : Int := if b then 1 else 0
set_option maxHeartbeats 400000 in
theorem check_any (s : ByteArray) (m : Int) (w : World) :
    Calls Tryd.prog 28 #[.agg #[.string s, .int .i64 m]] w fun e w' => e = .returned (faultV (badB (s, m))) ∧ Below w.heap.size w w' := by
  unfold badB
  simp only
  by_cases h1 : 20 < s.size
  · rw [show decide (20 < s.size) = true from decide_eq_true h1]
    simp only [Bool.true_or, faultV, if_true]
    go_enter Tryd.func28, Tryd.ntmps28
    go_wp2
    all_goals go_ret
    all_goals exact ⟨rfl, (Below.refl _ _).alloc (Nat.le_refl _) _⟩
  · rw [show decide (20 < s.size) = false from decide_eq_false h1]
    by_cases h2 : m < -1000000000
    · rw [show decide (m < -1000000000) = true from decide_eq_true h2]
      simp only [Bool.true_or, Bool.false_or, faultV, if_true]
      go_enter Tryd.func28, Tryd.ntmps28
      go_wp2
      all_goals go_ret
      all_goals exact ⟨rfl, (Below.refl _ _).alloc (Nat.le_refl _) _⟩
    · rw [show decide (m < -1000000000) = false from decide_eq_false h2]
      by_cases h3 : 1000000000 < m
      · rw [show decide (1000000000 < m) = true from decide_eq_true h3]
        simp only [Bool.or_true, faultV, if_true]
        go_enter Tryd.func28, Tryd.ntmps28
        go_wp2
        all_goals go_ret
        all_goals exact ⟨rfl, (Below.refl _ _).alloc (Nat.le_refl _) _⟩
      · rw [show decide (1000000000 < m) = false from decide_eq_false h3]
        simp only [Bool.or_false, faultV, Bool.false_eq_true, if_false]
        go_enter Tryd.func28, Tryd.ntmps28
        go_wp2
        all_goals go_ret
        all_goals exact ⟨rfl, (Below.refl _ _).alloc (Nat.le_refl _) _⟩
end Go.Proofs.YtgkpnjnollfdaaaDoor.Pp
/- Contract of the document's PairFault. -/
namespace Go.Proofs.YtgkpnjnollfdaaaDoor.Pp
open Go.ChangeShapes Go.WideShapes Go.ChangeAt Go.RowKit
end Go.Proofs.YtgkpnjnollfdaaaDoor.Pp
/- Contract of threshfloorlaw.rising. Written by tpl/mk_rise.py. -/
namespace Go.Proofs.YtgkpnjnollfdaaaDoor.Pp
open Go.ChangeShapes Go.WideShapes Go.ChangeAt Go.RowKit
open Stable
def RisesP (l : List (ByteArray × Int)) : Prop := ∀ k, 1 ≤ k → k < l.length → bl (key (pr l k)) (key (pr l (k - 1))) = false
theorem isPairs_some {w : World} {ao : Option Addr} {n cap : Nat} {l : List (ByteArray × Int)} (h : IsPairs w (.slice ao n cap) l) (hl : 0 < l.length) : ∃ b off, ao = some ⟨b, off, none⟩ ∧ ∀ i, i < l.length → w.cell? ⟨b, off + i * 2, none⟩ = some (.string (pr l i).1) ∧ w.cell? ⟨b, off + i * 2 + 1, none⟩ = some (.int .i64 (pr l i).2) := by
  obtain ⟨a, c, e, hc⟩ := h
  injection e with e1 e2 e3
  obtain ⟨b, off, ea, _⟩ := hc 0 hl
  refine ⟨b, off, e1.trans ea, fun i hi => ?_⟩
  obtain ⟨b', off', ea', c0, c1⟩ := hc i hi
  rw [ea] at ea'
  injection ea' with ea'
  injection ea' with e4 e5
  subst e4 e5
  rw [pr_eq l i hi] at c0 c1
  exact ⟨c0, c1⟩
end Go.Proofs.YtgkpnjnollfdaaaDoor.Pp
/- Contract of threshfloorlaw.same: an error by its number. -/
namespace Go.Proofs.YtgkpnjnollfdaaaDoor.Pp
open Go.ChangeShapes Go.WideShapes Go.ChangeAt Go.RowKit
theorem assert_err (n : Int) (w : World) : Sem.run Tryd.prog (Instr.typeAssert (Value.iface 77 (Value.int IntKind.i64 n)) 28 77 true) w = .ok (.tuple #[.int .i64 n, .bool true]) w := by kernel_rfl
end Go.Proofs.YtgkpnjnollfdaaaDoor.Pp
/- Folders: what is known of the groups; the law's closed fact. -/
namespace Go.Proofs.YtgkpnjnollfdaaaDoor.Pp
open Go.ChangeShapes Go.WideShapes Go.ChangeAt Go.RowKit
open Grp Stable
/-- A pair whose key is short, and whose value fits. -/
def Ok1 (p : ByteArray × Int) : Prop := p.1.size ≤ 1000 ∧ -9223372036854775808 ≤ p.2 ∧ p.2 ≤ 9223372036854775807
theorem two_fit (kind a b : Int) (ha : -9223372036854775808 ≤ a ∧ a ≤ 9223372036854775807) (hb : -9223372036854775808 ≤ b ∧ b ≤ 9223372036854775807) : -9223372036854775808 ≤ two kind a b ∧ two kind a b ≤ 9223372036854775807 := by
  unfold two
  split
  · omega
  · split
    · omega
    · rw [wrap_eq]
      have h1 := Int.le_bmod (x := a + b) (m := 18446744073709551616) (by decide)
      have h2 := Int.bmod_lt (x := a + b) (m := 18446744073709551616) (by decide)
      omega
theorem fits_step (kind : Int) (A : List (ByteArray × Int)) (p : ByteArray × Int) (hA : Fits A) (hp : Ok1 p) : Fits (Grp.step kind A p) := by
  rcases List.eq_nil_or_concat A with rfl | ⟨A, q, rfl⟩
  · intro r hr
    rw [step_nil, List.mem_singleton] at hr
    subst hr
    exact hp
  · rw [List.concat_eq_append] at *
    have hq := hA q (by simp)
    by_cases h : q.1 = p.1
    · rw [step_same _ _ _ _ h]
      intro r hr
      rcases List.mem_append.1 hr with hr | hr
      · exact hA r (by simp [hr])
      · rw [List.mem_singleton] at hr
        subst hr
        exact ⟨hq.1, two_fit kind _ _ hq.2 hp.2⟩
    · rw [step_other _ _ _ _ h]
      intro r hr
      rcases List.mem_append.1 hr with hr | hr
      · exact hA r hr
      · rw [List.mem_singleton] at hr
        subst hr
        exact hp
theorem fits_grp (kind : Int) (l : List (ByteArray × Int)) (h : Fits l) : Fits (grp kind l) := by
  have : ∀ (b A : List (ByteArray × Int)), Fits A → (∀ p ∈ b, Ok1 p) → Fits (b.foldl (Grp.step kind) A) := by
    intro b
    induction b with
    | nil => intro A hA _; exact hA
    | cons p b ih => intro A hA hb; exact ih _ (fits_step kind A p hA (hb p List.mem_cons_self)) (fun q hq => hb q (List.mem_cons_of_mem _ hq))
  exact this l [] (fun p hp => by cases hp) h
theorem fits_se {l m : List (ByteArray × Int)} (h : SE l m) (hl : Fits l) : Fits m := fun p hp => hl p (h.symm.mem hp)
theorem fits_take {l : List (ByteArray × Int)} (n : Nat) (h : Fits l) : Fits (l.take n) := fun p hp => h p (List.mem_of_mem_take hp)
theorem owns_cap {w : World} {base : Nat} {v : Value} {L : List (ByteArray × Int)} (h : w.ownsRow base 25 2 v L.length (cellsP L)) : ∃ a cap, v = .slice a L.length cap ∧ L.length ≤ cap := by
  rcases h.2 with ⟨rfl, h0⟩ | ⟨g, cap, cur, rfl, _, _, h4, _⟩
  · exact ⟨none, 0, by rw [h0], by omega⟩
  · exact ⟨some ⟨g, 0, none⟩, cap, rfl, h4⟩
/-- What is known behind New and a whole Step, of lists that are known. -/
theorem fresh_grp {w w' : World} {ls : List (List (ByteArray × Int))} {kind : Int} {R : Nat} {kv : Value} {Z : List (ByteArray × Int)} {ks : List ByteArray} {ss : List (List (ByteArray × Int))} (h : Fresh w w' ls kind R kv Z ks ss) {X : List (ByteArray × Int)} (hX : Sorted X) (hse : SE ls.flatten X) : Z = X ∧ ss.length = (grp kind X).length := by
  have e : Z = X := sorted_unique Z X h.sorted hX ((h.se.symm).trans hse)
  subst e
  exact ⟨rfl, by rw [← h.flat, segs_grp_len h.segs]⟩
def litF : List (ByteArray × Int) := [(⟨#[97]⟩, 2), (⟨#[97]⟩, 3)]
theorem litF_grp : grp 1 litF = [(⟨#[97]⟩, 5)] := by decide +kernel
theorem litF_sorted : Sorted litF := List.pairwise_cons.2 ⟨fun q hq => by rw [List.mem_singleton] at hq; subst hq; decide +kernel, List.pairwise_singleton _ _⟩
theorem litF_text : (bs (textL [(⟨#[97]⟩, 5)])).toList = [49, 58, 97, 32, 53, 10] := by rw [bs_toList]; decide +kernel
theorem litF_fits : Fits [((⟨#[97]⟩ : ByteArray), (5 : Int))] := by intro p hp; simp only [List.mem_singleton] at hp; subst hp; decide
end Go.Proofs.YtgkpnjnollfdaaaDoor.Pp
/- Folding early: plain facts; bounds of what is made; what a whole run of a folder gives. -/
namespace Go.Proofs.YtgkpnjnollfdaaaDoor
open Go.ChangeShapes Go.WideShapes Go.ChangeAt Go.RowKit
theorem made_small {j : Jb} (h : jobFault j = 0) {lines : List (List UInt8)} (hl : ∀ x ∈ lines, x.length ≤ 1000) {p : ByteArray × Int} (hp : p ∈ madeOf j lines) : p.1.size ≤ 20 ∧ -70000 ≤ p.2 ∧ p.2 ≤ 70000 := by
  refine ⟨made_key hp, ?_⟩
  unfold madeOf at hp
  rw [List.mem_flatMap] at hp
  obtain ⟨x, hx, hp⟩ := hp
  unfold rulesP at hp
  rw [List.mem_flatMap] at hp
  obtain ⟨r, hr, hp⟩ := hp
  unfold ruleP at hp
  rw [List.mem_map] at hp
  obtain ⟨R, hR, rfl⟩ := hp
  have hin := (rcIn_look (rcIn_of x 1000 (hl x hx)) (List.mem_filter.1 hR).1).1
  have rf := rulesFault_all (jobFault_parts h).2.2.2.2.2.2 r hr
  have h1 := fault_far (rlIn_of rf).val hin
  have h2 := num_far R r.val
  unfold pairL Pp.firstI
  simp only
  split <;> omega
theorem made_fits {j : Jb} (h : jobFault j = 0) {lines : List (List UInt8)} (hl : ∀ x ∈ lines, x.length ≤ 1000) : Pp.Fits (madeOf j lines) := fun p hp => by
  have := made_small h hl hp
  omega
theorem made_len (j : Jb) (K : Nat) (lines : List (List UInt8)) (h4 : j.rules.length ≤ 4) (hl : ∀ x ∈ lines, x.length ≤ K) : (madeOf j lines).length ≤ lines.length * (4 * (K + 1)) := by
  induction lines with
  | nil => simp [madeOf]
  | cons x l ih =>
    have h1 := rulesP_len j.rules j.fold x
    have h2 := hl x (by simp)
    have h3 := Nat.mul_le_mul h4 (show x.length + 1 ≤ K + 1 by omega)
    have h5 := ih fun y hy => hl y (by simp [hy])
    have e : madeOf j (x :: l) = rulesP j.rules j.fold x ++ madeOf j l := by simp [madeOf]
    rw [e, List.length_append, List.length_cons, Nat.succ_mul]
    omega
/-- What a part gives to a slice. -/
def partOf (fo : Int) (ea : Bool) (ns i : Nat) (j : Jb) (p : List (List UInt8)) : List (ByteArray × Int) := finL ea fo (inSlice ns i (Pp.Tot.srt (madeOf j p)))
theorem tot_slice (fo : Int) (ns i : Nat) (k : List UInt8) (M : List (ByteArray × Int)) : Pp.Tot.tot fo k (inSlice ns i (Pp.Tot.srt M)) = if decide (sliceN ns k = i) = true then Pp.Tot.tot fo k M else none := by
  unfold inSlice
  rw [Pp.Tot.tot_filter fo k (fun k => decide (sliceN ns k = i)), Pp.Tot.tot_srt]
theorem tot_part (fo : Int) (ea : Bool) (ns i : Nat) (j : Jb) (k : List UInt8) (p : List (List UInt8)) : Pp.Tot.tot fo k (partOf fo ea ns i j p) = if decide (sliceN ns k = i) = true then Pp.Tot.tot fo k (madeOf j p) else none := by
  unfold partOf finL
  split
  · rw [Pp.Tot.tot_grp, tot_slice]
  · rw [tot_slice]
theorem tot_parts (fo : Int) (ea : Bool) (ns i : Nat) (j : Jb) (k : List UInt8) (ps : List (List (List UInt8))) : Pp.Tot.tot fo k ((ps.map (partOf fo ea ns i j)).flatten) = if decide (sliceN ns k = i) = true then Pp.Tot.tot fo k (madeOf j ps.flatten) else none := by
  induction ps with
  | nil => simp [madeOf, Pp.Tot.tot]
  | cons p ps ih =>
    rw [List.map_cons, List.flatten_cons, List.flatten_cons, Pp.Tot.tot_append, ih, tot_part, madeOf_append, Pp.Tot.tot_append]
    split
    · rfl
    · rfl
/-- What a slice of a job is, however its parts are cut, and folded early or not. -/
theorem early_grp (fo : Int) (ea : Bool) (ns i : Nat) (j : Jb) (ps : List (List (List UInt8))) (Z : List (ByteArray × Int)) (hs : Pp.Stable.Sorted Z) (he : Pp.Stable.SE ((ps.map (partOf fo ea ns i j)).flatten) Z) : Pp.Grp.grp fo Z = Pp.Grp.grp fo (inSlice ns i (Pp.Tot.srt (madeOf j ps.flatten))) := by
  refine Pp.Tot.grp_unique fo hs (Pp.Tot.Sorted.filter (Pp.Tot.srt_sorted _) _) fun k => ?_
  rw [← Pp.Tot.tot_se fo k he, tot_parts, tot_slice]
theorem part_len (fo : Int) (ea : Bool) (ns i : Nat) (j : Jb) (p : List (List UInt8)) : (partOf fo ea ns i j p).length ≤ (madeOf j p).length := by
  unfold partOf
  have h1 := (fin_len (fo := fo) (ea := ea) (inSlice ns i (Pp.Tot.srt (madeOf j p)))).1
  have h2 : (inSlice ns i (Pp.Tot.srt (madeOf j p))).length ≤ (Pp.Tot.srt (madeOf j p)).length := List.length_filter_le _ _
  rw [Pp.Tot.srt_len] at h2
  omega
theorem parts_len (fo : Int) (ea : Bool) (ns i : Nat) (j : Jb) (ps : List (List (List UInt8))) : ((ps.map (partOf fo ea ns i j)).flatten).length ≤ (madeOf j ps.flatten).length := by
  induction ps with
  | nil => simp [madeOf]
  | cons p ps ih =>
    rw [List.map_cons, List.flatten_cons, List.flatten_cons, madeOf_append, List.length_append, List.length_append]
    have := part_len fo ea ns i j p
    omega
theorem inSlice_fits (ns i : Nat) {M : List (ByteArray × Int)} (h : Pp.Fits M) : Pp.Fits (inSlice ns i (Pp.Tot.srt M)) := fun p hp => h p (Pp.Tot.srt_mem.1 (List.mem_filter.1 hp).1)
/-- The texts of a job's slices. -/
def plainT (j : Jb) (ns : Nat) (lines : List (List UInt8)) : List ByteArray := (List.range ns).map fun i => bs (Pp.textL (Pp.Grp.grp j.fold (inSlice ns i (Pp.Tot.srt (madeOf j lines)))))
/-- A folder that was just made goes on to its end. -/
theorem fstep_all (R : Nat) (kind n : Int) (kv : Value) (w w1 : World) (ls : List (List (ByteArray × Int))) (Z : List (ByteArray × Int)) (ks : List ByteArray) (ss : List (List (ByteArray × Int))) (h : Pp.Fresh w w1 ls kind R kv Z ks ss) (hl : ls.flatten.length ≤ 60000) (hn0 : 60000 ≤ n) (hn1 : n ≤ 9223372036854775807) :
    Calls Tryd.prog 23 #[.pointer (some ⟨R, 0, none⟩), .int .i64 n] w1 fun e w' => e = .returned (.bool true) ∧ ∃ mv, Pp.IsRun w' R kind kv ss mv (Pp.Grp.grp kind Z) ∧ Below w.heap.size w w' := by
  obtain ⟨ko, kc, rfl⟩ : ∃ ko kc, kv = .slice ko ss.length kc := by
    obtain ⟨a, c, e, _⟩ := h.run.keys w1 (Below.refl _ _)
    exact ⟨a, c, e⟩
  have hM := Pp.segs_grp_len (kind := kind) h.segs
  rw [h.flat] at hM
  have hg := Pp.Grp.grp_len kind Z
  have hz : Z.length ≤ 60000 := by rw [h.len]; exact hl
  have hr : Pp.IsRun w1 R kind (.slice ko ss.length kc) ss (.slice none 0 0) ((Pp.Grp.grp kind Z).take 0) := by rw [List.take_zero]; exact h.run
  refine (Pp.step_any R 0 kind n ko kc ss ks none 0 (Pp.Grp.grp kind Z) w1 hr (by rw [h.flat]) h.segs (Nat.zero_le _) (by omega) (by rw [h.flat]; exact hz) (by omega) hn1).mono ?_
  rintro e w' ⟨a', mo, mc, ha, rfl, hr2, hF, ho⟩
  have e : a' = ss.length := by rw [ha]; omega
  subst e
  rw [List.take_of_length_le (Nat.le_of_eq hM)] at hr2
  refine ⟨by simp, _, hr2, ?_⟩
  exact h.bel.trans (hF.below h.bel.size h.low (fun b hb => by cases hb))
end Go.Proofs.YtgkpnjnollfdaaaDoor
/- Mapper: New, and what its run holds lies in blocks of its own; a run survives another one's steps. Written by tpl/mk_n5b.py. -/
namespace Go.Proofs.YtgkpnjnollfdaaaDoor
open Go.ChangeShapes Go.WideShapes Go.ChangeAt Go.RowKit
/-- What a run holds, told apart: it stands wherever the blocks from B to R stay. -/
structure MRheld (B : Nat) (w : World) (R : Nat) (j : Jb) (rv lv : Value) (lines : List (List UInt8)) : Prop where
  low : B ≤ R
  rules : ∀ w', Keeps B R w w' → IsRules w' rv j.rules
  lines : ∀ w', Keeps B R w w' → IsTexts w' lv (lines.map bs)
theorem keeps_frm {w w' : World} {S B R : Nat} (h : FrM w w' S none) (hR : R ≤ w.heap.size) (hS : S < B ∨ R ≤ S) : Keeps B R w w' := fun k h1 h2 => h.block k (by omega) (by omega) (by simp)
theorem MRheld.keeps {w w' : World} {R B : Nat} {j : Jb} {rv lv : Value} {lines : List (List UInt8)} (h : MRheld B w R j rv lv lines) (k : Keeps B R w w') : MRheld B w' R j rv lv lines := ⟨h.low, fun w2 h2 => h.rules w2 (k.trans h2), fun w2 h2 => h.lines w2 (k.trans h2)⟩
theorem ow_kept {w w' : World} {base : Nat} {e : TypeId} {size : Nat} {v : Value} {n : Nat} {xs : List Value} (h : w.ownsRow base e size v n xs) (hb : ∀ g, v.ownBlock = some g → w'.heap[g]? = w.heap[g]?) : w'.ownsRow base e size v n xs := by
  refine ⟨h.1, ?_⟩
  rcases h.2 with h0 | ⟨g, cap, cur, hv, hb', hg, rest⟩
  · exact .inl h0
  · exact .inr ⟨g, cap, cur, hv, hb', (hb g (by rw [hv]; rfl)).trans hg, rest⟩
theorem IsMR.hop {w w' : World} {R S B : Nat} {j : Jb} {rv lv mv : Value} {lines : List (List UInt8)} {done : Nat} {made : List (ByteArray × Int)} (h : IsMR w R j rv lv lines done mv made) (hh : MRheld B w R j rv lv lines) (hF : FrM w w' S none) (hS : S < B ∨ R < S) (hm : ∀ g, mv.ownBlock = some g → g ≠ S) :
    IsMR w' R j rv lv lines done mv made ∧ MRheld B w' R j rv lv lines := by
  have hRl := h.blk.lt
  have hlow := hh.low
  have hk := keeps_frm (B := B) hF (Nat.le_of_lt hRl) (by omega)
  have hk2 := hh.keeps hk
  exact ⟨⟨(hF.block R hRl (by omega) (by simp)).trans h.blk, fun w2 h2 => hk2.rules w2 (fun k _ hk => h2.block k hk), fun w2 h2 => hk2.lines w2 (fun k _ hk => h2.block k hk), ow_kept h.row (fun g hg => hF.block g (h.row.lt g hg).2 (hm g hg) (by simp))⟩, hk2⟩
theorem IsMR.stay {w w' : World} {R B : Nat} {j : Jb} {rv lv mv : Value} {lines : List (List UInt8)} {done : Nat} {made : List (ByteArray × Int)} (h : IsMR w R j rv lv lines done mv made) (hh : MRheld B w R j rv lv lines) (hb : Below w.heap.size w w') :
    IsMR w' R j rv lv lines done mv made ∧ MRheld B w' R j rv lv lines := ⟨h.blw hb, hh.keeps (Keeps.of_below hb (Nat.le_of_lt h.blk.lt))⟩
/-- What New hands back. -/
def MadeNew2 (w : World) (j : Jb) (lines : List (List UInt8)) (r : Ending) (w' : World) : Prop :=
  ∃ R rv lv, r = .returned (.tuple #[.pointer (some ⟨R, 0, none⟩), .nilIface]) ∧ IsMR w' R j rv lv lines 0 (.slice none 0 0) [] ∧ MRheld w.heap.size w' R j rv lv lines ∧ Below w.heap.size w w'
set_option maxRecDepth 100000 in
set_option maxHeartbeats 1000000 in
theorem new_ok2 (j : Jb) (rv lv : Value) (lines : List (List UInt8)) (w : World) (h : IsRules w rv j.rules) (hw : rulesWt j.rules ≤ 1000000) (hf : jobFault j = 0) (ht : IsTexts w lv (lines.map bs)) (hn : lines.length ≤ 60) (E : EnvS w) :
    Calls Tryd.prog 18 #[j.value rv, lv] w (MadeNew2 w j lines) := by
  have CK := Lib.hid (fun w h E => jobCheck_any j rv w h (by omega) E)
  have CJ := Lib.hid (fun w h => copyJob_any j rv w h hw)
  have H := Lib.hid h
  have HT := Lib.hid ht
  obtain ⟨a, cap, rfl⟩ := h.slice
  obtain ⟨la, lc, rfl, -⟩ := ht
  have HE := Lib.hid E
  rw [hf, show errV 0 = .nilIface from rfl] at CK
  clear h E hf
  obtain ⟨ln, hln⟩ : ∃ ln, ln = (lines.map bs).length := ⟨_, rfl⟩
  rw [← hln] at HT ⊢
  have hn2 : ln ≤ 60 := by rw [hln, List.length_map]; exact hn
  have CL : Hid (∀ w', Below w.heap.size w w' → Calls Tryd.prog 44 #[.slice la ln lc] w' fun e w'' => ∃ v, e = .returned v ∧ w''.ownsRow w'.heap.size 9 1 v ln (strs lines) ∧ Below w'.heap.size w' w'') := fun w' hb' => by
    obtain ⟨h1, h2⟩ := texts_src (IsTexts.below HT.out hb')
    exact cloneS_any la ln lc (strs lines) w' (by rw [hln]; simp [strs]) h1 h2 (strs_one lines) (by omega)
  have HLN := Lib.hid hln
  clear hln hn
  unfold CopyJ at CJ
  obtain ⟨l, fo, ea, sl⟩ := j
  simp only [Jb.value] at *
  obtain ⟨n, hnn⟩ : ∃ n, n = l.length := ⟨_, rfl⟩
  rw [← hnn] at H CK CJ ⊢
  have HNN := Lib.hid hnn
  clear hnn
  go_enter Tryd.func18, Tryd.ntmps18
  go_wp2_with (go_at_call 17; refine Hid.out ?_)
  refine Lib.hid ?_
  refine (CK.out _ (H.out.lower (below_box _)) (HE.out.lower (below_box _))).mono ?_
  rintro _ w1 ⟨rfl, hb1⟩
  have JB := Lib.hid ((blk_new (w := w) (cs := #[.slice a n cap, .int .i64 fo, .bool ea, .int .i64 sl]) (t := 37) rfl).blw hb1)
  have hb01 := below_trans (below_box _) hb1
  have k0 := JB.out.at (i := 0) (v := .slice a n cap) rfl
  have k1 := JB.out.at (i := 1) (v := .int .i64 fo) rfl
  have k2 := JB.out.at (i := 2) (v := .bool ea) rfl
  have k3 := JB.out.at (i := 3) (v := .int .i64 sl) rfl
  clear hb1 CK
  go_wp2_with (go_at_call 43; refine Hid.out ?_)
  refine Lib.hid ?_
  refine (CJ.out w1 (H.out.lower hb01)).mono ?_
  rintro _ w2 ⟨va, vc, rfl, HR, hb12⟩
  have hb02 := below_trans hb01 hb12
  have HRU := Lib.hid HR
  clear k0 k1 k2 k3 JB CJ HR
  dsimp only
  go_wp2_with (go_at_call 44; refine Hid.out ?_)
  refine Lib.hid ?_
  refine (CL.out w2 hb02).mono ?_
  rintro _ w3 ⟨v, rfl, hrow, hb23⟩
  have hb03 := below_trans hb02 hb23
  have HROW := Lib.hid hrow
  have HB23 := Lib.hid hb23
  clear CL hrow hb23
  obtain ⟨w4, hw4⟩ : ∃ w4, w4 = w3.alloc (.cells #[.slice va n vc, .int .i64 fo, .bool ea, .int .i64 sl, v, .int .i64 0, .slice none 0 0] 93) := ⟨_, rfl⟩
  obtain ⟨R, hR⟩ : ∃ R, R = w3.heap.size := ⟨_, rfl⟩
  have hb34 : Below w3.heap.size w3 w4 := by rw [hw4]; exact below_box _
  have HF : Hid (IsMR w4 R ⟨l, fo, ea, sl⟩ (.slice va n vc) v lines 0 (.slice none 0 0) []) := by
    refine ⟨?_, fun w' h' => ?_, fun w' h' => ?_, World.ownsRow_nil _ _ _ _⟩
    · rw [hw4]; exact blk_new hR
    · rw [hR] at h'
      have hbb : Below w3.heap.size w3 w' := hb34.trans h'
      exact HRU.out w' (fun k _ hk => (hbb.block k (Nat.lt_of_lt_of_le hk HB23.out.size)).trans (HB23.out.block k hk))
    · rw [hR] at h'
      have hbb : Below w3.heap.size w3 w' := hb34.trans h'
      have h := HROW.out
      rw [HLN.out, List.length_map] at h
      exact IsTexts.below (isTexts_of h) hbb
  have HH : Hid (MRheld w.heap.size w4 R ⟨l, fo, ea, sl⟩ (.slice va n vc) v lines) := by
    have hb24 : Below w2.heap.size w2 w4 := below_trans HB23.out hb34
    have hz1 := hb01.size
    have hz2 := hb02.size
    have hz3 := HB23.out.size
    have hz4 := hb12.size
    refine ⟨by omega, fun w' h' => ?_, fun w' h' => ?_⟩
    · exact HRU.out w' ((Keeps.of_below hb24 (Nat.le_refl _)).trans (h'.sub hz1 (by omega)))
    · have h := ow_kept (w' := w') HROW.out (fun g hg => by
        have h5 := HROW.out.lt g hg
        exact (h' g (by omega) (by omega)).trans (hb34.block g h5.2))
      rw [HLN.out, List.length_map] at h
      exact isTexts_of h
  have HB := Lib.hid (below_trans hb03 hb34)
  have HW := Lib.hid hw4
  have HRR := Lib.hid hR
  obtain ⟨vla, vlc, ev⟩ : ∃ vla vlc, v = .slice vla ln vlc := by
    rcases row_slice HROW.out with ⟨h1, h2⟩ | ⟨g, c, h1, _⟩
    · exact ⟨_, _, by rw [h1, h2]⟩
    · exact ⟨_, _, h1⟩
  subst ev
  clear hw4 hR hb34 hb03 hb01 hb02 hb12 HROW HB23 HRU
  dsimp only
  go_wp2
  rw [← HW.out, ← HRR.out]
  go_ret2
  exact ⟨R, _, _, rfl, HF.out, HH.out, HB.out⟩
end Go.Proofs.YtgkpnjnollfdaaaDoor
/- TopParts: plain facts: slices of a whole are those of its parts, merged; a part of a list of texts. -/
namespace Go.Proofs.YtgkpnjnollfdaaaDoor
open Go.ChangeShapes Go.WideShapes Go.ChangeAt Go.RowKit
theorem inSlice_append (many : Int) (k : Nat) (a b : List (ByteArray × Int)) : inSlice many k (a ++ b) = inSlice many k a ++ inSlice many k b := by unfold inSlice; rw [List.filter_append]
theorem merge_slices (many : Int) (k : Nat) (A B Z : List (ByteArray × Int)) (hs : Pp.Stable.Sorted Z) (he : Pp.Stable.SE (inSlice many k (Pp.Tot.srt A) ++ inSlice many k (Pp.Tot.srt B)) Z) : Z = inSlice many k (Pp.Tot.srt (A ++ B)) := by
  have h1 : Pp.Stable.SE (Pp.Tot.srt A ++ Pp.Tot.srt B) (Pp.Tot.srt (A ++ B)) := ((Pp.Tot.se_srt A).append (Pp.Tot.se_srt B)).trans (Pp.Tot.srt_se (A ++ B))
  have h2 := Pp.Tot.SE.filter h1 (fun kk => decide (sliceN many kk = k))
  rw [← inSlice_append] at he
  have h3 : Pp.Stable.Sorted (inSlice many k (Pp.Tot.srt (A ++ B))) := Pp.Tot.Sorted.filter (Pp.Tot.srt_sorted _) _
  exact Pp.Stable.sorted_unique _ _ hs h3 (he.symm.trans h2)
theorem fault_early (l : List Rl) (fo : Int) (e e' : Bool) (sl : Int) : jobFault ⟨l, fo, e, sl⟩ = jobFault ⟨l, fo, e', sl⟩ := rfl
theorem made_early (l : List Rl) (fo : Int) (e e' : Bool) (sl : Int) (lines : List (List UInt8)) : madeOf ⟨l, fo, e, sl⟩ lines = madeOf ⟨l, fo, e', sl⟩ lines := rfl
theorem texts_take {w : World} {a : Option Addr} {n c c' k : Nat} {l : List (List UInt8)} (h : IsTexts w (.slice a n c) (l.map bs)) (hk : k ≤ l.length) : IsTexts w (.slice a k c') ((l.take k).map bs) := by
  obtain ⟨a', cap, e, hc⟩ := h
  injection e with e1 e2 e3
  subst e1
  refine ⟨a, c', by simp [Nat.min_eq_left hk], fun i hi => ?_⟩
  have hi2 : i < k := by simp at hi; omega
  obtain ⟨b, off, ea, c0⟩ := hc i (by simp; omega)
  exact ⟨b, off, ea, by simpa using c0⟩
theorem texts_drop {w : World} {b off n c c' k : Nat} {l : List (List UInt8)} (h : IsTexts w (.slice (some ⟨b, off, none⟩) n c) (l.map bs)) : IsTexts w (.slice (some ⟨b, off + k, none⟩) (l.length - k) c') ((l.drop k).map bs) := by
  obtain ⟨a', cap, e, hc⟩ := h
  injection e with e1 e2 e3
  subst e1
  refine ⟨some ⟨b, off + k, none⟩, c', by simp, fun i hi => ?_⟩
  have hi2 : k + i < (l.map bs).length := by simp at hi ⊢; omega
  obtain ⟨b', off', ea, c0⟩ := hc (k + i) hi2
  rw [Option.some.injEq, Addr.mk.injEq] at ea
  obtain ⟨rfl, rfl, -⟩ := ea
  refine ⟨b, off + k, rfl, ?_⟩
  rw [Nat.add_assoc, c0]
  simp
theorem lists_below {w w' : World} {v : Value} {ls : List (List (ByteArray × Int))} (h : Pp.IsLists w v ls) (hb : Below w.heap.size w w') : Pp.IsLists w' v ls := by
  obtain ⟨a, cap, rfl, hc⟩ := h
  refine ⟨a, cap, rfl, fun i hi => ?_⟩
  obtain ⟨b, off, u, e, c0, hu⟩ := hc i hi
  exact ⟨b, off, u, e, cell_below c0 hb, Pp.isPairs_below hu hb⟩
theorem lsAt_slices {fo : Int} {ns i : Nat} (h : i < ns) (M : List (ByteArray × Int)) : Pp.lsAt (slicesOf fo false ns M) i = inSlice ns i (Pp.Tot.srt M) := by
  unfold Pp.lsAt
  rw [slicesOf_at h]
  rfl
theorem slice_at {w : World} {a : Option Addr} {c ns : Nat} {fo : Int} {M : List (ByteArray × Int)} (h : Pp.IsLists w (.slice a ns c) (slicesOf fo false ns M)) (i : Nat) (hi : i < ns) : ∃ b off u, a = some ⟨b, off, none⟩ ∧ w.cell? ⟨b, off + i, none⟩ = some u ∧ Pp.IsPairs w u (inSlice ns i (Pp.Tot.srt M)) := by
  have h1 := Pp.isLists_at h i (by simp [slicesOf]; exact hi)
  rw [lsAt_slices hi] at h1
  exact h1
theorem inSlice_len (many : Int) (k : Nat) (M : List (ByteArray × Int)) : (inSlice many k (Pp.Tot.srt M)).length ≤ M.length := by
  unfold inSlice
  exact Nat.le_trans (List.length_filter_le _ _) (Nat.le_of_eq (Pp.Tot.srt_len M))
set_option maxRecDepth 100000 in
theorem merge_two {u1 u2 : Value} {L1 L2 L3 : List (ByteArray × Int)} {w' w2 : World} (hw2 : Below (w'.alloc (.cells #[u1, u2] 22)).heap.size (w'.alloc (.cells #[u1, u2] 22)) w2) (h1 : Pp.IsPairs w' u1 L1) (h2 : Pp.IsPairs w' u2 L2) (hl1 : L1.length ≤ 400000) (hl2 : L2.length ≤ 400000) (hM : ∀ Z, Pp.Stable.Sorted Z → Pp.Stable.SE (L1 ++ L2) Z → Z = L3) :
    Calls Tryd.prog 13 #[.slice (some ⟨w'.heap.size, 0, none⟩) 2 2] w2 fun e w'' => ∃ ma mc, e = .returned (.slice ma L3.length mc) ∧ Pp.IsPairs w'' (.slice ma L3.length mc) L3 ∧ Below w'.heap.size w' w'' := by
  have hB : Blk w2 w'.heap.size 22 [u1, u2] := (blk_new rfl).blw hw2
  have hb : Below w'.heap.size w' w2 := below_trans (below_box _) hw2
  have hL : Pp.IsLists w2 (.slice (some ⟨w'.heap.size, 0, none⟩) 2 2) [L1, L2] := by
    refine ⟨_, 2, rfl, fun i hi => ?_⟩
    match i, hi with
    | 0, _ => exact ⟨_, 0, u1, rfl, hB.at rfl, Pp.isPairs_below h1 hb⟩
    | 1, _ => exact ⟨_, 0, u2, rfl, hB.at rfl, Pp.isPairs_below h2 hb⟩
  refine (Pp.merge_any _ [L1, L2] _ hL (by simp) (by simp; omega)).mono ?_
  rintro e w'' ⟨u, Z, rfl, hs, he, _, hp, hb2⟩
  have e3 : Z = L3 := hM Z hs (by simpa using he)
  subst e3
  obtain ⟨ma, mc, rfl, hq⟩ := id hp
  exact ⟨ma, mc, rfl, hp, below_trans hb hb2⟩
theorem and1023 (x : Int) : 0 ≤ bits .and .i64 x 1023 ∧ bits .and .i64 x 1023 ≤ 1023 := by
  have h2 : (BitVec.ofInt 64 (1023 : Int)).toNat = 1023 := by decide
  have e : bits .and .i64 x 1023 = IntKind.i64.wrap ((BitVec.ofInt 64 x &&& BitVec.ofInt 64 1023).toNat : Int) := rfl
  have hle : (BitVec.ofInt 64 x &&& BitVec.ofInt 64 1023).toNat ≤ 1023 := by
    rw [BitVec.toNat_and, h2]; exact Nat.and_le_right
  rw [e, wrap_small _ (by omega) (by omega)]
  omega
end Go.Proofs.YtgkpnjnollfdaaaDoor
/- Folding early: a part is mapped, its slices put behind the lists. Written by tpl/mk_e.py. -/
namespace Go.Proofs.YtgkpnjnollfdaaaDoor
open Go.ChangeShapes Go.WideShapes Go.ChangeAt Go.RowKit
/-- The lists of so many parts, by their slices. -/
def Parted (fo : Int) (ea : Bool) (ns : Nat) (j : Jb) (ps : List (List (List UInt8))) (X : List (List (Value × List (ByteArray × Int)))) : Prop := X.map (List.map Prod.snd) = (List.range ns).map fun i => ps.map (partOf fo ea ns i j)
theorem Parted.len {fo : Int} {ea : Bool} {ns : Nat} {j : Jb} {ps : List (List (List UInt8))} {X : List (List (Value × List (ByteArray × Int)))} (h : Parted fo ea ns j ps X) : X.length = ns := by
  have := congrArg List.length h
  simpa using this
theorem Parted.at {fo : Int} {ea : Bool} {ns : Nat} {j : Jb} {ps : List (List (List UInt8))} {X : List (List (Value × List (ByteArray × Int)))} (h : Parted fo ea ns j ps X) {i : Nat} {x : List (Value × List (ByteArray × Int))} (hx : X[i]? = some x) : x.map Prod.snd = ps.map (partOf fo ea ns i j) := by
  have hi := (List.getElem?_eq_some_iff.1 hx).1
  rw [h.len] at hi
  have e := congrArg (fun l => l[i]?) h
  simp only [List.getElem?_map, hx, List.getElem?_range hi, Option.map_some, Option.some.injEq] at e
  exact e
theorem Parted.each {fo : Int} {ea : Bool} {ns : Nat} {j : Jb} {ps : List (List (List UInt8))} {X : List (List (Value × List (ByteArray × Int)))} (h : Parted fo ea ns j ps X) {x : List (Value × List (ByteArray × Int))} (hx : x ∈ X) : ∃ i, i < ns ∧ X[i]? = some x ∧ x.length = ps.length := by
  obtain ⟨i, hi⟩ := List.getElem?_of_mem hx
  have e := congrArg List.length (h.at hi)
  rw [List.length_map, List.length_map] at e
  exact ⟨i, by rw [← h.len]; exact (List.getElem?_eq_some_iff.1 hi).1, hi, e⟩
theorem Parted.start (fo : Int) (ea : Bool) (ns : Nat) (j : Jb) : Parted fo ea ns j [] (List.replicate ns []) := by
  unfold Parted
  rw [List.map_replicate]
  apply List.ext_getElem?
  intro k
  rw [List.getElem?_replicate, List.getElem?_map]
  by_cases h : k < ns
  · rw [if_pos h, List.getElem?_range h]; rfl
  · rw [if_neg h, List.getElem?_eq_none (by simp; omega)]; rfl
theorem Parted.push {fo : Int} {ea : Bool} {ns : Nat} {j : Jb} {ps : List (List (List UInt8))} {X : List (List (Value × List (ByteArray × Int)))} (h : Parted fo ea ns j ps X) (p : List (List UInt8)) {Q : List (Value × List (ByteArray × Int))} (hQ : Q.map Prod.snd = slicesOf fo ea ns (madeOf j p)) : Parted fo ea ns j (ps ++ [p]) (pushX X Q ns) := by
  unfold Parted
  apply List.ext_getElem?
  intro k
  rw [List.getElem?_map, List.getElem?_map]
  by_cases hk : k < ns
  · obtain ⟨x, hx⟩ : ∃ x, X[k]? = some x := ⟨X[k]'(by rw [h.len]; exact hk), by simp⟩
    rw [pushX_at Q hx, if_pos hk, List.getElem?_range hk]
    have hq : (Q[k]?).map Prod.snd = some (partOf fo ea ns k j p) := by
      rw [← List.getElem?_map, hQ, slicesOf_at hk]
      rfl
    cases hqk : Q[k]? with
    | none => rw [hqk] at hq; cases hq
    | some q =>
      rw [hqk, Option.map_some, Option.some.injEq] at hq
      simp only [Option.map_some, Option.toList_some, List.map_append, List.map_cons, List.map_nil, h.at hx, hq]
  · rw [List.getElem?_eq_none (by rw [pushX_len, h.len]; omega), List.getElem?_eq_none (by simp; omega)]
    rfl
theorem texts_mid {w : World} {b off n c c' a m : Nat} {l : List (List UInt8)} (h : IsTexts w (.slice (some ⟨b, off, none⟩) n c) (l.map bs)) (hm : a + m ≤ l.length) : IsTexts w (.slice (some ⟨b, off + a, none⟩) m c') (((l.drop a).take m).map bs) := by
  have h1 := texts_drop (k := a) (c' := c) h
  have h2 := texts_take (k := m) (c' := c') h1 (by rw [List.length_drop]; omega)
  exact h2
set_option maxRecDepth 1000000 in
set_option maxHeartbeats 4000000 in
theorem early_b3 (SD : StepDoes) (w : World) (P G O a n b ns lb loff ln lc rn rc : Nat) (fo : Int) (ea : Bool) (l : List Rl) (ra : Option Addr) (lines : List (List UInt8)) (ps : List (List (List UInt8))) (vs S : List Value) (X : List (List (Value × List (ByteArray × Int)))) (T : List (List ByteArray)) (w0 : World) (K : Act → World → Prop) (s0 s2 s4 s5 s6 s7 s8 s10 s11 s14 s15 s16 s17 s18 s19 s20 s21 s22 s23 s24 s25 s26 s27 s28 s29 s30 s31 s32 s33 s34 s35 s36 s37 s38 s39 s40 s41 s42 s43 s44 s45 s46 s47 s48 s49 s50 s51 s52 s53 s54 s55 s56 s57 s58 s59 s60 s61 s62 s63 s64 s65 s66 s67 s68 s69 s70 s71 s72 s73 s74 s75 s76 s77 s78 s79 s80 s81 s82 s83 s84 s85 s86 s87 s88 s89 s90 s91 s92 s93 s94 s95 s96 s97 s98 s99 s100 s101 s102 s103 s104 s105 s106 s107 s108 s109 s110 s111 s112 s113 s114 s115 s116 s117 s118 s119 s120 s121 s122 s123 s124 s125 s126 s127 s128 s129 s130 s131 s132 s133 s134 s135 s136 s137 s138 s139 s140 s141 s142 s143 s144 s145 s146 : Value)
    (HE : Hid (∀ w', Below w.heap.size w w' → EnvS w'))
    (HR : Hid (∀ w', Below w.heap.size w w' → IsRules w' (.slice ra rn rc) l))
    (HV : Hid (∀ w', Below w.heap.size w w' → IsTexts w' (.slice (some ⟨lb, loff, none⟩) ln lc) (lines.map bs)))
    (hln : Hid (ln = lines.length))
    (hJ : Hid (jobFault ⟨l, fo, ea, (ns : Int)⟩ = 0))
    (hLO : Hid (∀ x ∈ lines, x.length ≤ 120))
    (h60 : ln ≤ 60)
    (hlc : ln ≤ lc)
    (hab : a < ln)
    (hb : b = min (a + n) ln)
    (hn1 : 1 ≤ n)
    (hn16 : n ≤ 16)
    (hI : EI w w0 P G O [.slice ra rn rc, .int .i64 fo, .bool ea, .int .i64 (ns : Int)] vs X S T)
    (hX : Parted fo ea ns ⟨l, fo, ea, (ns : Int)⟩ ps X)
    (hps : ps.length ≤ 60)
    (HK : Hid (∀ (z6 z14 z15 z16 z17 z69 z70 z71 z72 z73 z74 z75 z76 z77 z78 z79 z80 z81 z82 z83 z84 z85 z86 z87 z88 z89 z90 z91 z92 z93 z94 z95 z96 z97 z98 z99 z100 z101 z102 z103 z104 z105 z106 z107 z108 z109 z110 z111 z112 : Value) (vs' : List Value) (X' : List (List (Value × List (ByteArray × Int)))) (wx : World), EI w wx P G O [.slice ra rn rc, .int .i64 fo, .bool ea, .int .i64 (ns : Int)] vs' X' S T → vs'.length = ns → Parted fo ea ns ⟨l, fo, ea, (ns : Int)⟩ (ps ++ [(lines.drop a).take (b - a)]) X' → K ⟨#[s0, .slice (some ⟨lb, loff, none⟩) ln lc, s2, .pointer (some ⟨P, 0, none⟩), s4, s5, z6, s7, s8, .int .i64 (n : Int), s10, s11, .slice (some ⟨G, 0, none⟩) ns ns, .int .i64 (a : Int), z14, z15, z16, z17, s18, s19, s20, s21, s22, s23, s24, s25, s26, s27, s28, s29, s30, s31, s32, s33, s34, s35, s36, s37, s38, s39, s40, s41, s42, s43, s44, s45, s46, s47, s48, s49, s50, s51, s52, s53, s54, s55, s56, s57, s58, s59, s60, s61, s62, s63, s64, s65, s66, s67, s68, z69, z70, z71, z72, z73, z74, z75, z76, z77, z78, z79, z80, z81, z82, z83, z84, z85, z86, z87, z88, z89, z90, z91, z92, z93, z94, z95, z96, z97, z98, z99, z100, z101, z102, z103, z104, z105, z106, z107, z108, z109, z110, z111, z112, s113, s114, s115, s116, s117, s118, s119, s120, s121, s122, s123, s124, s125, s126, s127, s128, s129, s130, s131, s132, s133, s134, s135, s136, s137, s138, s139, s140, s141, s142, s143, s144, s145, s146], []⟩ wx)) :
    Code.wp Tryd.prog (pieceIn Tryd.f5.body 3) (Exit.then K fun _ _ _ => False) ⟨#[s0, .slice (some ⟨lb, loff, none⟩) ln lc, s2, .pointer (some ⟨P, 0, none⟩), s4, s5, s6, s7, s8, .int .i64 (n : Int), s10, s11, .slice (some ⟨G, 0, none⟩) ns ns, .int .i64 (a : Int), s14, s15, s16, s17, s18, s19, s20, s21, s22, s23, s24, s25, s26, s27, s28, s29, s30, s31, s32, s33, s34, s35, s36, s37, s38, s39, s40, s41, s42, s43, s44, s45, s46, s47, s48, s49, s50, s51, s52, s53, s54, s55, s56, s57, s58, s59, s60, s61, s62, s63, s64, s65, s66, s67, s68, s69, s70, s71, s72, s73, s74, s75, s76, s77, s78, s79, s80, s81, s82, s83, s84, s85, s86, s87, s88, s89, s90, s91, s92, s93, s94, s95, s96, s97, s98, s99, s100, s101, s102, s103, s104, s105, s106, s107, s108, s109, s110, s111, s112, s113, s114, s115, s116, s117, s118, s119, s120, s121, s122, s123, s124, s125, s126, s127, s128, s129, s130, s131, s132, s133, s134, s135, s136, s137, s138, s139, s140, s141, s142, s143, s144, s145, s146], []⟩ w0 := by
  obtain ⟨-, hr4, hk1, hk4, hs1, hs4, -⟩ := jobFault_parts hJ.out
  simp only at hr4 hk1 hk4 hs1 hs4
  have hns1 : 1 ≤ ns := by omega
  have hns4 : ns ≤ 4 := by omega
  have hbl : a < b := by omega
  have hbn : b ≤ ln := by omega
  obtain ⟨p, hp⟩ : ∃ p, p = (lines.drop a).take (b - a) := ⟨_, rfl⟩
  have hpl : p.length = b - a := by rw [hp, List.length_take, List.length_drop, ← hln.out]; omega
  have hpm : ∀ x ∈ p, x ∈ lines := fun x hx => by rw [hp] at hx; exact List.mem_of_mem_drop (List.mem_of_mem_take hx)
  have HPM := Lib.hid hpm
  have HPL := Lib.hid hpl
  have HPV : Hid (∀ w', Below w.heap.size w w' → ∀ c', IsTexts w' (.slice (some ⟨lb, loff + a, none⟩) (b - a) c') (p.map bs)) := fun w' hb' c' => by
    rw [hp]
    exact texts_mid (HV.out w' hb') (by rw [← hln.out]; omega)
  have HP : Hid (p = (lines.drop a).take (b - a)) := hp
  have hwt := job_small hJ.out
  have HI := Lib.hid hI
  have HX := Lib.hid hX
  have NEW : Hid (∀ w' c', Below w0.heap.size w0 w' → Calls Tryd.prog 18 #[.agg #[.slice ra rn rc, .int .i64 fo, .bool ea, .int .i64 (ns : Int)], .slice (some ⟨lb, loff + a, none⟩) (b - a) c'] w' fun e w'' => ∃ R rv lv, e = .returned (.tuple #[.pointer (some ⟨R, 0, none⟩), .nilIface]) ∧ Hid (IsMR w'' R ⟨l, fo, ea, (ns : Int)⟩ rv lv p 0 (.slice none 0 0) []) ∧ Hid (w0.heap.size ≤ R) ∧ Hid (Below w0.heap.size w0 w'')) := fun w' c' hb' => by
    have hbw := HI.out.org.trans (hb'.mono HI.out.org.size)
    refine (new_ok ⟨l, fo, ea, (ns : Int)⟩ (.slice ra rn rc) (.slice (some ⟨lb, loff + a, none⟩) (b - a) c') p w' (HR.out w' hbw) (by omega) hJ.out (HPV.out w' hbw c') (by rw [HPL.out]; omega) (HE.out w' hbw)).mono ?_
    rintro e w'' ⟨R, rv, lv, rfl, h1, h2, h3⟩
    exact ⟨R, rv, lv, rfl, h1, Nat.le_trans hb'.size h2, below_trans hb' h3⟩
  have k0 := hI.job.at (i := 0) (v := .slice ra rn rc) rfl
  have k1 := hI.job.at (i := 1) (v := .int .i64 fo) rfl
  have k2 := hI.job.at (i := 2) (v := .bool ea) rfl
  have k3 := hI.job.at (i := 3) (v := .int .i64 (ns : Int)) rfl
  obtain ⟨an, han⟩ : ∃ an : Nat, (a : Int) + (n : Int) = (an : Int) := ⟨a + n, by simp⟩
  have hw : IntKind.i64.wrap (an : Int) = (an : Int) := by rw [IntKind.wrap_i64]; omega
  have hmin : min (an : Int) (ln : Int) = (b : Int) := by omega
  have hca : ¬ lc = a := by omega
  have hi1 : (a : Int) ≤ (b : Int) := by omega
  have hi2 : (b : Int) ≤ (lc : Int) := by omega
  have hi3 : (0 : Int) ≤ (a : Int) := by omega
  obtain ⟨pn, hpn⟩ : ∃ pn, pn = b - a := ⟨_, rfl⟩
  have HSDD := Lib.hid SD
  clear hI hX hp hpl hpm hb hr4 hk1 hk4 hs1 hs4 SD
  conv => arg 2; whnf
  go_upto_region 16 with fail
  go_region_with (go_at_call 18; refine (NEW.out _ _ (by first | exact Below.refl _ _ | exact Pp.blw_drew (Below.refl _ _))).mono ?_; rintro _ w1 ⟨R, rv, lv, rfl, HM1, HR1, HB1⟩; clear k0 k1 k2 k3)
  all_goals
    (try simp only [Exit.then])
    have HI1 : Hid (MRin w1 R ⟨l, fo, ea, (ns : Int)⟩ p) := ⟨hJ.out, by have := hwt; simp only at this ⊢; omega, by rw [HPL.out]; omega, fun x hx => by have := hLO.out x (HPM.out x hx); omega, fun w' hb' => HE.out w' (HI.out.org.trans ((HB1.out.mono HI.out.org.size).trans (hb'.mono (Nat.le_trans HI.out.org.size HR1.out))))⟩
    have ST := Lib.hid (step_all HSDD.out R 60 ⟨l, fo, ea, (ns : Int)⟩ rv lv p w1 HM1.out HI1.out (by decide) (by decide))
    go_wp2_with (go_at_call 19; refine Hid.out ?_)
    refine Lib.hid ?_
    refine ST.out.mono ?_
    clear ST
    rintro _ w2 ⟨rfl, mv, hm2, hF2, -⟩
    have HB2 : Hid (Below w0.heap.size w0 w2) := HB1.out.trans (hF2.below HB1.out.size HR1.out (fun b hb => by cases hb))
    have hML : (madeOf ⟨l, fo, ea, (ns : Int)⟩ p).length ≤ 60000 := by
      have h1 := made_len ⟨l, fo, ea, (ns : Int)⟩ 120 p (jobFault_parts hJ.out).2.1 (fun x hx => hLO.out x (HPM.out x hx))
      have h2 := HPL.out
      have h3 := Nat.mul_le_mul_right (4 * (120 + 1)) (show p.length ≤ 60 by omega)
      omega
    have SL := Lib.hid (slices_own R p.length l fo ea ns rv lv mv p (madeOf ⟨l, fo, ea, (ns : Int)⟩ p) w2 hm2 hns1 hns4 (by omega) (fun q hq => by have := made_key hq; omega))
    unfold SlicesGive at SL
    clear hm2 hF2 HM1 HB1
    go_wp2_with (go_at_call 20; refine Hid.out ?_)
    refine Lib.hid ?_
    refine SL.out.mono ?_
    clear SL
    rintro _ w3 ⟨sb, us, wb, rfl, hsl, hsb, hwb, hb3⟩
    have HB3 : Hid (Below w0.heap.size w0 w3) := below_trans HB2.out hb3
    have HI3 := Lib.hid (HI.out.below HB3.out)
    have HSL := Lib.hid hsl
    have HSB : Hid (w0.heap.size ≤ sb) := Nat.le_trans HB2.out.size hsb
    have HWB : Hid (w.heap.size ≤ wb.heap.size) := Nat.le_trans HI.out.org.size (Nat.le_trans HB2.out.size hwb)
    have k3 := HI3.out.job.at (i := 3) (v := .int .i64 (ns : Int)) rfl
    clear hsl hsb hwb hb3 HB2
    go_upto_block 4 with fail
    have hQl : (us.zip (slicesOf fo ea ns (madeOf ⟨l, fo, ea, (ns : Int)⟩ p))).length = ns := by rw [List.length_zip, HSL.out.len]; simp [slicesOf]
    have hsn : (us.zip (slicesOf fo ea ns (madeOf ⟨l, fo, ea, (ns : Int)⟩ p))).map Prod.snd = slicesOf fo ea ns (madeOf ⟨l, fo, ea, (ns : Int)⟩ p) := List.map_snd_zip (by rw [HSL.out.len]; exact Nat.le_refl _)
    have hfs : us = (us.zip (slicesOf fo ea ns (madeOf ⟨l, fo, ea, (ns : Int)⟩ p))).map Prod.fst := (List.map_fst_zip (by rw [HSL.out.len]; exact Nat.le_refl _)).symm
    have hQ : ∀ q ∈ us.zip (slicesOf fo ea ns (madeOf ⟨l, fo, ea, (ns : Int)⟩ p)), w3.ownsRow w.heap.size 25 2 q.1 q.2.length (Pp.cellsP q.2) := fun q hq => by
      obtain ⟨k, hk⟩ := List.getElem?_of_mem hq
      obtain ⟨h1, h2⟩ := List.getElem?_zip_eq_some.1 hk
      exact ow_low (HSL.out.each k _ _ h1 h2) HWB.out
    have hvl : vs.length = ns := by
      have h1 := HI3.out.parts.len
      unfold rowsOf at h1
      rw [List.length_map, HX.out.len] at h1
      exact h1
    have hap : ∀ (k : Nat) (v : Value), vs[k]? = some v → ∀ g, v.ownBlock = some g → g ≠ sb := fun k v hv g hg e => by
      obtain ⟨r, hr⟩ : ∃ r, (rowsOf X)[k]? = some r := ⟨(rowsOf X)[k]'(by rw [← HI.out.parts.len]; exact (List.getElem?_eq_some_iff.1 hv).1), by simp⟩
      have h1 := ((HI.out.parts.each k v r hv hr).lt g hg).2
      have h2 := HSB.out
      omega
    refine wp_last (early_b4 w P G O sb ns [.slice ra rn rc, .int .i64 fo, .bool ea, .int .i64 (ns : Int)] vs us S X T _ _ _ _ _ _ _ _ _ _ _ _ _ _ _ _ _ _ _ _ _ _ _ _ _ _ _ _ _ _ _ _ _ _ _ _ _ _ _ _ _ _ _ _ _ _ _ _ _ _ _ _ _ _ _ _ _ _ _ _ _ _ _ _ _ _ _ _ _ _ _ _ _ _ _ _ _ _ _ _ _ _ _ _ _ _ _ _ _ _ _ _ _ _ _ _ _ _ _ _ _ _ _ _ _ _ _ _ _ _ _ _ _ _ _ _ _ _ _ _ _ _ _ _ _ _ _ _ _ _ _ _ _ _ _ _ _ _ _ _ _ _ _ _ _ _ HI3.out rfl hvl hns4 (fun x hx => by obtain ⟨_, _, _, h⟩ := HX.out.each hx; omega) hQl hQ hfs HSL.out.lst hap ?_)
    refine Lib.hid ?_
    intro z17 z94 z95 z96 z97 z98 z99 z100 z101 z102 z103 z104 z105 z106 z107 z108 z109 z110 z111 z112 vs' wx hIx hvx
    exact HK.out _ _ _ _ _ _ _ _ _ _ _ _ _ _ _ _ _ _ _ _ _ _ _ _ _ _ _ _ _ _ _ _ _ _ _ _ _ _ _ _ _ _ _ _ _ _ _ _ _ vs' _ wx hIx hvx (by rw [← HP.out]; exact HX.out.push p hsn)
end Go.Proofs.YtgkpnjnollfdaaaDoor
/- Folding early: all parts. Written by tpl/mk_e.py. -/
namespace Go.Proofs.YtgkpnjnollfdaaaDoor
open Go.ChangeShapes Go.WideShapes Go.ChangeAt Go.RowKit
set_option maxRecDepth 1000000 in
set_option maxHeartbeats 4000000 in
theorem early_b2 (SD : StepDoes) (w : World) (P G O n ns ln lc rn rc : Nat) (fo : Int) (ea : Bool) (l : List Rl) (ra la : Option Addr) (lines : List (List UInt8)) (vs S : List Value) (X : List (List (Value × List (ByteArray × Int)))) (T : List (List ByteArray)) (w0 : World) (K : Act → World → Prop) (s0 s2 s4 s5 s6 s7 s8 s10 s11 s14 s15 s16 s17 s18 s19 s20 s21 s22 s23 s24 s25 s26 s27 s28 s29 s30 s31 s32 s33 s34 s35 s36 s37 s38 s39 s40 s41 s42 s43 s44 s45 s46 s47 s48 s49 s50 s51 s52 s53 s54 s55 s56 s57 s58 s59 s60 s61 s62 s63 s64 s65 s66 s67 s68 s69 s70 s71 s72 s73 s74 s75 s76 s77 s78 s79 s80 s81 s82 s83 s84 s85 s86 s87 s88 s89 s90 s91 s92 s93 s94 s95 s96 s97 s98 s99 s100 s101 s102 s103 s104 s105 s106 s107 s108 s109 s110 s111 s112 s113 s114 s115 s116 s117 s118 s119 s120 s121 s122 s123 s124 s125 s126 s127 s128 s129 s130 s131 s132 s133 s134 s135 s136 s137 s138 s139 s140 s141 s142 s143 s144 s145 s146 : Value)
    (HE : Hid (∀ w', Below w.heap.size w w' → EnvS w'))
    (HR : Hid (∀ w', Below w.heap.size w w' → IsRules w' (.slice ra rn rc) l))
    (HV : Hid (∀ w', Below w.heap.size w w' → IsTexts w' (.slice la ln lc) (lines.map bs)))
    (hln : Hid (ln = lines.length))
    (hJ : Hid (jobFault ⟨l, fo, ea, (ns : Int)⟩ = 0))
    (hLO : Hid (∀ x ∈ lines, x.length ≤ 120))
    (h60 : ln ≤ 60)
    (hlc : ln ≤ lc)
    (hn1 : 1 ≤ n)
    (hn16 : n ≤ 16)
    (hI : EI w w0 P G O [.slice ra rn rc, .int .i64 fo, .bool ea, .int .i64 (ns : Int)] vs X S T)
    (hX : Parted fo ea ns ⟨l, fo, ea, (ns : Int)⟩ [] X)
    (HK : Hid (∀ (z6 z13 z14 z15 z16 z17 z62 z63 z64 z65 z66 z67 z68 z69 z70 z71 z72 z73 z74 z75 z76 z77 z78 z79 z80 z81 z82 z83 z84 z85 z86 z87 z88 z89 z90 z91 z92 z93 z94 z95 z96 z97 z98 z99 z100 z101 z102 z103 z104 z105 z106 z107 z108 z109 z110 z111 z112 : Value) (vs' : List Value) (X' : List (List (Value × List (ByteArray × Int)))) (ps : List (List (List UInt8))) (wx : World), EI w wx P G O [.slice ra rn rc, .int .i64 fo, .bool ea, .int .i64 (ns : Int)] vs' X' S T → Parted fo ea ns ⟨l, fo, ea, (ns : Int)⟩ ps X' → ps.flatten = lines → ps.length ≤ ln + 16 → K ⟨#[s0, .slice la ln lc, s2, .pointer (some ⟨P, 0, none⟩), s4, s5, z6, s7, s8, .int .i64 (n : Int), s10, s11, .slice (some ⟨G, 0, none⟩) ns ns, z13, z14, z15, z16, z17, s18, s19, s20, s21, s22, s23, s24, s25, s26, s27, s28, s29, s30, s31, s32, s33, s34, s35, s36, s37, s38, s39, s40, s41, s42, s43, s44, s45, s46, s47, s48, s49, s50, s51, s52, s53, s54, s55, s56, s57, s58, s59, s60, s61, z62, z63, z64, z65, z66, z67, z68, z69, z70, z71, z72, z73, z74, z75, z76, z77, z78, z79, z80, z81, z82, z83, z84, z85, z86, z87, z88, z89, z90, z91, z92, z93, z94, z95, z96, z97, z98, z99, z100, z101, z102, z103, z104, z105, z106, z107, z108, z109, z110, z111, z112, s113, s114, s115, s116, s117, s118, s119, s120, s121, s122, s123, s124, s125, s126, s127, s128, s129, s130, s131, s132, s133, s134, s135, s136, s137, s138, s139, s140, s141, s142, s143, s144, s145, s146], []⟩ wx)) :
    Code.wp Tryd.prog (pieceIn Tryd.f5.body 2) (Exit.then K fun _ _ _ => False) ⟨#[s0, .slice la ln lc, s2, .pointer (some ⟨P, 0, none⟩), s4, s5, s6, s7, s8, .int .i64 (n : Int), s10, s11, .slice (some ⟨G, 0, none⟩) ns ns, .int .i64 0, s14, s15, s16, s17, s18, s19, s20, s21, s22, s23, s24, s25, s26, s27, s28, s29, s30, s31, s32, s33, s34, s35, s36, s37, s38, s39, s40, s41, s42, s43, s44, s45, s46, s47, s48, s49, s50, s51, s52, s53, s54, s55, s56, s57, s58, s59, s60, s61, s62, s63, s64, s65, s66, s67, s68, s69, s70, s71, s72, s73, s74, s75, s76, s77, s78, s79, s80, s81, s82, s83, s84, s85, s86, s87, s88, s89, s90, s91, s92, s93, s94, s95, s96, s97, s98, s99, s100, s101, s102, s103, s104, s105, s106, s107, s108, s109, s110, s111, s112, s113, s114, s115, s116, s117, s118, s119, s120, s121, s122, s123, s124, s125, s126, s127, s128, s129, s130, s131, s132, s133, s134, s135, s136, s137, s138, s139, s140, s141, s142, s143, s144, s145, s146], []⟩ w0 := by
  have HI := Lib.hid hI
  have HX := Lib.hid hX
  have HSDD := Lib.hid SD
  have hvl : vs.length = ns := by
    have h1 := hI.parts.len
    unfold rowsOf at h1
    rw [List.length_map, hX.len] at h1
    exact h1
  clear hI hX SD
  conv => arg 2; whnf
  go_wp2_with fail
  go_loopg [13] (ln + 16) (fun gg iv wr => ∃ (a : Nat) (ps : List (List (List UInt8))) (vs' : List Value) (X' : List (List (Value × List (ByteArray × Int)))), gg = ln + 16 - a ∧ a ≤ ln + 16 ∧ iv = .int .i64 a ∧ Hid (EI w wr P G O [.slice ra rn rc, .int .i64 fo, .bool ea, .int .i64 (ns : Int)] vs' X' S T) ∧ Hid (Parted fo ea ns ⟨l, fo, ea, (ns : Int)⟩ ps X') ∧ Hid (ps.flatten = lines.take a) ∧ Hid (ps.length ≤ a))
  case atStart => exact ⟨0, [], vs, X, rfl, Nat.zero_le _, rfl, HI, HX, (show _ = _ by simp), Nat.le_refl _⟩
  case round =>
    clear HI HX hvl
    obtain ⟨a, ps, vs', X', hga, ha, rfl, HI, HX, HF, HPS⟩ := hrel
    have HGA := Lib.hid hga
    clear hga
    by_cases hlt : a < ln
    · obtain ⟨lb, loff, rfl⟩ : ∃ lb loff, la = some ⟨lb, loff, none⟩ := by
        obtain ⟨a', cap', e, hc⟩ := HV.out w (Below.refl _ _)
        obtain ⟨b, off, ea, -⟩ := hc 0 (by rw [List.length_map, ← hln.out]; omega)
        injection e with e1
        exact ⟨b, off, e1.trans ea⟩
      obtain ⟨b, hb⟩ : ∃ b, b = min (a + n) ln := ⟨_, rfl⟩
      have HBB := Lib.hid hb
      have HFN : Hid ((ps ++ [(lines.drop a).take (b - a)]).flatten = lines.take (a + n)) := by
        show _ = _
        rw [List.flatten_append, HF.out, List.flatten_singleton]
        by_cases h : a + n ≤ ln
        · have e : b - a = n := by omega
          rw [e, ← List.take_add]
        · have e : b - a = ln - a := by omega
          have e2 : lines.take (a + n) = lines := List.take_of_length_le (by rw [← hln.out]; omega)
          have e3 : (lines.drop a).take (ln - a) = lines.drop a := List.take_of_length_le (by rw [List.length_drop, ← hln.out]; exact Nat.le_refl _)
          rw [e, e2, e3, List.take_append_drop]
      have hps60 : ps.length ≤ 60 := by have := HPS.out; omega
      have HLT := Lib.hid hlt
      clear hb
      go_upto_block 3 with fail
      refine wp_norm (early_b3 HSDD.out w P G O a n b ns lb loff ln lc rn rc fo ea l ra lines ps vs' S X' T _ _ _ _ _ _ _ _ _ _ _ _ _ _ _ _ _ _ _ _ _ _ _ _ _ _ _ _ _ _ _ _ _ _ _ _ _ _ _ _ _ _ _ _ _ _ _ _ _ _ _ _ _ _ _ _ _ _ _ _ _ _ _ _ _ _ _ _ _ _ _ _ _ _ _ _ _ _ _ _ _ _ _ _ _ _ _ _ _ _ _ _ _ _ _ _ _ _ _ _ _ _ _ _ _ _ _ _ _ _ _ _ _ _ _ _ _ _ _ _ _ _ _ _ _ _ _ _ _ _ _ _ _ _ _ _ _ _ _ _ _ _ _ _ HE HR HV hln hJ hLO h60 hlc HLT.out HBB.out hn1 hn16 HI.out HX.out hps60 ?_)
      refine Lib.hid ?_
      intro z6 z14 z15 z16 z17 z69 z70 z71 z72 z73 z74 z75 z76 z77 z78 z79 z80 z81 z82 z83 z84 z85 z86 z87 z88 z89 z90 z91 z92 z93 z94 z95 z96 z97 z98 z99 z100 z101 z102 z103 z104 z105 z106 z107 z108 z109 z110 z111 z112 vs2 X2 wx hIx hvx hPx
      have HIX := Lib.hid hIx
      have HPX := Lib.hid hPx
      clear HI HX HF hIx hvx hPx
      go_wp2
      go_roundg (ln + 16 - (a + n))
      case measure => have := HGA.out; have := HLT.out; omega
      case rel => exact ⟨a + n, _, vs2, X2, rfl, by have := HLT.out; omega, by go_num, HIX, HPX, HFN, (show _ ≤ _ by rw [List.length_append, List.length_singleton]; have := HPS.out; omega)⟩
    · have HALL : Hid (ps.flatten = lines) := by
        show _ = _
        rw [HF.out]
        exact List.take_of_length_le (by rw [← hln.out]; omega)
      have HPL : Hid (ps.length ≤ ln + 16) := Nat.le_trans HPS.out ha
      go_wp2
      exact HK.out _ _ _ _ _ _ _ _ _ _ _ _ _ _ _ _ _ _ _ _ _ _ _ _ _ _ _ _ _ _ _ _ _ _ _ _ _ _ _ _ _ _ _ _ _ _ _ _ _ _ _ _ _ _ _ _ _ vs' X' ps wr HI.out HX.out HALL.out HPL.out
end Go.Proofs.YtgkpnjnollfdaaaDoor
/- Folding early: a slice's lists as one output. Written by tpl/mk_e.py. -/
namespace Go.Proofs.YtgkpnjnollfdaaaDoor
open Go.ChangeShapes Go.WideShapes Go.ChangeAt Go.RowKit
set_option maxRecDepth 1000000 in
set_option maxHeartbeats 4000000 in
theorem early_b7 (w : World) (P G O i k n : Nat) (fo : Int) (jv vs S : List Value) (X : List (List (Value × List (ByteArray × Int)))) (T : List (List ByteArray)) (x : List (Value × List (ByteArray × Int))) (t : List ByteArray) (va sa : Option Addr) (vc sc ns m : Nat) (w0 : World) (K : Act → World → Prop) (s0 s1 s2 s4 s5 s6 s7 s8 s9 s13 s14 s15 s16 s17 s19 s20 s21 s22 s23 s24 s25 s26 s27 s28 s29 s30 s31 s32 s33 s34 s35 s36 s37 s38 s39 s40 s41 s42 s43 s44 s45 s46 s47 s48 s49 s50 s51 s52 s53 s54 s55 s56 s57 s58 s59 s60 s61 s62 s63 s64 s65 s66 s67 s68 s69 s70 s71 s72 s73 s74 s75 s76 s77 s78 s79 s80 s81 s82 s83 s84 s85 s86 s87 s88 s89 s90 s91 s92 s93 s94 s95 s96 s97 s98 s99 s100 s101 s102 s103 s104 s105 s106 s107 s108 s109 s110 s111 s112 s113 s114 s115 s116 s117 s118 s119 s120 s121 s122 s123 s124 s125 s126 s127 s128 s129 s130 s131 s132 s133 s134 s135 s136 s137 s138 s139 s140 s141 s142 s143 s144 s145 s146 : Value)
    (HE : Hid (∀ w', Below w.heap.size w w' → Pp.EnvT w'))
    (hI : EI w w0 P G O jv vs X S T)
    (hjv : jv[1]? = some (.int .i64 fo))
    (hfo : Pp.kindB fo = true)
    (hv : vs[i]? = some (.slice va n vc))
    (hx : X[i]? = some x)
    (hlt : i < ns)
    (hs : S[k]? = some (.slice sa m sc))
    (ht : T[k]? = some t)
    (hm : m = t.length)
    (hk2 : k < 2)
    (hml : m ≤ 1000)
    (hl1 : x.length ≤ 60000)
    (hl2 : (x.map Prod.snd).flatten.length ≤ 60000)
    (hft : Pp.Fits (x.map Prod.snd).flatten)
    (HK : Hid (∀ (z6 z19 z20 z119 z120 z121 z122 z123 z124 z125 z126 z127 z128 z129 z130 z131 z132 z133 z134 z135 z136 z137 z138 z139 z140 z141 : Value) (v' : Value) (wx : World), EI w wx P G O jv vs X (S.set k v') (T.set k (t ++ [bs (Pp.textL (Pp.Grp.grp fo (Pp.Tot.srt (x.map Prod.snd).flatten)))])) → K ⟨#[s0, s1, s2, .pointer (some ⟨P, 0, none⟩), s4, s5, z6, s7, s8, s9, .pointer (some ⟨O, 0, none⟩), .int .i64 (k : Int), .slice (some ⟨G, 0, none⟩) ns ns, s13, s14, s15, s16, s17, .int .i64 (i : Int), z19, z20, s21, s22, s23, s24, s25, s26, s27, s28, s29, s30, s31, s32, s33, s34, s35, s36, s37, s38, s39, s40, s41, s42, s43, s44, s45, s46, s47, s48, s49, s50, s51, s52, s53, s54, s55, s56, s57, s58, s59, s60, s61, s62, s63, s64, s65, s66, s67, s68, s69, s70, s71, s72, s73, s74, s75, s76, s77, s78, s79, s80, s81, s82, s83, s84, s85, s86, s87, s88, s89, s90, s91, s92, s93, s94, s95, s96, s97, s98, s99, s100, s101, s102, s103, s104, s105, s106, s107, s108, s109, s110, s111, s112, s113, s114, s115, s116, s117, s118, z119, z120, z121, z122, z123, z124, z125, z126, z127, z128, z129, z130, z131, z132, z133, z134, z135, z136, z137, z138, z139, z140, z141, s142, s143, s144, s145, s146], []⟩ wx)) :
    Code.wp Tryd.prog (pieceIn Tryd.f5.body 7) (Exit.then K fun _ _ _ => False) ⟨#[s0, s1, s2, .pointer (some ⟨P, 0, none⟩), s4, s5, s6, s7, s8, s9, .pointer (some ⟨O, 0, none⟩), .int .i64 (k : Int), .slice (some ⟨G, 0, none⟩) ns ns, s13, s14, s15, s16, s17, .int .i64 (i : Int), s19, s20, s21, s22, s23, s24, s25, s26, s27, s28, s29, s30, s31, s32, s33, s34, s35, s36, s37, s38, s39, s40, s41, s42, s43, s44, s45, s46, s47, s48, s49, s50, s51, s52, s53, s54, s55, s56, s57, s58, s59, s60, s61, s62, s63, s64, s65, s66, s67, s68, s69, s70, s71, s72, s73, s74, s75, s76, s77, s78, s79, s80, s81, s82, s83, s84, s85, s86, s87, s88, s89, s90, s91, s92, s93, s94, s95, s96, s97, s98, s99, s100, s101, s102, s103, s104, s105, s106, s107, s108, s109, s110, s111, s112, s113, s114, s115, s116, s117, s118, s119, s120, s121, s122, s123, s124, s125, s126, s127, s128, s129, s130, s131, s132, s133, s134, s135, s136, s137, s138, s139, s140, s141, s142, s143, s144, s145, s146], []⟩ w0 := by
  obtain ⟨i0, hi0, hz0, hz1, hz2⟩ := info_parts infoSt
  obtain ⟨tx, htx⟩ : ∃ tx, tx = bs (Pp.textL (Pp.Grp.grp fo (Pp.Tot.srt (x.map Prod.snd).flatten))) := ⟨_, rfl⟩
  have HTX := Lib.hid htx
  have NEW : Hid (∀ w', Below w0.heap.size w0 w' → Calls Tryd.prog 21 #[.int .i64 fo, .slice va n vc] w' fun e w'' => ∃ R kv Z ks ss wb, e = .returned (.tuple #[.pointer (some ⟨R, 0, none⟩), .nilIface]) ∧ Hid (Pp.Fresh wb w'' (x.map Prod.snd) fo R kv Z ks ss) ∧ Hid (Below w0.heap.size w0 wb)) := fun w' hb => by
    refine (Pp.new_ok fo _ (x.map Prod.snd) w' hfo (by
      obtain ⟨-, hL⟩ := (hI.below hb).lists hv hx
      exact hL) (by rw [List.length_map]; exact hl1) hl2).mono ?_
    rintro e w'' ⟨R, kv, Z, ks, ss, rfl, h⟩
    exact ⟨R, kv, Z, ks, ss, w', rfl, h, hb⟩
  have hk2' : (k : Int) < 2 := by omega
  have HI := Lib.hid hI
  have HSK := Lib.hid hs
  have HTK := Lib.hid ht
  have HM := Lib.hid hm
  have HFT := Lib.hid hft
  have HL2 := Lib.hid hl2
  have c1 := hI.job.at hjv
  have cg := hI.parts.lst.at hv
  clear hI hs ht hm hft htx hv hx hjv hl1 hl2
  conv => arg 2; whnf
  go_upto_region 30 with fail
  go_region_with (go_at_call 21; refine (NEW.out _ (by first | exact Below.refl _ _ | exact Pp.blw_drew (Below.refl _ _))).mono ?_; rintro _ w1 ⟨R, kv, Z, ks, ss, wb, rfl, HF1, HB1⟩; clear c1 cg)
  all_goals
    (try simp only [Exit.then])
    go_wp2_with (go_at_call 23; refine Hid.out ?_)
    refine Lib.hid ?_
    refine (fstep_all R fo 1048576 kv wb w1 (x.map Prod.snd) Z ks ss HF1.out HL2.out (by decide) (by decide)).mono ?_
    rintro _ w2 ⟨rfl, mv, hr2, hb2⟩
    have HR2 := Lib.hid hr2
    have hb02 := below_trans HB1.out hb2
    have hZ : Z = Pp.Tot.srt (x.map Prod.snd).flatten := Pp.Tot.srt_eq HF1.out.sorted HF1.out.se
    have I2 := Lib.hid (HI.out.below hb02)
    have OUT : Hid (∀ w', Below w2.heap.size w2 w' → Calls Tryd.prog 22 #[.pointer (some ⟨R, 0, none⟩)] w' fun e w'' => e = .returned (.string tx) ∧ Below w'.heap.size w' w'') := fun w' hb => by
      have hf : Pp.Fits (Pp.Grp.grp fo Z) := Pp.fits_grp fo Z (by rw [hZ]; exact fun p hp => HFT.out p (Pp.Tot.srt_mem.1 hp))
      have hl : (Pp.Grp.grp fo Z).length ≤ 60000 := by
        have h1 := Pp.Grp.grp_len fo Z
        have h2 := HL2.out
        rw [hZ, Pp.Tot.srt_len] at h1
        rw [hZ]
        omega
      rw [HTX.out, ← hZ]
      exact Pp.out_anyT R fo kv mv ss (Pp.Grp.grp fo Z) w' (HE.out w' (I2.out.org.trans (hb.mono I2.out.org.size))) (HR2.out.blw hb) hf hl
    have hr : (textsOf T)[k]? = some (t.length, t.map Value.string) := by unfold textsOf; rw [List.getElem?_map, HTK.out]; rfl
    have row := I2.out.outs.each k _ _ HSK.out hr
    simp only at row
    obtain ⟨xs, hxs⟩ : ∃ xs, xs = t.map Value.string := ⟨_, rfl⟩
    rw [← hxs, ← HM.out] at row
    have HXS := Lib.hid hxs
    have ROW := Lib.hid row
    have o0 := I2.out.outs.lst.at HSK.out
    have HIN : Hid (∀ w', Below w2.heap.size w2 w' → w'.cell? ⟨O, k, none⟩ = some (.slice sa m sc)) := fun w' hb => (I2.out.below hb).outs.lst.at HSK.out
    have hsz := I2.out.org.size
    have hnm : m + 1 ≤ maxLen := by unfold maxLen; omega
    have PUT : Hid (∀ (wc w5 : World) (g cap : Nat), Below w2.heap.size w2 wc → w5.ownsRow w.heap.size 9 1 (.slice (some ⟨g, 0, none⟩) (m + 1) cap) (m + 1) (xs ++ [.string tx]) → wc.grownBy w5 (Value.slice sa m sc).ownBlock → ((Value.slice sa m sc).ownBlock = some g ∨ g = wc.heap.size) → (w5.cell? ⟨O, k, none⟩ = some (.slice sa m sc) ∧ w5.frozen? ⟨O, k, none⟩ = false) ∧ EI w (w5.setCell ⟨O, k, none⟩ (.slice (some ⟨g, 0, none⟩) (m + 1) cap)) P G O jv vs X (S.set k (.slice (some ⟨g, 0, none⟩) (m + 1) cap)) (T.set k (t ++ [tx]))) := fun wc w5 g cap hb ho hg hat =>
      (I2.out.below hb).tell HSK.out HTK.out (by rw [← HXS.out, ← HM.out]; exact ho) hg (by
        rcases hat with h | h
        · exact .inl h.symm
        · exact .inr (.inr ⟨g, rfl, by omega⟩))
    clear hr2 hb2 hb02 hZ hr row hxs NEW HF1 HB1
    go_upto_region 34 with fail
    refine wp_last ?_
    go_region_law (first | (refine step_append_lies _ rfl (.tmp 136) (.tmp 139) 38 rfl w.heap.size 9 i0 (.string ⟨#[]⟩) 1 16 Tryd.underlying38 hi0 hz0 hz1 hz2 rfl (by decide) (.slice sa m sc) m xs (by simp [Act.eval]) (ow_below ROW.out (HW3.out _ (by first | exact below_box _ | exact Pp.blw_drew (below_box _) | exact below_trans (Pp.blw_drew (Below.refl _ _)) (below_box _)))) ⟨w3.heap.size, 0, none⟩ 1 1 [.string tx] (by simp [Act.eval]) rfl (World.news_of_block (B := w3.heap.size) (cs := #[.string tx]) (t := 9) (fr := (0, 0)) (by exact heap_alloc_new w3 _)) (by intro q hq; simp at hq; subst hq; rfl) (by decide) hnm (by omega) (by have := HW3S.out; simp; omega) _ rfl ?_; intro g cap w5 hown5 hgrow5 hat5 hlt5; obtain ⟨⟨c5, f5⟩, HP5⟩ := PUT.out _ w5 g cap (HW3.out _ (by first | exact below_box _ | exact Pp.blw_drew (below_box _) | exact below_trans (Pp.blw_drew (Below.refl _ _)) (below_box _))) hown5 hgrow5 hat5; clear hown5 hgrow5 hat5 hlt5) | (go_simp; go_at_call 22; refine (OUT.out _ (by first | exact Below.refl _ _ | exact Pp.blw_drew (Below.refl _ _))).mono ?_; rintro _ w3 ⟨rfl, hb3⟩; have HB23 : Hid (Below w2.heap.size w2 w3) := (by first | exact hb3 | exact below_trans (Pp.blw_drew (Below.refl _ _)) hb3); have HW3 : Hid (∀ wc, Below w3.heap.size w3 wc → Below w2.heap.size w2 wc) := (fun wc h => below_trans HB23.out h); have HW3S : Hid (w.heap.size ≤ w3.heap.size) := Nat.le_trans hsz HB23.out.size; have o1 := HIN.out w3 HB23.out; have o2 : (w3.alloc (.cells #[.string tx] 9)).cell? ⟨O, k, none⟩ = some (.slice sa m sc) := HIN.out _ (HW3.out _ (below_box _)); clear hb3 o0))
    all_goals
      exact HK.out _ _ _ _ _ _ _ _ _ _ _ _ _ _ _ _ _ _ _ _ _ _ _ _ _ _ _ _ (by rw [HTX.out] at HP5; exact HP5)
end Go.Proofs.YtgkpnjnollfdaaaDoor
/- Folding early: the outputs of all slices. Written by tpl/mk_e.py. -/
namespace Go.Proofs.YtgkpnjnollfdaaaDoor
open Go.ChangeShapes Go.WideShapes Go.ChangeAt Go.RowKit
/-- What a slice's lists are as one text. -/
def outOf (fo : Int) (x : List (Value × List (ByteArray × Int))) : ByteArray := bs (Pp.textL (Pp.Grp.grp fo (Pp.Tot.srt (x.map Prod.snd).flatten)))
set_option maxRecDepth 1000000 in
set_option maxHeartbeats 4000000 in
theorem early_b6 (w : World) (P G O k ns : Nat) (fo : Int) (jv vs S : List Value) (X : List (List (Value × List (ByteArray × Int)))) (T : List (List ByteArray)) (t : List ByteArray) (w0 : World) (K : Act → World → Prop) (s0 s1 s2 s4 s5 s6 s7 s8 s9 s13 s14 s15 s16 s17 s19 s20 s21 s22 s23 s24 s25 s26 s27 s28 s29 s30 s31 s32 s33 s34 s35 s36 s37 s38 s39 s40 s41 s42 s43 s44 s45 s46 s47 s48 s49 s50 s51 s52 s53 s54 s55 s56 s57 s58 s59 s60 s61 s62 s63 s64 s65 s66 s67 s68 s69 s70 s71 s72 s73 s74 s75 s76 s77 s78 s79 s80 s81 s82 s83 s84 s85 s86 s87 s88 s89 s90 s91 s92 s93 s94 s95 s96 s97 s98 s99 s100 s101 s102 s103 s104 s105 s106 s107 s108 s109 s110 s111 s112 s113 s114 s115 s116 s117 s118 s119 s120 s121 s122 s123 s124 s125 s126 s127 s128 s129 s130 s131 s132 s133 s134 s135 s136 s137 s138 s139 s140 s141 s142 s143 s144 s145 s146 : Value)
    (HE : Hid (∀ w', Below w.heap.size w w' → Pp.EnvT w'))
    (hI : EI w w0 P G O jv vs X S T)
    (hjv : jv[1]? = some (.int .i64 fo))
    (hjn : jv[3]? = some (.int .i64 (ns : Int)))
    (hfo : Pp.kindB fo = true)
    (hns : X.length = ns)
    (hn4 : ns ≤ 4)
    (ht : T[k]? = some t)
    (htl : t.length ≤ 100)
    (hk2 : k < 2)
    (hl1 : ∀ x ∈ X, x.length ≤ 60000)
    (hl2 : ∀ x ∈ X, (x.map Prod.snd).flatten.length ≤ 60000)
    (hft : ∀ x ∈ X, Pp.Fits (x.map Prod.snd).flatten)
    (HK : Hid (∀ (z6 z18 z19 z20 z113 z114 z115 z116 z117 z118 z119 z120 z121 z122 z123 z124 z125 z126 z127 z128 z129 z130 z131 z132 z133 z134 z135 z136 z137 z138 z139 z140 z141 : Value) (S' : List Value) (wx : World), EI w wx P G O jv vs X S' (T.set k (t ++ X.map (outOf fo))) → K ⟨#[s0, s1, s2, .pointer (some ⟨P, 0, none⟩), s4, s5, z6, s7, s8, s9, .pointer (some ⟨O, 0, none⟩), .int .i64 (k : Int), .slice (some ⟨G, 0, none⟩) ns ns, s13, s14, s15, s16, s17, z18, z19, z20, s21, s22, s23, s24, s25, s26, s27, s28, s29, s30, s31, s32, s33, s34, s35, s36, s37, s38, s39, s40, s41, s42, s43, s44, s45, s46, s47, s48, s49, s50, s51, s52, s53, s54, s55, s56, s57, s58, s59, s60, s61, s62, s63, s64, s65, s66, s67, s68, s69, s70, s71, s72, s73, s74, s75, s76, s77, s78, s79, s80, s81, s82, s83, s84, s85, s86, s87, s88, s89, s90, s91, s92, s93, s94, s95, s96, s97, s98, s99, s100, s101, s102, s103, s104, s105, s106, s107, s108, s109, s110, s111, s112, z113, z114, z115, z116, z117, z118, z119, z120, z121, z122, z123, z124, z125, z126, z127, z128, z129, z130, z131, z132, z133, z134, z135, z136, z137, z138, z139, z140, z141, s142, s143, s144, s145, s146], []⟩ wx)) :
    Code.wp Tryd.prog (pieceIn Tryd.f5.body 6) (Exit.then K fun _ _ _ => False) ⟨#[s0, s1, s2, .pointer (some ⟨P, 0, none⟩), s4, s5, s6, s7, s8, s9, .pointer (some ⟨O, 0, none⟩), .int .i64 (k : Int), .slice (some ⟨G, 0, none⟩) ns ns, s13, s14, s15, s16, s17, .int .i64 0, s19, s20, s21, s22, s23, s24, s25, s26, s27, s28, s29, s30, s31, s32, s33, s34, s35, s36, s37, s38, s39, s40, s41, s42, s43, s44, s45, s46, s47, s48, s49, s50, s51, s52, s53, s54, s55, s56, s57, s58, s59, s60, s61, s62, s63, s64, s65, s66, s67, s68, s69, s70, s71, s72, s73, s74, s75, s76, s77, s78, s79, s80, s81, s82, s83, s84, s85, s86, s87, s88, s89, s90, s91, s92, s93, s94, s95, s96, s97, s98, s99, s100, s101, s102, s103, s104, s105, s106, s107, s108, s109, s110, s111, s112, s113, s114, s115, s116, s117, s118, s119, s120, s121, s122, s123, s124, s125, s126, s127, s128, s129, s130, s131, s132, s133, s134, s135, s136, s137, s138, s139, s140, s141, s142, s143, s144, s145, s146], []⟩ w0 := by
  have HJ1 := Lib.hid hjv
  have HJN := Lib.hid hjn
  have HNS := Lib.hid hns
  have HT := Lib.hid ht
  have HL1 := Lib.hid hl1
  have HL2 := Lib.hid hl2
  have HFT := Lib.hid hft
  have HKF := Lib.hid hfo
  have hkT := (List.getElem?_eq_some_iff.1 ht).1
  have hvl : vs.length = ns := by
    have := hI.parts.len
    unfold rowsOf at this
    rw [List.length_map] at this
    omega
  have HVL := Lib.hid hvl
  have HI : Hid (EI w w0 P G O jv vs X S (T.set k (t ++ (X.take 0).map (outOf fo)))) := by
    show EI _ _ _ _ _ _ _ _ _ _
    have e : T.set k (t ++ (X.take 0).map (outOf fo)) = T := by
      apply List.ext_getElem?
      intro q
      rw [List.getElem?_set]
      by_cases e : k = q
      · subst e
        rw [if_pos rfl, if_pos hkT, ht]
        simp
      · rw [if_neg e]
    rw [e]
    exact hI
  clear hI hjv hjn hns ht hl1 hl2 hft hfo hvl
  conv => arg 2; whnf
  go_wp2_with fail
  go_loopg [18] ns (fun gg iv wr => ∃ (i : Nat) (S' : List Value), gg = ns - i ∧ i ≤ ns ∧ iv = .int .i64 i ∧ Hid (EI w wr P G O jv vs X S' (T.set k (t ++ (X.take i).map (outOf fo)))))
  case atStart => exact ⟨0, S, rfl, Nat.zero_le _, rfl, HI⟩
  case round =>
    clear HI
    obtain ⟨i, S', hgi, hi, rfl, HI⟩ := hrel
    have HGI := Lib.hid hgi
    clear hgi
    have p3 := HI.out.job.at HJN.out
    by_cases hlt : i < ns
    · obtain ⟨v, hv⟩ : ∃ v, vs[i]? = some v := ⟨vs[i]'(by rw [HVL.out]; exact hlt), by simp⟩
      obtain ⟨x, hx⟩ : ∃ x, X[i]? = some x := ⟨X[i]'(by rw [HNS.out]; exact hlt), by simp⟩
      have hr : (rowsOf X)[i]? = some (x.length, x.map Prod.fst) := by unfold rowsOf; rw [List.getElem?_map, hx]; rfl
      obtain ⟨va, vc, rfl⟩ : ∃ va vc, v = .slice va x.length vc := by
        rcases row_slice (HI.out.parts.each i v _ hv hr) with ⟨h1, h2⟩ | ⟨g, c, h1, _⟩
        · exact ⟨none, 0, by rw [h1]; simp only at h2; rw [h2]⟩
        · exact ⟨_, c, h1⟩
      have hxm : x ∈ X := List.mem_of_getElem? hx
      obtain ⟨tk, htk⟩ : ∃ tk, tk = t ++ (X.take i).map (outOf fo) := ⟨_, rfl⟩
      have htk2 : (T.set k tk)[k]? = some tk := by rw [List.getElem?_set, if_pos rfl, if_pos hkT]
      have hrt : (textsOf (T.set k tk))[k]? = some (tk.length, tk.map Value.string) := by unfold textsOf; rw [List.getElem?_map, htk2]; rfl
      rw [← htk] at HI
      obtain ⟨u, hu⟩ : ∃ u, S'[k]? = some u := ⟨S'[k]'(by rw [HI.out.outs.len]; simp [textsOf]; exact hkT), by simp⟩
      obtain ⟨sa, sc, rfl⟩ : ∃ sa sc, u = .slice sa tk.length sc := by
        rcases row_slice (HI.out.outs.each k u _ hu hrt) with ⟨h1, h2⟩ | ⟨g, c, h1, _⟩
        · exact ⟨none, 0, by rw [h1]; simp only at h2; rw [h2]⟩
        · exact ⟨_, c, h1⟩
      have htl2 : tk.length ≤ 1000 := by rw [htk, List.length_append, List.length_map, List.length_take]; omega
      have HNX : Hid ((T.set k tk).set k (tk ++ [outOf fo x]) = T.set k (t ++ (X.take (i + 1)).map (outOf fo))) := by
        show _ = _
        have hil := (List.getElem?_eq_some_iff.1 hx)
        obtain ⟨hil, rfl⟩ := hil
        rw [List.set_set, htk, List.take_succ_eq_append_getElem hil, List.map_append, ← List.append_assoc]
        rfl
      have HV := Lib.hid hv
      have HX := Lib.hid hx
      have HU := Lib.hid hu
      have HTK2 := Lib.hid htk2
      have HLT := Lib.hid hlt
      have HXM := Lib.hid hxm
      obtain ⟨m, hm⟩ : ∃ m, m = tk.length := ⟨_, rfl⟩
      obtain ⟨n, hn⟩ : ∃ n, n = x.length := ⟨_, rfl⟩
      rw [← hm] at HU htl2
      rw [← hn] at HV
      have HM := Lib.hid hm
      clear hv hx hu hr hrt htk htk2 hxm hm hn
      go_upto_block 7 with fail
      refine wp_norm (early_b7 w P G O i k n fo jv vs S' X (T.set k tk) x tk va sa vc sc ns m _ _ _ _ _ _ _ _ _ _ _ _ _ _ _ _ _ _ _ _ _ _ _ _ _ _ _ _ _ _ _ _ _ _ _ _ _ _ _ _ _ _ _ _ _ _ _ _ _ _ _ _ _ _ _ _ _ _ _ _ _ _ _ _ _ _ _ _ _ _ _ _ _ _ _ _ _ _ _ _ _ _ _ _ _ _ _ _ _ _ _ _ _ _ _ _ _ _ _ _ _ _ _ _ _ _ _ _ _ _ _ _ _ _ _ _ _ _ _ _ _ _ _ _ _ _ _ _ _ _ _ _ _ _ _ _ _ _ _ _ _ _ _ _ HE HI.out HJ1.out HKF.out HV.out HX.out HLT.out HU.out HTK2.out HM.out hk2 htl2 (HL1.out x HXM.out) (HL2.out x HXM.out) (HFT.out x HXM.out) ?_)
      refine Lib.hid ?_
      intro z6 z19 z20 z119 z120 z121 z122 z123 z124 z125 z126 z127 z128 z129 z130 z131 z132 z133 z134 z135 z136 z137 z138 z139 z140 z141 v' wx hIx
      clear p3 HI
      have HIX : Hid (EI w wx P G O jv vs X (S'.set k v') (T.set k (t ++ (X.take (i + 1)).map (outOf fo)))) := by
        show EI _ _ _ _ _ _ _ _ _ _
        rw [← HNX.out]
        exact hIx
      clear hIx
      go_wp2
      go_roundg (ns - (i + 1))
      case measure => have := HGI.out; have := HLT.out; omega
      case rel => exact ⟨i + 1, _, rfl, HLT.out, by go_num, HIX⟩
    · have e : i = ns := by omega
      subst e
      have hall := HI.out
      rw [List.take_of_length_le (by have := HNS.out; omega)] at hall
      have HALL := Lib.hid hall
      clear hall
      go_wp2
      exact HK.out _ _ _ _ _ _ _ _ _ _ _ _ _ _ _ _ _ _ _ _ _ _ _ _ _ _ _ _ _ _ _ _ _ S' wr HALL.out
end Go.Proofs.YtgkpnjnollfdaaaDoor
/- Folding early: a round. Written by tpl/mk_e.py. -/
namespace Go.Proofs.YtgkpnjnollfdaaaDoor
open Go.ChangeShapes Go.WideShapes Go.ChangeAt Go.RowKit
/-- A job and two outputs; nothing else of what was there has turned. -/
structure JO (w wr : World) (P O : Nat) (jv s : List Value) (T : List (List ByteArray)) : Prop where
  org : Below w.heap.size w wr
  job : Blk wr P 37 jv
  outs : RW w.heap.size wr O 58 9 1 s (textsOf T)
  lowP : w.heap.size ≤ P
  lowO : w.heap.size ≤ O
theorem JO.below {w wr w' : World} {P O : Nat} {jv s : List Value} {T : List (List ByteArray)} (h : JO w wr P O jv s T) (hb : Below wr.heap.size wr w') : JO w w' P O jv s T :=
  ⟨h.org.trans (hb.mono h.org.size), h.job.blw hb, h.outs.below hb, h.lowP, h.lowO⟩
theorem JO.setJob {w wr : World} {P O : Nat} {jv s : List Value} {T : List (List ByteArray)} (h : JO w wr P O jv s T) (i : Nat) (v : Value) : JO w (wr.setCell ⟨P, i, none⟩ v) P O (jv.set i v) s T :=
  ⟨h.org.setCell (p := ⟨P, i, none⟩) h.lowP v, h.job.set i v, h.outs.other h.job (by decide) (by decide), h.lowP, h.lowO⟩
theorem EI.jo {w wr : World} {P G O : Nat} {jv vs s : List Value} {X : List (List (Value × List (ByteArray × Int)))} {T : List (List ByteArray)} (h : EI w wr P G O jv vs X s T) : JO w wr P O jv s T := ⟨h.org, h.job, h.outs, h.lowP, h.lowO⟩
/-- New lists of parts, none in them. -/
theorem JO.anew {w wr : World} {P G O n : Nat} {jv s : List Value} {T : List (List ByteArray)} (h : JO w wr P O jv s T) (hk : Blk wr G 34 (List.replicate n (.slice none 0 0))) (hG : w.heap.size ≤ G) : EI w wr P G O jv (List.replicate n (.slice none 0 0)) (List.replicate n []) s T := by
  refine ⟨h.org, h.job, ⟨hk, by simp [rowsOf], fun k v r hv hr => ?_, fun i j vi vj _ hvi _ g hg => ?_⟩, fun x hx p hp => ?_, h.outs, h.lowP, hG, h.lowO⟩
  · have e1 : v = .slice none 0 0 := (List.mem_replicate.1 (List.mem_of_getElem? hv)).2
    unfold rowsOf at hr
    rw [List.map_replicate] at hr
    have e2 := (List.mem_replicate.1 (List.mem_of_getElem? hr)).2
    subst e1 e2
    exact World.ownsRow_nil _ _ _ _
  · have e1 : vi = .slice none 0 0 := (List.mem_replicate.1 (List.mem_of_getElem? hvi)).2
    subst e1
    cases hg
  · have e1 : x = [] := (List.mem_replicate.1 hx).2
    subst e1
    cases hp
theorem part_fits (fo : Int) (ea : Bool) (ns i : Nat) (j : Jb) (p : List (List UInt8)) (h : Pp.Fits (madeOf j p)) : Pp.Fits (partOf fo ea ns i j p) := by
  unfold partOf finL
  split
  · exact Pp.fits_grp fo _ (inSlice_fits ns i h)
  · exact inSlice_fits ns i h
theorem Parted.outs {fo : Int} {ea : Bool} {ns : Nat} {j : Jb} {ps : List (List (List UInt8))} {X : List (List (Value × List (ByteArray × Int)))} (h : Parted fo ea ns j ps X) (hf : j.fold = fo) : X.map (outOf fo) = plainT j ns ps.flatten := by
  unfold plainT
  apply List.ext_getElem?
  intro k
  rw [List.getElem?_map, List.getElem?_map]
  by_cases hk : k < ns
  · obtain ⟨x, hx⟩ : ∃ x, X[k]? = some x := ⟨X[k]'(by rw [h.len]; exact hk), by simp⟩
    rw [hx, List.getElem?_range hk, Option.map_some, Option.map_some]
    unfold outOf
    rw [h.at hx, early_grp fo ea ns k j ps (Pp.Tot.srt ((ps.map (partOf fo ea ns k j)).flatten)) (Pp.Tot.srt_sorted _) (Pp.Tot.srt_se _), hf]
  · rw [List.getElem?_eq_none (by rw [h.len]; omega), List.getElem?_eq_none (by simp; omega)]
    rfl
theorem parts_fits (fo : Int) (ea : Bool) (ns i : Nat) (j : Jb) (ps : List (List (List UInt8))) (h : Pp.Fits (madeOf j ps.flatten)) : Pp.Fits ((ps.map (partOf fo ea ns i j)).flatten) := by
  intro q hq
  rw [List.mem_flatten] at hq
  obtain ⟨y, hy, hq⟩ := hq
  rw [List.mem_map] at hy
  obtain ⟨p, hp, rfl⟩ := hy
  refine part_fits fo ea ns i j p (fun r hr => h r ?_) q hq
  unfold madeOf at hr ⊢
  rw [List.mem_flatMap] at hr ⊢
  obtain ⟨x, hx, hr⟩ := hr
  exact ⟨x, List.mem_flatten.2 ⟨p, hp, hx⟩, hr⟩
set_option maxRecDepth 1000000 in
set_option maxHeartbeats 4000000 in
theorem early_b1 (SD : StepDoes) (w : World) (P O n ns ln lc rn rc k : Nat) (fo : Int) (eb kb : Bool) (l : List Rl) (ra la : Option Addr) (lines : List (List UInt8)) (S : List Value) (T : List (List ByteArray)) (w0 : World) (K : Act → World → Prop) (s0 s2 s4 s5 s6 s7 s8 s12 s13 s14 s15 s16 s17 s18 s19 s20 s21 s22 s23 s24 s25 s26 s27 s28 s29 s30 s31 s32 s33 s34 s35 s36 s37 s38 s39 s40 s41 s42 s43 s44 s45 s46 s47 s48 s49 s50 s51 s52 s53 s54 s55 s56 s57 s58 s59 s60 s61 s62 s63 s64 s65 s66 s67 s68 s69 s70 s71 s72 s73 s74 s75 s76 s77 s78 s79 s80 s81 s82 s83 s84 s85 s86 s87 s88 s89 s90 s91 s92 s93 s94 s95 s96 s97 s98 s99 s100 s101 s102 s103 s104 s105 s106 s107 s108 s109 s110 s111 s112 s113 s114 s115 s116 s117 s118 s119 s120 s121 s122 s123 s124 s125 s126 s127 s128 s129 s130 s131 s132 s133 s134 s135 s136 s137 s138 s139 s140 s141 s142 s143 s144 s145 s146 : Value)
    (HE : Hid (∀ w', Below w.heap.size w w' → EnvS w'))
    (HT : Hid (∀ w', Below w.heap.size w w' → Pp.EnvT w'))
    (HR : Hid (∀ w', Below w.heap.size w w' → IsRules w' (.slice ra rn rc) l))
    (HV : Hid (∀ w', Below w.heap.size w w' → IsTexts w' (.slice la ln lc) (lines.map bs)))
    (hln : Hid (ln = lines.length))
    (hJ : Hid (jobFault ⟨l, fo, kb, (ns : Int)⟩ = 0))
    (hLO : Hid (∀ x ∈ lines, x.length ≤ 120))
    (h60 : ln ≤ 60)
    (hlc : ln ≤ lc)
    (hn1 : 1 ≤ n)
    (hn16 : n ≤ 16)
    (hk2 : k < 2)
    (hkb : ((k : Int) == 1) = kb)
    (hI : JO w w0 P O [.slice ra rn rc, .int .i64 fo, .bool eb, .int .i64 (ns : Int)] S T)
    (ht : T[k]? = some [])
    (HK : Hid (∀ (z6 z12 z13 z14 z15 z16 z17 z18 z19 z20 z56 z57 z58 z59 z60 z61 z62 z63 z64 z65 z66 z67 z68 z69 z70 z71 z72 z73 z74 z75 z76 z77 z78 z79 z80 z81 z82 z83 z84 z85 z86 z87 z88 z89 z90 z91 z92 z93 z94 z95 z96 z97 z98 z99 z100 z101 z102 z103 z104 z105 z106 z107 z108 z109 z110 z111 z112 z113 z114 z115 z116 z117 z118 z119 z120 z121 z122 z123 z124 z125 z126 z127 z128 z129 z130 z131 z132 z133 z134 z135 z136 z137 z138 z139 z140 z141 : Value) (S' : List Value) (wx : World), JO w wx P O [.slice ra rn rc, .int .i64 fo, .bool kb, .int .i64 (ns : Int)] S' (T.set k (plainT ⟨l, fo, kb, (ns : Int)⟩ ns lines)) → K ⟨#[s0, .slice la ln lc, s2, .pointer (some ⟨P, 0, none⟩), s4, s5, z6, s7, s8, .int .i64 (n : Int), .pointer (some ⟨O, 0, none⟩), .int .i64 (k : Int), z12, z13, z14, z15, z16, z17, z18, z19, z20, s21, s22, s23, s24, s25, s26, s27, s28, s29, s30, s31, s32, s33, s34, s35, s36, s37, s38, s39, s40, s41, s42, s43, s44, s45, s46, s47, s48, s49, s50, s51, s52, s53, s54, s55, z56, z57, z58, z59, z60, z61, z62, z63, z64, z65, z66, z67, z68, z69, z70, z71, z72, z73, z74, z75, z76, z77, z78, z79, z80, z81, z82, z83, z84, z85, z86, z87, z88, z89, z90, z91, z92, z93, z94, z95, z96, z97, z98, z99, z100, z101, z102, z103, z104, z105, z106, z107, z108, z109, z110, z111, z112, z113, z114, z115, z116, z117, z118, z119, z120, z121, z122, z123, z124, z125, z126, z127, z128, z129, z130, z131, z132, z133, z134, z135, z136, z137, z138, z139, z140, z141, s142, s143, s144, s145, s146], []⟩ wx)) :
    Code.wp Tryd.prog (pieceIn Tryd.f5.body 1) (Exit.then K fun _ _ _ => False) ⟨#[s0, .slice la ln lc, s2, .pointer (some ⟨P, 0, none⟩), s4, s5, s6, s7, s8, .int .i64 (n : Int), .pointer (some ⟨O, 0, none⟩), .int .i64 (k : Int), s12, s13, s14, s15, s16, s17, s18, s19, s20, s21, s22, s23, s24, s25, s26, s27, s28, s29, s30, s31, s32, s33, s34, s35, s36, s37, s38, s39, s40, s41, s42, s43, s44, s45, s46, s47, s48, s49, s50, s51, s52, s53, s54, s55, s56, s57, s58, s59, s60, s61, s62, s63, s64, s65, s66, s67, s68, s69, s70, s71, s72, s73, s74, s75, s76, s77, s78, s79, s80, s81, s82, s83, s84, s85, s86, s87, s88, s89, s90, s91, s92, s93, s94, s95, s96, s97, s98, s99, s100, s101, s102, s103, s104, s105, s106, s107, s108, s109, s110, s111, s112, s113, s114, s115, s116, s117, s118, s119, s120, s121, s122, s123, s124, s125, s126, s127, s128, s129, s130, s131, s132, s133, s134, s135, s136, s137, s138, s139, s140, s141, s142, s143, s144, s145, s146], []⟩ w0 := by
  obtain ⟨i0, hi0, hz0, hz1, hz2⟩ := info_parts infoLs
  obtain ⟨-, hr4, hk1, hk4, hs1, hs4, -⟩ := jobFault_parts hJ.out
  simp only at hr4 hk1 hk4 hs1 hs4
  have hns1 : 1 ≤ ns := by omega
  have hns4 : ns ≤ 4 := by omega
  obtain ⟨w1, hw1⟩ : ∃ w1, w1 = w0.setCell ⟨P, 2, none⟩ (.bool kb) := ⟨_, rfl⟩
  have HI1 : Hid (JO w w1 P O [.slice ra rn rc, .int .i64 fo, .bool kb, .int .i64 (ns : Int)] S T) := by rw [hw1]; exact hI.setJob 2 (.bool kb)
  have k2 := hI.job.at (i := 2) (v := .bool eb) rfl
  have f2 := hI.job.frozen 2
  have HW1 := Lib.hid hw1
  have HKK : Hid (Pp.kindB fo = true) := by show _ = _; unfold Pp.kindB; simp; omega
  have HTT := Lib.hid ht
  have HSDD := Lib.hid SD
  clear hI hw1 hr4 hk1 hk4 hs1 hs4 ht SD
  conv => arg 2; whnf
  go_upto_region 12 with fail
  rw [← HW1.out]
  clear k2 f2 HW1
  have k3 := HI1.out.job.at (i := 3) (v := .int .i64 (ns : Int)) rfl
  go_wp2_with (at_make; refine Hid.out ?_)
  refine Lib.hid ?_
  refine wpList_make_full w1 rfl (.tmp 60) (.tmp 60) 59 rfl w1.heap.size 34 i0 _ 1 Tryd.underlying59 hi0 hz0 hz1 _ _ _ _ ns rfl rfl rfl rfl (by rw [hz2]; omega) (by unfold maxLen; omega) (Nat.le_refl _) ?_
  intro w2 hown hgrow
  have hb2 : Below w1.heap.size w1 w2 := ⟨hgrow.os, hgrow.tape, hgrow.output, hgrow.size, fun k hk => hgrow.block k hk (by simp)⟩
  obtain ⟨hblk, -⟩ := owns_blk hown
  rw [made_nils ns] at hblk
  obtain ⟨G, hG⟩ : ∃ G, G = w1.heap.size := ⟨_, rfl⟩
  rw [← hG] at hblk ⊢
  have HI2 : Hid (EI w w2 P G O [.slice ra rn rc, .int .i64 fo, .bool kb, .int .i64 (ns : Int)] (List.replicate ns (.slice none 0 0)) (List.replicate ns []) S T) := (HI1.out.below hb2).anew hblk (by rw [hG]; exact HI1.out.org.size)
  clear hown hgrow hb2 hblk hG k3 HI1 hz0 hz1 hz2 hi0
  go_upto_block 2 with fail
  refine wp_norm (early_b2 HSDD.out w P G O n ns ln lc rn rc fo kb l ra la lines _ S _ T _ _ _ _ _ _ _ _ _ _ _ _ _ _ _ _ _ _ _ _ _ _ _ _ _ _ _ _ _ _ _ _ _ _ _ _ _ _ _ _ _ _ _ _ _ _ _ _ _ _ _ _ _ _ _ _ _ _ _ _ _ _ _ _ _ _ _ _ _ _ _ _ _ _ _ _ _ _ _ _ _ _ _ _ _ _ _ _ _ _ _ _ _ _ _ _ _ _ _ _ _ _ _ _ _ _ _ _ _ _ _ _ _ _ _ _ _ _ _ _ _ _ _ _ _ _ _ _ _ _ _ _ _ _ _ _ _ _ _ _ _ _ _ _ HE HR HV hln hJ hLO h60 hlc hn1 hn16 HI2.out (Parted.start fo kb ns _) ?_)
  refine Lib.hid ?_
  intro z6 z13 z14 z15 z16 z17 z62 z63 z64 z65 z66 z67 z68 z69 z70 z71 z72 z73 z74 z75 z76 z77 z78 z79 z80 z81 z82 z83 z84 z85 z86 z87 z88 z89 z90 z91 z92 z93 z94 z95 z96 z97 z98 z99 z100 z101 z102 z103 z104 z105 z106 z107 z108 z109 z110 z111 z112 vs3 X3 ps w3 hI3 hP3 hF3 hL3
  have HI3 := Lib.hid hI3
  have HP3 := Lib.hid hP3
  have HF3 := Lib.hid hF3
  clear HI2 hI3
  go_upto_block 6 with fail
  have hML : (madeOf ⟨l, fo, kb, (ns : Int)⟩ ps.flatten).length ≤ 60000 := by
    have h1 := made_len ⟨l, fo, kb, (ns : Int)⟩ 120 lines (jobFault_parts hJ.out).2.1 (fun x hx => hLO.out x hx)
    have h3 := Nat.mul_le_mul_right (4 * (120 + 1)) (show lines.length ≤ 60 by rw [← hln.out]; exact h60)
    rw [HF3.out]
    omega
  have hMF : Pp.Fits (madeOf ⟨l, fo, kb, (ns : Int)⟩ ps.flatten) := by rw [HF3.out]; exact made_fits hJ.out (fun x hx => by have := hLO.out x hx; omega)
  refine wp_last (early_b6 w P G O k ns fo _ vs3 S X3 T [] _ _ _ _ _ _ _ _ _ _ _ _ _ _ _ _ _ _ _ _ _ _ _ _ _ _ _ _ _ _ _ _ _ _ _ _ _ _ _ _ _ _ _ _ _ _ _ _ _ _ _ _ _ _ _ _ _ _ _ _ _ _ _ _ _ _ _ _ _ _ _ _ _ _ _ _ _ _ _ _ _ _ _ _ _ _ _ _ _ _ _ _ _ _ _ _ _ _ _ _ _ _ _ _ _ _ _ _ _ _ _ _ _ _ _ _ _ _ _ _ _ _ _ _ _ _ _ _ _ _ _ _ _ _ _ _ _ _ _ _ _ _ _ _ HT HI3.out rfl rfl HKK.out HP3.out.len hns4 HTT.out (by simp) hk2 (fun x hx => by obtain ⟨_, _, _, h⟩ := HP3.out.each hx; omega) (fun x hx => by obtain ⟨i, _, h, _⟩ := HP3.out.each hx; rw [HP3.out.at h]; have := parts_len fo kb ns i ⟨l, fo, kb, (ns : Int)⟩ ps; omega) (fun x hx => by obtain ⟨i, _, h, _⟩ := HP3.out.each hx; rw [HP3.out.at h]; exact parts_fits fo kb ns i _ ps hMF) ?_)
  refine Lib.hid ?_
  intro z6 z18 z19 z20 z113 z114 z115 z116 z117 z118 z119 z120 z121 z122 z123 z124 z125 z126 z127 z128 z129 z130 z131 z132 z133 z134 z135 z136 z137 z138 z139 z140 z141 S4 w4 hI4
  refine HK.out _ _ _ _ _ _ _ _ _ _ _ _ _ _ _ _ _ _ _ _ _ _ _ _ _ _ _ _ _ _ _ _ _ _ _ _ _ _ _ _ _ _ _ _ _ _ _ _ _ _ _ _ _ _ _ _ _ _ _ _ _ _ _ _ _ _ _ _ _ _ _ _ _ _ _ _ _ _ _ _ _ _ _ _ _ _ _ _ _ _ _ _ _ _ _ _ S4 w4 ?_
  have h := hI4.jo
  rw [List.nil_append, HP3.out.outs rfl, HF3.out] at h
  exact h
end Go.Proofs.YtgkpnjnollfdaaaDoor
/- Folding early: the walk of TopEarly. Written by tpl/mk_e.py. -/
namespace Go.Proofs.YtgkpnjnollfdaaaDoor
open Go.ChangeShapes Go.WideShapes Go.ChangeAt Go.RowKit
theorem and15 (x : Int) : 0 ≤ bits .and .i64 x 15 ∧ bits .and .i64 x 15 ≤ 15 := by
  have h2 : (BitVec.ofInt 64 (15 : Int)).toNat = 15 := by decide
  have e : bits .and .i64 x 15 = IntKind.i64.wrap ((BitVec.ofInt 64 x &&& BitVec.ofInt 64 15).toNat : Int) := rfl
  have hle : (BitVec.ofInt 64 x &&& BitVec.ofInt 64 15).toNat ≤ 15 := by
    rw [BitVec.toNat_and, h2]; exact Nat.and_le_right
  rw [e, wrap_small _ (by omega) (by omega)]
  omega
theorem isTexts_oneS {w : World} {base : Nat} {v : Value} {l : List ByteArray} (h : w.ownsRow base 9 1 v l.length (l.map Value.string)) : IsTexts w v l := by
  have e : l = (l.map fun b => b.data.toList).map bs := by
    rw [List.map_map]
    conv => lhs; rw [← List.map_id l]
    apply List.map_congr_left
    intro x _
    exact (bs_of x).symm
  have e2 : l.map Value.string = strs (l.map fun b => b.data.toList) := by
    unfold strs
    rw [List.map_map]
    apply List.map_congr_left
    intro x _
    simp [bs_of]
  rw [e2] at h
  rw [e]
  exact isTexts_of (by rw [List.length_map]; exact h)
set_option maxRecDepth 1000000 in
set_option maxHeartbeats 4000000 in
theorem topEarly_walk (SD : StepDoes) (j : Jb) (a : Option Addr) (cap : Nat) (la : Option Addr) (lc : Nat) (lines : List (List UInt8)) (size : Int) (w : World) (E : EnvS w) (ET : Pp.EnvT w) (h : IsRules w (.slice a j.rules.length cap) j.rules) (hw : rulesWt j.rules ≤ 1000000000) (hlc : lines.length ≤ lc) (hv : IsTexts w (.slice la lines.length lc) (lines.map bs)) (hll : lines.length ≤ 1000000000) :
    Calls Tryd.prog 5 #[j.value (.slice a j.rules.length cap), .slice la lines.length lc, .int .i64 size] w fun e w' => e = .returned (.bool true) ∧ Below w.heap.size w w' := by
  have LJ := Lib.hid (fun w h => lightJob_any j (.slice a j.rules.length cap) w h hw)
  have CK := Lib.hid (fun w h E => jobCheck_any j (.slice a j.rules.length cap) w h hw E)
  have LT := Lib.hid (fun w' (hb : Below w.heap.size w w') => lightTexts_any (.slice la lines.length lc) (lines.map bs) 60 120 w' (IsTexts.below hv hb) (by unfold maxLen; rw [List.length_map]; omega))
  have HSD := Lib.hid SD
  have HV : Hid (∀ w', Below w.heap.size w w' → IsTexts w' (.slice la lines.length lc) (lines.map bs)) := fun w' (hb : Below w.heap.size w w') => IsTexts.below hv hb
  have HE : Hid (∀ w', Below w.heap.size w w' → EnvS w') := fun w' (hb : Below w.heap.size w w') => E.lower hb
  have HT : Hid (∀ w', Below w.heap.size w w' → Pp.EnvT w') := fun w' (hb : Below w.heap.size w w') => ET.below hb
  have H : Hid (∀ w', Below w.heap.size w w' → IsRules w' (.slice a j.rules.length cap) j.rules) := fun w' (hb : Below w.heap.size w w') => h.lower hb
  obtain ⟨f, hf⟩ : ∃ f, f = jobFault j := ⟨_, rfl⟩
  rw [← hf] at CK
  have HF := Lib.hid hf
  obtain ⟨l, fo, ea, sl⟩ := j
  simp only [Jb.value] at *
  rw [List.length_map] at LT
  obtain ⟨ln, hln⟩ : ∃ ln, ln = lines.length := ⟨_, rfl⟩
  rw [← hln] at LT HV hlc ⊢
  have HLN : Hid (ln = lines.length) := hln
  have HLC := Lib.hid hlc
  obtain ⟨rn, hrn⟩ : ∃ rn, rn = l.length := ⟨_, rfl⟩
  rw [← hrn] at LJ CK H ⊢
  clear hrn hln hf h E ET SD hv hlc
  obtain ⟨w0, hw0⟩ : ∃ w0, w0 = w.alloc (.cells #[.slice a rn cap, .int .i64 fo, .bool ea, .int .i64 sl] 37) := ⟨_, rfl⟩
  have hb0 : Below w.heap.size w w0 := by rw [hw0]; exact below_box _
  have JB0 : Blk w0 w.heap.size 37 [.slice a rn cap, .int .i64 fo, .bool ea, .int .i64 sl] := by rw [hw0]; exact blk_new rfl
  have NW : Hid (Calls Tryd.prog 21 #[.int .i64 1, .slice none 0 0] w0 fun e w' => ∃ R kv Z ks ss, e = .returned (.tuple #[.pointer (some ⟨R, 0, none⟩), .nilIface]) ∧ Pp.Fresh w0 w' [] 1 R kv Z ks ss) := Pp.new_ok 1 (.slice none 0 0) [] w0 (by decide) ⟨none, 0, rfl, fun i hi => absurd hi (by simp)⟩ (by simp) (by simp)
  have HB0 := Lib.hid hb0
  have HJB0 := Lib.hid JB0
  have HW0 := Lib.hid hw0
  clear hb0 JB0 hw0
  go_enter Tryd.func5, Tryd.ntmps5
  go_upto_region 1 with fail
  rw [← HW0.out]
  clear HW0
  go_wp2_with (go_at_call 21; refine Hid.out ?_)
  refine Lib.hid ?_
  refine NW.out.mono ?_
  clear NW
  rintro _ w1 ⟨R, kv, Z, ks, ss, rfl, hF⟩
  have HB1 : Hid (Below w.heap.size w w1) := below_trans HB0.out hF.bel
  have JB1 := Lib.hid (HJB0.out.blw hF.bel)
  have OUT : Hid (∀ w', Below w1.heap.size w1 w' → Calls Tryd.prog 22 #[.pointer (some ⟨R, 0, none⟩)] w' fun e w'' => e = .returned (.string ⟨#[]⟩) ∧ Below w'.heap.size w' w'') := fun w' hb => Pp.out_anyT R 1 kv (.slice none 0 0) ss [] w' (HT.out w' (below_trans HB1.out hb)) (hF.run.blw hb) (fun p hp => by cases hp) (by simp)
  clear hF HB0 HJB0
  dsimp only
  go_wp2_with (go_at_call 22; refine Hid.out ?_)
  refine Lib.hid ?_
  refine (OUT.out _ (Below.refl _ _)).mono ?_
  rintro _ w2 ⟨rfl, hb2⟩
  have HB2 := below_trans HB1.out hb2
  have JB2 := Lib.hid (JB1.out.blw hb2)
  have k0 := JB2.out.at (i := 0) (v := .slice a rn cap) rfl
  have k1 := JB2.out.at (i := 1) (v := .int .i64 fo) rfl
  have k2 := JB2.out.at (i := 2) (v := .bool ea) rfl
  have k3 := JB2.out.at (i := 3) (v := .int .i64 sl) rfl
  clear OUT HB1 JB1 hb2
  go_wp2_with (go_at_call 15; refine Hid.out ?_)
  refine Lib.hid ?_
  refine (LJ.out w2 (H.out _ HB2)).mono ?_
  rintro _ w3 ⟨g, rfl, hb3⟩
  have HB3 := below_trans HB2 hb3
  have JB3 := Lib.hid (JB2.out.blw hb3)
  clear k0 k1 k2 k3 JB2 HB2 hb3 LJ
  cases g with
  | false =>
    go_wp2
    go_ret
    exact ⟨rfl, HB3⟩
  | true =>
  have LT2 := Lib.hid (LT.out w3 HB3)
  obtain ⟨lt, hlt⟩ : ∃ lt, lt = (decide ((ln : Int) ≤ 60) && lightT (lines.map bs) 120) := ⟨_, rfl⟩
  rw [← hlt] at LT2
  have HLT := Lib.hid hlt
  clear hlt LT
  go_wp2_with (go_at_call 16; refine Hid.out ?_)
  refine Lib.hid ?_
  refine LT2.out.mono ?_
  rintro _ w4 ⟨rfl, h4⟩
  rw [h4]
  clear h4 w4 LT2
  cases lt with
  | false =>
    go_wp2
    go_ret
    exact ⟨rfl, HB3⟩
  | true =>
  have h60 : ln ≤ 60 := by
    have h := HLT.out.symm
    rw [Bool.and_eq_true, decide_eq_true_eq] at h
    omega
  have HLO : Hid (∀ x ∈ lines, x.length ≤ 120) := fun x hx => by
    have h := HLT.out.symm
    rw [Bool.and_eq_true] at h
    have h2 := h.2
    unfold lightT at h2
    rw [List.all_eq_true] at h2
    have := of_decide_eq_true (h2 (bs x) (List.mem_map.2 ⟨x, hx, rfl⟩))
    rw [bs_size] at this
    omega
  have k0 := JB3.out.at (i := 0) (v := .slice a rn cap) rfl
  have k1 := JB3.out.at (i := 1) (v := .int .i64 fo) rfl
  have k2 := JB3.out.at (i := 2) (v := .bool ea) rfl
  have k3 := JB3.out.at (i := 3) (v := .int .i64 sl) rfl
  go_wp2_with (go_at_call 17; refine Hid.out ?_)
  refine Lib.hid ?_
  refine (CK.out w3 (H.out _ HB3) (HE.out _ HB3)).mono ?_
  rintro _ w5 ⟨rfl, hb5⟩
  have HB5 := below_trans HB3 hb5
  have JB5 := Lib.hid (JB3.out.blw hb5)
  clear k0 k1 k2 k3 JB3 HB3 hb5 CK HLT
  rcases (errV_cases f).symm with ⟨h0, hvv⟩ | ⟨h0, hvv⟩
  · rw [hvv]
    go_wp2
    go_ret
    exact ⟨rfl, HB5⟩
  rw [hvv]
  have HJF : Hid (∀ eb, jobFault ⟨l, fo, eb, sl⟩ = 0) := fun eb => by rw [fault_early l fo eb ea sl, ← HF.out]; exact h0
  obtain ⟨-, hr4, hk1, hk4, hs1, hs4, -⟩ := jobFault_parts (HJF.out ea)
  simp only at hr4 hk1 hk4 hs1 hs4
  obtain ⟨ns, rfl⟩ : ∃ ns : Nat, sl = (ns : Int) := ⟨sl.toNat, by omega⟩
  obtain ⟨n15, hn15⟩ : ∃ n : Nat, bits .and .i64 size 15 = (n : Int) := ⟨(bits .and .i64 size 15).toNat, by have := (and15 size).1; omega⟩
  obtain ⟨n, hn⟩ : ∃ n : Nat, (1 : Int) + (n15 : Int) = (n : Int) := ⟨1 + n15, by simp⟩
  have hn1 : 1 ≤ n := by omega
  have hn16 : n ≤ 16 := by have := (and15 size).2; omega
  obtain ⟨w6, hw6⟩ : ∃ w6, w6 = w5.alloc (.cells #[.slice none 0 0, .slice none 0 0] 58) := ⟨_, rfl⟩
  obtain ⟨O, hO⟩ : ∃ O, O = w5.heap.size := ⟨_, rfl⟩
  have hb6 : Below w5.heap.size w5 w6 := by rw [hw6]; exact below_box _
  have OB : Blk w6 O 58 [.slice none 0 0, .slice none 0 0] := by rw [hw6]; exact blk_new hO
  have HJO : Hid (JO w w6 w.heap.size O [.slice a rn cap, .int .i64 fo, .bool ea, .int .i64 (ns : Int)] [.slice none 0 0, .slice none 0 0] [[], []]) := by
    refine ⟨below_trans HB5 hb6, JB5.out.blw hb6, ⟨OB, rfl, fun k v r hv hr => ?_, fun i j vi vj _ hvi _ g hg => ?_⟩, Nat.le_refl _, by rw [hO]; exact HB5.size⟩
    · have e1 : v = .slice none 0 0 := (List.mem_replicate.1 (show v ∈ List.replicate 2 (Value.slice none 0 0) from List.mem_of_getElem? hv)).2
      have e2 : r = (0, []) := (List.mem_replicate.1 (show r ∈ List.replicate 2 (0, []) from List.mem_of_getElem? hr)).2
      subst e1 e2
      exact World.ownsRow_nil _ _ _ _
    · have e1 : vi = .slice none 0 0 := (List.mem_replicate.1 (show vi ∈ List.replicate 2 (Value.slice none 0 0) from List.mem_of_getElem? hvi)).2
      subst e1
      cases hg
  have HW6 := Lib.hid hw6
  have HOO := Lib.hid hO
  have HN15 := Lib.hid hn15
  have HN := Lib.hid hn
  have HLT : Hid (fo = fo) := rfl
  obtain ⟨PT, hPT⟩ : ∃ PT, PT = plainT ⟨l, fo, false, (ns : Int)⟩ ns lines := ⟨_, rfl⟩
  have HPT := Lib.hid hPT
  clear hvv h0 HF hr4 hk1 hk4 hs1 hs4 JB5 hw6 hO hb6 OB hn15 hn hPT HB5
  go_upto_region 8 with fail
  rw [← HW6.out, ← HOO.out]
  have hwn : wrap64 (1 + bits .and .i64 size 15) = (n : Int) := by
    rw [HN15.out, HN.out]
    show wrap64 (n : Int) = n
    unfold wrap64
    omega
  rw [hwn]
  have HB6 : Hid (Below w.heap.size w w6) := HJO.out.org
  clear hwn HW6 HOO HN15 HN HLT
  go_wp2_with fail
  go_loopg [11] 2 (fun gg iv wr => ∃ (k : Nat) (eb : Bool) (S : List Value) (T : List (List ByteArray)), gg = 2 - k ∧ k ≤ 2 ∧ iv = .int .i64 k ∧ Hid (JO w wr w.heap.size O [.slice a rn cap, .int .i64 fo, .bool eb, .int .i64 (ns : Int)] S T) ∧ Hid (T = (List.range 2).map fun q => if q < k then PT else []))
  case atStart => exact ⟨0, ea, _, _, rfl, by omega, rfl, HJO, (show _ = _ from rfl)⟩
  case round =>
    clear HJO HB6
    obtain ⟨k, eb, S, T, hgk, hk, rfl, HJ, HTT⟩ := hrel
    have HGK := Lib.hid hgk
    clear hgk
    by_cases hlt : k < 2
    · obtain ⟨kb, hkb⟩ : ∃ kb, ((k : Int) == 1) = kb := ⟨_, rfl⟩
      have HKB := Lib.hid hkb
      have HJK : Hid (jobFault ⟨l, fo, kb, (ns : Int)⟩ = 0) := HJF.out kb
      have htk : T[k]? = some [] := by
        rw [HTT.out, List.getElem?_map, List.getElem?_range hlt, Option.map_some, if_neg (Nat.lt_irrefl _)]
      have HTK := Lib.hid htk
      have HTS : Hid (T.set k PT = (List.range 2).map fun q => if q < k + 1 then PT else []) := by
        show _ = _
        rw [HTT.out]
        apply List.ext_getElem?
        intro q
        rw [List.getElem?_set, List.length_map, List.length_range, List.getElem?_map, List.getElem?_map]
        by_cases e : k = q
        · subst e
          rw [if_pos rfl, if_pos hlt, List.getElem?_range hlt, Option.map_some, if_pos (Nat.lt_succ_self _)]
        · rw [if_neg e]
          by_cases hq : q < 2
          · rw [List.getElem?_range hq, Option.map_some, Option.map_some]
            congr 1
            by_cases h1 : q < k
            · rw [if_pos h1, if_pos (by omega)]
            · rw [if_neg h1, if_neg (by omega)]
          · rw [List.getElem?_eq_none (by simp; omega)]; rfl
      have HLT := Lib.hid hlt
      clear hkb htk
      go_upto_block 1 with fail
      refine wp_norm (early_b1 HSD.out w w.heap.size O n ns ln lc rn cap k fo eb kb l a la lines S T _ _ _ _ _ _ _ _ _ _ _ _ _ _ _ _ _ _ _ _ _ _ _ _ _ _ _ _ _ _ _ _ _ _ _ _ _ _ _ _ _ _ _ _ _ _ _ _ _ _ _ _ _ _ _ _ _ _ _ _ _ _ _ _ _ _ _ _ _ _ _ _ _ _ _ _ _ _ _ _ _ _ _ _ _ _ _ _ _ _ _ _ _ _ _ _ _ _ _ _ _ _ _ _ _ _ _ _ _ _ _ _ _ _ _ _ _ _ _ _ _ _ _ _ _ _ _ _ _ _ _ _ _ _ _ _ _ _ _ _ _ _ _ _ HE HT H HV HLN HJK HLO h60 HLC.out hn1 hn16 HLT.out HKB.out HJ.out HTK.out ?_)
      refine Lib.hid ?_
      intro z6 z12 z13 z14 z15 z16 z17 z18 z19 z20 z56 z57 z58 z59 z60 z61 z62 z63 z64 z65 z66 z67 z68 z69 z70 z71 z72 z73 z74 z75 z76 z77 z78 z79 z80 z81 z82 z83 z84 z85 z86 z87 z88 z89 z90 z91 z92 z93 z94 z95 z96 z97 z98 z99 z100 z101 z102 z103 z104 z105 z106 z107 z108 z109 z110 z111 z112 z113 z114 z115 z116 z117 z118 z119 z120 z121 z122 z123 z124 z125 z126 z127 z128 z129 z130 z131 z132 z133 z134 z135 z136 z137 z138 z139 z140 z141 S' wx hJx
      have HJX := Lib.hid hJx
      clear hJx HJ
      go_wp2
      go_roundg (2 - (k + 1))
      case measure => have := HGK.out; have := HLT.out; omega
      case rel => exact ⟨k + 1, kb, S', _, rfl, HLT.out, by go_num, HJX, (by show _ = _; rw [← HTS.out, HPT.out]; rfl)⟩
    · have e : k = 2 := by omega
      subst e
      have HT2 : Hid (T = [PT, PT]) := by show _ = _; rw [HTT.out]; rfl
      obtain ⟨s0, hs0⟩ : ∃ v, S[0]? = some v := ⟨S[0]'(by rw [HJ.out.outs.len, HT2.out]; simp [textsOf]), by simp⟩
      obtain ⟨s1, hs1⟩ : ∃ v, S[1]? = some v := ⟨S[1]'(by rw [HJ.out.outs.len, HT2.out]; simp [textsOf]), by simp⟩
      have r0 := HJ.out.outs.each 0 s0 (PT.length, PT.map Value.string) hs0 (by rw [HT2.out]; rfl)
      have r1 := HJ.out.outs.each 1 s1 (PT.length, PT.map Value.string) hs1 (by rw [HT2.out]; rfl)
      have x0 := isTexts_oneS r0
      have x1 := isTexts_oneS r1
      have c0 := HJ.out.outs.lst.at hs0
      have c1 := HJ.out.outs.lst.at hs1
      have hpl : PT.length ≤ maxLen := by rw [HPT.out]; unfold plainT; rw [List.length_map, List.length_range]; have := (jobFault_parts (HJF.out false)).2.2.2.2.2.1; simp only at this; unfold maxLen; omega
      have ST : Hid (Calls Tryd.prog 24 #[s0, s1] wr fun e w' => e = .returned (.bool true) ∧ Below wr.heap.size wr w') := by
        refine (sameTexts_any s0 s1 PT PT wr x0 x1 hpl).mono ?_
        rintro e w' ⟨rfl, n, rfl⟩
        exact ⟨by rw [decide_eq_true rfl], below_drewN _ _⟩
      obtain ⟨a0, b0, rfl, -⟩ := x0
      obtain ⟨a1, b1, rfl, -⟩ := x1
      have HORG : Hid (Below w.heap.size w wr) := HJ.out.org
      clear r0 r1 hs0 hs1 HJ HTT HT2 hlt
      go_wp2_with (go_at_call 24; refine Hid.out ?_)
      refine Lib.hid ?_
      refine ST.out.mono ?_
      rintro _ w9 ⟨rfl, hb9⟩
      have hbw := HORG.out.trans (hb9.mono HORG.out.size)
      clear c0 c1 ST
      go_wp2
      go_ret
      exact ⟨rfl, hbw⟩
end Go.Proofs.YtgkpnjnollfdaaaDoor
/- Mapper: Step. -/
namespace Go.Proofs.YtgkpnjnollfdaaaDoor
open Go.ChangeShapes Go.WideShapes Go.ChangeAt Go.RowKit
theorem IsMR.bump {w : World} {R : Nat} {j : Jb} {rv lv mv : Value} {lines : List (List UInt8)} {done d : Nat} {M : List (ByteArray × Int)} (h : IsMR w R j rv lv lines done mv M) : IsMR (w.setCell ⟨R, 5, none⟩ (.int .i64 d)) R j rv lv lines d mv M := by
  have b : Below R w (w.setCell ⟨R, 5, none⟩ (.int .i64 d)) := (Below.refl R w).setCell (p := ⟨R, 5, none⟩) (Nat.le_refl _) _
  exact ⟨h.blk.set 5 _, fun w' h' => h.rules w' (b.trans h'), fun w' h' => h.lines w' (b.trans h'), row_stay h.row (Nat.lt_succ_self _)⟩
set_option maxRecDepth 100000 in
set_option maxHeartbeats 2000000 in
theorem mstep_any (R done : Nat) (n : Int) (j : Jb) (rv lv mv : Value) (lines : List (List UInt8)) (w : World)
    (hr : IsMR w R j rv lv lines done mv (madeOf j (lines.take done))) (hi : MRin w R j lines) (ha : done ≤ lines.length) (hn0 : -9223372036854775808 ≤ n) (hn1 : n ≤ 9223372036854775807) :
    Calls Tryd.prog 19 #[.pointer (some ⟨R, 0, none⟩), .int .i64 n] w fun e w' => ∃ (d' : Nat) (mv' : Value), d' = done + min n.toNat (lines.length - done) ∧ e = .returned (.bool (decide (d' = lines.length))) ∧ IsMR w' R j rv lv lines d' mv' (madeOf j (lines.take d')) ∧ FrM w w' R mv.ownBlock ∧ (mv'.ownBlock = mv.ownBlock ∨ ∀ b, mv'.ownBlock = some b → w.heap.size ≤ b) := by
  obtain ⟨ra, rc, rfl⟩ := (hr.rules w (Below.refl _ _)).slice
  obtain ⟨la, lc, rfl, -⟩ := hr.lines w (Below.refl _ _)
  obtain ⟨l, fo, ea, sl⟩ := j
  simp only at hr hi ⊢
  have hR := hr.blk.lt
  have HROWLT := Lib.hid hr.row.lt
  obtain ⟨ln, hln⟩ : ∃ ln, ln = (lines.map bs).length := ⟨_, rfl⟩
  obtain ⟨rn, hrn⟩ : ∃ rn, rn = l.length := ⟨_, rfl⟩
  have hln2 : ln = lines.length := by rw [hln, List.length_map]
  rw [← hln, ← hrn] at hr
  rw [← hln, ← hrn]
  rw [← hln2] at ha ⊢
  have hl60 : ln ≤ 60 := by rw [hln2]; exact hi.many
  have c0 := hr.blk.at (i := 0) (v := .slice ra rn rc) rfl
  have c1 := hr.blk.at (i := 1) (v := .int .i64 fo) rfl
  have c2 := hr.blk.at (i := 2) (v := .bool ea) rfl
  have c3 := hr.blk.at (i := 3) (v := .int .i64 sl) rfl
  have c4 := hr.blk.at (i := 4) (v := .slice la ln lc) rfl
  have c5 := hr.blk.at (i := 5) (v := .int .i64 done) rfl
  have c6 := hr.blk.at (i := 6) (v := mv) rfl
  obtain ⟨d, hd⟩ : ∃ d : Nat, (ln : Int) - (done : Int) = (d : Int) := ⟨ln - done, by omega⟩
  have HD : Hid (d = ln - done) := by show _ = _; omega
  have hd1 : d ≤ 60 := by omega
  have HR := Lib.hid hr
  have HI := Lib.hid hi
  have HLN := Lib.hid hln2
  have HRN := Lib.hid hrn
  clear hr hi hln hln2 hrn
  obtain ⟨c, hc⟩ : ∃ c : Int, c = min n (d : Int) := ⟨_, rfl⟩
  obtain ⟨ct, hct⟩ : ∃ ct : Nat, ct = c.toNat := ⟨_, rfl⟩
  have HCT : Hid (ct = min n.toNat (ln - done)) := by show _ = _; rw [hct, hc, ← HD.out]; omega
  have hcs : c ≤ 60 := by omega
  have HCC := Lib.hid hct
  have HC := Lib.hid hc
  have hctd : done + ct ≤ ln := by rw [HCT.out]; omega
  clear hct hc
  go_enter Tryd.func19, Tryd.ntmps19
  go_wp2
  go_region
  rw [← HC.out]
  have HR1 := Lib.hid (HR.out.blw (Pp.blw_drew (Below.refl _ w)))
  have HF1 : Hid (FrM w w.drew R mv.ownBlock) := FrM.of_blw (Pp.blw_drew (Below.refl _ w)) _ _
  generalize w.drew = w1 at *
  clear c0 c1 c2 c3 c4 c5 c6 HR
  go_wp2
  go_loopg [17] ct (fun gg iv wr => ∃ (k dk : Nat) (mv' : Value), gg = ct - k ∧ k ≤ ct ∧ iv = .int .i64 k ∧ Hid (dk = done + k) ∧ Hid (IsMR wr R ⟨l, fo, ea, sl⟩ (.slice ra rn rc) (.slice la ln lc) lines dk mv' (madeOf ⟨l, fo, ea, sl⟩ (lines.take dk))) ∧ Hid (FrM w wr R mv.ownBlock) ∧ Hid (mv'.ownBlock = mv.ownBlock ∨ ∀ b, mv'.ownBlock = some b → w.heap.size ≤ b))
  case atStart => exact ⟨0, done, mv, rfl, Nat.zero_le _, rfl, (show done = done + 0 from rfl), HR1, HF1, .inl rfl⟩
  case round =>
    clear HR1 HF1
    obtain ⟨k, dk, mv', hgk, hkc, rfl, HDK, HR, HF, HB⟩ := hrel
    have HGK := Lib.hid hgk
    clear hgk
    have hdl : dk ≤ ln := by have := HDK.out; omega
    have BEL : Hid (Below R w wr) := HF.out.below (Nat.le_of_lt hR) (Nat.le_refl _) (fun b hb => by have := (HROWLT.out b hb).1; omega)
    by_cases hlt : k < ct
    · have hltc : (k : Int) < c := by have := HCC.out; omega
      have hdkl : dk < ln := by have := HDK.out; omega
      obtain ⟨x, hx⟩ : ∃ x, lines[dk]? = some x := ⟨lines[dk]'(by have := HLN.out; omega), by simp⟩
      obtain ⟨lb, loff, rfl, k0⟩ : ∃ lb loff, la = some ⟨lb, loff, none⟩ ∧ wr.cell? ⟨lb, loff + dk, none⟩ = some (.string (bs x)) := by
        have h := HR.out.lines wr (Below.refl _ _)
        rw [HLN.out] at h
        exact texts_get h dk x hx
      have hxl := HI.out.long x (List.mem_of_getElem? hx)
      have hxl2 : x.length ≤ 100000 := by omega
      have PR : Hid (Calls Tryd.prog 14 #[.agg #[.slice ra rn rc, .int .i64 fo, .bool ea, .int .i64 sl], .string (bs x)] wr.drew fun e w' => ∃ u, e = .returned u ∧ Pp.IsPairs w' u (rulesP l fo x) ∧ Below wr.drew.heap.size wr.drew w') := by
        have hbd : Below R wr wr.drew := Pp.blw_drew (Below.refl _ _)
        refine (pairs_any ⟨l, fo, ea, sl⟩ (.slice ra rn rc) x wr.drew (HR.out.rules _ hbd) HI.out.wt HI.out.fault hxl2 (HI.out.env _ (BEL.out.trans hbd))).mono ?_
        rintro e w' ⟨u, rfl, h1, h2⟩
        exact ⟨u, rfl, Pp.owns_isPairs h1, h2⟩
      have HM : Hid (madeOf ⟨l, fo, ea, sl⟩ (lines.take (dk + 1)) = madeOf ⟨l, fo, ea, sl⟩ (lines.take dk) ++ rulesP l fo x) := by
        show _ = _
        rw [take_snoc hx, madeOf_append]
        simp [madeOf]
      have h4 := (jobFault_parts HI.out.fault).2.1
      simp only at h4
      have hbd : (madeOf ⟨l, fo, ea, sl⟩ (lines.take dk)).length + (rulesP l fo x).length ≤ 1000000 := by
        have h1 := madeOf_len ⟨l, fo, ea, sl⟩ (lines.take dk) h4 (fun y hy => HI.out.long y (List.mem_of_mem_take hy))
        have h2 := rulesP_len l fo x
        have h3 := Nat.mul_le_mul h4 (show x.length + 1 ≤ 1001 by omega)
        have h5 : (lines.take dk).length ≤ 60 := by rw [List.length_take]; have := HI.out.many; omega
        have h6 := Nat.mul_le_mul_right 4004 h5
        omega
      have HBD := Lib.hid hbd
      have K0 := Lib.hid k0
      generalize rulesP l fo x = X at *
      generalize madeOf ⟨l, fo, ea, sl⟩ (lines.take dk) = M at *
      generalize bs x = ls at *
      clear hx hxl hxl2 k0 hbd
      have hdkl2 : dk + 1 ≤ 1000 := by omega
      go_upto_region 3 with fail
      refine wp_nrm (s3_any R rn rc ln lc lb loff dk ra fo ea sl l mv' lines M X ls wr _ _ _ _ _ _ _ _ _ _ _ _ _ _ _ _ _ _ _ _ _ _ _ _ _ _ _ _ _ _ _ _ _ _ _ _ _ _ _ _ _ _ _ _ _ _ _ _ _ _ _ _ _ _ _ _ _ _ _ _ HR.out hdkl (by omega) HBD.out K0.out PR ?_)
      refine Lib.hid ?_
      intro z19 z20 z21 z22 z23 z24 z25 z26 z27 z28 z29 z30 z31 z32 z33 z34 z35 z36 z37 z38 z39 z40 z41 v2 w11 hr11 hfr
      obtain ⟨hF11, ho11⟩ := hfr w _ HF.out HB.out
      rw [← HM.out] at hr11
      have e5 := hr11.blk.at (i := 5) (v := .int .i64 dk) rfl
      have f5 := hr11.blk.frozen 5
      obtain ⟨w12, hw12⟩ : ∃ w12, w12 = w11.setCell ⟨R, 5, none⟩ (.int .i64 ((dk + 1 : Nat) : Int)) := ⟨_, rfl⟩
      have HR12 : Hid (IsMR w12 R ⟨l, fo, ea, sl⟩ (.slice ra rn rc) (.slice (some ⟨lb, loff, none⟩) ln lc) lines (dk + 1) v2 (madeOf ⟨l, fo, ea, sl⟩ (lines.take (dk + 1)))) := by
        rw [hw12]; exact hr11.bump
      have HF12 : Hid (FrM w w12 R mv.ownBlock) := by rw [hw12]; exact hF11.put 5 _
      have HO12 := Lib.hid ho11
      have HW12 : Hid (w12 = w11.setCell ⟨R, 5, none⟩ (.int .i64 ((dk : Int) + 1))) := by show _ = _; rw [hw12]; rfl
      have HDK1 : Hid (dk + 1 = done + (k + 1)) := by show _ = _; have := HDK.out; omega
      clear hr11 hfr hF11 ho11 HR HF HB K0 PR hw12
      simp only [Exit.then]
      go_upto_region 5 with fail
      rw [← HW12.out]
      clear HW12 e5 f5
      go_wp2
      go_roundg (ct - (k + 1))
      case measure => have := HGK.out; omega
      case rel => exact ⟨k + 1, dk + 1, v2, rfl, by omega, by go_num, HDK1, HR12, HF12, HO12⟩
    · have hge : ¬ (k : Int) < c := by have := HCC.out; omega
      have ekc : k = ct := by omega
      have HFIN : Hid (dk = done + min n.toNat (ln - done)) := by
        show _ = _
        rw [HDK.out, ekc, HCT.out]
      have hde : ((dk : Int) == (ln : Int)) = decide (dk = ln) := by
        by_cases h : dk = ln
        · simp [h]
        · rw [decide_eq_false h, beq_eq_false_iff_ne]; omega
      have HDE := Lib.hid hde
      have c4 := HR.out.blk.at (i := 4) (v := .slice la ln lc) rfl
      have c5 := HR.out.blk.at (i := 5) (v := .int .i64 dk) rfl
      clear ekc hde
      go_wp2
      go_region
      rw [HDE.out]
      have HR2 := Lib.hid (HR.out.blw (Pp.blw_drew (Below.refl _ wr)))
      have HF2 := Lib.hid (HF.out.blw (Pp.blw_drew (Below.refl _ wr)))
      generalize wr.drew = w12 at *
      clear c4 c5 HR HF
      go_wp2
      go_ret
      exact ⟨dk, mv', HFIN.out, rfl, HR2.out, HF2.out, HB.out⟩
theorem stepDoes : StepDoes := fun R done n j rv lv mv lines w h1 h2 h3 h4 h5 => mstep_any R done n j rv lv mv lines w h1 h2 h3 h4 h5
end Go.Proofs.YtgkpnjnollfdaaaDoor
