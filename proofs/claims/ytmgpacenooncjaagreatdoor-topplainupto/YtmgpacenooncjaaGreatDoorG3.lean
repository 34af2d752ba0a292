/- Put together of LtT, M5, X0, PpFirst, PpParse, PpText, PpBuild, PpBack, PpFoldR, PpGrpd, PpBlk, PpD0, PpD1, PpD2, PpD3, PpPcs. -/
import Derived.Test.YtmgpacenooncjaaGreatDoorTxt
import Derived.Test.YtmgpacenooncjaaGreatDoorG2
import Derived.Lib.QuietBelow
import Derived.Test.YtmgpacenooncjaaGreatDoorPpFoldT
import Derived.Test.YtmgpacenooncjaaGreatDoorPpGrps
import Derived.Test.YtmgpacenooncjaaGreatDoorRows
import Derived.WalkKit
import Derived.ProofKit
import Derived.WalkLawsBesides
import Derived.Lib.Hide
import Derived.Deep.AppendLies
import Derived.OwnWalk
import Derived.Test.YtmgpacenooncjaaGreatDoorPpGrp
import Derived.Deep.LoopGhost
import Derived.Deep.DeepCutAuto
import Derived.Deep.CutBlock
/- Contract of LightTexts. -/
namespace Go.Proofs.YtmgpacenooncjaaGreatDoor
open Go.ChangeShapes Go.WideShapes Go.ChangeAt Go.RowKit
def lightT (l : List ByteArray) (most : Int) : Bool := l.all fun t => decide ((t.size : Int) ≤ most)
theorem lightT_step (l : List ByteArray) (most : Int) (k : Nat) (h : k < l.length) : lightT (l.take (k + 1)) most = (lightT (l.take k) most && decide ((l[k].size : Int) ≤ most)) := by
  unfold lightT
  rw [List.take_succ_eq_append_getElem h, List.all_append]
  simp
theorem lightT_out (l : List ByteArray) (most : Int) (k : Nat) (h : k < l.length) (h6 : most < (l[k].size : Int)) : lightT l most = false := by
  unfold lightT
  rw [List.all_eq_false]
  exact ⟨l[k], List.getElem_mem h, by simp; omega⟩
set_option maxRecDepth 100000 in
set_option maxHeartbeats 400000 in
theorem lightTexts_any (v : Value) (l : List ByteArray) (many most : Int) (w : World) (h : IsTexts w v l) (hl : l.length ≤ maxLen) :
    Calls Tryz.prog 8 #[v, .int .i64 many, .int .i64 most] w fun e w' => e = .returned (.bool (decide ((l.length : Int) ≤ many) && lightT l most)) ∧ w' = w := by
  unfold maxLen at hl
  obtain ⟨a, cap, rfl, hc⟩ := h
  by_cases hm : (l.length : Int) ≤ many
  · go_enter Tryz.func8, Tryz.ntmps8
    go_wp2
    go_loop [7] (fun i => ∃ k : Nat, k ≤ l.length ∧ i = .int .i64 k ∧ lightT (l.take k) most = true) (fun i => l.length - (intOf i).toNat)
    case atStart => exact ⟨0, Nat.zero_le _, rfl, rfl⟩
    case round =>
      obtain ⟨k, hk, rfl, hp⟩ := hrel
      have HP := Lib.hid hp
      clear hp
      by_cases hlt : k < l.length
      · obtain ⟨b, off, rfl, c0⟩ := hc k hlt
        clear hc
        by_cases h6 : (l[k].size : Int) ≤ most
        · go_wp2
          go_round
          case rel => exact ⟨k + 1, by omega, by go_num, by rw [lightT_step l most k hlt, HP.out]; simpa using h6⟩
          case measure => simp [intOf]; omega
        · go_wp2
          go_ret
          exact ⟨ret_bool (by simp [lightT_out l most k hlt (by omega)]), rfl⟩
      · clear hc
        go_wp2
        go_ret
        have hp := HP.out
        rw [List.take_of_length_le (by omega)] at hp
        exact ⟨ret_bool (by simp [hp]), rfl⟩
  · go_enter Tryz.func8, Tryz.ntmps8
    go_wp2
    go_ret
    exact ⟨ret_bool (by rw [show decide ((l.length : Int) ≤ many) = false from decide_eq_false (by omega), Bool.false_and]), rfl⟩
end Go.Proofs.YtmgpacenooncjaaGreatDoor
/- Mapper: the closed fact ready; the walk of TopRules. -/
namespace Go.Proofs.YtmgpacenooncjaaGreatDoor
open Go.ChangeShapes Go.WideShapes Go.ChangeAt Go.RowKit
def litRl : Rl := ⟨false, 0, .mk 0 0 [] [], [], .mk 2 0 [] [], .mk 9 0 [] []⟩
def litJb : Jb := ⟨[litRl], 1, false, 1⟩
theorem nilEx (w : World) (k : Int) : IsEx w (.slice none 0 0) (.mk k 0 [] []) :=
  IsEx.mk k 0 [] none 0 [] 0 0 (fun _ => undef) (fun h => by simp at h) (fun i x hx => by simp at hx) (fun i x hx => by simp at hx)
theorem litJb_fault : jobFault litJb = 0 := by decide +kernel
theorem litJb_pairs : rulesP litJb.rules litJb.fold [97, 32, 98] = [(⟨#[97, 32, 98]⟩, 2)] := by decide +kernel
theorem litJb_wt : rulesWt litJb.rules ≤ 1000000000 := by decide +kernel
theorem isRules_sub {w : World} {b off n cap i : Nat} {l : List Rl} {r : Rl} (h : IsRules w (.slice (some ⟨b, off, none⟩) n cap) l) (hr : l[i]? = some r) (cap' : Nat) : IsRules w (.slice (some ⟨b, off + i * 15, none⟩) 1 cap') [r] := by
  obtain ⟨a, cap0, b0, off0, AI, AK, AV, e, ha, hc⟩ := h
  have hi := (List.getElem?_eq_some_iff.1 hr).1
  have ha' := ha (by omega)
  injection e with e1 e2 e3
  rw [ha'] at e1
  injection e1 with e1
  injection e1 with e1 e4
  subst e1 e4
  refine ⟨_, cap', b, off + i * 15, fun k => AI (i + k), fun k => AK (i + k), fun k => AV (i + k), rfl, fun _ => rfl, fun k x hx => ?_⟩
  have hk : k = 0 ∧ r = x := by
    cases k with
    | zero => simpa using hx
    | succ k => simp at hx
  obtain ⟨rfl, rfl⟩ := hk
  have := hc i r hr
  simpa using this
set_option maxRecDepth 100000 in
set_option maxHeartbeats 1000000 in
theorem ready_any (w : World) (E : EnvS w) : Calls Tryz.prog 31 #[] w fun e w' => e = .returned (.bool true) ∧ Below w.heap.size w w' := by
  obtain ⟨w1, hw1⟩ : ∃ w1, w1 = w.alloc (.cells #[.bool false, .int .i64 0, .int .i64 0, .int .i64 0, .string ⟨#[]⟩, .slice none 0 0, .string ⟨#[]⟩, .int .i64 2, .int .i64 0, .string ⟨#[]⟩, .slice none 0 0, .int .i64 9, .int .i64 0, .string ⟨#[]⟩, .slice none 0 0] 58) := ⟨_, rfl⟩
  have hB : Blk w1 w.heap.size 58 [.bool false, .int .i64 0, .int .i64 0, .int .i64 0, .string ⟨#[]⟩, .slice none 0 0, .string ⟨#[]⟩, .int .i64 2, .int .i64 0, .string ⟨#[]⟩, .slice none 0 0, .int .i64 9, .int .i64 0, .string ⟨#[]⟩, .slice none 0 0] := by rw [hw1]; exact blk_new rfl
  obtain ⟨w2, hw2⟩ : ∃ w2, w2 = w1.alloc (.cells #[.slice (some ⟨w.heap.size, 0, none⟩) 1 1, .int .i64 1, .bool false, .int .i64 1] 24) := ⟨_, rfl⟩
  have hs1 : w1.heap.size = w.heap.size + 1 := by rw [hw1]; simp
  have hb1 : Below w.heap.size w w1 := by rw [hw1]; exact below_box _
  have hb12 : Below w1.heap.size w1 w2 := by rw [hw2]; exact below_box _
  have hb2 := below_trans hb1 hb12
  have hR : IsRules w2 (.slice (some ⟨w.heap.size, 0, none⟩) 1 1) litJb.rules := by
    have hB2 := hB.blw hb12
    refine ⟨_, 1, w.heap.size, 0, fun _ => .slice none 0 0, fun _ => .slice none 0 0, fun _ => .slice none 0 0, rfl, fun _ => rfl, fun i x hx => ?_⟩
    have hk : i = 0 ∧ litRl = x := by
      cases i with
      | zero => simpa [litJb] using hx
      | succ i => simp [litJb] at hx
    obtain ⟨rfl, rfl⟩ := hk
    refine ⟨⟨hB2.at rfl, hB2.at rfl, hB2.at rfl, hB2.at rfl, hB2.at rfl, hB2.at rfl, hB2.at rfl, hB2.at rfl, hB2.at rfl, hB2.at rfl, hB2.at rfl, hB2.at rfl, hB2.at rfl, hB2.at rfl, hB2.at rfl⟩, nilEx _ _, nilEx _ _, nilEx _ _⟩
  have JB2 : Blk w2 (w.heap.size + 1) 24 [.slice (some ⟨w.heap.size, 0, none⟩) 1 1, .int .i64 1, .bool false, .int .i64 1] := by rw [hw2]; exact blk_new hs1.symm
  have P := Lib.hid (pairs_any litJb _ [97, 32, 98] w2 hR litJb_wt litJb_fault (by decide) (E.lower hb2))
  rw [litJb_pairs] at P
  have k0 := JB2.at (i := 0) (v := .slice (some ⟨w.heap.size, 0, none⟩) 1 1) rfl
  have k1 := JB2.at (i := 1) (v := .int .i64 1) rfl
  have k2 := JB2.at (i := 2) (v := .bool false) rfl
  have k3 := JB2.at (i := 3) (v := .int .i64 1) rfl
  rw [hw1] at hw2
  have HW2 := Lib.hid hw2
  have HB2 := Lib.hid hb2
  clear hw1 hw2 hB hs1 hb1 hb12 hb2 hR JB2 E
  go_enter Tryz.func31, Tryz.ntmps31
  go_upto_region 2 with fail
  rw [← HW2.out]
  clear HW2
  go_wp2_with (go_at_call 18; refine Hid.out ?_)
  refine Lib.hid ?_
  refine P.out.mono ?_
  clear P
  rintro _ w3 ⟨u, rfl, hrow, hb3⟩
  have hP := Pp.owns_isPairs hrow
  have SP := Lib.hid (Pp.samePairs_any u (.slice (some ⟨w3.heap.size, 0, none⟩) 1 1) [(⟨#[97, 32, 98]⟩, 2)] [(⟨#[97, 32, 98]⟩, 2)] (w3.alloc (.cells #[.string ⟨#[97, 32, 98]⟩, .int .i64 2] 67)) (Pp.isPairs_below hP (below_box _)) (Pp.isPairs_one _ _ _ _ rfl) (by decide))
  rw [decide_eq_true rfl] at SP
  have hb := below_trans HB2.out hb3
  obtain ⟨ua, uc, rfl, -⟩ := hP
  clear hrow hb3
  dsimp only
  go_wp2_with (go_at_call 17; refine Hid.out ?_)
  refine Lib.hid ?_
  refine SP.out.mono ?_
  rintro _ w4 ⟨rfl, nd, hd⟩
  have hb4 : Below w.heap.size w w4 := by rw [hd]; exact below_trans (below_trans hb (below_box _)) (below_drewN _ _)
  clear hd SP
  go_wp2
  go_ret
  exact ⟨rfl, hb4⟩
end Go.Proofs.YtmgpacenooncjaaGreatDoor
/- Mapper: plain facts of jobs that may be, of what they make, of slices. -/
namespace Go.Proofs.YtmgpacenooncjaaGreatDoor
open Go.ChangeShapes Go.WideShapes Go.ChangeAt Go.RowKit
theorem rule_small {x : Rl} (hx : ruleFault x = 0) : x.wt ≤ 2000 := by
  have h := rlIn_of hx
  have h1 := fault_wt h.key
  have h2 := fault_wt h.val
  have h0 : whenFault x = 0 := by
    unfold ruleFault at hx
    by_cases h3 : whenFault x ≠ 0
    · rw [if_pos h3] at hx; exact absurd hx h3
    · exact Decidable.not_not.1 h3
  have h3 : x.iff.wt ≤ 630 ∧ x.s.length ≤ 20 := by
    rcases h.when with h4 | ⟨h4, h5⟩
    · unfold whenFault at h0
      rw [if_pos h4] at h0
      have h6 : (x.iff.zero && x.s.isEmpty) = true := by
        cases h7 : (x.iff.zero && x.s.isEmpty) with
        | true => rfl
        | false => rw [h7] at h0; simp at h0
      simp only [Bool.and_eq_true, Ex.zero, decide_eq_true_eq, List.isEmpty_iff] at h6
      refine ⟨?_, by rw [h6.2]; simp⟩
      cases he : x.iff with
      | mk k n s a =>
        rw [he] at h6
        simp only [Ex.s, Ex.a] at h6
        rw [h6.1.1.2, List.eq_nil_of_length_eq_zero h6.1.2]
        simp [Ex.wt, Ex.wt.wtL]
    · refine ⟨fault_wt h5, ?_⟩
      unfold whenFault at h0
      rw [if_neg (by omega), if_pos h4] at h0
      by_cases h6 : fitsB x.s 20 = true
      · unfold fitsB at h6
        simp only [Bool.and_eq_true, decide_eq_true_eq] at h6
        exact h6.1
      · rw [if_neg h6] at h0; omega
  unfold Rl.wt
  omega
theorem job_small {j : Jb} (h : jobFault j = 0) : rulesWt j.rules ≤ 8000 := by
  obtain ⟨_, h4, _, _, _, _, hf⟩ := jobFault_parts h
  have hall := rulesFault_all hf
  have gen : ∀ l : List Rl, (∀ x ∈ l, ruleFault x = 0) → rulesWt l ≤ l.length * 2000 := by
    intro l
    induction l with
    | nil => intro _; simp [rulesWt]
    | cons x l ih =>
      intro hl
      have h1 := rule_small (hl x (by simp))
      have h2 := ih fun y hy => hl y (by simp [hy])
      unfold rulesWt at h2 ⊢
      simp only [List.map_cons, List.sum_cons, List.length_cons]
      omega
  have := gen j.rules hall
  omega
theorem made_key {j : Jb} {lines : List (List UInt8)} {p : ByteArray × Int} (h : p ∈ madeOf j lines) : p.1.size ≤ 20 := by
  unfold madeOf rulesP ruleP at h
  simp only [List.mem_flatMap, List.mem_map] at h
  obtain ⟨_, _, r, _, x, _, rfl⟩ := h
  unfold pairL
  simp only [bs_size, List.length_take]
  omega
theorem sum_slices (ns : Nat) (h1 : 1 ≤ ns) (Z : List (ByteArray × Int)) : ((List.range ns).map fun k => (inSlice ns k Z).length).sum = Z.length := by
  have one : ∀ (m i : Nat), i < m → ((List.range m).map fun k => if i = k then 1 else 0).sum = 1 := by
    intro m
    induction m with
    | zero => intro i hi; omega
    | succ m ih =>
      intro i hi
      rw [List.range_succ, List.map_append, List.sum_append]
      by_cases e : i = m
      · subst e
        have z : ∀ q, q ≤ i → ((List.range q).map fun k => if i = k then 1 else 0).sum = 0 := by
          intro q
          induction q with
          | zero => intro _; rfl
          | succ q ihq =>
            intro hq
            rw [List.range_succ, List.map_append, List.sum_append, ihq (by omega)]
            simp; omega
        rw [z i (Nat.le_refl _)]
        simp
      · rw [ih i (by omega)]
        simp [e]
  have add : ∀ (m : Nat) (f g : Nat → Nat), ((List.range m).map fun k => f k + g k).sum = ((List.range m).map f).sum + ((List.range m).map g).sum := by
    intro m f g
    induction m with
    | zero => rfl
    | succ m ih => simp only [List.range_succ, List.map_append, List.sum_append, ih, List.map_cons, List.map_nil, List.sum_cons, List.sum_nil]; omega
  induction Z with
  | nil =>
    have : (fun k => (inSlice (ns : Int) k ([] : List (ByteArray × Int))).length) = fun _ => 0 := by funext k; rfl
    rw [this]
    have z : ∀ m, ((List.range m).map fun _ => 0).sum = 0 := by intro m; induction m with
      | zero => rfl
      | succ m ih => simp [List.range_succ, ih]
    rw [z]; rfl
  | cons p Z ih =>
    have hs := (sliceN_lt (many := (ns : Int)) (by omega) (Pp.Stable.key p)).2
    have e : (fun k => (inSlice (ns : Int) k (p :: Z)).length) = fun k => (if sliceN ns (Pp.Stable.key p) = k then 1 else 0) + (inSlice (ns : Int) k Z).length := by
      funext k
      unfold inSlice
      by_cases h : sliceN ns (Pp.Stable.key p) = k
      · rw [List.filter_cons_of_pos (by simp [h]), if_pos h, List.length_cons]; omega
      · rw [List.filter_cons_of_neg (by simp [h]), if_neg h]; omega
    rw [e, add, ih, one ns _ (by simpa using hs), List.length_cons]
    omega
theorem slicesOf_at {fo : Int} {ea : Bool} {ns k : Nat} (h : k < ns) (M : List (ByteArray × Int)) : (slicesOf fo ea ns M)[k]? = some (finL ea fo (inSlice ns k (Pp.Tot.srt M))) := by
  unfold slicesOf
  rw [List.getElem?_map, List.getElem?_range h]
  rfl
theorem grp_mem_key {kind : Int} {l : List (ByteArray × Int)} {p : ByteArray × Int} (h : p ∈ Pp.Grp.grp kind l) : ∃ q ∈ l, Pp.Stable.key q = Pp.Stable.key p := by
  by_cases hq : ∃ q ∈ l, Pp.Stable.key q = Pp.Stable.key p
  · exact hq
  · have h1 := Pp.Tot.tot_none kind (Pp.Stable.key p) l (fun q hq2 e => hq ⟨q, hq2, e⟩)
    have h2 := Pp.Tot.tot_some kind h
    rw [Pp.Tot.tot_grp] at h2
    exact absurd h1 h2
/-- Each pair of a slice lies in the one of its key; the keys rise; folded, each is there once. -/
theorem slice_key {fo : Int} {ea : Bool} {ns k : Nat} {Z : List (ByteArray × Int)} {p : ByteArray × Int} (h : p ∈ finL ea fo (inSlice ns k Z)) : sliceN ns (Pp.Stable.key p) = k := by
  unfold finL at h
  split at h
  · obtain ⟨q, hq, e⟩ := grp_mem_key h
    unfold inSlice at hq
    rw [List.mem_filter] at hq
    rw [← e]
    exact of_decide_eq_true hq.2
  · unfold inSlice at h
    rw [List.mem_filter] at h
    exact of_decide_eq_true h.2
theorem slice_rises {fo : Int} {ns k : Nat} (M : List (ByteArray × Int)) : Pp.Tot.Rises (finL true fo (inSlice ns k (Pp.Tot.srt M))) := by
  unfold finL inSlice
  rw [if_pos rfl]
  exact Pp.Tot.rises_grp fo _ (Pp.Tot.Sorted.filter (Pp.Tot.srt_sorted M) _)
theorem slice_sorted {fo : Int} {ea : Bool} {ns k : Nat} (M : List (ByteArray × Int)) : Pp.Stable.Sorted (finL ea fo (inSlice ns k (Pp.Tot.srt M))) := by
  cases ea with
  | true => exact Pp.Tot.Rises.sorted (slice_rises M)
  | false => exact Pp.Tot.Sorted.filter (Pp.Tot.srt_sorted M) _
theorem fin_len {fo : Int} {ea : Bool} (l : List (ByteArray × Int)) : (finL ea fo l).length ≤ l.length ∧ (ea = false → (finL ea fo l).length = l.length) := by
  unfold finL
  cases ea with
  | true => exact ⟨Pp.Grp.grp_len fo l, fun h => by cases h⟩
  | false => exact ⟨Nat.le_refl _, fun _ => rfl⟩
/-- How many pairs are in the first so many slices. -/
def upto (fo : Int) (ea : Bool) (ns : Nat) (M : List (ByteArray × Int)) (k : Nat) : Nat := ((List.range k).map fun i => (finL ea fo (inSlice ns i (Pp.Tot.srt M))).length).sum
theorem upto_succ (fo : Int) (ea : Bool) (ns : Nat) (M : List (ByteArray × Int)) (k : Nat) : upto fo ea ns M (k + 1) = upto fo ea ns M k + (finL ea fo (inSlice ns k (Pp.Tot.srt M))).length := by
  unfold upto
  rw [List.range_succ, List.map_append, List.sum_append]
  simp
theorem upto_le (fo : Int) (ea : Bool) (ns : Nat) (h1 : 1 ≤ ns) (M : List (ByteArray × Int)) : upto fo ea ns M ns ≤ M.length ∧ (ea = false → upto fo ea ns M ns = M.length) := by
  have hs := sum_slices ns h1 (Pp.Tot.srt M)
  rw [Pp.Tot.srt_len] at hs
  have le : ∀ m, upto fo ea ns M m ≤ ((List.range m).map fun k => (inSlice (ns : Int) k (Pp.Tot.srt M)).length).sum ∧ (ea = false → upto fo ea ns M m = ((List.range m).map fun k => (inSlice (ns : Int) k (Pp.Tot.srt M)).length).sum) := by
    intro m
    induction m with
    | zero => exact ⟨Nat.le_refl _, fun _ => rfl⟩
    | succ m ih =>
      have h2 := fin_len (fo := fo) (ea := ea) (inSlice ns m (Pp.Tot.srt M))
      rw [upto_succ, List.range_succ, List.map_append, List.sum_append]
      simp only [List.map_cons, List.map_nil, List.sum_cons, List.sum_nil, Nat.add_zero]
      exact ⟨Nat.add_le_add ih.1 h2.1, fun h => by rw [ih.2 h, h2.2 h]⟩
  obtain ⟨h2, h3⟩ := le ns
  rw [hs] at h2 h3
  exact ⟨h2, h3⟩
end Go.Proofs.YtmgpacenooncjaaGreatDoor
/- Contracts of pair.cutKey and pair.first: what a text begins with. -/
namespace Go.Proofs.YtmgpacenooncjaaGreatDoor.Pp
open Go.ChangeShapes Go.WideShapes Go.ChangeAt Go.RowKit
open Num

/-- A key that is told ahead of ':', what stands behind it, and whether it is there. -/
def keyT (l : List UInt8) : List UInt8 × List UInt8 × Bool :=
  if (cutAt 58 l).2.2 then
    match numB (cutAt 58 l).1 with
    | some n => if 0 ≤ n ∧ n ≤ ((cutAt 58 l).2.1.length : Int) then ((cutAt 58 l).2.1.take n.toNat, (cutAt 58 l).2.1.drop n.toNat, true) else ([], [], false)
    | none => ([], [], false)
  else ([], [], false)
theorem cutAt_len (c : UInt8) : ∀ l : List UInt8, (cutAt c l).1.length ≤ l.length ∧ (cutAt c l).2.1.length ≤ l.length ∧ ((cutAt c l).2.2 = true → (cutAt c l).2.1.length < l.length) := by
  intro l
  induction l with
  | nil => simp [cutAt]
  | cons b r ih =>
    unfold cutAt
    split
    · simp
    · simp only [List.length_cons]
      exact ⟨by omega, by omega, fun h => by have := ih.2.2 h; omega⟩

set_option maxRecDepth 100000 in
set_option maxHeartbeats 1000000 in
theorem cutKey_any (l : List UInt8) (w : World) (E : Env w) (hl : l.length ≤ 4000000000) :
    Calls Tryz.prog 101 #[.string (bs l)] w fun e w' => e = .returned (.tuple #[.string (bs (keyT l).1), .string (bs (keyT l).2.1), .bool (keyT l).2.2]) ∧ Below w.heap.size w w' := by
  have hsz := bs_size l
  have C1 : Hid (∀ w, Env w → Calls Tryz.prog 102 #[.string (bs l), .string ⟨#[58]⟩] w fun e w' => e = .returned (.tuple #[.string (bs (cutAt 58 l).1), .string (bs (cutAt 58 l).2.1), .bool (cutAt 58 l).2.2]) ∧ Below w.heap.size w w') := by
    intro w E
    have := cut_any (bs l) 58 w E (by omega)
    rw [bs_data] at this
    exact this
  have hlen := cutAt_len 58 l
  have C2 : Hid (∀ w, Env w → Calls Tryz.prog 103 #[.string (bs (cutAt 58 l).1)] w fun e w' => e = .returned (.tuple #[.int .i64 ((numB (cutAt 58 l).1).getD 0), .bool (numB (cutAt 58 l).1).isSome]) ∧ Below w.heap.size w w') := fun w E => number_pair _ w E (by omega)
  have hemp : bs [] = ⟨#[]⟩ := rfl
  unfold keyT
  rcases hc : cutAt 58 l with ⟨a, rest, ok⟩
  rw [hc] at C1 C2 hlen
  have hrs := bs_size rest
  simp only at C1 C2 hlen ⊢
  clear hc
  cases ok with
  | false =>
    rw [if_neg (by simp)]
    cases hn : numB a with
    | none =>
      rw [hn] at C2
      simp only [Option.getD_none, Option.isSome_none] at C2
      clear hn
      go_enter Tryz.func101, Tryz.ntmps101
      go_wp2_with (first | (go_at_call 102; refine (C1.out _ E).mono ?_; rintro e w1 ⟨rfl, hb1⟩) | (go_at_call 103; refine (C2.out _ (E.below hb1)).mono ?_; rintro e w2 ⟨rfl, hb2⟩))
      go_ret3
      exact ⟨rfl, below_trans hb1 hb2⟩
    | some n =>
      rw [hn] at C2
      simp only [Option.getD_some, Option.isSome_some] at C2
      clear hn
      go_enter Tryz.func101, Tryz.ntmps101
      go_wp2_with (first | (go_at_call 102; refine (C1.out _ E).mono ?_; rintro e w1 ⟨rfl, hb1⟩) | (go_at_call 103; refine (C2.out _ (E.below hb1)).mono ?_; rintro e w2 ⟨rfl, hb2⟩))
      go_ret3
      exact ⟨rfl, below_trans hb1 hb2⟩
  | true =>
    rw [if_pos rfl]
    cases hn : numB a with
    | none =>
      rw [hn] at C2
      simp only [Option.getD_none, Option.isSome_none] at C2
      clear hn
      go_enter Tryz.func101, Tryz.ntmps101
      go_wp2_with (first | (go_at_call 102; refine (C1.out _ E).mono ?_; rintro e w1 ⟨rfl, hb1⟩) | (go_at_call 103; refine (C2.out _ (E.below hb1)).mono ?_; rintro e w2 ⟨rfl, hb2⟩))
      go_ret3
      exact ⟨rfl, below_trans hb1 hb2⟩
    | some n =>
      rw [hn] at C2
      simp only [Option.getD_some, Option.isSome_some] at C2
      clear hn
      simp only
      by_cases hr : 0 ≤ n ∧ n ≤ (rest.length : Int)
      · rw [if_pos hr]
        obtain ⟨hr0, hr1⟩ := hr
        obtain ⟨k, rfl⟩ := Int.eq_ofNat_of_zero_le hr0
        have hk : k ≤ rest.length := by omega
        have hk' : k ≤ (bs rest).size := by omega
        have hT := bs_take rest k
        have hD := bs_drop rest k
        have HT := Lib.hid hT
        have HD := Lib.hid hD
        have HR := Lib.hid hrs
        have hbig : (bs rest).size ≤ 9000000000 := by omega
        clear hT hD hrs hr0 hr1
        go_enter Tryz.func101, Tryz.ntmps101
        go_wp2_with (first | (go_at_call 102; refine (C1.out _ E).mono ?_; rintro e w1 ⟨rfl, hb1⟩) | (go_at_call 103; refine (C2.out _ (E.below hb1)).mono ?_; rintro e w2 ⟨rfl, hb2⟩))
        go_quiet (fail)
        go_wp2
        go_ret3
        refine ⟨?_, (below_trans hb1 hb2).trans ((below_drewN _ _).mono (below_trans hb1 hb2).size)⟩
        show Ending.returned (.tuple #[.string ((bs rest).extract 0 k), .string ((bs rest).extract k (bs rest).size), .bool true]) = _
        rw [HT.out, HD.out, Int.toNat_natCast]
      · rw [if_neg hr]
        go_enter Tryz.func101, Tryz.ntmps101
        go_wp2_with (first | (go_at_call 102; refine (C1.out _ E).mono ?_; rintro e w1 ⟨rfl, hb1⟩) | (go_at_call 103; refine (C2.out _ (E.below hb1)).mono ?_; rintro e w2 ⟨rfl, hb2⟩))
        all_goals go_ret3
        all_goals exact ⟨rfl, below_trans hb1 hb2⟩

/-- The pair that a text begins with, what stands behind it, and whether there is one. -/
def stepT (l : List UInt8) : (List UInt8 × Int) × List UInt8 × Bool :=
  if (keyT l).2.2 = true ∧ (keyT l).2.1.head? = some 32 then
    if (cutAt 10 (keyT l).2.1.tail).2.2 then
      match numB (cutAt 10 (keyT l).2.1.tail).1 with
      | some v => (((keyT l).1, v), (cutAt 10 (keyT l).2.1.tail).2.1, true)
      | none => (([], 0), [], false)
    else (([], 0), [], false)
  else (([], 0), [], false)
theorem keyT_len (l : List UInt8) : (keyT l).1.length ≤ l.length ∧ (keyT l).2.1.length ≤ l.length := by
  have h := cutAt_len 58 l
  unfold keyT
  split
  · split
    · split
      · simp only [List.length_take, List.length_drop]; omega
      · simp
    · simp
  · simp
def fstV (p : (List UInt8 × Int) × List UInt8 × Bool) : Value := .tuple #[.agg #[.string (bs p.1.1), .int .i64 p.1.2], .string (bs p.2.1), .bool p.2.2]
theorem bs_cons_ne (c : UInt8) (r : List UInt8) : (bs (c :: r)).toList.isEmpty = false := by rw [bs_toList]; rfl
theorem bs_cons_at (c : UInt8) (r : List UInt8) (h : 0 < (bs (c :: r)).size) : (bs (c :: r))[0] = c := by
  have : (bs (c :: r)).data.toList[0]? = some c := by rw [bs_data]; rfl
  rw [List.getElem?_eq_getElem (by simpa using h), Option.some.injEq] at this
  exact this

set_option maxRecDepth 100000 in
set_option maxHeartbeats 2000000 in
theorem pfirst_any (l : List UInt8) (w : World) (E : Env w) (hl : l.length ≤ 4000000000) :
    Calls Tryz.prog 86 #[.string (bs l)] w fun e w' => e = .returned (fstV (stepT l)) ∧ Below w.heap.size w w' := by
  have C1 : Hid (∀ w, Env w → Calls Tryz.prog 101 #[.string (bs l)] w fun e w' => e = .returned (.tuple #[.string (bs (keyT l).1), .string (bs (keyT l).2.1), .bool (keyT l).2.2]) ∧ Below w.heap.size w w') := fun w E => cutKey_any l w E hl
  have hlen := keyT_len l
  unfold stepT
  rcases hk : keyT l with ⟨key, rest, ok⟩
  rw [hk] at C1 hlen
  simp only at C1 hlen ⊢
  clear hk
  cases ok with
  | false =>
    rw [if_neg (by simp)]
    go_enter Tryz.func86, Tryz.ntmps86
    go_wp2_with (go_at_call 101; refine (C1.out _ (E.below ((Below.refl _ _).alloc (Nat.le_refl _) _))).mono ?_; rintro e w1 ⟨rfl, hb1⟩; obtain ⟨hc1, hf1⟩ := bcell hb1)
    exact bodyPost_ret (v := fstV (([], 0), [], false)) (by simp [results, Tryz.results86, go_sem, hc1, fstV]; rfl) rfl ⟨rfl, ((((Below.refl _ _).alloc (Nat.le_refl _) _).trans (hb1.mono (by simp))).setCell (Nat.le_refl _) _).setCell (Nat.le_refl _) _⟩
  | true =>
    cases rest with
    | nil =>
      rw [if_neg (by simp)]
      have hT : (bs []).toList.isEmpty = true := by rw [bs_toList]; rfl
      go_enter Tryz.func86, Tryz.ntmps86
      go_wp2_with (go_at_call 101; refine (C1.out _ (E.below ((Below.refl _ _).alloc (Nat.le_refl _) _))).mono ?_; rintro e w1 ⟨rfl, hb1⟩; obtain ⟨hc1, hf1⟩ := bcell hb1)
      exact bodyPost_ret (v := fstV (([], 0), [], false)) (by simp [results, Tryz.results86, go_sem, hc1, fstV]; rfl) rfl ⟨rfl, ((((Below.refl _ _).alloc (Nat.le_refl _) _).trans (hb1.mono (by simp))).setCell (Nat.le_refl _) _).setCell (Nat.le_refl _) _⟩
    | cons c r =>
      have hT := bs_cons_ne c r
      have h0 : 0 < (bs (c :: r)).size := by rw [bs_size]; simp
      have h0' : (0 : Int) < (bs (c :: r)).size := by omega
      have hA := bs_cons_at c r
      have hsb : (bs (c :: r)).size ≤ 9000000000 := by rw [bs_size]; omega
      by_cases hc : c = 32
      · subst hc
        rw [if_pos (by simp), List.tail_cons]
        have hD : (bs (32 :: r)).extract 1 (bs (32 :: r)).size = bs r := by rw [bs_drop]; rfl
        have hn32 : (32 : UInt8).toNat = 32 := rfl
        have C2 : Hid (∀ w, Env w → Calls Tryz.prog 102 #[.string (bs r), .string ⟨#[10]⟩] w fun e w' => e = .returned (.tuple #[.string (bs (cutAt 10 r).1), .string (bs (cutAt 10 r).2.1), .bool (cutAt 10 r).2.2]) ∧ Below w.heap.size w w') := by
          intro w E
          have := cut_any (bs r) 10 w E (by rw [bs_size]; simp at hlen; omega)
          rw [bs_data] at this
          exact this
        have hlen2 := cutAt_len 10 r
        simp only [List.length_cons] at hlen
        rcases hc : cutAt 10 r with ⟨a, more, ok2⟩
        rw [hc] at C2 hlen2
        simp only at C2 hlen2 ⊢
        have C3 : Hid (∀ w, Env w → Calls Tryz.prog 103 #[.string (bs a)] w fun e w' => e = .returned (.tuple #[.int .i64 ((numB a).getD 0), .bool (numB a).isSome]) ∧ Below w.heap.size w w') := fun w E => number_pair a w E (by omega)
        clear hc hlen hlen2
        cases ok2 with
        | false =>
          rw [if_neg (by simp)]
          cases hn : numB a with
          | none =>
            rw [hn] at C3
            simp only [Option.getD_none, Option.isSome_none] at C3
            go_enter Tryz.func86, Tryz.ntmps86
            go_wp2_with (first | (go_at_call 101; refine (C1.out _ (E.below ((Below.refl _ _).alloc (Nat.le_refl _) _))).mono ?_; rintro e w1 ⟨rfl, hb1⟩; obtain ⟨hc1, hf1⟩ := bcell hb1; have hz1 : w.heap.size < w1.heap.size := by { have := hb1.size; simp at this; omega }; have E1 : Env w1 := E.below (((Below.refl _ _).alloc (Nat.le_refl _) _).trans (hb1.mono (by simp)))) | (go_at_call 102; refine (C2.out _ E1).mono ?_; rintro e w2 ⟨rfl, hb2⟩; obtain ⟨hc2, hf2⟩ := bcell hb2; have hz2 : w.heap.size < w2.heap.size := by { have := hb2.size; omega }; have E2 : Env w2 := E1.below hb2) | (go_at_call 103; refine (C3.out _ E2).mono ?_; rintro e w3 ⟨rfl, hb3⟩; obtain ⟨hc3, hf3⟩ := bcell hb3; have hz3 : w.heap.size < w3.heap.size := by { have := hb3.size; omega }))
            exact bodyPost_ret (v := fstV (([], 0), [], false)) (by simp [results, Tryz.results86, go_sem, hc1, hc2, hc3, hz1, hz2, fstV]; rfl) rfl ⟨rfl, ((((Below.refl _ _).alloc (Nat.le_refl _) _).trans ((below_trans (below_trans hb1 hb2) hb3).mono (by simp))).setCell (Nat.le_refl _) _).setCell (Nat.le_refl _) _⟩
          | some v =>
            rw [hn] at C3
            simp only [Option.getD_some, Option.isSome_some] at C3
            clear hn
            go_enter Tryz.func86, Tryz.ntmps86
            go_wp2_with (first | (go_at_call 101; refine (C1.out _ (E.below ((Below.refl _ _).alloc (Nat.le_refl _) _))).mono ?_; rintro e w1 ⟨rfl, hb1⟩; obtain ⟨hc1, hf1⟩ := bcell hb1; have hz1 : w.heap.size < w1.heap.size := by { have := hb1.size; simp at this; omega }; have E1 : Env w1 := E.below (((Below.refl _ _).alloc (Nat.le_refl _) _).trans (hb1.mono (by simp)))) | (go_at_call 102; refine (C2.out _ E1).mono ?_; rintro e w2 ⟨rfl, hb2⟩; obtain ⟨hc2, hf2⟩ := bcell hb2; have hz2 : w.heap.size < w2.heap.size := by { have := hb2.size; omega }; have E2 : Env w2 := E1.below hb2) | (go_at_call 103; refine (C3.out _ E2).mono ?_; rintro e w3 ⟨rfl, hb3⟩; obtain ⟨hc3, hf3⟩ := bcell hb3; have hz3 : w.heap.size < w3.heap.size := by { have := hb3.size; omega }))
            exact bodyPost_ret (v := fstV (([], 0), [], false)) (by simp [results, Tryz.results86, go_sem, hc1, hc2, hc3, hz1, hz2, fstV]; rfl) rfl ⟨rfl, ((((Below.refl _ _).alloc (Nat.le_refl _) _).trans ((below_trans (below_trans hb1 hb2) hb3).mono (by simp))).setCell (Nat.le_refl _) _).setCell (Nat.le_refl _) _⟩
        | true =>
          rw [if_pos rfl]
          cases hn : numB a with
          | none =>
            rw [hn] at C3
            simp only [Option.getD_none, Option.isSome_none] at C3
            simp only
            go_enter Tryz.func86, Tryz.ntmps86
            go_wp2_with (first | (go_at_call 101; refine (C1.out _ (E.below ((Below.refl _ _).alloc (Nat.le_refl _) _))).mono ?_; rintro e w1 ⟨rfl, hb1⟩; obtain ⟨hc1, hf1⟩ := bcell hb1; have hz1 : w.heap.size < w1.heap.size := by { have := hb1.size; simp at this; omega }; have E1 : Env w1 := E.below (((Below.refl _ _).alloc (Nat.le_refl _) _).trans (hb1.mono (by simp)))) | (go_at_call 102; refine (C2.out _ E1).mono ?_; rintro e w2 ⟨rfl, hb2⟩; obtain ⟨hc2, hf2⟩ := bcell hb2; have hz2 : w.heap.size < w2.heap.size := by { have := hb2.size; omega }; have E2 : Env w2 := E1.below hb2) | (go_at_call 103; refine (C3.out _ E2).mono ?_; rintro e w3 ⟨rfl, hb3⟩; obtain ⟨hc3, hf3⟩ := bcell hb3; have hz3 : w.heap.size < w3.heap.size := by { have := hb3.size; omega }))
            exact bodyPost_ret (v := fstV (([], 0), [], false)) (by simp [results, Tryz.results86, go_sem, hc1, hc2, hc3, hz1, hz2, fstV]; rfl) rfl ⟨rfl, ((((Below.refl _ _).alloc (Nat.le_refl _) _).trans ((below_trans (below_trans hb1 hb2) hb3).mono (by simp))).setCell (Nat.le_refl _) _).setCell (Nat.le_refl _) _⟩
          | some v =>
            rw [hn] at C3
            simp only [Option.getD_some, Option.isSome_some] at C3
            simp only
            clear hn
            go_enter Tryz.func86, Tryz.ntmps86
            go_wp2_with (first | (go_at_call 101; refine (C1.out _ (E.below ((Below.refl _ _).alloc (Nat.le_refl _) _))).mono ?_; rintro e w1 ⟨rfl, hb1⟩; obtain ⟨hc1, hf1⟩ := bcell hb1; have hz1 : w.heap.size < w1.heap.size := by { have := hb1.size; simp at this; omega }; have E1 : Env w1 := E.below (((Below.refl _ _).alloc (Nat.le_refl _) _).trans (hb1.mono (by simp)))) | (go_at_call 102; refine (C2.out _ E1).mono ?_; rintro e w2 ⟨rfl, hb2⟩; obtain ⟨hc2, hf2⟩ := bcell hb2; have hz2 : w.heap.size < w2.heap.size := by { have := hb2.size; omega }; have E2 : Env w2 := E1.below hb2) | (go_at_call 103; refine (C3.out _ E2).mono ?_; rintro e w3 ⟨rfl, hb3⟩; obtain ⟨hc3, hf3⟩ := bcell hb3; have hz3 : w.heap.size < w3.heap.size := by { have := hb3.size; omega }))
            exact bodyPost_ret (v := fstV ((key, v), more, true)) (by simp [results, Tryz.results86, go_sem, hc1, hc2, hc3, hz1, hz2, fstV]) rfl ⟨rfl, ((((Below.refl _ _).alloc (Nat.le_refl _) _).trans ((below_trans (below_trans hb1 hb2) hb3).mono (by simp))).setCell (Nat.le_refl _) _).setCell (Nat.le_refl _) _⟩
      · rw [if_neg (by simpa using hc)]
        have hc' : ((c.toNat : Int) == 32) = false := by
          simp only [beq_eq_false_iff_ne, ne_eq]
          intro e
          exact hc (UInt8.toNat_inj.1 (by have : (32 : UInt8).toNat = 32 := rfl
                                          omega))
        go_enter Tryz.func86, Tryz.ntmps86
        go_wp2_with (go_at_call 101; refine (C1.out _ (E.below ((Below.refl _ _).alloc (Nat.le_refl _) _))).mono ?_; rintro e w1 ⟨rfl, hb1⟩; obtain ⟨hc1, hf1⟩ := bcell hb1)
        exact bodyPost_ret (v := fstV (([], 0), [], false)) (by simp [results, Tryz.results86, go_sem, hc1, fstV]; rfl) rfl ⟨rfl, ((((Below.refl _ _).alloc (Nat.le_refl _) _).trans (hb1.mono (by simp))).setCell (Nat.le_refl _) _).setCell (Nat.le_refl _) _⟩
end Go.Proofs.YtmgpacenooncjaaGreatDoor.Pp
/- Contract of pair.Parse: the pairs of which a text is the text, or an error. -/
namespace Go.Proofs.YtmgpacenooncjaaGreatDoor.Pp
open Go.ChangeShapes Go.WideShapes Go.ChangeAt Go.RowKit
open Num

/-- The cells that pairs fill. -/
def flat (l : List (ByteArray × Int)) : List Value := l.flatMap fun p => [.string p.1, .int .i64 p.2]
theorem flat_length (l : List (ByteArray × Int)) : (flat l).length = l.length * 2 := by
  induction l with
  | nil => rfl
  | cons p l ih => simp only [flat, List.flatMap_cons, List.length_append, List.length_cons, List.length_nil] at *; omega
theorem flat_append (a b : List (ByteArray × Int)) : flat (a ++ b) = flat a ++ flat b := by simp [flat]
theorem flat_at (l : List (ByteArray × Int)) : ∀ (i : Nat) (h : i < l.length), (flat l)[i * 2]? = some (.string l[i].1) ∧ (flat l)[i * 2 + 1]? = some (.int .i64 l[i].2) := by
  induction l with
  | nil => intro i h; simp at h
  | cons p l ih =>
    intro i h
    cases i with
    | zero => exact ⟨rfl, rfl⟩
    | succ i =>
      have h' : i < l.length := by simpa using h
      have e : flat (p :: l) = .string p.1 :: .int .i64 p.2 :: flat l := rfl
      rw [e, show (i + 1) * 2 = i * 2 + 1 + 1 by omega]
      simpa using ih i h'
theorem isPairs_of {w : World} {base : Nat} {v : Value} {l : List (ByteArray × Int)} (h : w.ownsRow base 67 2 v l.length (flat l)) : IsPairs w v l := by
  rcases h.2 with ⟨rfl, h0⟩ | ⟨g, cap, cur, rfl, _⟩
  · exact ⟨none, 0, by rw [h0], fun i hi => by omega⟩
  · refine ⟨some ⟨g, 0, none⟩, cap, rfl, fun i hi => ⟨g, 0, rfl, ?_, ?_⟩⟩
    · rw [Nat.zero_add, h.cellAt (i * 2) (by omega)]; exact (flat_at l i hi).1
    · rw [Nat.zero_add, h.cellAt (i * 2 + 1) (by omega)]; exact (flat_at l i hi).2
theorem flat_one {p : ByteArray × Int} : ∀ u ∈ flat [p], u.oneCell' = true := by
  intro u hu
  simp only [flat, List.flatMap_cons, List.flatMap_nil, List.append_nil, List.mem_cons, List.not_mem_nil, or_false] at hu
  rcases hu with rfl | rfl <;> rfl

theorem owns_below {w w' : World} {base : Nat} {e : TypeId} {size : Nat} {v : Value} {n : Nat} {xs : List Value} (h : w.ownsRow base e size v n xs) (hb : Below w.heap.size w w') : w'.ownsRow base e size v n xs := by
  refine h.kept (row := none) ⟨hb.os, hb.tape, hb.output, hb.size, fun k hk _ => hb.block k hk⟩ ?_
  cases v.ownBlock with
  | none => exact .inl rfl
  | some k => exact .inr (by simp)
theorem lit_cells {w : World} {cs : Array Value} {e : TypeId} {g : Nat} (hg : g = w.heap.size) (hm : cs.size ≤ maxLen) : ∀ j u, cs.toList[j]? = some u → (w.alloc (.cells cs e)).cell? ((⟨g, 0, none⟩ : Addr).add j) = some u := by
  subst hg
  exact (World.ownsRow_lit (base := 0) (size := 1) (e := e) w cs cs.size (Nat.zero_le _) hm (by omega)).cells rfl
theorem stepT_lt (l : List UInt8) (h : (stepT l).2.2 = true) : (stepT l).2.1.length < l.length := by
  have h2 := (keyT_len l).2
  have h3 := cutAt_len 10 (keyT l).2.1.tail
  unfold stepT at h ⊢
  by_cases hk : (keyT l).2.2 = true ∧ (keyT l).2.1.head? = some 32
  · rw [if_pos hk] at h ⊢
    by_cases hc : (cutAt 10 (keyT l).2.1.tail).2.2 = true
    · rw [if_pos hc] at h ⊢
      cases hv : numB (cutAt 10 (keyT l).2.1.tail).1 with
      | none => rw [hv] at h; simp at h
      | some v =>
        simp only
        have h4 : 1 ≤ (keyT l).2.1.length := by
          cases hr : (keyT l).2.1 with
          | nil => rw [hr] at hk; simp at hk
          | cons a b => simp
        have h5 := h3.2.1
        rw [List.length_tail] at h5
        omega
    · rw [if_neg hc] at h; simp at h
  · rw [if_neg hk] at h; simp at h
/-- The pairs of a text. -/
def parseT : Nat → List UInt8 → Option (List (List UInt8 × Int))
  | 0, _ => none
  | f + 1, l => if l = [] then some [] else if (stepT l).2.2 then (parseT f (stepT l).2.1).map ((stepT l).1 :: ·) else none
def pairsL (l : List UInt8) : Option (List (List UInt8 × Int)) := parseT (l.length + 1) l
theorem parseT_more : ∀ (f : Nat) (l : List UInt8), l.length < f → parseT f l = pairsL l := by
  intro f
  induction f using Nat.strongRecOn with
  | ind f ih =>
    intro l hl
    cases f with
    | zero => omega
    | succ f =>
      unfold pairsL
      simp only [parseT]
      split
      · rfl
      · split
        · rename_i h
          have h1 := stepT_lt l h
          rw [ih f (by omega) _ (by omega)]
          by_cases hf : l.length < f
          · rw [ih l.length (by omega) _ (by omega)]
          · rw [show l.length = f by omega, ih f (by omega) _ (by omega)]
        · rfl
theorem pairsL_nil : pairsL [] = some [] := rfl
theorem pairsL_step {l : List UInt8} (hl : l ≠ []) (h : (stepT l).2.2 = true) : pairsL l = (pairsL (stepT l).2.1).map ((stepT l).1 :: ·) := by
  have h1 := stepT_lt l h
  rw [← parseT_more (l.length + 1) l (by omega)]
  simp only [parseT]
  rw [if_neg hl, if_pos h, parseT_more _ _ h1]
theorem pairsL_none {l : List UInt8} (hl : l ≠ []) (h : (stepT l).2.2 = false) : pairsL l = none := by
  rw [← parseT_more (l.length + 1) l (by omega)]
  simp only [parseT]
  rw [if_neg hl, if_neg (by simp [h])]
def conv (p : List UInt8 × Int) : ByteArray × Int := (bs p.1, p.2)
def szOf : Value → Nat
  | .string s => s.size
  | _ => 0
def errV (b : Bool) (n : Int) : Value := if b then .nilIface else .iface 70 (.int .i64 n)
def ParseSaid (l : List UInt8) (w : World) (e : Ending) (w' : World) : Prop :=
  (∃ v, e = .returned (.tuple #[v, errV (pairsL l).isSome 4]) ∧ IsPairs w' v (((pairsL l).getD []).map conv)) ∧ Below w.heap.size w w'
/-- The same, and the row is the call's own. -/
def ParseOwn (l : List UInt8) (w : World) (e : Ending) (w' : World) : Prop :=
  (∃ v, e = .returned (.tuple #[v, errV (pairsL l).isSome 4]) ∧ w'.ownsRow w.heap.size 67 2 v (((pairsL l).getD []).map conv).length (flat (((pairsL l).getD []).map conv))) ∧ Below w.heap.size w w'
theorem parseOwn_none {l : List UInt8} {w w' : World} (h : pairsL l = none) (hb : Below w.heap.size w w') : ParseOwn l w (.returned (.tuple #[.slice none 0 0, .iface 70 (.int .i64 4)])) w' :=
  ⟨⟨_, by rw [h]; rfl, by rw [h]; exact World.ownsRow_nil _ _ _ _⟩, hb⟩
theorem parseOwn_some {l : List UInt8} {w w' : World} {v : Value} {ps : List (List UInt8 × Int)} (h : pairsL l = some ps) (hb : Below w.heap.size w w') (hv : w'.ownsRow w.heap.size 67 2 v (ps.map conv).length (flat (ps.map conv))) : ParseOwn l w (.returned (.tuple #[v, .nilIface])) w' :=
  ⟨⟨_, by rw [h]; rfl, by rw [h]; exact hv⟩, hb⟩
theorem isPairs_nil (w : World) : IsPairs w (.slice none 0 0) [] := ⟨none, 0, rfl, fun i hi => absurd hi (by simp)⟩
theorem infoPair : (Tryz.prog.info? 67).map (fun i => (i.zero, i.size, i.bytes)) = some (some (.agg #[.string ⟨#[]⟩, .int .i64 0]), 2, 24) := by kernel_rfl

theorem owns_push {w : World} {base : Nat} {v : Value} {acc : List (List UInt8 × Int)} {key : List UInt8} {x : Int}
    (h : w.ownsRow base 67 2 v ((acc.map conv).length + 1) (flat (acc.map conv) ++ flat [(bs key, x)])) : w.ownsRow base 67 2 v ((acc ++ [(key, x)]).map conv).length (flat ((acc ++ [(key, x)]).map conv)) := by
  have e : (acc ++ [(key, x)]).map conv = acc.map conv ++ [(bs key, x)] := by simp [conv]
  rw [e, flat_append, List.length_append]
  exact h
theorem parseSaid_none {l : List UInt8} {w w' : World} (h : pairsL l = none) (hb : Below w.heap.size w w') : ParseSaid l w (.returned (.tuple #[.slice none 0 0, .iface 70 (.int .i64 4)])) w' :=
  ⟨⟨_, by rw [h]; rfl, by rw [h]; exact isPairs_nil _⟩, hb⟩
theorem parseSaid_some {l : List UInt8} {w w' : World} {v : Value} {ps : List (List UInt8 × Int)} (h : pairsL l = some ps) (hb : Below w.heap.size w w') (hv : IsPairs w' v (ps.map conv)) : ParseSaid l w (.returned (.tuple #[v, .nilIface])) w' :=
  ⟨⟨_, by rw [h]; rfl, by rw [h]; exact hv⟩, hb⟩
set_option maxRecDepth 100000 in
set_option maxHeartbeats 2000000 in
theorem parse_own (l : List UInt8) (w : World) (E : Env w) (hl : l.length ≤ 100000000) :
    Calls Tryz.prog 56 #[.string (bs l)] w fun e w' => ParseOwn l w e w' := by
  obtain ⟨i0, hi, hz0, hz1, hz2⟩ := info_parts infoPair
  go_enter Tryz.func56, Tryz.ntmps56
  go_wp2
  go_loopw [0, 4] (fun sv lv wr => ∃ (r : List UInt8) (acc : List (List UInt8 × Int)), sv = .string (bs r) ∧ wr.ownsRow w.heap.size 67 2 lv (acc.map conv).length (flat (acc.map conv)) ∧ Below w.heap.size w wr ∧ acc.length + r.length ≤ l.length ∧ Hid (pairsL l = (pairsL r).map (acc ++ ·))) (fun sv _ _ => szOf sv)
  case atStart =>
    refine ⟨l, [], rfl, World.ownsRow_nil _ _ _ _, Below.refl _ _, by simp, ?_⟩
    show pairsL l = _
    simp
  case round =>
    obtain ⟨r, acc, rfl, hown, hb, hlen, HP⟩ := hrel
    have Er : Env wr := E.below hb
    cases hr : r with
    | nil =>
      subst hr
      have hT : (bs []).toList.isEmpty = true := by rw [bs_toList]; rfl
      have hfin : Hid (pairsL l = some acc) := by
        show _ = _
        rw [HP.out, pairsL_nil]; simp
      have hv := Lib.hid hown
      clear hown
      go_wp2
      go_ret2
      exact parseOwn_some hfin.out hb hv.out
    | cons c r' =>
      rw [← hr]
      have hT : (bs r).toList.isEmpty = false := by rw [hr]; exact bs_cons_ne c r'
      have hne : Hid (r ≠ []) := by rw [hr]; exact List.cons_ne_nil _ _
      clear hr
      have C1 : Hid (∀ w, Env w → Calls Tryz.prog 86 #[.string (bs r)] w fun e w' => e = .returned (fstV (stepT r)) ∧ Below w.heap.size w w') := fun w E => pfirst_any r w E (by omega)
      have hst := Lib.hid (stepT_lt r)
      have hps := Lib.hid (fun h => pairsL_step (l := r) hne.out h)
      have hpn := Lib.hid (fun h => pairsL_none (l := r) hne.out h)
      rcases hs : stepT r with ⟨⟨key, v⟩, more, ok⟩
      rw [hs] at C1 hst hps hpn
      simp only [fstV] at C1 hst hps hpn
      clear hs
      cases ok with
      | false =>
        go_wp2_with (go_at_call 86; refine (C1.out _ Er).mono ?_; rintro e w1 ⟨rfl, hb1⟩)
        go_ret2
        refine parseOwn_none ?_ ((hb.trans (hb1.mono hb.size)).alloc (Nat.le_trans hb.size hb1.size) _)
        rw [HP.out, hpn.out (by simp)]; rfl
      | true =>
        go_wp2_with (first | (go_at_call 86; refine (C1.out _ Er).mono ?_; rintro e w1 ⟨rfl, hb1⟩) | (at_builtin; refine Hid.out ?_))
        refine Lib.hid ?_
        have hbs := hb.size
        have hbs1 := hb1.size
        refine wpList_append_own _ rfl (.tmp 19) (.tmp 21) 42 rfl w.heap.size 67 i0 (.agg #[.string ⟨#[]⟩, .int .i64 0]) 2 24 Tryz.underlying42 hi hz0 hz1 hz2 rfl (by decide) _ _ _ rfl (((owns_below hown hb1).alloc _).alloc _) ⟨w1.heap.size + 1, 0, none⟩ 1 1 (flat [(bs key, v)]) rfl rfl ?c1 flat_one ?c2 ?c3 ?c4 ?_
        case c1 => exact lit_cells (by simp) (show 2 ≤ maxLen by decide)
        case c2 => rw [List.length_map]; unfold maxLen; omega
        case c3 => rw [List.length_map]; omega
        case c4 => simp; omega
        intro v2 w2 hown2 hg2 _
        have hb2 : Below w.heap.size w w2 := (((hb.trans (hb1.mono hb.size)).alloc (by omega) _).alloc (by simp; omega) _).grown hg2 (by simp; omega) (fun k hk => (hown.lt k hk).1)
        have hown3 := owns_push hown2
        have hlt := hst.out (by simp)
        have HP2 : Hid (pairsL l = (pairsL more).map ((acc ++ [(key, v)]) ++ ·)) := by
          show _ = _
          rw [HP.out, hps.out (by simp), Option.map_map]
          congr 1
          funext x
          simp
        clear hown hown2 hg2 hb1 HP hps hpn hst
        go_wp2
        go_roundw
        case rel => exact ⟨more, acc ++ [(key, v)], rfl, hown3, hb2, by simp; omega, HP2⟩
        case measure => simp only [szOf, bs_size]; exact hlt
theorem parse_any (l : List UInt8) (w : World) (E : Env w) (hl : l.length ≤ 100000000) :
    Calls Tryz.prog 56 #[.string (bs l)] w fun e w' => ParseSaid l w e w' :=
  (parse_own l w E hl).mono fun _ _ ⟨⟨v, h1, h2⟩, h3⟩ => ⟨⟨v, h1, isPairs_of h2⟩, h3⟩
end Go.Proofs.YtmgpacenooncjaaGreatDoor.Pp
/- Contract of PairsText of the document's answer: the text of pairs. -/
namespace Go.Proofs.YtmgpacenooncjaaGreatDoor.Pp
open Go.ChangeShapes Go.WideShapes Go.ChangeAt Go.RowKit
open Num

/-- A pair's text; the text of pairs. -/
def text1 (p : ByteArray × Int) : List UInt8 := Lib.itoa p.1.size ++ [58] ++ p.1.data.toList ++ [32] ++ Lib.itoa p.2 ++ [10]
def textL (l : List (ByteArray × Int)) : List UInt8 := l.flatMap text1
theorem textL_step (l : List (ByteArray × Int)) (k : Nat) (h : k < l.length) : textL (l.take (k + 1)) = textL (l.take k) ++ text1 l[k] := by
  unfold textL
  rw [List.take_succ_eq_append_getElem h, List.flatMap_append]; simp
theorem bs_append (a b : List UInt8) : bs a ++ bs b = bs (a ++ b) := bytes_append a b
theorem itoa_len (n : Int) (h0 : -9223372036854775808 ≤ n) (h1 : n ≤ 9223372036854775807) : (Lib.itoa n).length ≤ 20 := by
  by_cases h : n < 0
  · unfold Lib.itoa
    rw [if_pos h, List.length_cons]
    have := nDig_le n.natAbs (by omega)
    omega
  · have := itoa_len_le n (by omega) h1
    omega
theorem text1_len (p : ByteArray × Int) (hp : p.1.size ≤ 1000) (h0 : -9223372036854775808 ≤ p.2) (h1 : p.2 ≤ 9223372036854775807) : (text1 p).length ≤ 1100 := by
  unfold text1
  have a := itoa_len p.1.size (by omega) (by omega)
  have b := itoa_len p.2 h0 h1
  have c : p.1.data.toList.length = p.1.size := Array.length_toList
  simp only [List.length_append, List.length_cons, List.length_nil]
  omega
/-- Pairs within bounds. -/
def Fits (l : List (ByteArray × Int)) : Prop := ∀ p ∈ l, p.1.size ≤ 1000 ∧ -9223372036854775808 ≤ p.2 ∧ p.2 ≤ 9223372036854775807
theorem textL_len {l : List (ByteArray × Int)} (h : Fits l) : (textL l).length ≤ 1100 * l.length := by
  induction l with
  | nil => simp [textL]
  | cons p l ih =>
    have h1 := h p (List.mem_cons_self ..)
    have h2 := ih (fun q hq => h q (List.mem_cons_of_mem _ hq))
    have h3 := text1_len p h1.1 h1.2.1 h1.2.2
    have e : textL (p :: l) = text1 p ++ textL l := by simp [textL]
    rw [e, List.length_append, List.length_cons]
    omega

theorem text1_bs (x : List UInt8) (p : ByteArray × Int) : bs x ++ bs (Lib.itoa (p.1.size : Int)) ++ ⟨#[58]⟩ ++ p.1 ++ ⟨#[32]⟩ ++ bs (Lib.itoa p.2) ++ ⟨#[10]⟩ = bs (x ++ text1 p) := by
  obtain ⟨s, n⟩ := p
  simp only [text1]
  generalize Lib.itoa (s.size : Int) = i
  generalize Lib.itoa n = j
  apply ByteArray.ext
  apply Array.ext'
  simp [bs]
theorem text_next (l : List (ByteArray × Int)) (k : Nat) (h : k < l.length) : bs (textL (l.take k)) ++ bs (Lib.itoa (l[k].1.size : Int)) ++ ⟨#[58]⟩ ++ l[k].1 ++ ⟨#[32]⟩ ++ bs (Lib.itoa l[k].2) ++ ⟨#[10]⟩ = bs (textL (l.take (k + 1))) := by
  rw [textL_step l k h]
  exact text1_bs _ _
set_option maxRecDepth 100000 in
set_option maxHeartbeats 400000 in
theorem pairsText_any (v : Value) (l : List (ByteArray × Int)) (w : World) (h : IsPairs w v l) (hf : Fits l) (hl : l.length ≤ 60000) :
    Calls Tryz.prog 63 #[v] w fun e w' => e = .returned (.string (bs (textL l))) ∧ Below w.heap.size w w' := by
  obtain ⟨a, cap, rfl, hc⟩ := h
  have hmix : Tryz.prog.follows .mixedOrders = true := by kernel_rfl
  go_enter Tryz.func63, Tryz.ntmps63
  go_wp2
  go_loopw [3, 4] (fun s i wr => ∃ k : Nat, k ≤ l.length ∧ i = .int .i64 k ∧ s = .string (bs (textL (l.take k))) ∧ Below w.heap.size w wr) (fun _ i _ => l.length - (intOf i).toNat)
  case atStart => exact ⟨0, Nat.zero_le _, rfl, rfl, Below.refl _ _⟩
  case round =>
    obtain ⟨k, hk, rfl, rfl, hb⟩ := hrel
    by_cases hlt : k < l.length
    · obtain ⟨b, off, rfl, c0, c1⟩ := hc k hlt
      have hf1 := hf l[k] (List.getElem_mem hlt)
      have hlen : (textL (l.take k)).length ≤ 1100 * 60000 := by
        have h1 := textL_len (l := l.take k) (fun p hp => hf p (List.mem_of_mem_take hp))
        rw [List.length_take] at h1
        omega
      have D1 : ∀ w, Calls Tryz.prog 93 #[.int .i64 (l[k].1.size : Int)] w fun e w' => e = .returned (.string (bs (Lib.itoa (l[k].1.size : Int)))) ∧ Below w.heap.size w w' := fun w => decimal_any _ w (by omega) (by omega)
      have D2 : ∀ w, Calls Tryz.prog 93 #[.int .i64 l[k].2] w fun e w' => e = .returned (.string (bs (Lib.itoa l[k].2))) ∧ Below w.heap.size w w' := fun w => decimal_any _ w hf1.2.1 hf1.2.2
      have cD1 : Hid (∀ d os, Calls Tryz.prog 93 #[.int .i64 (l[k].1.size : Int)] (Sort.grow (redrawn wr d) os) fun e w'' => e = .returned (.string (bs (Lib.itoa (l[k].1.size : Int)))) ∧ ∃ p : Regrown, w'' = Sort.grow (redrawn wr p.d) p.os) := fun d os => Calls.regrown_of (D1 _)
      have cD2 : Hid (∀ d os, Calls Tryz.prog 93 #[.int .i64 l[k].2] (Sort.grow (redrawn wr d) os) fun e w'' => e = .returned (.string (bs (Lib.itoa l[k].2))) ∧ ∃ p : Regrown, w'' = Sort.grow (redrawn wr p.d) p.os) := fun d os => Calls.regrown_of (D2 _)
      have k0 := cell_regrown (cell_below c0 hb)
      have k1 := cell_regrown (cell_below c1 hb)
      have hi1 := itoa_len (l[k].1.size : Int) (by omega) (by omega)
      have hi2 := itoa_len l[k].2 hf1.2.1 hf1.2.2
      have HE := Lib.hid (text_next l k hlt)
      have s1 := bs_size (textL (l.take k))
      have s2 := bs_size (Lib.itoa (l[k].1.size : Int))
      have s3 := bs_size (Lib.itoa l[k].2)
      rw [← s1] at hlen
      rw [← s2] at hi1
      rw [← s3] at hi2
      clear D1 D2 c0 c1 hc s1 s2 s3
      generalize l[k] = pp at *
      obtain ⟨s, m⟩ := pp
      simp only at *
      generalize bs (textL (l.take k)) = X at *
      generalize bs (Lib.itoa (s.size : Int)) = I at *
      generalize bs (Lib.itoa m) = J at *
      have n1 : ¬ 9223372036854775807 < X.size + I.size := by omega
      have n2 : ¬ 9223372036854775807 < X.size + I.size + 1 := by omega
      have n3 : ¬ 9223372036854775807 < X.size + I.size + 1 + s.size := by omega
      have n4 : ¬ 9223372036854775807 < X.size + I.size + 1 + s.size + 1 := by omega
      have n5 : ¬ 9223372036854775807 < X.size + I.size + 1 + s.size + 1 + J.size := by omega
      have n6 : ¬ 9223372036854775807 < X.size + I.size + 1 + s.size + 1 + J.size + 1 := by omega
      go_wp2
      refine wp_region_quiet_below hmix (by kernel_rfl) ?_
      repeat (quiet_step (first | (go_at_call_of 93 (Value.int IntKind.i64 m); exact cD2.out _ _) | (go_at_call 93; exact cD1.out _ _)))
      refine wpQuiet_nil ?_
      intro _ hw'
      obtain ⟨⟨dq, osq⟩, hw''⟩ := hw'
      subst hw''
      have hbb : Below w.heap.size w (Sort.grow (redrawn wr dq) osq) := hb.trans ((below_regrown wr dq osq).mono hb.size)
      generalize Sort.grow (redrawn wr dq) osq = w2 at *
      clear n1 n2 n3 n4 n5 n6 k0 k1 cD1 cD2
      go_wp2
      go_roundw
      case rel => exact ⟨k + 1, by omega, by go_num, by rw [HE.out], hbb⟩
      case measure => simp [intOf]; omega
    · go_wp2
      go_ret
      rw [List.take_of_length_le (by omega)]
      exact ⟨rfl, hb⟩
end Go.Proofs.YtmgpacenooncjaaGreatDoor.Pp
/- Contracts of strings.Builder's writers at this program, and of pair.Text. -/
namespace Go.Proofs.YtmgpacenooncjaaGreatDoor.Pp
open Go.ChangeShapes Go.WideShapes Go.ChangeAt Go.RowKit
open Num

theorem sizeB : (Tryz.prog.info? 129).map (·.size) = some 2 := by kernel_rfl
theorem infoByte : (Tryz.prog.info? 5).map (fun i => (i.zero, i.size, i.bytes)) = some (some (.int .u8 0), 1, 1) := by kernel_rfl

set_option maxRecDepth 100000 in
theorem copyCheck_fresh (b : Nat) (w : World) (h0 : w.cell? ⟨b, 0, none⟩ = some (.pointer none)) (hsh : w.shape? b = some (129, 2)) (hfz : w.frozen? ⟨b, 0, none⟩ = false) :
    Calls Tryz.prog 104 #[.pointer (some ⟨b, 0, none⟩)] w fun e w' => e = .returned (.tuple #[]) ∧ w' = w.setCell ⟨b, 0, none⟩ (.pointer (some ⟨b, 0, none⟩)) := by
  obtain ⟨j, hj, hjs⟩ := Option.map_eq_some_iff.1 sizeB
  go_enter Tryz.func104, Tryz.ntmps104
  go_wp2
  rw [Lib.run_to_unsafe w ⟨b, 0, none⟩ Tryz.underlying126 Tryz.underlying152 hj (by rw [hjs]; decide) hsh (Nat.zero_lt_succ 1)]
  simp only [Result.andThen]
  rw [Oper.upon_value]
  go_wp2
  rw [run_callFunc_extern Tryz.func121 (by kernel_rfl) (by kernel_rfl) (by kernel_rfl) (e := Extern.AbiNoEscape.same) (by kernel_rfl)]
  rw [Lib.run_noEscape]
  simp only [Result.andThen]
  rw [Oper.upon_value]
  go_wp2
  rw [Lib.run_from_unsafe w ⟨b, 0, none⟩ Tryz.underlying152 Tryz.underlying126 hj hsh (by kernel_rfl)]
  simp only [Result.andThen]
  rw [Oper.upon_value]
  go_wp2
  go_end0
  exact ⟨rfl, rfl⟩
set_option maxRecDepth 100000 in
theorem copyCheck_used (b : Nat) (w : World) (h0 : w.cell? ⟨b, 0, none⟩ = some (.pointer (some ⟨b, 0, none⟩))) :
    Calls Tryz.prog 104 #[.pointer (some ⟨b, 0, none⟩)] w fun e w' => e = .returned (.tuple #[]) ∧ w' = w := by
  obtain ⟨j, hj, _⟩ := Option.map_eq_some_iff.1 sizeB
  go_enter Tryz.func104, Tryz.ntmps104
  go_wp2
  rw [Lib.run_neq_ptr_same w _ Tryz.underlying126 hj]
  go_wp2
  go_end0
  exact ⟨rfl, rfl⟩
theorem copyCheck_any (B b : Nat) (xs : List Value) (w : World) (h : Lib.IsBuilderF 129 5 B b xs w) :
    Calls Tryz.prog 104 #[.pointer (some ⟨b, 0, none⟩)] w fun e w' => e = .returned (.tuple #[]) ∧ (Lib.BuilderAtF 129 5 B b (.pointer (some ⟨b, 0, none⟩)) xs w' ∧ Below B w w' ∧ Lib.OthersKept 5 (some b) w w') := by
  rcases h with h | h
  · refine (copyCheck_fresh b w h.cell0 h.shape h.frozen0).mono ?_
    rintro e w' ⟨rfl, rfl⟩
    exact ⟨rfl, h.used _, (Below.refl B w).setCell (p := ⟨b, 0, none⟩) h.1 _, (Lib.OthersKept.refl _ _ w).setCell ⟨b, 0, none⟩ rfl _⟩
  · refine (copyCheck_used b w h.cell0).mono ?_
    rintro e w' ⟨rfl, rfl⟩
    exact ⟨rfl, h, Below.refl B _, Lib.OthersKept.refl _ _ _⟩

set_option maxHeartbeats 2000000 in
set_option maxRecDepth 100000 in
theorem writeByte_any (B b : Nat) (xs : List Value) (c : Int) (w : World) (h : Lib.IsBuilderF 129 5 B b xs w) (hlen : xs.length + 1 ≤ 140737488355328) (hBw : B ≤ w.heap.size) :
    Calls Tryz.prog 89 #[.pointer (some ⟨b, 0, none⟩), .int .u8 c] w fun e w' => e = .returned .nilIface ∧ (Lib.BuilderAtF 129 5 B b (.pointer (some ⟨b, 0, none⟩)) (xs ++ [.int .u8 c]) w' ∧ Below B w w' ∧ Lib.OthersKept 5 (some b) w w') := by
  obtain ⟨i0, hi, hz0, hz1, hz2⟩ := info_parts infoByte
  go_enter Tryz.func89, Tryz.ntmps89
  go_wp2_with (go_at_call 104; refine (copyCheck_any B b xs _ h).mono ?_)
  rintro e w1 ⟨rfl, h1, hb1, hk1⟩
  obtain ⟨hB, v, hbk, hown, hne⟩ := h1
  have c0 : w1.cell? ⟨b, 0, none⟩ = some (.pointer (some ⟨b, 0, none⟩)) := by rw [Lib.cell_of_heap hbk]; rfl
  have c1 : w1.cell? ⟨b, 1, none⟩ = some v := by rw [Lib.cell_of_heap hbk]; rfl
  go_wp2_with (at_builtin; refine wpList_append_ownF _ rfl _ _ 127 rfl B 5 i0 (.int .u8 0) 1 1 Tryz.underlying127 hi hz0 hz1 hz2 rfl (by decide) _ _ _ rfl (hown.alloc _) ⟨w1.heap.size, 0, none⟩ 1 1 [.int .u8 c] rfl rfl ?c1 ?c2 ?c3 ?c4 ?c5 ?_)
  case c1 =>
    intro j u hj
    match j, hj with
    | 0, hj => simp at hj; subst hj; simp [Addr.add]
  case c2 => intro u hu; simp at hu; subst hu; rfl
  case c3 => unfold maxLen; omega
  case c4 => omega
  case c5 => have := hb1.size; simp; omega
  intro v' w2 hown' hgrow _
  have hlt : b < w1.heap.size := by
    rcases Nat.lt_or_ge b w1.heap.size with h' | h'
    · exact h'
    · simp [Array.getElem?_eq_none h'] at hbk
  have hb2 : w2.heap[b]? = some (.cells #[.pointer (some ⟨b, 0, none⟩), v] 129 (0, 0)) := by
    rw [hgrow.block b (by simp; omega) (fun e => hne e.symm), Lib.alloc_old w1 _ b hlt]
    exact hbk
  have d0 : w2.cell? ⟨b, 0, none⟩ = some (.pointer (some ⟨b, 0, none⟩)) := by rw [Lib.cell_of_heap hb2]; rfl
  have d1 : w2.cell? ⟨b, 1, none⟩ = some v := by rw [Lib.cell_of_heap hb2]; rfl
  have f1 : w2.frozen? ⟨b, 1, none⟩ = false := Lib.frozen_of_heap hb2 1
  obtain ⟨g, cap, rfl⟩ : ∃ g cap, v' = .slice (some ⟨g, 0, none⟩) (xs.length + 1) cap := by
    rcases hown'.2 with ⟨_, h0⟩ | ⟨g, cap, cur, fz, hv, _⟩
    · omega
    · exact ⟨g, cap, hv⟩
  go_wp2
  go_ret
  refine ⟨rfl, ?_, ?_, ((hk1.alloc _).grown hgrow (Lib.ownsRowF_kind (hown.alloc _))).setCell ⟨b, 1, none⟩ rfl _⟩
  · exact Lib.BuilderAtF.put (T := 129) (e := 5) hB hb2 (bs' := xs ++ [.int .u8 c]) (by simpa using hown') (by decide)
  · exact ((hb1.alloc (by have := hb1.size; omega) _).grown hgrow (by have := hb1.size; simp; omega) (fun k hk => (hown.lt k hk).1)).setCell (p := ⟨b, 1, none⟩) hB _

set_option maxHeartbeats 2000000 in
set_option maxRecDepth 100000 in
theorem writeString_any (B b : Nat) (xs : List Value) (s : ByteArray) (w : World) (h : Lib.IsBuilderF 129 5 B b xs w) (hlen : xs.length + s.size ≤ 140737488355328) (hBw : B ≤ w.heap.size) :
    Calls Tryz.prog 87 #[.pointer (some ⟨b, 0, none⟩), .string s] w fun e w' => e = .returned (.tuple #[.int .i64 s.size, .nilIface]) ∧ (Lib.BuilderAtF 129 5 B b (.pointer (some ⟨b, 0, none⟩)) (xs ++ Lib.strCells s) w' ∧ Below B w w' ∧ Lib.OthersKept 5 (some b) w w') := by
  obtain ⟨i0, hi, hz0, hz1, hz2⟩ := info_parts infoByte
  go_enter Tryz.func87, Tryz.ntmps87
  go_wp2_with (go_at_call 104; refine (copyCheck_any B b xs _ h).mono ?_)
  rintro e w1 ⟨rfl, h1, hb1, hk1⟩
  obtain ⟨hB, v, hbk, hown, hne⟩ := h1
  have c0 : w1.cell? ⟨b, 0, none⟩ = some (.pointer (some ⟨b, 0, none⟩)) := by rw [Lib.cell_of_heap hbk]; rfl
  have c1 : w1.cell? ⟨b, 1, none⟩ = some v := by rw [Lib.cell_of_heap hbk]; rfl
  go_wp2_with (at_builtin; refine Lib.wpList_append_own_stringF _ rfl _ _ 127 9 rfl B 5 i0 Tryz.underlying127 Tryz.underlying9 hi hz0 hz1 hz2 _ _ _ rfl hown s rfl ?c3 ?c4 ?c5 ?_)
  case c3 => unfold maxLen; omega
  case c4 => omega
  case c5 => have := hb1.size; omega
  intro v' w2 hown' hgrow _
  have hlt : b < w1.heap.size := by
    rcases Nat.lt_or_ge b w1.heap.size with h' | h'
    · exact h'
    · simp [Array.getElem?_eq_none h'] at hbk
  have hb2 : w2.heap[b]? = some (.cells #[.pointer (some ⟨b, 0, none⟩), v] 129 (0, 0)) := by
    rw [hgrow.block b hlt (fun e => hne e.symm)]
    exact hbk
  have d0 : w2.cell? ⟨b, 0, none⟩ = some (.pointer (some ⟨b, 0, none⟩)) := by rw [Lib.cell_of_heap hb2]; rfl
  have d1 : w2.cell? ⟨b, 1, none⟩ = some v := by rw [Lib.cell_of_heap hb2]; rfl
  have f1 : w2.frozen? ⟨b, 1, none⟩ = false := Lib.frozen_of_heap hb2 1
  obtain ⟨ao, n', cap, rfl⟩ : ∃ ao n' cap, v' = .slice ao n' cap := by
    rcases hown'.2 with ⟨hv, _⟩ | ⟨g, cap, cur, fz, hv, _⟩
    · exact ⟨_, _, _, hv⟩
    · exact ⟨_, _, _, hv⟩
  go_wp2
  go_ret2
  refine ⟨rfl, ?_, ?_, (hk1.grown hgrow (Lib.ownsRowF_kind hown)).setCell ⟨b, 1, none⟩ rfl _⟩
  · exact Lib.BuilderAtF.put (T := 129) (e := 5) hB hb2 (bs' := xs ++ Lib.strCells s) (by simpa [Lib.strCells_length] using hown') (by decide)
  · exact (hb1.grown hgrow (by have := hb1.size; omega) (fun k hk => (hown.lt k hk).1)).setCell (p := ⟨b, 1, none⟩) hB _

theorem builder_below {B b : Nat} {p : Value} {xs : List Value} {w w' : World} (h : Lib.BuilderAtF 129 5 B b p xs w) (hb : Below w.heap.size w w') : Lib.BuilderAtF 129 5 B b p xs w' := by
  obtain ⟨hB, v, hbk, hown, hne⟩ := h
  have keep : ∀ (k : Nat) (o : Obj), w.heap[k]? = some o → w'.heap[k]? = some o := by
    intro k o hk
    rw [hb.block k (Array.getElem?_eq_some_iff.1 hk).1]; exact hk
  refine ⟨hB, v, keep _ _ hbk, ⟨hown.1, ?_⟩, hne⟩
  rcases hown.2 with h | ⟨g, cap, cur, fz, hv, h1, h2, h3⟩
  · exact .inl h
  · exact .inr ⟨g, cap, cur, fz, hv, h1, keep _ _ h2, h3⟩
/-- Where a round of pair.Text stands: what the builder holds, and the round's own pair. -/
structure St (B P : Nat) (s : ByteArray) (m : Int) (x : List UInt8) (w0 w : World) : Prop where
  bld : Lib.IsBuilderF 129 5 B B (Lib.byteCells x) w
  below : Below B w0 w
  cel : w.heap[P]? = some (.cells #[.string s, .int .i64 m] 67 (0, 0))
  lt : B < P
  le : B ≤ w.heap.size
theorem St.next {B P : Nat} {s : ByteArray} {m : Int} {x : List UInt8} {w0 w w' : World} (h : St B P s m x w0 w) (hb : Below w.heap.size w w') : St B P s m x w0 w' := by
  refine ⟨?_, h.below.trans (hb.mono h.le), ?_, h.lt, Nat.le_trans h.le hb.size⟩
  · rcases h.bld with h' | h'
    · exact .inl (builder_below h' hb)
    · exact .inr (builder_below h' hb)
  · rw [hb.block P (Array.getElem?_eq_some_iff.1 h.cel).1]; exact h.cel
theorem St.wrote {B P : Nat} {s : ByteArray} {m : Int} {x y : List UInt8} {w0 w w' : World} (h : St B P s m x w0 w) (hA : Lib.BuilderAtF 129 5 B B (.pointer (some ⟨B, 0, none⟩)) (Lib.byteCells y) w') (hb : Below B w w') (hk : Lib.OthersKept 5 (some B) w w') : St B P s m y w0 w' := by
  have hlt := h.lt
  refine ⟨.inr hA, h.below.trans hb, hk P _ h.cel (by simp; omega) (by intro c fz e; simp at e), h.lt, Nat.le_trans h.le hb.size⟩
theorem St.c0 {B P : Nat} {s : ByteArray} {m : Int} {x : List UInt8} {w0 w : World} (h : St B P s m x w0 w) : w.cell? ⟨P, 0, none⟩ = some (.string s) := by rw [Lib.cell_of_heap h.cel]; rfl
theorem St.c1 {B P : Nat} {s : ByteArray} {m : Int} {x : List UInt8} {w0 w : World} (h : St B P s m x w0 w) : w.cell? ⟨P, 1, none⟩ = some (.int .i64 m) := by rw [Lib.cell_of_heap h.cel]; rfl
theorem cells_byte (x : List UInt8) (c : UInt8) : Lib.byteCells x ++ [.int .u8 c.toNat] = Lib.byteCells (x ++ [c]) := by simp [Lib.byteCells]
theorem cells_str (x : List UInt8) (s : ByteArray) : Lib.byteCells x ++ Lib.strCells s = Lib.byteCells (x ++ s.data.toList) := by
  rw [Lib.byteCells_append]; rfl
theorem ws_st {B P : Nat} {s : ByteArray} {m : Int} {x : List UInt8} {w0 w : World} (h : St B P s m x w0 w) (hx : x.length ≤ 100000000) (t : ByteArray) (ht : t.size ≤ 100000000) :
    Calls Tryz.prog 87 #[.pointer (some ⟨B, 0, none⟩), .string t] w fun e w' => e = .returned (.tuple #[.int .i64 t.size, .nilIface]) ∧ St B P s m (x ++ t.data.toList) w0 w' := by
  refine (writeString_any B B _ t w h.bld (by rw [Lib.byteCells_length]; omega) h.le).mono ?_
  rintro e w' ⟨rfl, hA, hb, hk⟩
  rw [cells_str] at hA
  exact ⟨rfl, h.wrote hA hb hk⟩
theorem wb_st {B P : Nat} {s : ByteArray} {m : Int} {x : List UInt8} {w0 w : World} (h : St B P s m x w0 w) (hx : x.length ≤ 100000000) (c : UInt8) (n : Int) (hn : n = c.toNat) :
    Calls Tryz.prog 89 #[.pointer (some ⟨B, 0, none⟩), .int .u8 n] w fun e w' => e = .returned .nilIface ∧ St B P s m (x ++ [c]) w0 w' := by
  refine (writeByte_any B B _ n w h.bld (by rw [Lib.byteCells_length]; omega) h.le).mono ?_
  rintro e w' ⟨rfl, hA, hb, hk⟩
  rw [hn, cells_byte] at hA
  exact ⟨rfl, h.wrote hA hb hk⟩

set_option maxHeartbeats 2000000 in
set_option maxRecDepth 100000 in
theorem text_anyT (v : Value) (l : List (ByteArray × Int)) (w : World) (E : EnvT w) (h : IsPairs w v l) (hf : Fits l) (hl : l.length ≤ 60000) :
    Calls Tryz.prog 57 #[v] w fun e w' => e = .returned (.string (bs (textL l))) ∧ Below w.heap.size w w' := by
  obtain ⟨a, cap, rfl, hc⟩ := h
  go_enter Tryz.func57, Tryz.ntmps57
  go_wp2
  go_loopw [8] (fun i wr => ∃ k : Nat, k ≤ l.length ∧ i = .int .i64 k ∧ Lib.IsBuilderF 129 5 w.heap.size w.heap.size (Lib.byteCells (textL (l.take k))) wr ∧ Below w.heap.size w wr ∧ w.heap.size < wr.heap.size) (fun i _ => l.length - (intOf i).toNat)
  case atStart => exact ⟨0, Nat.zero_le _, rfl, Lib.IsBuilderF.of (Lib.fresh_isBuilder _ _ w), (Below.refl _ _).alloc (Nat.le_refl _) _, by simp⟩
  case round =>
    obtain ⟨k, hk, rfl, hbld, hb, hsz⟩ := hrel
    by_cases hlt : k < l.length
    · obtain ⟨b, off, rfl, c0, c1⟩ := hc k hlt
      have hf1 := hf l[k] (List.getElem_mem hlt)
      have HS := Lib.hid (textL_step l k hlt)
      have hlen : (textL (l.take k)).length ≤ 1100 * 60000 := by
        have h1 := textL_len (l := l.take k) (fun p hp => hf p (List.mem_of_mem_take hp))
        rw [List.length_take] at h1
        omega
      have k0 := cell_below c0 hb
      have k1 := cell_below c1 hb
      have hi1 := itoa_len (l[k].1.size : Int) (by omega) (by omega)
      have hi2 := itoa_len l[k].2 hf1.2.1 hf1.2.2
      have hdl : l[k].1.data.toList.length = l[k].1.size := Array.length_toList
      have s0 : St w.heap.size wr.heap.size l[k].1 l[k].2 (textL (l.take k)) w (wr.alloc (.cells #[.string l[k].1, .int .i64 l[k].2] 67)) := by
        refine ⟨?_, hb.alloc (Nat.le_of_lt hsz) _, heap_alloc_new wr _, hsz, by simp; omega⟩
        rcases hbld with h' | h'
        · exact .inl (builder_below h' ((Below.refl _ _).alloc (Nat.le_refl _) _))
        · exact .inr (builder_below h' ((Below.refl _ _).alloc (Nat.le_refl _) _))
      clear c0 c1 hc hbld
      generalize l[k] = pp at *
      obtain ⟨s, m⟩ := pp
      simp only at *
      go_wp2_with (go_at_call 88; refine Hid.out ?_)
      refine Lib.hid ?_
      refine (itoa_anyT _ _ (E.below s0.below) (by omega) (by omega)).mono ?_
      rintro e w1 ⟨rfl, hb1⟩
      have s1 := s0.next hb1
      have E1 := E.below s1.below
      clear s0 hb1
      go_wp2_with (go_at_call 87; refine Hid.out ?_)
      refine Lib.hid ?_
      refine (ws_st s1 (by omega) _ (by rw [bs_size]; omega)).mono ?_
      rintro e w2 ⟨rfl, s2⟩
      clear s1
      go_wp2_with (go_at_call 89; refine Hid.out ?_)
      refine Lib.hid ?_
      refine (wb_st s2 (by simp only [List.length_append, bs_data]; omega) 58 58 rfl).mono ?_
      rintro e w3 ⟨rfl, s3⟩
      have q3 := s3.c0
      clear s2
      go_wp2_with (go_at_call 87; refine Hid.out ?_)
      refine Lib.hid ?_
      refine (ws_st s3 (by simp only [List.length_append, List.length_cons, List.length_nil, bs_data]; omega) s (by omega)).mono ?_
      rintro e w4 ⟨rfl, s4⟩
      clear s3 q3
      go_wp2_with (go_at_call 89; refine Hid.out ?_)
      refine Lib.hid ?_
      refine (wb_st s4 (by simp only [List.length_append, List.length_cons, List.length_nil, bs_data]; omega) 32 32 rfl).mono ?_
      rintro e w5 ⟨rfl, s5⟩
      have q5 := s5.c1
      clear s4
      go_wp2_with (go_at_call 88; refine Hid.out ?_)
      refine Lib.hid ?_
      refine (itoa_anyT _ _ (E.below s5.below) (by omega) (by omega)).mono ?_
      rintro e w6 ⟨rfl, hb6⟩
      have s6 := s5.next hb6
      clear s5 hb6 q5
      go_wp2_with (go_at_call 87; refine Hid.out ?_)
      refine Lib.hid ?_
      refine (ws_st s6 (by simp only [List.length_append, List.length_cons, List.length_nil, bs_data]; omega) _ (by rw [bs_size]; omega)).mono ?_
      rintro e w7 ⟨rfl, s7⟩
      clear s6
      go_wp2_with (go_at_call 89; refine Hid.out ?_)
      refine Lib.hid ?_
      refine (wb_st s7 (by simp only [List.length_append, List.length_cons, List.length_nil, bs_data]; omega) 10 10 rfl).mono ?_
      rintro e w8 ⟨rfl, s8⟩
      have hbl := s8.bld
      have hbe := s8.below
      have hlt8 : w.heap.size < w8.heap.size := Nat.lt_trans s8.lt (Array.getElem?_eq_some_iff.1 s8.cel).1
      have HB : Hid (Lib.IsBuilderF 129 5 w.heap.size w.heap.size (Lib.byteCells (textL (l.take (k + 1)))) w8) := by
        show Lib.IsBuilderF _ _ _ _ _ _
        rw [HS.out]
        simp only [bs_data, List.append_assoc] at hbl
        simp only [text1, List.append_assoc]
        exact hbl
      clear s7 s8 hbl k0 k1
      go_wp2
      go_roundw
      case rel => exact ⟨k + 1, by omega, by go_num, HB.out, hbe, hlt8⟩
      case measure => simp [intOf]; omega
    · go_wp2_with (go_at_call 90; refine (Any.Builder_String_any_k Tryz.lays169 Tryz.Builder_Extra_169 w.heap.size w.heap.size (textL (l.take k)) _ hbld (Nat.le_of_lt hsz)).mono ?_; rintro e w1 ⟨rfl, _, hb1, _⟩)
      go_ret
      rw [List.take_of_length_le (by omega)]
      exact ⟨rfl, hb.trans hb1⟩
theorem text_any (v : Value) (l : List (ByteArray × Int)) (w : World) (E : Env w) (h : IsPairs w v l) (hf : Fits l) (hl : l.length ≤ 60000) :
    Calls Tryz.prog 57 #[v] w fun e w' => e = .returned (.string (bs (textL l))) ∧ Below w.heap.size w w' := text_anyT v l w E.t h hf hl
end Go.Proofs.YtmgpacenooncjaaGreatDoor.Pp
/- What is written is read: the pairs of a text that pairs were written to are those pairs. Plain facts, of no program. -/
namespace Go.Proofs.YtmgpacenooncjaaGreatDoor.Pp
open Num
theorem cutAt_split (c : UInt8) (r : List UInt8) : ∀ a : List UInt8, (∀ b ∈ a, b ≠ c) → cutAt c (a ++ c :: r) = (a, r, true) := by
  intro a
  induction a with
  | nil => intro _; simp [cutAt]
  | cons b a ih =>
    intro h
    rw [List.cons_append, cutAt, if_neg (h b (List.mem_cons_self ..)), ih (fun x hx => h x (List.mem_cons_of_mem _ hx))]
theorem itoa_signs (v : Int) : ∀ b ∈ Lib.itoa v, b ≠ 58 ∧ b ≠ 10 := by
  intro b hb
  unfold Lib.itoa at hb
  have dig : ∀ n, b ∈ Lib.decDigits n → b ≠ 58 ∧ b ≠ 10 := by
    intro n h
    have h1 := (digB_iff b).1 (dec_dig n b h)
    constructor
    · rintro rfl; simp at h1
    · rintro rfl; simp at h1
  split at hb
  · rcases List.mem_cons.1 hb with rfl | hb
    · decide
    · exact dig _ hb
  · exact dig _ hb
theorem keyT_text (p : ByteArray × Int) (rest : List UInt8) (hp : p.1.size ≤ 1000) : keyT (text1 p ++ rest) = (p.1.data.toList, 32 :: (Lib.itoa p.2 ++ 10 :: rest), true) := by
  have e : text1 p ++ rest = Lib.itoa p.1.size ++ 58 :: (p.1.data.toList ++ 32 :: (Lib.itoa p.2 ++ 10 :: rest)) := by unfold text1; simp
  have hc := cutAt_split 58 (p.1.data.toList ++ 32 :: (Lib.itoa p.2 ++ 10 :: rest)) (Lib.itoa p.1.size) (fun b hb => (itoa_signs _ b hb).1)
  have hn := num_itoa (v := (p.1.size : Int)) (by omega) (by omega)
  have hl : p.1.data.toList.length = p.1.size := Array.length_toList
  unfold keyT
  rw [e, hc]
  simp only [hn, if_true]
  rw [if_pos ⟨by omega, by rw [List.length_append, hl]; omega⟩]
  rw [Int.toNat_natCast, ← hl, List.take_left, List.drop_left]
theorem stepT_text (p : ByteArray × Int) (rest : List UInt8) (hp : p.1.size ≤ 1000) (h0 : -9223372036854775808 ≤ p.2) (h1 : p.2 ≤ 9223372036854775807) : stepT (text1 p ++ rest) = ((p.1.data.toList, p.2), rest, true) := by
  have hc := cutAt_split 10 rest (Lib.itoa p.2) (fun b hb => (itoa_signs _ b hb).2)
  have hn := num_itoa h0 h1
  unfold stepT
  rw [keyT_text p rest hp]
  simp only [List.head?_cons, List.tail_cons, hc, hn, and_self, if_true]
theorem pairs_text : ∀ l : List (ByteArray × Int), Fits l → pairsL (textL l) = some (l.map fun p => (p.1.data.toList, p.2)) := by
  intro l
  induction l with
  | nil => intro _; rfl
  | cons p l ih =>
    intro h
    have hp := h p (List.mem_cons_self ..)
    have e : textL (p :: l) = text1 p ++ textL l := by simp [textL]
    have hs := stepT_text p (textL l) hp.1 hp.2.1 hp.2.2
    rw [e, pairsL_step (by unfold text1; simp) (by rw [hs]), hs, ih (fun q hq => h q (List.mem_cons_of_mem _ hq))]
    rfl
theorem pairs_conv (l : List (ByteArray × Int)) (h : Fits l) : ((pairsL (textL l)).getD []).map conv = l ∧ (pairsL (textL l)).isSome = true := by
  rw [pairs_text l h]
  refine ⟨?_, rfl⟩
  rw [Option.getD_some, List.map_map]
  have : (conv ∘ fun p : ByteArray × Int => (p.1.data.toList, p.2)) = id := by
    funext p
    show (bs p.1.data.toList, p.2) = p
    rw [bs_of]
  rw [this, List.map_id]
end Go.Proofs.YtmgpacenooncjaaGreatDoor.Pp
/- The contract of the document's Two. -/
namespace Go.Proofs.YtmgpacenooncjaaGreatDoor.Pp
open Go.ChangeShapes Go.WideShapes Go.ChangeAt Go.RowKit
open Grp
set_option maxRecDepth 100000 in
theorem twoR_any (k a b : Int) (w : World) : Calls Tryz.prog 85 #[.int .i64 k, .int .i64 a, .int .i64 b] w fun e w' => e = .returned (.int .i64 (two k a b)) ∧ w' = w := by
  unfold two
  by_cases h : k = 2
  · subst h
    go_enter Tryz.func85, Tryz.ntmps85
    go_wp2
    all_goals go_ret
    all_goals exact ⟨ret_numK (by omega), rfl⟩
  · have h' : (k == 2) = false := by simpa using h
    by_cases g : k = 3
    · subst g
      go_enter Tryz.func85, Tryz.ntmps85
      go_wp2
      all_goals go_ret
      all_goals exact ⟨ret_numK (by omega), rfl⟩
    · have g' : (k == 3) = false := by simpa using g
      go_enter Tryz.func85, Tryz.ntmps85
      go_wp2
      go_ret
      exact ⟨ret_numK (IntWalk.i64_left _).symm, rfl⟩
end Go.Proofs.YtmgpacenooncjaaGreatDoor.Pp
/- Contract of the document's Grouped: of each key one pair. -/
namespace Go.Proofs.YtmgpacenooncjaaGreatDoor.Pp
open Go.ChangeShapes Go.WideShapes Go.ChangeAt Go.RowKit
open Grp
/-- A group ends here. -/
def Ends (G l : List (ByteArray × Int)) (k : Nat) : Prop := ∀ A q, G = A ++ [q] → ∀ p, l[k]? = some p → q.1 ≠ p.1
theorem ends_step {kind : Int} {G l : List (ByteArray × Int)} {k : Nat} {p : ByteArray × Int} (h : Ends G l k) (hp : l[k]? = some p) : Grp.step kind G p = G ++ [p] := by
  rcases List.eq_nil_or_concat G with rfl | ⟨A, q, rfl⟩
  · rfl
  · rw [List.concat_eq_append] at h ⊢
    exact step_other kind A q p (h A q rfl p hp)
theorem ends_of {G l : List (ByteArray × Int)} {j : Nat} {s : ByteArray} {x : Int} (h : j = l.length ∨ ∀ p, l[j]? = some p → s ≠ p.1) : Ends (G ++ [(s, x)]) l j := by
  intro A q e p hp
  have h1 := (List.append_inj' e rfl).2
  simp only [List.cons.injEq, and_true] at h1
  subst h1
  rcases h with h | h
  · subst h; simp at hp
  · exact h p hp
set_option maxRecDepth 100000 in
set_option maxHeartbeats 4000000 in
theorem grouped_own (kind : Int) (v : Value) (l : List (ByteArray × Int)) (w : World) (h : IsPairs w v l) (hl : l.length ≤ 1000000) :
    Calls Tryz.prog 55 #[.int .i64 kind, v] w fun e w' => ∃ u, e = .returned u ∧ w'.ownsRow w.heap.size 67 2 u (grp kind l).length (cellsP (grp kind l)) ∧ Below w.heap.size w w' := by
  obtain ⟨ao, cap0, rfl, hc0⟩ := h
  have HC := Lib.hid hc0
  clear hc0
  obtain ⟨n, hn⟩ : ∃ n, n = l.length := ⟨_, rfl⟩
  rw [← hn] at hl ⊢
  have HN := Lib.hid hn
  clear hn
  go_enter Tryz.func55, Tryz.ntmps55
  go_wp2_with fail
  go_loopw [5, 6] (fun gv kv wr => ∃ (k : Nat), kv = .int .i64 k ∧ k ≤ n ∧ Below w.heap.size w wr ∧ Hid (wr.ownsRow w.heap.size 67 2 gv (grp kind (l.take k)).length (cellsP (grp kind (l.take k)))) ∧ Hid (Ends (grp kind (l.take k)) l k)) (fun _ kv _ => n - (intOf kv).toNat)
  case atStart => exact ⟨0, by go_num, Nat.zero_le _, Below.refl _ _, owns_nil _ _, show Ends _ _ _ from fun A q e => by simp [grp_nil] at e⟩
  case round =>
    obtain ⟨k, rfl, hkn, hb, HO, HE⟩ := hrel
    by_cases hlt : k < n
    · have hlt' : k < l.length := by have := HN.out; omega
      obtain ⟨b, off, ea, c0, c1⟩ := HC.out k hlt'
      subst ea
      have HG : Hid (grp kind (l.take (k + 1)) = grp kind (l.take k) ++ [l[k]]) := by
        show _ = _
        rw [List.take_succ_eq_append_getElem hlt', grp_snoc, ends_step HE.out (List.getElem?_eq_getElem hlt')]
      have hgl : (grp kind (l.take k)).length ≤ k := by
        have h1 := grp_len kind (l.take k)
        have h2 := List.length_take_le k l
        omega
      replace c0 := (hb.cell (block_lt c0)).trans c0
      replace c1 := (hb.cell (block_lt c1)).trans c1
      generalize l[k] = p at c0 c1 HG
      obtain ⟨G, hG⟩ : ∃ G, G = grp kind (l.take k) := ⟨_, rfl⟩
      rw [← hG] at HO HG hgl
      clear hG HE
      obtain ⟨ps, pv⟩ := p
      generalize wr = w1 at *
      go_wp2
      go_loopw [6] (fun jv wq => ∃ (j : Nat) (x : Int), jv = .int .i64 j ∧ j ≤ n ∧ k < j ∧ Below w1.heap.size w1 wq ∧ wq.heap[w1.heap.size]? = some (.cells #[.string ps, .int .i64 x] 67 (0, 0)) ∧ Hid (grp kind (l.take j) = G ++ [(ps, x)])) (fun jv _ => n - (intOf jv).toNat)
      case atStart => exact ⟨k + 1, pv, by go_num, by omega, by omega, blw_box _, heap_alloc_new _ _, HG⟩
      case round =>
        obtain ⟨j, x, rfl, hjn, hkj, hbq, hP, HJ⟩ := hrel
        clear c0 c1 HG
        have P0 : wr.cell? ⟨w1.heap.size, 0, none⟩ = some (.string ps) := by rw [cell_of_row wr _ _ _ _ (0, 0) hP]; rfl
        have P1 : wr.cell? ⟨w1.heap.size, 1, none⟩ = some (.int .i64 x) := by rw [cell_of_row wr _ _ _ _ (0, 0) hP]; rfl
        have fz : wr.frozen? ⟨w1.heap.size, 1, none⟩ = false := frozen_of_row wr _ _ _ _ hP
        have HP := Lib.hid hP
        clear hP
        by_cases hjlt : j < n
        · have hjlt' : j < l.length := by have := HN.out; omega
          obtain ⟨b', off', ea, d0, d1⟩ := HC.out j hjlt'
          injection ea with ea
          injection ea with ea eo
          subst ea eo
          have hbw := blw_step hb hbq
          replace d0 := (hbw.cell (block_lt d0)).trans d0
          replace d1 := (hbw.cell (block_lt d1)).trans d1
          have HS : Hid (grp kind (l.take (j + 1)) = Grp.step kind (G ++ [(ps, x)]) l[j]) := by
            show _ = _
            rw [List.take_succ_eq_append_getElem hjlt', grp_snoc, HJ.out]
          have HQ : Hid (l[j]? = some l[j]) := List.getElem?_eq_getElem hjlt'
          generalize l[j] = q at d0 d1 HS HQ
          obtain ⟨qs, qv⟩ := q
          simp only at d0 d1
          by_cases hk : qs = ps
          · subst hk
            have hjd : decide ((j : Int) < (n : Int)) = true := decide_eq_true (by omega)
            have HS2 : Hid (grp kind (l.take (j + 1)) = G ++ [(qs, two kind x qv)]) := by
              show _ = _
              rw [HS.out, step_same kind G (qs, x) (qs, qv) rfl]
            have T2 := Lib.hid (twoR_any kind x qv)
            clear HS HJ
            generalize two kind x qv = y at *
            go_wp2
            go_quiet (fail)
            go_wp2
            obtain ⟨w2, hw2⟩ : ∃ w2, w2 = wr.drewN nq := ⟨_, rfl⟩
            have hb2 : Below wr.heap.size wr w2 := by rw [hw2]; exact blw_drewN _ _
            have HP2 : Hid (w2.heap[w1.heap.size]? = some (.cells #[.string qs, .int .i64 x] 67 (0, 0))) := by rw [hw2]; exact HP.out
            replace P1 := (hb2.cell (block_lt P1)).trans P1
            replace d1 := (hb2.cell (block_lt d1)).trans d1
            have fz2 : w2.frozen? ⟨w1.heap.size, 1, none⟩ = false := by rw [hw2]; exact fz
            rw [← hw2]
            clear hw2 P0 d0 fz HP
            go_region_with (go_at_call 85; refine (T2.out _).mono ?_; rintro _ _ ⟨rfl, rfl⟩)
            all_goals
              have hb3 : Below w1.heap.size w1 (w2.setCell ⟨w1.heap.size, 1, none⟩ (.int .i64 y)).drew := ((blw_step hbq hb2).setCell (Nat.le_refl _) _).drew
              have HP3 : Hid ((w2.setCell ⟨w1.heap.size, 1, none⟩ (.int .i64 y)).drew.heap[w1.heap.size]? = some (.cells #[.string qs, .int .i64 y] 67 (0, 0))) := heap_set HP2.out _
              clear P1 d1 fz2 HP2
              generalize (w2.setCell ⟨w1.heap.size, 1, none⟩ (.int .i64 y)).drew = w3 at *
              go_wp2
              go_roundw
              case rel => exact ⟨j + 1, y, by go_num, by omega, by omega, hb3, HP3.out, HS2⟩
              case measure => simp [intOf]; omega
          · have hE := neq_list hk
            have hjd : decide ((j : Int) < (n : Int)) = true := decide_eq_true (by omega)
            have HEND : Hid (Ends (grp kind (l.take j)) l j) := by
              show Ends _ _ _
              rw [HJ.out]
              refine ends_of (.inr fun p hp => ?_)
              rw [HQ.out, Option.some.injEq] at hp
              subst hp
              exact fun e => hk e.symm
            clear HS HQ
            go_wp2
            go_quiet (fail)
            go_wp2_with (at_builtin; refine Hid.out ?_)
            refine Lib.hid ?_
            have hbq2 := blw_step hbq (blw_step (blw_drewN wr nq) (blw_box (.cells #[.string ps, .int .i64 x] 67)))
            refine wpList_append_pairs (w0 := w) rfl (.tmp 44) (.tmp 46) rfl _ G rfl (owns_blw HO.out hbq2) (.slice (some ⟨wr.heap.size, 0, none⟩) 1 1) [(ps, x)] rfl (isPairs_one ps x _ _ (by simp)) (by simp; omega) (blw_step hb hbq2) ?_
            intro v2 w2 hown2 hb2
            have HO2 : Hid (w2.ownsRow w.heap.size 67 2 v2 (grp kind (l.take j)).length (cellsP (grp kind (l.take j)))) := by rw [HJ.out]; exact hown2
            clear P0 P1 fz HP d0 d1 hE hk HO HC hown2
            go_wp2
            go_roundw
            case rel => exact ⟨j, rfl, by omega, hb2, HO2, HEND⟩
            case measure => simp [intOf]; omega
        · have hjd : decide ((j : Int) < (n : Int)) = false := decide_eq_false (by omega)
          have HEND : Hid (Ends (grp kind (l.take j)) l j) := by
            show Ends _ _ _
            rw [HJ.out]
            exact ends_of (.inl (by have := HN.out; omega))
          have hjn' : j = n := by omega
          have HJN := Lib.hid hjn'
          clear hjn'
          go_wp2
          go_quiet (fail)
          go_wp2_with (at_builtin; refine Hid.out ?_)
          refine Lib.hid ?_
          have hbq2 := blw_step hbq (blw_step (blw_drewN wr nq) (blw_box (.cells #[.string ps, .int .i64 x] 67)))
          refine wpList_append_pairs (w0 := w) rfl (.tmp 44) (.tmp 46) rfl _ G rfl (owns_blw HO.out hbq2) (.slice (some ⟨wr.heap.size, 0, none⟩) 1 1) [(ps, x)] rfl (isPairs_one ps x _ _ (by simp)) (by simp; omega) (blw_step hb hbq2) ?_
          intro v2 w2 hown2 hb2
          have HO2 : Hid (w2.ownsRow w.heap.size 67 2 v2 (grp kind (l.take j)).length (cellsP (grp kind (l.take j)))) := by rw [HJ.out]; exact hown2
          clear P0 P1 fz HP HO HC hown2
          go_wp2
          go_roundw
          case rel => exact ⟨j, rfl, by omega, hb2, HO2, HEND⟩
          case measure => simp [intOf]; omega
    · have hfin : Hid (wr.ownsRow w.heap.size 67 2 u5 (grp kind l).length (cellsP (grp kind l))) := by
        have h1 := HO.out
        rw [List.take_of_length_le (by have := HN.out; omega)] at h1
        exact h1
      clear HC HO HE
      go_wp2
      go_ret
      exact ⟨_, rfl, hfin.out, hb⟩
theorem grouped_any (kind : Int) (v : Value) (l : List (ByteArray × Int)) (w : World) (h : IsPairs w v l) (hl : l.length ≤ 1000000) :
    Calls Tryz.prog 55 #[.int .i64 kind, v] w fun e w' => ∃ u, e = .returned u ∧ IsPairs w' u (grp kind l) ∧ Below w.heap.size w w' :=
  (grouped_own kind v l w h hl).mono fun _ _ ⟨u, h1, h2, h3⟩ => ⟨u, h1, owns_isPairs h2, h3⟩
end Go.Proofs.YtmgpacenooncjaaGreatDoor.Pp
/- A block that is known whole: its cells, stores into it, other blocks. -/
namespace Go.Proofs.YtmgpacenooncjaaGreatDoor.Pp
open Go.ChangeShapes Go.WideShapes Go.ChangeAt Go.RowKit
/-- The block g holds just these. -/
def Blk (w : World) (g : Nat) (t : TypeId) (xs : List Value) : Prop := w.heap[g]? = some (.cells xs.toArray t (0, 0))
theorem Blk.lt {w : World} {g : Nat} {t : TypeId} {xs : List Value} (h : Blk w g t xs) : g < w.heap.size := by
  rcases Nat.lt_or_ge g w.heap.size with hb | hb
  · exact hb
  · unfold Blk at h; rw [Array.getElem?_eq_none hb] at h; cases h
theorem Blk.cell {w : World} {g : Nat} {t : TypeId} {xs : List Value} (h : Blk w g t xs) (i : Nat) : w.cell? ⟨g, i, none⟩ = xs[i]? := by
  rw [cell_of_row w g i _ t (0, 0) h]; simp
theorem Blk.at {w : World} {g : Nat} {t : TypeId} {xs : List Value} (h : Blk w g t xs) {i : Nat} {v : Value} (hv : xs[i]? = some v) : w.cell? ⟨g, i, none⟩ = some v := (h.cell i).trans hv
theorem Blk.frozen {w : World} {g : Nat} {t : TypeId} {xs : List Value} (h : Blk w g t xs) (i : Nat) : w.frozen? ⟨g, i, none⟩ = false := frozen_of_row w g i _ t h
theorem Blk.set {w : World} {g : Nat} {t : TypeId} {xs : List Value} (h : Blk w g t xs) (i : Nat) (v : Value) : Blk (w.setCell ⟨g, i, none⟩ v) g t (xs.set i v) := by
  unfold Blk
  rw [heap_setCell_same w g i _ t v h]
  simp
theorem Blk.other {w : World} {g g' : Nat} {t : TypeId} {xs : List Value} (h : Blk w g t xs) (i : Nat) (v : Value) (hne : g ≠ g') : Blk (w.setCell ⟨g', i, none⟩ v) g t xs := (Below.heap_setCell w ⟨g', i, none⟩ v g hne).trans h
theorem Blk.blw {w w' : World} {g : Nat} {t : TypeId} {xs : List Value} (h : Blk w g t xs) (hb : Below w.heap.size w w') : Blk w' g t xs := (hb.block g h.lt).trans h
theorem Blk.drewN {w : World} {g : Nat} {t : TypeId} {xs : List Value} (h : Blk w g t xs) (n : Nat) : Blk (w.drewN n) g t xs := h
theorem Blk.drew {w : World} {g : Nat} {t : TypeId} {xs : List Value} (h : Blk w g t xs) : Blk w.drew g t xs := h
theorem Blk.new (w : World) (cs : Array Value) (t : TypeId) : Blk (w.alloc (.cells cs t)) w.heap.size t cs.toList := by
  unfold Blk
  rw [heap_alloc_new]
theorem owns_blk {w : World} {base g n : Nat} {e : TypeId} {size : Nat} {xs : List Value} (h : w.ownsRow base e size (.slice (some ⟨g, 0, none⟩) n n) n xs) : Blk w g e xs ∧ base ≤ g := by
  rcases h.2 with ⟨h1, _⟩ | ⟨g', cap', cur, h1, h2, h3, _, _, h6, h7⟩
  · cases h1
  · injection h1 with e1 e2 e3
    injection e1 with e1
    injection e1 with e1
    subst e1 e3
    refine ⟨?_, h2⟩
    unfold Blk
    rw [h3, ← h7, List.take_of_length_le (by simp; omega)]
theorem set_mid {α : Type} (A : List α) (z v : α) (B : List α) (i : Nat) (h : i = A.length) : (A ++ z :: B).set i v = A ++ v :: B := by
  subst h
  rw [List.set_append_right _ _ (Nat.le_refl _), Nat.sub_self]
  rfl
end Go.Proofs.YtmgpacenooncjaaGreatDoor.Pp
/- Folders: Merge, and how its row lies; lists that are read back. -/
namespace Go.Proofs.YtmgpacenooncjaaGreatDoor.Pp
open Go.ChangeShapes Go.WideShapes Go.ChangeAt Go.RowKit
open Stable
set_option maxRecDepth 100000 in
set_option maxHeartbeats 1000000 in
theorem merge_full (v : Value) (ls : List (List (ByteArray × Int))) (w : World) (h : IsLists w v ls) (hl : ls.length ≤ 1000000) (hs : ls.flatten.length ≤ 1000000) :
    Calls Tryz.prog 61 #[v] w fun e w' => ∃ u Z, e = .returned u ∧ Sorted Z ∧ SE ls.flatten Z ∧ Z.length = ls.flatten.length ∧ IsPairs w' u Z ∧ Below w.heap.size w w' ∧ ∃ g, u = .slice (some ⟨g, 0, none⟩) Z.length Z.length := by
  have H := Lib.hid h
  have HSZ := Lib.hid hs
  obtain ⟨ao, cap, hv, _⟩ := h
  obtain ⟨n, hn⟩ : ∃ n, n = ls.length := ⟨_, rfl⟩
  subst hv
  rw [← hn] at H hl ⊢
  have HN := Lib.hid hn
  clear hn hs
  go_enter Tryz.func61, Tryz.ntmps61
  go_wp2_with fail
  go_loopw [3, 8] (fun av kv wr => ∃ (k : Nat), kv = .int .i64 k ∧ k ≤ n ∧ Below w.heap.size w wr ∧ Hid (wr.ownsRow w.heap.size 67 2 av (flatT ls k).length (cellsP (flatT ls k)))) (fun _ kv _ => n - (intOf kv).toNat)
  case atStart => exact ⟨0, by go_num, Nat.zero_le _, Below.refl _ _, owns_nil _ _⟩
  case round =>
    obtain ⟨k, rfl, hkn, hb, HO⟩ := hrel
    by_cases hlt : k < n
    · obtain ⟨b, off, u, ea, c0, hu⟩ := isLists_at H.out k (by have := HN.out; omega)
      subst ea
      have k0 := (hb.cell (block_lt c0)).trans c0
      have HU := Lib.hid (isPairs_below hu hb)
      obtain ⟨au, cu, eu, _⟩ := hu
      generalize (lsAt ls k).length = nu at eu
      subst eu
      clear c0
      go_wp2_with (at_builtin; refine Hid.out ?_)
      refine Lib.hid ?_
      refine wpList_append_pairs (w0 := w) rfl (.tmp 12) (.tmp 13) rfl _ (flatT ls k) rfl HO.out _ (lsAt ls k) rfl HU.out (by have h1 := flatT_le ls (k + 1); rw [flatT_succ ls k (by have := HN.out; omega), List.length_append] at h1; have := HSZ.out; omega) hb ?_
      intro v2 w2 hown2 hb2
      rw [← flatT_succ ls k (by have := HN.out; omega)] at hown2
      have HO2 := Lib.hid hown2
      clear hown2 k0 HU HO hb
      go_wp2
      go_roundw
      case rel => exact ⟨k + 1, by go_num, by omega, hb2, HO2⟩
      case measure => simp [intOf]; omega
    · have hk : flatT ls k = ls.flatten := by unfold flatT; rw [List.take_of_length_le (by have := HN.out; omega)]
      rw [hk] at HO
      have C1 := Lib.hid (sort_full _ ls.flatten wr (owns_isPairs HO.out) HSZ.out)
      clear HO hk
      go_wp2_with (go_at_call 50; refine Hid.out ?_)
      refine Lib.hid ?_
      refine C1.out.mono ?_
      rintro _ w2 ⟨u, Z, rfl, z1, z2, z3, z4, hb2, gz, hgz⟩
      have HGZ : Hid (u = .slice (some ⟨gz, 0, none⟩) Z.length Z.length) := by show _ = _; rw [z3]; exact hgz
      clear hgz
      have HB := hb.trans (hb2.mono hb.size)
      have HZ := Lib.hid z3
      clear C1 hb2 z3
      go_wp2
      go_ret
      exact ⟨u, Z, rfl, z1, z2, HZ.out, z4, HB, gz, HGZ.out⟩
theorem flat_cellsP (l : List (ByteArray × Int)) : flat l = cellsP l := rfl
theorem readOwn (l : List (ByteArray × Int)) (w : World) (E : Env w) (hf : Fits l) (hl : l.length ≤ 60000) :
    Calls Tryz.prog 56 #[.string (bs (textL l))] w fun e w' => ∃ v, e = .returned (.tuple #[v, .nilIface]) ∧ w'.ownsRow w.heap.size 67 2 v l.length (cellsP l) ∧ Below w.heap.size w w' := by
  refine (parse_own (textL l) w E (by have := textL_len hf; omega)).mono ?_
  rintro e w' ⟨⟨v, rfl, hv⟩, hb⟩
  obtain ⟨h1, h2⟩ := pairs_conv l hf
  rw [h1] at hv
  rw [h2]
  exact ⟨v, rfl, hv, hb⟩
end Go.Proofs.YtmgpacenooncjaaGreatDoor.Pp
/- Folders: a list that rises, cut where its keys turn, plainly. -/
namespace Go.Proofs.YtmgpacenooncjaaGreatDoor.Pp
open Grp
/-- Pairs of one key. -/
structure Same1 (k : ByteArray) (s : List (ByteArray × Int)) : Prop where
  ne : s ≠ []
  key : ∀ p ∈ s, p.1 = k
/-- Parts of a list, each of one key, no two neighbours of the same. -/
def Segs : List ByteArray → List (List (ByteArray × Int)) → Prop
  | [], [] => True
  | k :: ks, s :: ss => Same1 k s ∧ (∀ k', ks.head? = some k' → k ≠ k') ∧ Segs ks ss
  | _, _ => False
theorem segs_len : ∀ {ks : List ByteArray} {ss : List (List (ByteArray × Int))}, Segs ks ss → ks.length = ss.length
  | [], [], _ => rfl
  | _ :: _, _ :: _, h => by rw [List.length_cons, List.length_cons, segs_len h.2.2]
  | [], _ :: _, h => h.elim
  | _ :: _, [], h => h.elim
theorem segs_snoc : ∀ {ks : List ByteArray} {ss : List (List (ByteArray × Int))} {k : ByteArray} {s : List (ByteArray × Int)}, Segs ks ss → Same1 k s → (∀ k', ks.getLast? = some k' → k' ≠ k) → Segs (ks ++ [k]) (ss ++ [s])
  | [], [], k, s, _, h1, _ => ⟨h1, fun k' h => by simp at h, trivial⟩
  | k0 :: ks, s0 :: ss, k, s, h, h1, h2 => by
    refine ⟨h.1, ?_, segs_snoc h.2.2 h1 (fun k' hk => h2 k' (by
      cases ks with
      | nil => simp at hk
      | cons a b => rw [List.getLast?_cons_cons]; exact hk))⟩
    intro k' hk
    cases ks with
    | nil =>
      have hk2 : k = k' := by simpa using hk
      subst hk2
      exact h2 k0 rfl
    | cons a b => exact h.2.1 k' (by simpa using hk)
  | [], _ :: _, _, _, h, _, _ => h.elim
  | _ :: _, [], _, _, h, _, _ => h.elim
theorem grp_same (kind : Int) {k : ByteArray} : ∀ {s : List (ByteArray × Int)}, Same1 k s → ∃ x, grp kind s = [(k, x)] := by
  intro s
  generalize hn : s.length = n
  induction n generalizing s with
  | zero => intro h; exact absurd (List.length_eq_zero_iff.1 hn) h.ne
  | succ n ih =>
    intro h
    rcases List.eq_nil_or_concat s with rfl | ⟨s', q, rfl⟩
    · simp at hn
    · rw [List.concat_eq_append] at *
      have hq : q.1 = k := h.key q (by simp)
      rw [grp_snoc]
      by_cases hs : s' = []
      · subst hs
        exact ⟨q.2, by rw [grp_nil, step_nil, ← hq]⟩
      · obtain ⟨x, hx⟩ := ih (s := s') (by simpa using hn) ⟨hs, fun p hp => h.key p (by simp [hp])⟩
        rw [hx]
        have e := step_same kind [] (k, x) q hq.symm
        exact ⟨_, e⟩
/-- What the groups of all are: of each part one. -/
theorem grp_segs (kind : Int) : ∀ {ks : List ByteArray} {ss : List (List (ByteArray × Int))}, Segs ks ss → ∃ M : List (ByteArray × Int), grp kind ss.flatten = M ∧ M.map Prod.fst = ks ∧ ∀ i : Nat, (ss[i]?).map (grp kind) = (M[i]?).map fun p => [p]
  | [], [], _ => ⟨[], rfl, rfl, fun i => by simp⟩
  | k :: ks, s :: ss, h => by
    obtain ⟨M, h1, h2, h3⟩ := grp_segs kind h.2.2
    obtain ⟨x, hx⟩ := grp_same kind h.1
    refine ⟨(k, x) :: M, ?_, by rw [List.map_cons, h2], fun i => ?_⟩
    · rw [List.flatten_cons, grp_append, h1, hx]
      cases M with
      | nil => rfl
      | cons q M' =>
        have hq : ks.head? = some q.1 := by rw [← h2]; rfl
        have hne := h.2.1 _ hq
        have e := step_other kind [] (k, x) q hne
        simp only [join]
        rw [show ([(k, x)] : List (ByteArray × Int)) = [] ++ [(k, x)] from rfl, e]
        rfl
    · cases i with
      | zero => simp [hx]
      | succ i => simpa using h3 i
  | [], _ :: _, h => h.elim
  | _ :: _, [], h => h.elim
end Go.Proofs.YtmgpacenooncjaaGreatDoor.Pp
/- Folders: a list that rises is cut where its keys turn. -/
namespace Go.Proofs.YtmgpacenooncjaaGreatDoor.Pp
open Go.ChangeShapes Go.WideShapes Go.ChangeAt Go.RowKit
open Grp
theorem infoL : (Tryz.prog.info? 42).map (fun i => (i.zero, i.size, i.bytes)) = some (some (.slice none 0 0), 1, 24) := by kernel_rfl
/-- What byKey has so far. -/
structure SegI (Z : List (ByteArray × Int)) (i B : Nat) (ks : List ByteArray) (ss : List (List (ByteArray × Int))) : Prop where
  segs : Segs ks ss
  flat : ss.flatten = Z.take B
  run : ∀ (j : Nat) (p q : ByteArray × Int), B ≤ j → j ≤ i → Z[B]? = some p → Z[j]? = some q → q.1 = p.1
  sep : ∀ (k : ByteArray) (p : ByteArray × Int), ks.getLast? = some k → Z[B]? = some p → k ≠ p.1
  fin : i = Z.length → B = i
theorem SegI.start (Z : List (ByteArray × Int)) : SegI Z 0 0 [] [] :=
  ⟨trivial, rfl, fun j p q h1 h2 hp hq => by have : j = 0 := by omega
                                             subst this; rw [hp] at hq; cases hq; rfl, fun k p h => by simp at h, fun h => rfl⟩
theorem SegI.cut {Z : List (ByteArray × Int)} {i B : Nat} {ks : List ByteArray} {ss : List (List (ByteArray × Int))} (h : SegI Z i B ks ss) (hB : B ≤ i) (hi : i < Z.length) (hx : ∀ q, Z[i + 1]? = some q → q.1 ≠ Z[i].1) :
    SegI Z (i + 1) (i + 1) (ks ++ [Z[i].1]) (ss ++ [(Z.drop B).take (i + 1 - B)]) := by
  have hBl : B < Z.length := by omega
  have hk : Z[i].1 = Z[B].1 := h.run i Z[B] Z[i] hB (Nat.le_refl _) (List.getElem?_eq_getElem hBl) (List.getElem?_eq_getElem hi)
  refine ⟨segs_snoc h.segs ⟨?_, fun p hp => ?_⟩ (fun k' hk' => ?_), ?_, ?_, ?_, fun _ => rfl⟩
  · intro e
    have := congrArg List.length e
    rw [List.length_take, List.length_drop, List.length_nil] at this
    omega
  · obtain ⟨m, hm, rfl⟩ := List.getElem_of_mem hp
    rw [List.length_take, List.length_drop] at hm
    rw [List.getElem_take, List.getElem_drop, hk]
    exact h.run (B + m) _ _ (by omega) (by omega) (List.getElem?_eq_getElem hBl) (List.getElem?_eq_getElem (by omega))
  · rw [hk]
    exact h.sep k' Z[B] hk' (List.getElem?_eq_getElem hBl)
  · rw [List.flatten_append, h.flat, List.flatten_singleton, ← List.take_add]
    congr 1
    omega
  · intro j p q h1 h2 hp hq
    have : j = i + 1 := by omega
    subst this
    rw [hp] at hq
    cases hq
    rfl
  · intro k p hk' hp
    rw [List.getLast?_append, List.getLast?_singleton, Option.some_or, Option.some.injEq] at hk'
    subst hk'
    exact fun e => hx p hp e.symm
theorem SegI.on {Z : List (ByteArray × Int)} {i B : Nat} {ks : List ByteArray} {ss : List (List (ByteArray × Int))} (h : SegI Z i B ks ss) (hB : B ≤ i) (hi : i + 1 < Z.length) (hx : Z[i + 1].1 = Z[i].1) : SegI Z (i + 1) B ks ss := by
  refine ⟨h.segs, h.flat, fun j p q h1 h2 hp hq => ?_, h.sep, fun e => by omega⟩
  by_cases hj : j = i + 1
  · subst hj
    rw [List.getElem?_eq_getElem hi, Option.some.injEq] at hq
    rw [← hq, hx]
    exact h.run i p Z[i] hB (Nat.le_refl _) hp (List.getElem?_eq_getElem (by omega))
  · exact h.run j p q h1 (by omega) hp hq
theorem isPairs_mid {w : World} {b off n cap : Nat} {l : List (ByteArray × Int)} (h : IsPairs w (.slice (some ⟨b, off, none⟩) n cap) l) (B m : Nat) (hm : B + m ≤ l.length) (cap' : Nat) : IsPairs w (.slice (some ⟨b, off + B * 2, none⟩) m cap') ((l.drop B).take m) := by
  obtain ⟨a, c, e, hc⟩ := h
  have hlen : ((l.drop B).take m).length = m := by rw [List.length_take, List.length_drop]; omega
  refine ⟨some ⟨b, off + B * 2, none⟩, cap', by rw [hlen], fun i hi => ?_⟩
  rw [hlen] at hi
  obtain ⟨b', off', ea, c0, c1⟩ := hc (B + i) (by omega)
  injection e with e1 e2 e3
  rw [← e1, Option.some.injEq, Addr.mk.injEq] at ea
  obtain ⟨rfl, rfl, _⟩ := ea
  refine ⟨b, off + B * 2, rfl, ?_, ?_⟩
  · rw [List.getElem_take, List.getElem_drop, show off + B * 2 + i * 2 = off + (B + i) * 2 by omega]; exact c0
  · rw [List.getElem_take, List.getElem_drop, show off + B * 2 + i * 2 + 1 = off + (B + i) * 2 + 1 by omega]; exact c1
theorem isLists_of {w : World} {base : Nat} {v : Value} {us : List Value} {ss : List (List (ByteArray × Int))} (h : w.ownsRow base 42 1 v us.length us) (hl : us.length = ss.length) (hp : ∀ j (h : j < ss.length) (h' : j < us.length), IsPairs w us[j] ss[j]) : IsLists w v ss := by
  rcases h.2 with ⟨rfl, h0⟩ | ⟨g, cap, cur, rfl, _⟩
  · exact ⟨none, 0, by rw [← hl, h0], fun i hi => by omega⟩
  · refine ⟨some ⟨g, 0, none⟩, cap, by rw [hl], fun i hi => ⟨g, 0, us[i], rfl, ?_, hp i hi (by omega)⟩⟩
    rw [Nat.zero_add, h.cellAt i (by omega)]
    exact List.getElem?_eq_getElem (by omega)
set_option maxRecDepth 100000 in
set_option maxHeartbeats 2000000 in
theorem byKey_any (g off n : Nat) (Z : List (ByteArray × Int)) (w : World) (h : IsPairs w (.slice (some ⟨g, off, none⟩) n n) Z) (hn : n = Z.length) (hl : n ≤ 1000000) :
    Calls Tryz.prog 60 #[.slice (some ⟨g, off, none⟩) n n] w fun e w' => ∃ kv ks ss, e = .returned kv ∧ Segs ks ss ∧ ss.flatten = Z ∧ IsLists w' kv ss ∧ Below w.heap.size w w' := by
  obtain ⟨i0, hi0, hz0, hz1, hz2⟩ := info_parts infoL
  have HP := Lib.hid h
  have HN := Lib.hid hn
  have HC : Hid (∀ j (h : j < Z.length), w.cell? ⟨g, off + j * 2, none⟩ = some (.string Z[j].1)) := fun j hj => by
    obtain ⟨a, c, e, hc⟩ := h
    obtain ⟨b', off', ea, c0, _⟩ := hc j hj
    injection e with e1 e2 e3
    rw [← e1, Option.some.injEq, Addr.mk.injEq] at ea
    obtain ⟨rfl, rfl, _⟩ := ea
    exact c0
  clear h hn
  go_enter Tryz.func60, Tryz.ntmps60
  go_wp2
  go_loopg [3, 4, 8] n (fun gg lv bv kv wr => ∃ (i B : Nat) (ks : List ByteArray) (ss : List (List (ByteArray × Int))) (us : List Value), gg = n - i ∧ i ≤ n ∧ B ≤ i ∧ kv = .int .i64 i ∧ bv = .int .i64 B ∧ Hid (SegI Z i B ks ss) ∧ Hid (us.length = ss.length) ∧ us.length ≤ i ∧ Hid (∀ j (h : j < ss.length) (h' : j < us.length), IsPairs w us[j] ss[j]) ∧ Hid (∀ u ∈ us, u.oneCell' = true) ∧ Hid (wr.ownsRow w.heap.size 42 1 lv us.length us) ∧ Below w.heap.size w wr)
  case atStart => exact ⟨0, 0, [], [], [], rfl, Nat.zero_le _, Nat.le_refl _, rfl, rfl, SegI.start Z, rfl, Nat.le_refl _, (show ∀ j (h : j < _) (h' : j < _), _ from fun j h => by simp at h), (show ∀ u ∈ _, _ from fun u hu => by cases hu), World.ownsRow_nil _ _ _ _, Below.refl _ _⟩
  case round =>
    obtain ⟨i, B, ks, ss, us, hgi, hi, hBi, rfl, rfl, HS, HUL, hul, HUP, HU1, HO, hb⟩ := hrel
    have HGI := Lib.hid hgi
    clear hgi
    by_cases hlt : i < n
    · have hiz : i < Z.length := by have := HN.out; omega
      have c0 := (hb.cell (block_lt (HC.out i hiz))).trans (HC.out i hiz)
      obtain ⟨i1, hi1⟩ : ∃ i1 : Nat, (i : Int) + 1 = (i1 : Int) := ⟨i + 1, rfl⟩
      have HI1 : Hid (i1 = i + 1) := by show _ = _; omega
      have hi1n : i1 ≤ n := by omega
      have hBi1 : B ≤ i1 := by omega
      have hBn : B < n := by omega
      have hbs := hb.size
      obtain ⟨x0, hx0⟩ : ∃ x0, x0 = Z[i].1 := ⟨_, rfl⟩
      have HX0 := Lib.hid hx0
      rw [← hx0] at c0
      have HSL : Hid (∀ cap', IsPairs w (.slice (some ⟨g, off + B * 2, none⟩) (i1 - B) cap') ((Z.drop B).take (i + 1 - B))) := fun cap' => by
        have e : i1 - B = i + 1 - B := by rw [HI1.out]
        rw [e]
        exact isPairs_mid HP.out B (i + 1 - B) (by omega) cap'
      clear hx0
      by_cases hE : i1 = n
      case' pos =>
        have hEq : ((i1 : Int) == (n : Int)) = true := by simp [hE]
        have HX : Hid (∀ q, Z[i + 1]? = some q → q.1 ≠ Z[i].1) := fun q hq => by
          rw [List.getElem?_eq_none (by have := HN.out; have := HI1.out; omega)] at hq
          cases hq
        clear hE
        go_wp2
        go_quiet (fail)
      case' neg =>
        have hEq : ((i1 : Int) == (n : Int)) = false := by simp only [beq_eq_false_iff_ne, ne_eq]; omega
        have hi1z : i + 1 < Z.length := by have := HN.out; have := HI1.out; omega
        have hi1l : i1 < n := by omega
        have c1 := (hb.cell (block_lt (HC.out (i + 1) hi1z))).trans (HC.out (i + 1) hi1z)
        obtain ⟨x1, hx1⟩ : ∃ x1, x1 = Z[i + 1].1 := ⟨_, rfl⟩
        rw [← hx1, ← HI1.out] at c1
        have HX1 := Lib.hid hx1
        clear hx1 hE
        by_cases hk : x1 = x0
        case' pos =>
          have HON := Lib.hid (HS.out.on hBi hi1z (by rw [← HX1.out, ← HX0.out, hk]))
          subst hk
          have hkk : (x1.toList == x1.toList) = true := by simp
          go_wp2
          go_quiet (fail)
          have hb2 : Below w.heap.size w (wr.drewN nq) := blw_step hb (blw_drewN _ _)
          have HO2 := Lib.hid (owns_drewN HO.out nq)
          generalize wr.drewN nq = w3 at *
          clear c0 c1 HO
          go_wp2
          go_roundg (n - (i + 1))
          case measure => have := HGI.out; omega
          case rel => exact ⟨i + 1, B, ks, ss, us, rfl, by omega, by omega, by go_num, rfl, HON, HUL, by omega, HUP, HU1, HO2, hb2⟩
        case' neg =>
          have hkk : (x1.toList == x0.toList) = false := neq_list hk
          have HX : Hid (∀ q, Z[i + 1]? = some q → q.1 ≠ Z[i].1) := fun q hq => by
            rw [List.getElem?_eq_getElem hi1z, Option.some.injEq] at hq
            rw [← hq, ← HX1.out, ← HX0.out]
            exact hk
          clear hk
          go_wp2
          go_quiet (fail)
      all_goals
        have hb2 : Below w.heap.size w (wr.drewN nq) := blw_step hb (blw_drewN _ _)
        have HO2 := Lib.hid (owns_drewN HO.out nq)
        generalize wr.drewN nq = w3 at *
        have hbs2 := hb2.size
        have HCT := Lib.hid (HS.out.cut hBi hiz HX.out)
        clear HO hb
        go_wp2_with (at_builtin; refine Hid.out ?_)
        refine Lib.hid ?_
        refine wpList_append_own _ rfl (.tmp 30) (.tmp 36) 48 rfl w.heap.size 42 i0 (.slice none 0 0) 1 24 Tryz.underlying48 hi0 hz0 hz1 hz2 rfl (by decide) _ us.length us rfl (HO2.out.alloc _) ⟨w3.heap.size, 0, none⟩ 1 1 [.slice (some ⟨g, off + B * 2, none⟩) (i1 - B) (n - B)] rfl rfl ?c1 ?c5 ?c2 ?c3 ?c4 ?_
        case c1 => exact lit_cells rfl (show 1 ≤ maxLen by decide)
        case c5 => intro u hu; simp at hu; subst hu; rfl
        case c2 => unfold maxLen; omega
        case c3 => omega
        case c4 => simp; omega
        intro v4 w4 hown4 hg4 _
        have hb4 : Below w.heap.size w w4 := (hb2.alloc (by omega) _).grown hg4 (by simp; omega) (fun k hk => (HO2.out.lt k hk).1)
        have HO4 : Hid (w4.ownsRow w.heap.size 42 1 v4 (us ++ [Value.slice (some ⟨g, off + B * 2, none⟩) (i1 - B) (n - B)]).length (us ++ [Value.slice (some ⟨g, off + B * 2, none⟩) (i1 - B) (n - B)])) := by
          show World.ownsRow _ _ _ _ _ _ _
          rw [List.length_append]
          exact hown4
        have HUP2 : Hid (∀ j (h : j < (ss ++ [(Z.drop B).take (i + 1 - B)]).length) (h' : j < (us ++ [Value.slice (some ⟨g, off + B * 2, none⟩) (i1 - B) (n - B)]).length), IsPairs w (us ++ [Value.slice (some ⟨g, off + B * 2, none⟩) (i1 - B) (n - B)])[j] (ss ++ [(Z.drop B).take (i + 1 - B)])[j]) := fun j h h' => by
          by_cases hj : j < us.length
          · rw [List.getElem_append_left hj, List.getElem_append_left (by rw [← HUL.out]; exact hj)]
            exact HUP.out j (by rw [← HUL.out]; exact hj) hj
          · rw [List.length_append, List.length_singleton] at h'
            have ej : j = us.length := by omega
            subst ej
            rw [List.getElem_append_right (Nat.le_refl _), List.getElem_append_right (by rw [HUL.out]; exact Nat.le_refl _)]
            simp only [HUL.out, Nat.sub_self, List.getElem_cons_zero]
            exact HSL.out _
        have HUL2 : Hid ((us ++ [Value.slice (some ⟨g, off + B * 2, none⟩) (i1 - B) (n - B)]).length = (ss ++ [(Z.drop B).take (i + 1 - B)]).length) := by
          show _ = _
          rw [List.length_append, List.length_append, HUL.out]
          rfl
        have HU12 : Hid (∀ u ∈ us ++ [Value.slice (some ⟨g, off + B * 2, none⟩) (i1 - B) (n - B)], u.oneCell' = true) := fun u hu => by
          rcases List.mem_append.1 hu with hu | hu
          · exact HU1.out u hu
          · rw [List.mem_singleton] at hu
            subst hu
            rfl
        clear hown4 hg4 HO2
        go_wp2
        go_roundg (n - (i + 1))
        case measure => have := HGI.out; omega
        case rel => exact ⟨i + 1, i + 1, _, _, _, rfl, by omega, Nat.le_refl _, by go_num, by go_num, HCT, HUL2, by rw [List.length_append, List.length_singleton]; omega, HUP2, HU12, HO4, hb4⟩
    · have hfin : ss.flatten = Z := by
        have e : i = Z.length := by have := HN.out; omega
        have := HS.out.fin e
        rw [HS.out.flat, List.take_of_length_le (by omega)]
      have HF := Lib.hid hfin
      clear hfin
      go_wp2
      go_ret
      exact ⟨_, ks, ss, rfl, HS.out.segs, HF.out, isLists_of HO.out HUL.out (fun j h h' => isPairs_below (HUP.out j h h') hb), hb⟩
end Go.Proofs.YtmgpacenooncjaaGreatDoor.Pp
/- Folders: a run in memory; New. -/
namespace Go.Proofs.YtmgpacenooncjaaGreatDoor.Pp
open Go.ChangeShapes Go.WideShapes Go.ChangeAt Go.RowKit
open Grp Stable
/-- A run: its own block, its keys' lists (which lie below it), the row of what is made. -/
structure IsRun (w : World) (R : Nat) (kind : Int) (kv : Value) (ss : List (List (ByteArray × Int))) (mv : Value) (made : List (ByteArray × Int)) : Prop where
  blk : Blk w R 103 [.int .i64 kind, kv, mv]
  keys : ∀ w', Below R w w' → IsLists w' kv ss
  row : w.ownsRow (R + 1) 67 2 mv made.length (cellsP made)
/-- Nothing has turned but a block, a row's, and what is new. -/
structure Fr (w w' : World) (R : Nat) (o : Option Nat) : Prop where
  os : w'.os = w.os
  tape : w'.tape = w.tape
  output : w'.output = w.output
  size : w.heap.size ≤ w'.heap.size
  block : ∀ k, k < w.heap.size → k ≠ R → some k ≠ o → w'.heap[k]? = w.heap[k]?
theorem Fr.refl (w : World) (R : Nat) (o : Option Nat) : Fr w w R o := ⟨rfl, rfl, rfl, Nat.le_refl _, fun _ _ _ _ => rfl⟩
theorem Fr.of_blw {w w' : World} (h : Below w.heap.size w w') (R : Nat) (o : Option Nat) : Fr w w' R o := ⟨h.os, h.tape, h.output, h.size, fun k hk _ _ => h.block k hk⟩
theorem Fr.blw {w w1 w2 : World} {R : Nat} {o : Option Nat} (h : Fr w w1 R o) (k : Below w1.heap.size w1 w2) : Fr w w2 R o :=
  ⟨k.os.trans h.os, k.tape.trans h.tape, k.output.trans h.output, Nat.le_trans h.size k.size, fun i hi h1 h2 => (k.block i (Nat.lt_of_lt_of_le hi h.size)).trans (h.block i hi h1 h2)⟩
theorem Fr.put {w w1 : World} {R : Nat} {o : Option Nat} (h : Fr w w1 R o) (i : Nat) (v : Value) : Fr w (w1.setCell ⟨R, i, none⟩ v) R o := by
  have k := Only.setCell (Only.refl R w1) i v
  exact ⟨k.os.trans h.os, k.tape.trans h.tape, k.output.trans h.output, Nat.le_trans h.size k.size, fun j hj h1 h2 => (k.block j (Nat.lt_of_lt_of_le hj h.size) (fun e => h1 (Option.some.inj e))).trans (h.block j hj h1 h2)⟩
theorem Fr.grown {w w1 w2 : World} {R : Nat} {o o' : Option Nat} (h : Fr w w1 R o) (k : w1.grownBy w2 o') (ho : o' = o ∨ ∀ b, o' = some b → w.heap.size ≤ b) : Fr w w2 R o :=
  ⟨k.os.trans h.os, k.tape.trans h.tape, k.output.trans h.output, Nat.le_trans h.size k.size, fun j hj h1 h2 => (k.block j (Nat.lt_of_lt_of_le hj h.size) (fun e => by
    rcases ho with rfl | ho
    · exact h2 e
    · have := ho j e.symm; omega)).trans (h.block j hj h1 h2)⟩
theorem Fr.below {w w' : World} {R B : Nat} {o : Option Nat} (h : Fr w w' R o) (hB : B ≤ w.heap.size) (hR : B ≤ R) (ho : ∀ b, o = some b → B ≤ b) : Below B w w' :=
  ⟨h.os, h.tape, h.output, h.size, fun k hk => h.block k (by omega) (by omega) (fun e => by have := ho k e.symm; omega)⟩
theorem IsRun.blw {w w' : World} {R : Nat} {kind : Int} {kv mv : Value} {ss : List (List (ByteArray × Int))} {made : List (ByteArray × Int)} (h : IsRun w R kind kv ss mv made) (hb : Below w.heap.size w w') : IsRun w' R kind kv ss mv made :=
  ⟨h.blk.blw hb, fun w2 h2 => h.keys w2 ((hb.mono (Nat.le_of_lt h.blk.lt)).trans h2), owns_blw h.row hb⟩
set_option maxRecDepth 100000 in
set_option maxHeartbeats 1000000 in
theorem new_bad (kind : Int) (v : Value) (w : World) (hk : kindB kind = false) :
    Calls Tryz.prog 26 #[.int .i64 kind, v] w fun e w' => e = .returned (.tuple #[.pointer none, .iface 70 (.int .i64 3)]) ∧ w' = w := by
  have C := Lib.hid (foldCheck_any kind w)
  rw [show kindV kind = .iface 70 (.int .i64 3) by unfold kindV; rw [hk]; rfl] at C
  go_enter Tryz.func26, Tryz.ntmps26
  go_wp2_with (go_at_call 59; refine C.out.mono ?_; rintro _ w1 ⟨rfl, h1⟩; rw [h1]; clear h1 w1)
  go_ret2
  exact ⟨rfl, rfl⟩
/-- What New makes. -/
structure Fresh (w w' : World) (ls : List (List (ByteArray × Int))) (kind : Int) (R : Nat) (kv : Value) (Z : List (ByteArray × Int)) (ks : List ByteArray) (ss : List (List (ByteArray × Int))) : Prop where
  sorted : Sorted Z
  se : SE ls.flatten Z
  len : Z.length = ls.flatten.length
  segs : Segs ks ss
  flat : ss.flatten = Z
  low : w.heap.size ≤ R
  run : IsRun w' R kind kv ss (.slice none 0 0) []
  bel : Below w.heap.size w w'
set_option maxRecDepth 100000 in
set_option maxHeartbeats 1000000 in
theorem new_ok (kind : Int) (v : Value) (ls : List (List (ByteArray × Int))) (w : World) (hk : kindB kind = true) (h : IsLists w v ls) (hl : ls.length ≤ 60000) (hs : ls.flatten.length ≤ 60000) :
    Calls Tryz.prog 26 #[.int .i64 kind, v] w fun e w' => ∃ R kv Z ks ss, e = .returned (.tuple #[.pointer (some ⟨R, 0, none⟩), .nilIface]) ∧ Fresh w w' ls kind R kv Z ks ss := by
  have C := Lib.hid (foldCheck_any kind w)
  rw [show kindV kind = .nilIface by unfold kindV; rw [hk]; rfl] at C
  have M := Lib.hid (merge_full v ls w h (by omega) (by omega))
  obtain ⟨ao, cap, rfl, _⟩ := h
  go_enter Tryz.func26, Tryz.ntmps26
  go_wp2_with (first | (go_at_call 59; refine C.out.mono ?_; rintro _ w1 ⟨rfl, h1⟩; rw [h1]; clear h1 w1) | (go_at_call 61; refine Hid.out ?_))
  refine Lib.hid ?_
  refine M.out.mono ?_
  clear M C
  rintro _ w1 ⟨u, Z, rfl, hso, hse, hlen, hZ, hb1, gz, rfl⟩
  have BK := Lib.hid (byKey_any gz 0 Z.length Z w1 hZ rfl (by omega))
  have HA := Lib.hid (And.intro hso (And.intro hse (And.intro hlen hb1)))
  obtain ⟨nz, hnz⟩ : ∃ nz, nz = Z.length := ⟨_, rfl⟩
  rw [← hnz] at BK ⊢
  clear hso hse hlen hb1 hZ hnz
  dsimp only
  go_wp2_with (go_at_call 60; refine Hid.out ?_)
  refine Lib.hid ?_
  refine BK.out.mono ?_
  clear BK
  rintro _ w2 ⟨kv, ks, ss, rfl, hsg, hfl, hLs, hb2⟩
  obtain ⟨hso, hse, hlen, hb1⟩ := HA.out
  have hb12 := blw_step hb1 hb2
  obtain ⟨w3, hw3⟩ : ∃ w3, w3 = w2.alloc (.cells #[.int .i64 kind, kv, .slice none 0 0] 103) := ⟨_, rfl⟩
  have hb3 : Below w2.heap.size w2 w3 := by rw [hw3]; exact blw_box _
  obtain ⟨R, hR⟩ : ∃ R, R = w2.heap.size := ⟨_, rfl⟩
  have HF : Hid (Fresh w w3 ls kind R kv Z ks ss) := by
    refine ⟨hso, hse, hlen, hsg, hfl, by rw [hR]; exact hb12.size, ⟨?_, fun w' h' => ?_, World.ownsRow_nil _ _ _ _⟩, blw_step hb12 hb3⟩
    · rw [hw3, hR]; exact Blk.new w2 _ _
    · rw [hR] at h'
      obtain ⟨a, c, e, hc⟩ := hLs
      have hbb : Below w2.heap.size w2 w' := hb3.trans h'
      refine ⟨a, c, e, fun i hi => ?_⟩
      obtain ⟨b, off, u, ea, c0, hu⟩ := hc i hi
      exact ⟨b, off, u, ea, (hbb.cell (block_lt c0)).trans c0, isPairs_below hu hbb⟩
  have HW := Lib.hid hw3
  have HR := Lib.hid hR
  obtain ⟨ko, kc, rfl, _⟩ := hLs
  clear hw3 hR hso hse hlen hsg hfl hb3 hb12 hb1 hb2 HA
  dsimp only
  go_wp2
  rw [← HW.out, ← HR.out]
  go_ret2
  exact ⟨R, _, Z, ks, ss, rfl, HF.out⟩
end Go.Proofs.YtmgpacenooncjaaGreatDoor.Pp
/- Pieces of a function's code, by their numbers. -/
namespace Go.Proofs.YtmgpacenooncjaaGreatDoor.Pp
open Go.ChangeShapes Go.WideShapes Go.ChangeAt Go.RowKit
/-- The block of that number in a piece of code. -/
def findBlock (n : Nat) : Code → Option Code
  | .block k c => if k = n then some (.block k c) else findBlock n c
  | .loop c => findBlock n c
  | .scope c => findBlock n c
  | .seq a b => match findBlock n a with
    | some c => some c
    | none => findBlock n b
  | .cond _ a b => match findBlock n a with
    | some c => some c
    | none => findBlock n b
  | _ => none
/-- The region of that number in a piece of code. -/
def findRegion (n : Nat) : Code → Option Code
  | .region k l b => if k = n then some (.region k l b) else none
  | .block _ c => findRegion n c
  | .loop c => findRegion n c
  | .scope c => findRegion n c
  | .seq a b => match findRegion n a with
    | some c => some c
    | none => findRegion n b
  | .cond _ a b => match findRegion n a with
    | some c => some c
    | none => findRegion n b
  | _ => none
def regionIn (o : Option Code) (n : Nat) : Code := ((o.bind (findRegion n)).getD .skip)
def pieceIn (o : Option Code) (n : Nat) : Code := ((o.bind (findBlock n)).getD .skip)
theorem wp_norm {c : Code} {K : Act → World → Prop} {Q0 : Exit → Act → World → Prop} {a : Act} {w : World} (h : c.wp Tryz.prog (Exit.then K fun _ _ _ => False) a w) : c.wp Tryz.prog (Exit.then K Q0) a w :=
  wp_mono h fun e a w hq => by
    cases e with
    | normal => exact hq
    | exit id => exact False.elim hq
    | goto l => exact False.elim hq
    | ret => exact False.elim hq
    | panic ch => exact False.elim hq
    | outgrown => exact False.elim hq
end Go.Proofs.YtmgpacenooncjaaGreatDoor.Pp
