/- What TopWhen calls besides: keys of pairs; Sort, told by a function; plain facts of rules that ask, ask not, and don't ask. -/
import Derived.Test.YtahhcabmpcjddaaDoorM5
namespace Go.Proofs.YtahhcabmpcjddaaDoor
open Go.ChangeShapes Go.WideShapes Go.ChangeAt Go.RowKit
/-- The cells that texts fill. -/
def strB (l : List ByteArray) : List Value := l.map fun x => .string x
theorem strB_append (a b : List ByteArray) : strB (a ++ b) = strB a ++ strB b := by simp [strB]
theorem isTexts_ofB {w : World} {base n : Nat} {v : Value} {l : List ByteArray} (hn : n = l.length) (h : w.ownsRow base 9 1 v n (strB l)) : IsTexts w v l := by
  subst hn
  rcases h.2 with ⟨rfl, h0⟩ | ⟨g, cap, cur, rfl, _⟩
  · exact ⟨none, 0, by rw [h0], fun i hi => by omega⟩
  · refine ⟨some ⟨g, 0, none⟩, cap, rfl, fun i hi => ⟨g, 0, rfl, ?_⟩⟩
    rw [Nat.zero_add, h.cellAt i (by omega)]
    simp [strB, hi]
theorem keys_take (l : List (ByteArray × Int)) (k : Nat) (h : k < l.length) : Pp.Tot.keysOf (l.take (k + 1)) = Pp.Tot.keysOf (l.take k) ++ [l[k].1] := by
  unfold Pp.Tot.keysOf
  rw [List.take_succ_eq_append_getElem h, List.map_append]
  rfl
set_option maxRecDepth 100000 in
set_option maxHeartbeats 1000000 in
theorem keys_any (v : Value) (l : List (ByteArray × Int)) (w : World) (h : Pp.IsPairs w v l) (hl : l.length ≤ 1000000) :
    Calls Tryd.prog 20 #[v] w fun e w' => ∃ u, e = .returned u ∧ IsTexts w' u (Pp.Tot.keysOf l) ∧ Below w.heap.size w w' := by
  obtain ⟨i0, hi, hz0, hz1, hz2⟩ := info_parts infoStr
  obtain ⟨ao, cap, rfl, hc⟩ := h
  have HC := Lib.hid hc
  obtain ⟨n, hn⟩ : ∃ n, n = l.length := ⟨_, rfl⟩
  rw [← hn] at hl ⊢
  have HN := Lib.hid hn
  clear hc hn
  go_enter Tryd.func20, Tryd.ntmps20
  go_wp2
  go_loopg [3, 4] n (fun gg lv kv wr => ∃ k : Nat, gg = n - k ∧ k ≤ n ∧ kv = .int .i64 k ∧ Hid (wr.ownsRow w.heap.size 9 1 lv k (strB (Pp.Tot.keysOf (l.take k)))) ∧ Below w.heap.size w wr)
  case atStart => exact ⟨0, rfl, Nat.zero_le _, rfl, World.ownsRow_nil _ _ _ _, Below.refl _ _⟩
  case round =>
    obtain ⟨k, hgk, hk, rfl, HO, hb⟩ := hrel
    have HGK := Lib.hid hgk
    clear hgk
    by_cases hlt : k < n
    · have hkl : k < l.length := by have := HN.out; omega
      obtain ⟨b, off, rfl, c0, -⟩ := HC.out k hkl
      replace c0 := cell_below c0 hb
      have HS := Lib.hid (keys_take l k hkl)
      generalize l[k].1 = x at *
      have HLT := Lib.hid hlt
      go_wp2_with (at_builtin; refine Hid.out ?_)
      refine Lib.hid ?_
      have hbs := hb.size
      refine wpList_append_own _ rfl (.tmp 11) (.tmp 17) 25 rfl w.heap.size 9 i0 (.string ⟨#[]⟩) 1 16 Tryd.underlying25 hi hz0 hz1 hz2 rfl (by decide) _ k (strB (Pp.Tot.keysOf (l.take k))) rfl (HO.out.alloc _) ⟨wr.heap.size, 0, none⟩ 1 1 (strB [x]) rfl rfl ?c1 ?c5 ?c2 ?c3 ?c4 ?_
      case c1 => exact lit_cells rfl (show 1 ≤ maxLen by decide)
      case c5 => intro u hu; simp [strB] at hu; subst hu; rfl
      case c2 => unfold maxLen; omega
      case c3 => omega
      case c4 => simp; omega
      intro v2 w2 hown2 hg2 _
      have hb2 : Below w.heap.size w w2 := (hb.alloc (by omega) _).grown hg2 (by simp; omega) (fun q hq => (HO.out.lt q hq).1)
      have HO2 : Hid (w2.ownsRow w.heap.size 9 1 v2 (k + 1) (strB (Pp.Tot.keysOf (l.take (k + 1))))) := by
        show World.ownsRow _ _ _ _ _ _ _
        rw [HS.out, strB_append]
        exact hown2
      clear HO hown2 hg2 c0
      go_wp2
      go_roundg (n - (k + 1))
      case measure => have := HGK.out; have := HLT.out; omega
      case rel => exact ⟨k + 1, rfl, HLT.out, by go_num, HO2, hb2⟩
    · have hkl : k = l.length := by have := HN.out; omega
      have h1 := HO.out
      rw [List.take_of_length_le (by omega)] at h1
      have HT := Lib.hid (isTexts_ofB (by unfold Pp.Tot.keysOf; rw [List.length_map]; exact hkl) h1)
      clear HO h1 hkl
      go_wp2
      go_ret
      exact ⟨_, rfl, HT.out, hb⟩
theorem sort_fn (v : Value) (l : List (ByteArray × Int)) (w : World) (h : Pp.IsPairs w v l) (hl : l.length ≤ 1000000) :
    Calls Tryd.prog 21 #[v] w fun e w' => ∃ u, e = .returned u ∧ Pp.IsPairs w' u (Pp.Tot.srt l) ∧ Below w.heap.size w w' := by
  refine (Pp.sort_any v l w h hl).mono ?_
  rintro e w' ⟨u, Z, rfl, h1, h2, _, h4, h5⟩
  rw [Pp.Tot.srt_eq h1 h2] at h4
  exact ⟨u, rfl, h4, h5⟩
/-- A rule that asks whether something is so; whether it is not; that doesn't ask. -/
def askR (r : Rl) (s : List UInt8) : Rl := { r with when := 1, s := s }
def notR (r : Rl) (s : List UInt8) : Rl := { r with when := 2, s := s }
def anyR (r : Rl) : Rl := { r with when := 0, s := [], iff := .mk 0 0 [] [] }
theorem when_perm (r : Rl) (s : List UInt8) (kind : Int) (R : Rc) : (ruleP (askR r s) kind R ++ ruleP (notR r s) kind R).Perm (ruleP (anyR r) kind R) := by
  unfold ruleP
  have h1 : ∀ x, holdsB (askR r s) x = decide (r.iff.str x = s) := fun x => rfl
  have h2 : ∀ x, holdsB (notR r s) x = !decide (r.iff.str x = s) := fun x => rfl
  have h3 : ∀ x, holdsB (anyR r) x = true := fun x => rfl
  have e1 : pairL (askR r s) kind = pairL (anyR r) kind := rfl
  have e2 : pairL (notR r s) kind = pairL (anyR r) kind := rfl
  have e3 : (looksL (askR r s).each R).filter (holdsB (askR r s)) = (looksL r.each R).filter fun x => decide (r.iff.str x = s) := List.filter_congr fun x _ => h1 x
  have e4 : (looksL (notR r s).each R).filter (holdsB (notR r s)) = (looksL r.each R).filter fun x => !decide (r.iff.str x = s) := List.filter_congr fun x _ => h2 x
  have e5 : (looksL (anyR r).each R).filter (holdsB (anyR r)) = looksL r.each R := List.filter_eq_self.2 fun x _ => h3 x
  rw [e1, e2, e3, e4, e5, ← List.map_append]
  exact (List.filter_append_perm _ _).map _
theorem not_fault {r : Rl} {s : List UInt8} (h : ruleFault (askR r s) = 0) : ruleFault (notR r s) = 0 := by
  have e : whenFault (notR r s) = whenFault (askR r s) := by
    unfold whenFault askR notR
    simp
  unfold ruleFault at h ⊢
  rw [e]
  exact h
theorem any_fault {r : Rl} {s : List UInt8} (h : ruleFault (askR r s) = 0) : ruleFault (anyR r) = 0 := by
  have e : whenFault (anyR r) = 0 := rfl
  unfold ruleFault at h ⊢
  rw [if_neg (by rw [e]; exact fun h => h rfl)]
  by_cases h1 : whenFault (askR r s) ≠ 0
  · rw [if_pos h1] at h; exact absurd h h1
  · rw [if_neg h1] at h
    exact h
theorem one_fault {r : Rl} {kind : Int} {ea : Bool} {sl : Int} (h1 : 1 ≤ kind) (h2 : kind ≤ 4) (h3 : 1 ≤ sl) (h4 : sl ≤ 4) (h : ruleFault r = 0) : jobFault ⟨[r], kind, ea, sl⟩ = 0 :=
  jobFault_of (by simp) (by simp) h1 h2 h3 h4 (rulesFault_of fun x hx => by rw [List.mem_singleton] at hx; subst hx; exact h)
theorem small_wt {x : Rl} (hx : ruleFault x = 0) (hs : x.s.length ≤ 1000) : rulesWt [x] ≤ 1000000000 := by
  have h := rlIn_of hx
  have h1 := fault_wt h.key
  have h2 := fault_wt h.val
  simp only [rulesWt, Rl.wt, List.map_cons, List.map_nil, List.sum_cons, List.sum_nil]
  have h3 : x.iff.wt ≤ 630 := by
    rcases h.when with h4 | ⟨_, h4⟩
    · have h5 : (x.iff.zero && x.s.isEmpty) = true := by
        cases h6 : (x.iff.zero && x.s.isEmpty) with
        | true => rfl
        | false =>
          unfold ruleFault whenFault at hx
          rw [if_pos h4, h6] at hx
          simp at hx
      simp only [Bool.and_eq_true, Ex.zero, decide_eq_true_eq] at h5
      cases he : x.iff with
      | mk k n s a =>
        rw [he] at h5
        simp only [Ex.s, Ex.a, List.isEmpty_iff] at h5
        rw [h5.1.1.2, List.eq_nil_of_length_eq_zero h5.1.2]
        simp [Ex.wt, Ex.wt.wtL]
    · exact fault_wt h4
  omega
theorem ask_s {r : Rl} {s : List UInt8} (h : ruleFault (askR r s) = 0) : s.length ≤ 1000 := by
  unfold ruleFault at h
  by_cases h1 : whenFault (askR r s) ≠ 0
  · rw [if_pos h1] at h; exact absurd h h1
  · rw [Decidable.not_not] at h1
    unfold whenFault askR at h1
    simp only at h1
    by_cases h2 : fitsB s 20 = true
    · unfold fitsB at h2
      simp only [Bool.and_eq_true, decide_eq_true_eq] at h2
      omega
    · simp [h2] at h1
/-- One rule, as it lies in a block of its own. -/
theorem isRules_one {w : World} {B : Nat} {r : Rl} {ai ak av : Option Addr} {ci ck cv cap : Nat} (h : Blk w B 50 (ruleCells r ai ak av ci ck cv)) (xi : IsEx w (.slice ai r.iff.a.length ci) r.iff) (xk : IsEx w (.slice ak r.key.a.length ck) r.key) (xv : IsEx w (.slice av r.val.a.length cv) r.val) : IsRules w (.slice (some ⟨B, 0, none⟩) 1 cap) [r] := by
  refine ⟨_, cap, B, 0, fun _ => .slice ai r.iff.a.length ci, fun _ => .slice ak r.key.a.length ck, fun _ => .slice av r.val.a.length cv, rfl, fun _ => rfl, fun i x hx => ?_⟩
  have hk : i = 0 ∧ r = x := by
    cases i with
    | zero => simpa using hx
    | succ i => simp at hx
  obtain ⟨rfl, rfl⟩ := hk
  exact ⟨⟨h.at rfl, h.at rfl, h.at rfl, h.at rfl, h.at rfl, h.at rfl, h.at rfl, h.at rfl, h.at rfl, h.at rfl, h.at rfl, h.at rfl, h.at rfl, h.at rfl, h.at rfl⟩, xi, xk, xv⟩
theorem isPairs_slice {w : World} {v : Value} {l : List (ByteArray × Int)} (h : Pp.IsPairs w v l) : ∃ a cap, v = .slice a l.length cap := by
  obtain ⟨a, cap, e, _⟩ := h
  exact ⟨a, cap, e⟩
/-- What TopWhen holds: the rule, the job, rows that it has been given. -/
structure WS (w wx : World) (A J : Nat) (rc jc : List Value) (rows : List (Value × List (ByteArray × Int))) : Prop where
  bel : Below w.heap.size w wx
  lowA : w.heap.size ≤ A
  lowJ : w.heap.size ≤ J
  rule : Blk wx A 50 rc
  job : Blk wx J 24 jc
  rows : ∀ p ∈ rows, ∃ base, wx.ownsRow base 61 2 p.1 p.2.length (Pp.cellsP p.2)
theorem WS.below {w wx wy : World} {A J : Nat} {rc jc : List Value} {rows : List (Value × List (ByteArray × Int))} (h : WS w wx A J rc jc rows) (hb : Below wx.heap.size wx wy) : WS w wy A J rc jc rows :=
  ⟨below_trans h.bel hb, h.lowA, h.lowJ, h.rule.blw hb, h.job.blw hb, fun p hp => by obtain ⟨b, hr⟩ := h.rows p hp; exact ⟨b, ow_below hr hb⟩⟩
theorem WS.putRule {w wx : World} {A J : Nat} {rc jc : List Value} {rows : List (Value × List (ByteArray × Int))} (h : WS w wx A J rc jc rows) (i : Nat) (v : Value) : WS w (wx.setCell ⟨A, i, none⟩ v) A J (rc.set i v) jc rows :=
  ⟨h.bel.setCell (p := ⟨A, i, none⟩) h.lowA v, h.lowA, h.lowJ, h.rule.set i v, blk_other h.job h.rule (by decide), fun p hp => by obtain ⟨b, hr⟩ := h.rows p hp; exact ⟨b, ow_other hr h.rule (by decide)⟩⟩
theorem WS.putJob {w wx : World} {A J : Nat} {rc jc : List Value} {rows : List (Value × List (ByteArray × Int))} (h : WS w wx A J rc jc rows) (i : Nat) (v : Value) : WS w (wx.setCell ⟨J, i, none⟩ v) A J rc (jc.set i v) rows :=
  ⟨h.bel.setCell (p := ⟨J, i, none⟩) h.lowJ v, h.lowA, h.lowJ, blk_other h.rule h.job (by decide), h.job.set i v, fun p hp => by obtain ⟨b, hr⟩ := h.rows p hp; exact ⟨b, ow_other hr h.job (by decide)⟩⟩
theorem WS.add {w wx : World} {A J : Nat} {rc jc : List Value} {rows : List (Value × List (ByteArray × Int))} (h : WS w wx A J rc jc rows) {base : Nat} {v : Value} {l : List (ByteArray × Int)} (hr : wx.ownsRow base 61 2 v l.length (Pp.cellsP l)) : WS w wx A J rc jc ((v, l) :: rows) :=
  ⟨h.bel, h.lowA, h.lowJ, h.rule, h.job, fun p hp => by
    rcases List.mem_cons.1 hp with rfl | hp
    · exact ⟨base, hr⟩
    · exact h.rows p hp⟩
end Go.Proofs.YtahhcabmpcjddaaDoor
