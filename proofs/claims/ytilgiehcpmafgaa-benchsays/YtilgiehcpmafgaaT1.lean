/- Tasks: how they lie in memory; what is read of them. -/
import Derived.Test.YtilgiehcpmafgaaCom
namespace Go.Proofs.Ytilgiehcpmafgaa
open Go.ChangeShapes Go.WideShapes Go.ChangeAt Go.RowKit
namespace Tk
/-- How many are done. -/
def cnt (l : List Int) : Nat := (l.filter (· == 2)).length
def allD (l : List Int) : Bool := l.all (· == 2)
/-- The first one that waits; -1: there is none. -/
def idx : List Int → Int
  | [] => -1
  | x :: l => if x = 0 then 0 else if idx l < 0 then -1 else idx l + 1
theorem cnt_le (l : List Int) : cnt l ≤ l.length := List.length_filter_le _ _
theorem cnt_snoc (l : List Int) (x : Int) : cnt (l ++ [x]) = cnt l + if x == 2 then 1 else 0 := by
  unfold cnt
  rw [List.filter_append, List.length_append]
  congr 1
  cases h : x == 2 <;> simp [List.filter, h]
theorem cnt_all (l : List Int) : (cnt l = l.length) ↔ allD l = true := by
  unfold cnt allD
  rw [List.all_eq_true]
  induction l with
  | nil => simp
  | cons x l ih =>
    have h1 := cnt_le l
    unfold cnt at h1
    rw [List.filter_cons]
    by_cases h : x = 2
    · subst h
      rw [if_pos (by simp), List.length_cons, List.length_cons, Nat.add_right_cancel_iff, ih]
      simp
    · rw [if_neg (by simpa using h), List.length_cons]
      constructor
      · intro e; omega
      · intro e
        have := e x (by simp)
        simp at this
        exact absurd this h
theorem idx_ge (l : List Int) : -1 ≤ idx l := by
  induction l with
  | nil => simp [idx]
  | cons x l ih => unfold idx; split <;> (try split) <;> omega
theorem idx_at (l : List Int) (k : Nat) (hk : k < l.length) (h0 : ∀ j (h : j < l.length), j < k → l[j] ≠ 0) (h1 : l[k] = 0) : idx l = k := by
  induction l generalizing k with
  | nil => simp at hk
  | cons x l ih =>
    cases k with
    | zero => simp at h1; unfold idx; rw [if_pos h1]; rfl
    | succ k =>
      have hx : ¬ x = 0 := h0 0 (by simp) (by omega)
      have e := ih k (by simpa using hk) (fun j h hj => by have := h0 (j + 1) (by simpa using h) (by omega); rwa [List.getElem_cons_succ] at this) (by simpa using h1)
      unfold idx
      rw [if_neg hx, e, if_neg (by omega)]
      omega
theorem idx_none (l : List Int) (h0 : ∀ j (h : j < l.length), l[j] ≠ 0) : idx l = -1 := by
  induction l with
  | nil => rfl
  | cons x l ih =>
    have hx : ¬ x = 0 := h0 0 (by simp)
    have e := ih (fun j h => by have := h0 (j + 1) (by simpa using h); rwa [List.getElem_cons_succ] at this)
    unfold idx
    rw [if_neg hx, e]
    rfl
theorem idx_lt (l : List Int) : idx l < l.length := by
  induction l with
  | nil => simp [idx]
  | cons x l ih => unfold idx; split <;> (try split) <;> simp <;> omega
theorem all_cnt (l : List Int) : allD l = ((cnt l : Int) == (l.length : Int)) := by
  rw [Bool.eq_iff_iff, beq_iff_eq, Int.ofNat_inj]; exact (cnt_all l).symm
/-- What comes next. -/
def next (a b : List Int) : Bool × Int × Bool :=
  if allD b then (false, 0, false) else if 0 ≤ idx a then (false, idx a, true) else if 0 ≤ idx b ∧ allD a = true then (true, idx b, true) else (false, 0, false)
def sel (fold : Bool) (a b : List Int) : List Int := if fold then b else a
end Tk
open Tk
/-- Tasks (their parts a, their slices b, by whom c), in the blocks from lo on, below hi. -/
structure IsT (T : TypeId) (w : World) (lo hi P : Nat) (va vb vc : Value) (a b c : List Int) : Prop where
  plo : lo ≤ P
  phi : P < hi
  row : Blk w P T [va, vb, vc]
  oa : w.ownsRow lo 3 1 va a.length (cellsI a)
  ob : w.ownsRow lo 3 1 vb b.length (cellsI b)
  oc : w.ownsRow lo 3 1 vc c.length (cellsI c)
  ab : va.ownBlock ≠ vb.ownBlock
  ac : va.ownBlock ≠ vc.ownBlock
  bc : vb.ownBlock ≠ vc.ownBlock
  pa : va.ownBlock ≠ some P
  pb : vb.ownBlock ≠ some P
  pc : vc.ownBlock ≠ some P
  ha : ∀ k, va.ownBlock = some k → k < hi
  hb : ∀ k, vb.ownBlock = some k → k < hi
  hc : ∀ k, vc.ownBlock = some k → k < hi
  small : a.length ≤ 60 ∧ b.length ≤ 4 ∧ c.length = a.length
theorem IsT.blw {T : TypeId} {w w' : World} {lo hi P : Nat} {va vb vc : Value} {a b c : List Int} (h : IsT T w lo hi P va vb vc a b c) (hb : Below w.heap.size w w') : IsT T w' lo hi P va vb vc a b c :=
  { h with
    row := h.row.blw hb
    oa := owns_same h.oa fun k hk => hb.block k (owns_lt h.oa hk).2
    ob := owns_same h.ob fun k hk => hb.block k (owns_lt h.ob hk).2
    oc := owns_same h.oc fun k hk => hb.block k (owns_lt h.oc hk).2 }
/-- Nothing but what lies from lo on, below hi, has turned. -/
structure Win (lo hi : Nat) (w w' : World) : Prop where
  os : w'.os = w.os
  tape : w'.tape = w.tape
  output : w'.output = w.output
  size : w.heap.size ≤ w'.heap.size
  block : ∀ k, k < w.heap.size → (k < lo ∨ hi ≤ k) → w'.heap[k]? = w.heap[k]?
theorem Win.refl (lo hi : Nat) (w : World) : Win lo hi w w := ⟨rfl, rfl, rfl, Nat.le_refl _, fun _ _ _ => rfl⟩
theorem Win.of_blw {lo hi : Nat} {w w' : World} (h : Below w.heap.size w w') : Win lo hi w w' := ⟨h.os, h.tape, h.output, h.size, fun k hk _ => h.block k hk⟩
theorem Win.trans {lo hi : Nat} {w w1 w2 : World} (h : Win lo hi w w1) (k : Win lo hi w1 w2) : Win lo hi w w2 :=
  ⟨k.os.trans h.os, k.tape.trans h.tape, k.output.trans h.output, Nat.le_trans h.size k.size, fun j hj hj' => (k.block j (Nat.lt_of_lt_of_le hj h.size) hj').trans (h.block j hj hj')⟩
theorem Win.store {lo hi : Nat} {w w1 : World} (h : Win lo hi w w1) {g i : Nat} (v : Value) (h1 : lo ≤ g) (h2 : g < hi) : Win lo hi w (w1.setCell ⟨g, i, none⟩ v) :=
  ⟨h.os, h.tape, h.output, by rw [World.size_setCell]; exact h.size, fun j hj hj' => (Below.heap_setCell w1 ⟨g, i, none⟩ v j (by show j ≠ g; omega)).trans (h.block j hj hj')⟩
theorem Win.blw {lo hi : Nat} {W w w' : World} (hW : Below W.heap.size W w) (h : Win lo hi w w') (hlo : W.heap.size ≤ lo) : Below W.heap.size W w' :=
  ⟨h.os.trans hW.os, h.tape.trans hW.tape, h.output.trans hW.output, Nat.le_trans hW.size h.size, fun k hk => (h.block k (Nat.lt_of_lt_of_le hk hW.size) (.inl (Nat.lt_of_lt_of_le hk hlo))).trans (hW.block k hk)⟩
theorem IsT.win {T : TypeId} {w w' : World} {lo hi lo' hi' P : Nat} {va vb vc : Value} {a b c : List Int} (h : IsT T w lo hi P va vb vc a b c) (k : Win lo' hi' w w') (hd : hi ≤ lo' ∨ hi' ≤ lo) : IsT T w' lo hi P va vb vc a b c := by
  have key : ∀ j, lo ≤ j → j < hi → j < w.heap.size → w'.heap[j]? = w.heap[j]? := fun j h1 h2 h3 => k.block j h3 (by omega)
  exact { h with
    row := (key P h.plo h.phi h.row.lt).trans h.row
    oa := owns_same h.oa fun j hj => key j (owns_lt h.oa hj).1 (h.ha j hj) (owns_lt h.oa hj).2
    ob := owns_same h.ob fun j hj => key j (owns_lt h.ob hj).1 (h.hb j hj) (owns_lt h.ob hj).2
    oc := owns_same h.oc fun j hj => key j (owns_lt h.oc hj).1 (h.hc j hj) (owns_lt h.oc hj).2 }
set_option maxRecDepth 100000 in
set_option maxHeartbeats 1000000 in
theorem done_any (v : Value) (l : List Int) (w : World) (h : IsIs w v l) (hl : l.length ≤ 1000000) :
    Calls Try.prog 46 #[v] w fun e w' => e = .returned (.int .i64 (cnt l)) ∧ w' = w := by
  obtain ⟨ao, cap, rfl, hc⟩ := h
  have HC := Lib.hid hc
  clear hc
  obtain ⟨n, hn⟩ : ∃ n, n = l.length := ⟨_, rfl⟩
  rw [← hn] at hl ⊢
  have HN := Lib.hid hn
  clear hn
  go_enter Try.func46, Try.ntmps46
  go_wp2
  go_loop [3, 5, 8] (fun mv _ kv => ∃ (k m : Nat), k ≤ n ∧ m ≤ k ∧ kv = .int .i64 k ∧ mv = .int .i64 m ∧ Hid (m = cnt (l.take k))) (fun _ _ kv => n - (intOf kv).toNat)
  case atStart => exact ⟨0, 0, Nat.zero_le _, Nat.le_refl _, rfl, rfl, rfl⟩
  case round =>
    obtain ⟨k, m, hk, hmk, rfl, rfl, HM⟩ := hrel
    by_cases hlt : k < n
    · have hkl : k < l.length := by have := HN.out; omega
      obtain ⟨b, off, rfl, c0⟩ := HC.out k hkl
      have HS : Hid (cnt (l.take (k + 1)) = m + if l[k] == 2 then 1 else 0) := by
        show _ = _
        rw [List.take_succ_eq_append_getElem hkl, cnt_snoc, HM.out]
      clear HC HM
      generalize l[k] = x at c0 HS
      cases hx : x == 2 with
      | true =>
        have HS' : Hid (m + 1 = cnt (l.take (k + 1))) := by show _ = _; rw [HS.out, hx]; rfl
        clear HS
        go_wp2
        go_round
        case rel => exact ⟨k + 1, m + 1, by omega, by omega, by go_num, by go_num, HS'⟩
        case measure => simp [intOf]; omega
      | false =>
        have HS' : Hid (m = cnt (l.take (k + 1))) := by show _ = _; rw [HS.out, hx]; rfl
        clear HS
        go_wp2
        go_round
        case rel => exact ⟨k + 1, m, by omega, by omega, by go_num, by go_num, HS'⟩
        case measure => simp [intOf]; omega
    · have HE : Hid (m = cnt l) := by
        have h1 := HM.out
        rw [List.take_of_length_le (by have := HN.out; omega)] at h1
        exact h1
      clear HC HM
      go_wp2
      go_ret
      exact ⟨by rw [← HE.out]; rfl, rfl⟩
set_option maxRecDepth 100000 in
set_option maxHeartbeats 1000000 in
theorem index_any (v : Value) (l : List Int) (w : World) (h : IsIs w v l) (hl : l.length ≤ 1000000) :
    Calls Try.prog 45 #[v, .int .i64 0] w fun e w' => e = .returned (.int .i64 (idx l)) ∧ w' = w := by
  obtain ⟨ao, cap, rfl, hc⟩ := h
  have HC := Lib.hid hc
  clear hc
  obtain ⟨n, hn⟩ : ∃ n, n = l.length := ⟨_, rfl⟩
  rw [← hn] at hl ⊢
  have HN := Lib.hid hn
  clear hn
  go_enter Try.func45, Try.ntmps45
  go_wp2
  go_loop [5, 8] (fun _ kv => ∃ (k : Nat), k ≤ n ∧ kv = .int .i64 k ∧ Hid (∀ j (h : j < l.length), j < k → l[j] ≠ 0)) (fun _ kv => n - (intOf kv).toNat)
  case atStart => exact ⟨0, Nat.zero_le _, rfl, fun j _ h => absurd h (by omega)⟩
  case round =>
    obtain ⟨k, hk, rfl, HP⟩ := hrel
    by_cases hlt : k < n
    · have hkl : k < l.length := by have := HN.out; omega
      obtain ⟨b, off, rfl, c0⟩ := HC.out k hkl
      have HF : Hid (l[k] = 0 → idx l = k) := fun h => idx_at l k hkl HP.out h
      have HT : Hid (l[k] ≠ 0 → ∀ j (h : j < l.length), j < k + 1 → l[j] ≠ 0) := fun h j hj hjk => by
        by_cases e : j = k
        · subst e; exact h
        · exact HP.out j hj (by omega)
      clear HC HP
      generalize l[k] = x at c0 HF HT
      by_cases hx : x = 0
      · have HF' := Lib.hid (HF.out hx)
        subst hx
        clear HF HT
        go_wp2
        go_ret
        exact ⟨by rw [HF'.out]; rfl, rfl⟩
      · have HT' := Lib.hid (HT.out hx)
        have hx' : (0 == x) = false := by simpa using fun e : 0 = x => hx e.symm
        clear HF HT hx
        go_wp2
        go_round
        case rel => exact ⟨k + 1, by omega, by go_num, HT'⟩
        case measure => simp [intOf]; omega
    · have HE : Hid (idx l = -1) := idx_none l fun j h => HP.out j h (by have := HN.out; omega)
      clear HC HP
      go_wp2
      go_ret
      exact ⟨by rw [HE.out]; rfl, rfl⟩
set_option maxRecDepth 100000 in
set_option maxHeartbeats 1000000 in
theorem of_any (fold : Bool) (P : Nat) (va vb vc : Value) (w : World) (h : Blk w P 70 [va, vb, vc]) (hs : ∃ ao n cap, va = .slice ao n cap) (hs2 : ∃ ao n cap, vb = .slice ao n cap) :
    Calls Try.prog 35 #[.pointer (some ⟨P, 0, none⟩), .bool fold] w fun e w' => e = .returned (if fold then vb else va) ∧ w' = w := by
  have c0 := h.at (i := 0) (v := va) rfl
  have c1 := h.at (i := 1) (v := vb) rfl
  obtain ⟨a1, a2, a3, rfl⟩ := hs
  obtain ⟨b1, b2, b3, rfl⟩ := hs2
  clear h
  cases fold with
  | false =>
    go_enter Try.func35, Try.ntmps35
    go_wp2
    go_ret
    exact ⟨rfl, rfl⟩
  | true =>
    go_enter Try.func35, Try.ntmps35
    go_wp2
    go_ret
    exact ⟨rfl, rfl⟩
theorem IsT.sa {T : TypeId} {w : World} {lo hi P : Nat} {va vb vc : Value} {a b c : List Int} (h : IsT T w lo hi P va vb vc a b c) : ∃ ao cap, va = .slice ao a.length cap := by
  obtain ⟨ao, cap, e, _⟩ := isIs_of h.oa; exact ⟨ao, cap, e⟩
theorem IsT.sb {T : TypeId} {w : World} {lo hi P : Nat} {va vb vc : Value} {a b c : List Int} (h : IsT T w lo hi P va vb vc a b c) : ∃ ao cap, vb = .slice ao b.length cap := by
  obtain ⟨ao, cap, e, _⟩ := isIs_of h.ob; exact ⟨ao, cap, e⟩
theorem IsT.sc {T : TypeId} {w : World} {lo hi P : Nat} {va vb vc : Value} {a b c : List Int} (h : IsT T w lo hi P va vb vc a b c) : ∃ ao cap, vc = .slice ao c.length cap := by
  obtain ⟨ao, cap, e, _⟩ := isIs_of h.oc; exact ⟨ao, cap, e⟩
set_option maxRecDepth 100000 in
set_option maxHeartbeats 1000000 in
theorem mapped_any {lo hi P : Nat} {va vb vc : Value} {a b c : List Int} (w : World) (h : IsT 70 w lo hi P va vb vc a b c) :
    Calls Try.prog 34 #[.pointer (some ⟨P, 0, none⟩)] w fun e w' => e = .returned (.bool (allD a)) ∧ Below w.heap.size w w' := by
  have c0 := h.row.at (i := 0) (v := va) rfl
  have D := Lib.hid (fun w (h : IsT 70 w lo hi P va vb vc a b c) => done_any va a w (isIs_of h.oa) (by have := h.small; omega))
  have D2 := Lib.hid (fun n => D.out _ (h.blw (blw_drewN w n)))
  obtain ⟨ao, cap, rfl⟩ := h.sa
  have hE := all_cnt a
  have hle := cnt_le a
  rw [hE]
  clear h D hE
  generalize a.length = n at *
  generalize cnt a = m at *
  go_enter Try.func34, Try.ntmps34
  go_wp2
  go_quiet ((go_at_call 46; exact Calls.quiet_of_same (D2.out _)))
  go_wp2
  go_ret
  exact ⟨rfl, blw_drewN _ _⟩
set_option maxRecDepth 100000 in
set_option maxHeartbeats 1000000 in
theorem out_any {lo hi P : Nat} {va vb vc : Value} {a b c : List Int} (w : World) (h : IsT 70 w lo hi P va vb vc a b c) :
    Calls Try.prog 37 #[.pointer (some ⟨P, 0, none⟩)] w fun e w' => e = .returned (.bool (allD b)) ∧ Below w.heap.size w w' := by
  have c0 := h.row.at (i := 1) (v := vb) rfl
  have D := Lib.hid (fun w (h : IsT 70 w lo hi P va vb vc a b c) => done_any vb b w (isIs_of h.ob) (by have := h.small; omega))
  have D2 := Lib.hid (fun n => D.out _ (h.blw (blw_drewN w n)))
  obtain ⟨ao, cap, rfl⟩ := h.sb
  have hE := all_cnt b
  have hle := cnt_le b
  rw [hE]
  clear h D hE
  generalize b.length = n at *
  generalize cnt b = m at *
  go_enter Try.func37, Try.ntmps37
  go_wp2
  go_quiet ((go_at_call 46; exact Calls.quiet_of_same (D2.out _)))
  go_wp2
  go_ret
  exact ⟨rfl, blw_drewN _ _⟩
set_option maxRecDepth 100000 in
set_option maxHeartbeats 1000000 in
theorem count_any {lo hi P : Nat} {va vb vc : Value} {a b c : List Int} (w : World) (h : IsT 70 w lo hi P va vb vc a b c) :
    Calls Try.prog 38 #[.pointer (some ⟨P, 0, none⟩)] w fun e w' => e = .returned (.tuple #[.int .i64 (cnt a), .int .i64 (cnt b)]) ∧ Below w.heap.size w w' := by
  have c0 := h.row.at (i := 0) (v := va) rfl
  have c1 := h.row.at (i := 1) (v := vb) rfl
  have D1 := Lib.hid (fun n => done_any va a _ (isIs_of (h.blw (blw_drewN w n)).oa) (by have := h.small; omega))
  have D2 := Lib.hid (fun n => done_any vb b _ (isIs_of (h.blw (blw_drewN w n)).ob) (by have := h.small; omega))
  have hne : va ≠ vb := fun e => h.ab (by rw [e])
  obtain ⟨ao, cap, ea⟩ := h.sa
  obtain ⟨bo, cap', eb⟩ := h.sb
  subst ea eb
  clear h
  generalize a.length = n at *
  generalize b.length = n' at *
  generalize cnt a = m at *
  generalize cnt b = m' at *
  go_enter Try.func38, Try.ntmps38
  go_wp2
  go_quiet ((first | (go_at_call_of 46 (Value.slice ao n cap); exact Calls.quiet_of_same (D1.out _)) | (go_at_call_of 46 (Value.slice bo n' cap'); exact Calls.quiet_of_same (D2.out _))))
  go_wp2
  go_ret2
  exact ⟨rfl, blw_drewN _ _⟩
theorem IsT.pick {T : TypeId} {w : World} {lo hi P : Nat} {va vb vc : Value} {a b c : List Int} (h : IsT T w lo hi P va vb vc a b c) (fold : Bool) : IsIs w (if fold then vb else va) (sel fold a b) := by
  cases fold with
  | false => exact isIs_of h.oa
  | true => exact isIs_of h.ob
theorem sel_len {T : TypeId} {w : World} {lo hi P : Nat} {va vb vc : Value} {a b c : List Int} (h : IsT T w lo hi P va vb vc a b c) (fold : Bool) : (sel fold a b).length ≤ 60 := by
  have := h.small
  cases fold <;> simp [sel] <;> omega
theorem IsT.of {w : World} {lo hi P : Nat} {va vb vc : Value} {a b c : List Int} (h : IsT 70 w lo hi P va vb vc a b c) (fold : Bool) :
    Calls Try.prog 35 #[.pointer (some ⟨P, 0, none⟩), .bool fold] w fun e w' => e = .returned (if fold then vb else va) ∧ w' = w := by
  obtain ⟨ao, cap, ea⟩ := h.sa
  obtain ⟨bo, cap', eb⟩ := h.sb
  exact of_any fold P va vb vc w h.row ⟨_, _, _, ea⟩ ⟨_, _, _, eb⟩
set_option maxRecDepth 100000 in
set_option maxHeartbeats 1000000 in
theorem state_in {lo hi P : Nat} {va vb vc : Value} {a b c : List Int} (w : World) (h : IsT 70 w lo hi P va vb vc a b c) (fold : Bool) (k : Nat) (hk : k < (sel fold a b).length) :
    Calls Try.prog 33 #[.pointer (some ⟨P, 0, none⟩), .bool fold, .int .i64 k] w fun e w' => e = .returned (.tuple #[.int .i64 ((sel fold a b)[k]), .nilIface]) ∧ w' = w := by
  have D := h.of fold
  have hl := sel_len h fold
  obtain ⟨ao, cap, e, hc⟩ := h.pick fold
  rw [e] at D
  obtain ⟨g, off, rfl, c0⟩ := hc k hk
  have HD := Lib.hid D
  clear D h e hc
  generalize (sel fold a b)[k] = x at *
  generalize (sel fold a b).length = n at *
  go_enter Try.func33, Try.ntmps33
  go_wp2_with (go_at_call 35; refine HD.out.mono ?_; rintro _ w9 ⟨rfl, h9⟩; rw [h9]; clear h9 w9)
  go_ret2
  exact ⟨rfl, rfl⟩
set_option maxRecDepth 100000 in
set_option maxHeartbeats 1000000 in
theorem state_out {lo hi P : Nat} {va vb vc : Value} {a b c : List Int} (w : World) (h : IsT 70 w lo hi P va vb vc a b c) (fold : Bool) (i : Int) (hi' : i < 0 ∨ ((sel fold a b).length : Int) ≤ i) :
    Calls Try.prog 33 #[.pointer (some ⟨P, 0, none⟩), .bool fold, .int .i64 i] w fun e w' => e = .returned (.tuple #[.int .i64 0, .iface 68 (.int .i64 5)]) ∧ w' = w := by
  have D := h.of fold
  obtain ⟨ao, cap, e, hc⟩ := h.pick fold
  rw [e] at D
  have HD := Lib.hid D
  clear D h e hc
  generalize (sel fold a b).length = n at *
  cases g1 : decide (i < 0) with
  | true =>
    clear hi'
    go_enter Try.func33, Try.ntmps33
    go_wp2_with (go_at_call 35; refine HD.out.mono ?_; rintro _ w9 ⟨rfl, h9⟩; rw [h9]; clear h9 w9)
    all_goals go_ret2
    all_goals exact ⟨rfl, rfl⟩
  | false =>
    have g2 : decide ((n : Int) ≤ i) = true := decide_eq_true (by have := of_decide_eq_false g1; omega)
    clear hi'
    go_enter Try.func33, Try.ntmps33
    go_wp2_with (go_at_call 35; refine HD.out.mono ?_; rintro _ w9 ⟨rfl, h9⟩; rw [h9]; clear h9 w9)
    all_goals go_ret2
    all_goals exact ⟨rfl, rfl⟩
set_option maxRecDepth 100000 in
set_option maxHeartbeats 1000000 in
theorem next_any {lo hi P : Nat} {va vb vc : Value} {a b c : List Int} (w : World) (h : IsT 70 w lo hi P va vb vc a b c) :
    Calls Try.prog 28 #[.pointer (some ⟨P, 0, none⟩)] w fun e w' => e = .returned (.tuple #[.bool (next a b).1, .int .i64 (next a b).2.1, .bool (next a b).2.2]) ∧ Below w.heap.size w w' := by
  have C0 := Lib.hid (h.row.at (i := 0) (v := va) rfl)
  have C1 := Lib.hid (h.row.at (i := 1) (v := vb) rfl)
  have O := Lib.hid (out_any w h)
  have M : Hid (∀ w', Below w.heap.size w w' → Calls Try.prog 34 #[.pointer (some ⟨P, 0, none⟩)] w' fun e w'' => e = .returned (.bool (allD a)) ∧ Below w'.heap.size w' w'') := fun w' hb => mapped_any w' (h.blw hb)
  have I1 : Hid (∀ w', Below w.heap.size w w' → Calls Try.prog 45 #[va, .int .i64 0] w' fun e w'' => e = .returned (.int .i64 (idx a)) ∧ w'' = w') := fun w' hb => index_any va a w' (isIs_of (h.blw hb).oa) (by have := h.small; omega)
  have I2 : Hid (∀ w', Below w.heap.size w w' → Calls Try.prog 45 #[vb, .int .i64 0] w' fun e w'' => e = .returned (.int .i64 (idx b)) ∧ w'' = w') := fun w' hb => index_any vb b w' (isIs_of (h.blw hb).ob) (by have := h.small; omega)
  obtain ⟨ao, cap, ea⟩ := h.sa
  obtain ⟨bo, cap', eb⟩ := h.sb
  subst ea eb
  clear h
  have HX : Hid (next a b = if allD b then (false, 0, false) else if 0 ≤ idx a then (false, idx a, true) else if 0 ≤ idx b ∧ allD a = true then (true, idx b, true) else (false, 0, false)) := rfl
  generalize next a b = X at *
  generalize a.length = n at *
  generalize b.length = n' at *
  generalize idx a = ia at *
  generalize idx b = ib at *
  cases hB : allD b with
  | true =>
    have HX' : Hid (X = (false, 0, false)) := by show _ = _; rw [HX.out, hB]; rfl
    rw [hB] at O
    clear HX
    go_enter Try.func28, Try.ntmps28
    go_wp2_with (go_at_call 37; refine O.out.mono ?_; rintro _ w1 ⟨rfl, hb1⟩)
    go_ret3
    exact ⟨by rw [HX'.out]; rfl, hb1⟩
  | false =>
    rw [hB] at O
    cases g1 : decide (0 ≤ ia) with
    | true =>
      have HX' : Hid (X = (false, ia, true)) := by show _ = _; rw [HX.out, hB, if_neg (by simp), if_pos (of_decide_eq_true g1)]
      clear HX
      go_enter Try.func28, Try.ntmps28
      go_wp2_with (first | (go_at_call 37; refine O.out.mono ?_; rintro _ w1 ⟨rfl, hb1⟩; have c0 := cell_blw C0.out hb1; have c1 := cell_blw C1.out hb1) | (go_at_call_of 45 (Value.slice ao n cap); refine (I1.out _ hb1).mono ?_; rintro _ w9 ⟨rfl, h9⟩; rw [h9]; clear h9 w9))
      go_ret3
      exact ⟨by rw [HX'.out]; rfl, hb1⟩
    | false =>
      cases g2 : decide (0 ≤ ib) with
      | false =>
        have HX' : Hid (X = (false, 0, false)) := by show _ = _; rw [HX.out, hB, if_neg (by simp), if_neg (of_decide_eq_false g1), if_neg (fun h => of_decide_eq_false g2 h.1)]
        clear HX
        go_enter Try.func28, Try.ntmps28
        go_wp2_with (first | (go_at_call 37; refine O.out.mono ?_; rintro _ w1 ⟨rfl, hb1⟩; have c0 := cell_blw C0.out hb1; have c1 := cell_blw C1.out hb1) | (go_at_call_of 45 (Value.slice ao n cap); refine (I1.out _ hb1).mono ?_; rintro _ w9 ⟨rfl, h9⟩; rw [h9]; clear h9 w9) | (go_at_call_of 45 (Value.slice bo n' cap'); refine (I2.out _ hb1).mono ?_; rintro _ w9 ⟨rfl, h9⟩; rw [h9]; clear h9 w9))
        go_ret3
        exact ⟨by rw [HX'.out]; rfl, hb1⟩
      | true =>
        cases hA : allD a with
        | true =>
          rw [hA] at M
          have HX' : Hid (X = (true, ib, true)) := by show _ = _; rw [HX.out, hB, if_neg (by simp), if_neg (of_decide_eq_false g1), if_pos ⟨of_decide_eq_true g2, hA⟩]
          clear HX
          go_enter Try.func28, Try.ntmps28
          go_wp2_with (first | (go_at_call 37; refine O.out.mono ?_; rintro _ w1 ⟨rfl, hb1⟩; have c0 := cell_blw C0.out hb1; have c1 := cell_blw C1.out hb1) | (go_at_call 34; refine (M.out _ hb1).mono ?_; rintro _ w2 ⟨rfl, hb2⟩) | (go_at_call_of 45 (Value.slice ao n cap); refine (I1.out _ hb1).mono ?_; rintro _ w9 ⟨rfl, h9⟩; rw [h9]; clear h9 w9) | (go_at_call_of 45 (Value.slice bo n' cap'); refine (I2.out _ hb1).mono ?_; rintro _ w9 ⟨rfl, h9⟩; rw [h9]; clear h9 w9))
          go_ret3
          exact ⟨by rw [HX'.out]; rfl, blw_step hb1 hb2⟩
        | false =>
          rw [hA] at M
          have HX' : Hid (X = (false, 0, false)) := by show _ = _; rw [HX.out, hB, if_neg (by simp), if_neg (of_decide_eq_false g1), if_neg (fun h => by rw [hA] at h; cases h.2)]
          clear HX
          go_enter Try.func28, Try.ntmps28
          go_wp2_with (first | (go_at_call 37; refine O.out.mono ?_; rintro _ w1 ⟨rfl, hb1⟩; have c0 := cell_blw C0.out hb1; have c1 := cell_blw C1.out hb1) | (go_at_call 34; refine (M.out _ hb1).mono ?_; rintro _ w2 ⟨rfl, hb2⟩) | (go_at_call_of 45 (Value.slice ao n cap); refine (I1.out _ hb1).mono ?_; rintro _ w9 ⟨rfl, h9⟩; rw [h9]; clear h9 w9) | (go_at_call_of 45 (Value.slice bo n' cap'); refine (I2.out _ hb1).mono ?_; rintro _ w9 ⟨rfl, h9⟩; rw [h9]; clear h9 w9))
          go_ret3
          exact ⟨by rw [HX'.out]; rfl, blw_step hb1 hb2⟩
end Go.Proofs.Ytilgiehcpmafgaa
