/- Queues: whose turn it is, plain; the closure and the look through a row. -/
import Derived.Test.YtddbgbokkpeffaaQ1
import Derived.Lib.QuietBelow
namespace Go.Proofs.Ytddbgbokkpeffaa
open Go.ChangeShapes Go.WideShapes Go.ChangeAt Go.RowKit
namespace Pk
def wOf (l : List (Int × Int)) (i : Nat) : Int := (l.getD i (0, 0)).1
def cOf (l : List (Int × Int)) (i : Nat) : Int := (l.getD i (0, 0)).2
/-- Does it want something, and may it have more? -/
def okB (l : List (Int × Int)) (has : List Int) (wants : List Bool) (i : Nat) : Bool := wants.getD i false && decide (has.getD i 0 < cOf l i)
def less (l : List (Int × Int)) (has : List Int) (k i : Nat) : Bool := decide (has.getD k 0 * wOf l i < has.getD i 0 * wOf l k)
def may (l : List (Int × Int)) (has : List Int) (wants : List Bool) (n : Nat) : List Nat := (List.range n).filter (okB l has wants)
def top (l : List (Int × Int)) (has : List Int) (M : List Nat) (i : Nat) : Bool := !M.any fun k => less l has k i
def pick (l : List (Int × Int)) (has : List Int) (M : List Nat) : Int :=
  match M.find? (top l has M) with
  | some i => i
  | none => -1
def least3 (a b c : Nat) : Nat := min (min a b) c
/-- What is said of queues, and of what they have, where it is asked whose turn it is. -/
def GoodQ (l : List (Int × Int)) (has : List Int) : Prop := (∀ q ∈ l, 1 ≤ q.1 ∧ q.1 ≤ 9 ∧ 0 ≤ q.2 ∧ q.2 ≤ 1000) ∧ (∀ h ∈ has, 0 ≤ h ∧ h ≤ 1000)
theorem may_succ (l : List (Int × Int)) (has : List Int) (wants : List Bool) (n : Nat) : may l has wants (n + 1) = may l has wants n ++ (if okB l has wants n then [n] else []) := by
  unfold may
  rw [List.range_succ, List.filter_append]
  congr 1
  simp [List.filter]
  split <;> simp_all
theorem mem_may {l : List (Int × Int)} {has : List Int} {wants : List Bool} {n i : Nat} : i ∈ may l has wants n ↔ i < n ∧ okB l has wants i = true := by
  unfold may
  simp
theorem may_length (l : List (Int × Int)) (has : List Int) (wants : List Bool) (n : Nat) : (may l has wants n).length ≤ n := by
  unfold may
  exact Nat.le_trans (List.length_filter_le _ _) (by simp)
theorem pick_some {l : List (Int × Int)} {has : List Int} {M : List Nat} {i : Nat} (h : M.find? (top l has M) = some i) : pick l has M = i := by unfold pick; rw [h]
theorem pick_none {l : List (Int × Int)} {has : List Int} {M : List Nat} (h : M.find? (top l has M) = none) : pick l has M = -1 := by unfold pick; rw [h]
theorem find_at {α : Type} (p : α → Bool) (M : List α) (k : Nat) (hk : k < M.length) (h0 : ∀ x ∈ M.take k, p x = false) (h1 : p M[k] = true) : M.find? p = some M[k] := by
  have e : M.find? p = (M.take k ++ M.drop k).find? p := by rw [List.take_append_drop]
  rw [e, List.find?_append, List.find?_eq_none.2 (fun x hx => by rw [h0 x hx]; simp), Option.none_or]
  rw [List.drop_eq_getElem_cons hk, List.find?_cons_of_pos h1]
theorem find_none {α : Type} (p : α → Bool) (M : List α) (h0 : ∀ x ∈ M, p x = false) : M.find? p = none := List.find?_eq_none.2 (fun x hx => by rw [h0 x hx]; simp)
theorem pick_at (l : List (Int × Int)) (has : List Int) (M : List Nat) (k : Nat) (hk : k < M.length) (h0 : ∀ x ∈ M.take k, top l has M x = false) (h1 : top l has M M[k] = true) : pick l has M = (M[k] : Nat) := pick_some (find_at _ M k hk h0 h1)
end Pk
open Pk
theorem getD_lt {α : Type} (l : List α) (d : α) (i : Nat) (h : i < l.length) : l.getD i d = l[i] := by simp [List.getD, List.getElem?_eq_getElem h]
/-- A row of numbers, as places. -/
def natsV (M : List Nat) : List Int := M.map fun n : Nat => (n : Int)

/-- What the closure looks at. -/
structure Look (w : World) (l : List (Int × Int)) (has : List Int) (pl ph pi : Nat) (i : Nat) : Prop where
  cl : ∃ v, w.cell? ⟨pl, 0, none⟩ = some v ∧ IsQs w v l
  ch : ∃ v, w.cell? ⟨ph, 0, none⟩ = some v ∧ IsIs w v has
  ci : w.cell? ⟨pi, 0, none⟩ = some (.int .i64 i)
theorem Look.blw {w w' : World} {l : List (Int × Int)} {has : List Int} {pl ph pi i : Nat} (h : Look w l has pl ph pi i) (hb : Below w.heap.size w w') : Look w' l has pl ph pi i := by
  obtain ⟨⟨v, c0, h0⟩, ⟨u, c1, h1⟩, c2⟩ := h
  exact ⟨⟨v, cell_blw c0 hb, isQs_blw h0 hb⟩, ⟨u, cell_blw c1 hb, isIs_blw h1 hb⟩, cell_blw c2 hb⟩
set_option maxRecDepth 100000 in
set_option maxHeartbeats 2000000 in
theorem ahead_any (l : List (Int × Int)) (has : List Int) (pl ph pi i k : Nat) (w : World) (h : Look w l has pl ph pi i) (hg : GoodQ l has) (hil : i < l.length) (hih : i < has.length) (hkl : k < l.length) (hkh : k < has.length) :
    Calls Try.prog 14 #[.int .i64 k, .pointer (some ⟨pl, 0, none⟩), .pointer (some ⟨pi, 0, none⟩), .pointer (some ⟨ph, 0, none⟩)] w fun e w' => e = .returned (.bool (less l has k i)) ∧ Below w.heap.size w w' := by
  obtain ⟨⟨v, cl, a, cap, rfl, hq⟩, ⟨u, ch, a', cap', rfl, hi⟩, ci⟩ := h
  obtain ⟨b, off, rfl, q0, q1⟩ := hq i hil
  obtain ⟨_, _, e, q2, q3⟩ := hq k hkl
  injection e with e; injection e with e1 e2; subst e1 e2
  obtain ⟨b', off', rfl, h0⟩ := hi i hih
  obtain ⟨_, _, e, h1⟩ := hi k hkh
  injection e with e; injection e with e1 e2; subst e1 e2
  clear hq hi
  have g0 := hg.1 l[i] (List.getElem_mem hil)
  have g1 := hg.1 l[k] (List.getElem_mem hkl)
  have g2 := hg.2 has[i] (List.getElem_mem hih)
  have g3 := hg.2 has[k] (List.getElem_mem hkh)
  have hL : less l has k i = decide (has[k] * l[i].1 < has[i] * l[k].1) := by
    unfold less wOf
    rw [getD_lt _ _ _ hil, getD_lt _ _ _ hkl, getD_lt _ _ _ hih, getD_lt _ _ _ hkh]
  rw [hL]
  clear hL
  generalize l[i] = x at *
  generalize l[k] = y at *
  generalize has[i] = n at *
  generalize has[k] = m at *
  obtain ⟨xw, xc⟩ := x
  obtain ⟨yw, yc⟩ := y
  simp only at *
  obtain ⟨xw, rfl⟩ := Int.eq_ofNat_of_zero_le (a := xw) (by omega)
  obtain ⟨xc, rfl⟩ := Int.eq_ofNat_of_zero_le (a := xc) (by omega)
  obtain ⟨yw, rfl⟩ := Int.eq_ofNat_of_zero_le (a := yw) (by omega)
  obtain ⟨yc, rfl⟩ := Int.eq_ofNat_of_zero_le (a := yc) (by omega)
  obtain ⟨n, rfl⟩ := Int.eq_ofNat_of_zero_le (a := n) (by omega)
  obtain ⟨m, rfl⟩ := Int.eq_ofNat_of_zero_le (a := m) (by omega)
  have HLS := Lib.hid (fun w => less_any yw yc xw xc m n (by omega) (by omega) (by omega) (by omega) w)
  have hE : decide ((m : Int) * (xw : Int) < (n : Int) * (yw : Int)) = decide (m * xw < n * yw) := by
    rw [decide_eq_decide, ← Int.natCast_mul, ← Int.natCast_mul]; exact Int.ofNat_lt
  rw [hE]
  clear hE hg
  generalize decide (m * xw < n * yw) = r at *
  have hmix : Try.prog.follows .mixedOrders = true := by kernel_rfl
  have D1 := Lib.hid (fun d os => Calls.regrown_of (w := w) (d := d) (os := os) (HLS.out _))
  clear HLS
  replace q0 := cell_regrown q0
  replace q1 := cell_regrown q1
  replace q2 := cell_regrown q2
  replace q3 := cell_regrown q3
  replace h0 := cell_regrown h0
  replace h1 := cell_regrown h1
  replace cl := cell_regrown cl
  replace ch := cell_regrown ch
  replace ci := cell_regrown ci
  go_enter Try.func14, Try.ntmps14
  go_wp2
  refine wp_region_quiet_below hmix (by kernel_rfl) ?_
  repeat (quiet_step (first | (go_at_call 10; exact D1.out _ _)))
  refine wpQuiet_nil ?_
  intro _ hw'
  obtain ⟨⟨dq, osq⟩, hw''⟩ := hw'
  subst hw''
  have hbb : Below w.heap.size w (Sort.grow (redrawn w dq) osq) := below_regrown w dq osq
  generalize Sort.grow (redrawn w dq) osq = w3 at *
  go_wp2
  go_ret
  exact ⟨rfl, hbb⟩
/-- The closure as a value. -/
def aheadV (pl ph pi : Nat) : Value := .func (.func 14) #[] #[.pointer (some ⟨pl, 0, none⟩), .pointer (some ⟨pi, 0, none⟩), .pointer (some ⟨ph, 0, none⟩)]
theorem natsV_at (M : List Nat) (k : Nat) (h : k < (natsV M).length) : (natsV M)[k] = ((M[k]'(by simpa [natsV] using h) : Nat) : Int) := by simp [natsV]
theorem natsV_length (M : List Nat) : (natsV M).length = M.length := by simp [natsV]
theorem any_take (M : List Nat) (f : Nat → Bool) (k : Nat) (h : k < M.length) (hp : (M.take k).any f = false) (hb : f M[k] = false) : (M.take (k + 1)).any f = false := by
  rw [List.take_succ_eq_append_getElem h, List.any_append, hp]
  simpa using hb
set_option maxRecDepth 100000 in
set_option maxHeartbeats 2000000 in
theorem indexFunc_any (M : List Nat) (v : Value) (l : List (Int × Int)) (has : List Int) (pl ph pi i : Nat) (w : World) (hv : IsIs w v (natsV M)) (h : Look w l has pl ph pi i) (hg : GoodQ l has) (hil : i < l.length) (hih : i < has.length) (hM : ∀ k ∈ M, k < l.length ∧ k < has.length) (hml : M.length ≤ 1000000) :
    Calls Try.prog 17 #[v, .func (.func 14) #[] #[.pointer (some ⟨pl, 0, none⟩), .pointer (some ⟨pi, 0, none⟩), .pointer (some ⟨ph, 0, none⟩)]] w fun e w' => ∃ r : Int, e = .returned (.int .i64 r) ∧ Hid (decide (0 ≤ r) = M.any (fun k => less l has k i)) ∧ Below w.heap.size w w' := by
  obtain ⟨a, cap, rfl, hc⟩ := hv
  rw [natsV_length] at *
  have HC := Lib.hid hc
  clear hc
  have HL := Lib.hid h
  have HG := Lib.hid hg
  have HM := Lib.hid hM
  clear h hg hM
  obtain ⟨n, hn⟩ : ∃ n, n = M.length := ⟨_, rfl⟩
  rw [← hn] at hml ⊢
  have HN := Lib.hid hn
  clear hn
  go_enter Try.func17, Try.ntmps17
  go_wp2
  go_loopw [5, 8] (fun _ kv wr => ∃ k : Nat, k ≤ n ∧ kv = .int .i64 k ∧ Hid ((M.take k).any (fun k => less l has k i) = false) ∧ Below w.heap.size w wr) (fun _ kv _ => n - (intOf kv).toNat)
  case atStart => exact ⟨0, Nat.zero_le _, rfl, rfl, Below.refl _ _⟩
  case round =>
    obtain ⟨k, hk, rfl, HP, hb⟩ := hrel
    by_cases hlt : k < n
    · have hkM : k < M.length := by have := HN.out; omega
      obtain ⟨b, off, rfl, c0⟩ := HC.out k (by rw [natsV_length]; exact hkM)
      rw [natsV_at] at c0
      replace c0 := cell_blw c0 hb
      have hm := HM.out M[k] (List.getElem_mem hkM)
      have D := Lib.hid (fun wr (hb : Below w.heap.size w wr) => ahead_any l has pl ph pi i M[k] wr (HL.out.blw hb) HG.out hil hih hm.1 hm.2)
      have HT : Hid (less l has M[k] i = false → (M.take (k + 1)).any (fun k => less l has k i) = false) := any_take M _ k hkM HP.out
      have HF : Hid (less l has M[k] i = true → M.any (fun k => less l has k i) = true) := fun h => List.any_eq_true.2 ⟨M[k], List.getElem_mem hkM, h⟩
      clear hm HC HM HP
      generalize M[k] = x at *
      cases hl : less l has x i with
      | true =>
        have hF := Lib.hid (HF.out hl)
        rw [hl] at D
        go_wp2_with (go_at_call 14; refine (D.out _ hb).mono ?_; rintro _ w1 ⟨rfl, hb1⟩)
        go_ret
        exact ⟨_, rfl, by show _ = _; rw [hF.out]; simp, blw_step hb hb1⟩
      | false =>
        have hT := HT.out hl
        have HT' := Lib.hid hT
        rw [hl] at D
        clear hT HT HF hl
        go_wp2_with (go_at_call 14; refine (D.out _ hb).mono ?_; rintro _ w1 ⟨rfl, hb1⟩)
        go_roundw
        case rel => exact ⟨k + 1, by omega, by go_num, HT', blw_step hb hb1⟩
        case measure => simp [intOf]; omega
    · have HE : Hid (M.any (fun k => less l has k i) = false) := by
        have h1 := HP.out
        rw [List.take_of_length_le (by have := HN.out; omega)] at h1
        exact h1
      clear HC HM HP
      go_wp2
      go_ret
      exact ⟨_, rfl, by show _ = _; rw [HE.out]; rfl, hb⟩
set_option maxRecDepth 100000 in
set_option maxHeartbeats 2000000 in
theorem containsFunc_any (M : List Nat) (v : Value) (l : List (Int × Int)) (has : List Int) (pl ph pi i : Nat) (w : World) (hv : IsIs w v (natsV M)) (h : Look w l has pl ph pi i) (hg : GoodQ l has) (hil : i < l.length) (hih : i < has.length) (hM : ∀ k ∈ M, k < l.length ∧ k < has.length) (hml : M.length ≤ 1000000) :
    Calls Try.prog 15 #[v, .func (.func 14) #[] #[.pointer (some ⟨pl, 0, none⟩), .pointer (some ⟨pi, 0, none⟩), .pointer (some ⟨ph, 0, none⟩)]] w fun e w' => e = .returned (.bool (M.any (fun k => less l has k i))) ∧ Below w.heap.size w w' := by
  have D := Lib.hid (indexFunc_any M v l has pl ph pi i w hv h hg hil hih hM hml)
  clear hv h hg hM hml hil hih
  generalize M.any (fun k => less l has k i) = B at *
  go_enter Try.func15, Try.ntmps15
  go_wp2_with (go_at_call 17; refine D.out.mono ?_; rintro _ w1 ⟨r, rfl, hr, hb1⟩)
  go_ret
  refine ⟨?_, hb1⟩
  rw [← hr.out]
  rfl
end Go.Proofs.Ytddbgbokkpeffaa
