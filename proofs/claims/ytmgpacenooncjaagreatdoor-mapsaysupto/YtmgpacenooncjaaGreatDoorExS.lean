/- Contracts of expr.Check, Of, word, str, num, Str and Int: what expressions are. -/
import Derived.Test.YtmgpacenooncjaaGreatDoorExM
import Derived.Lib.QuietBelow
namespace Go.Proofs.YtmgpacenooncjaaGreatDoor
open Go.ChangeShapes Go.WideShapes Go.ChangeAt Go.RowKit
/-- What is wrong with an expression: 0: nothing. -/
def faultE (e : Ex) (text each : Bool) : Nat := if e.cnt ≤ 30 ∧ e.dep ≤ 5 then (if e.ok text each then 0 else 3) else 2
def errV (n : Nat) : Value := if n = 0 then .nilIface else .iface 70 (.int .i64 n)
theorem upBy_good (e : Ex) : (upBy 0 1 e.cnt e.dep ≤ 30) ↔ (e.cnt ≤ 30 ∧ e.dep ≤ 5) := by
  unfold upBy
  split <;> omega
set_option maxRecDepth 100000 in
set_option maxHeartbeats 1000000 in
theorem check_any {w : World} {sv : Value} {e : Ex} (h : IsEx w sv e) (hw : e.wt ≤ 1000000000) (text each : Bool) (E : EnvS w) :
    Calls Tryz.prog 92 #[e.val sv, .bool text, .bool each] w fun r w' => r = .returned (errV (faultE e text each)) ∧ Below w.heap.size w w' := by
  obtain ⟨a, cap, rfl⟩ := h.slice
  have C := Lib.hid (count_any h hw 1 0 (by omega) (by omega))
  have M := Lib.hid (may_any h hw text each)
  have G := Lib.hid (upBy_good e)
  have HE := Lib.hid E
  clear E h
  unfold Ex.val at C M ⊢
  unfold faultE
  generalize upBy 0 1 e.cnt e.dep = c at *
  go_enter Tryz.func92, Tryz.ntmps92
  go_wp2_with (go_at_call 108; refine Hid.out ?_)
  refine Lib.hid ?_
  refine (C.out _ (below_box _)).mono ?_
  rintro _ w2 ⟨rfl, hb2⟩
  by_cases hc : c ≤ 30
  · have hgd := Lib.hid (G.out.1 hc)
    have k0 := cell_below (a := ⟨w.heap.size, 0, none⟩) (v := .int .i64 e.k) (by simp) hb2
    have k1 := cell_below (a := ⟨w.heap.size, 1, none⟩) (v := .int .i64 e.n) (by simp) hb2
    have k2 := cell_below (a := ⟨w.heap.size, 2, none⟩) (v := .string (bs e.s)) (by simp) hb2
    have k3 := cell_below (a := ⟨w.heap.size, 3, none⟩) (v := .slice a e.a.length cap) (by simp) hb2
    have hb3 := below_trans (below_box _) hb2
    clear hb2
    go_wp2_with (go_at_call 109; refine Hid.out ?_)
    refine Lib.hid ?_
    refine (M.out _ hb3 (HE.out.lower hb3)).mono ?_
    rintro _ w4 ⟨rfl, hb4⟩
    cases hok : e.ok text each with
    | true =>
      go_wp2
      go_ret
      exact ⟨by first | rfl | (rw [if_pos hgd.out]; rfl), below_trans hb3 hb4⟩
    | false =>
      go_wp2
      go_ret
      exact ⟨by first | rfl | (rw [if_pos hgd.out]; rfl), below_trans hb3 hb4⟩
  · have hgd := Lib.hid (fun h => hc (G.out.2 h))
    go_wp2
    go_ret
    exact ⟨by first | rfl | (rw [if_neg hgd.out]; rfl), below_trans (below_box _) hb2⟩
/-- A record: its line, the word that is looked at, its words. -/
structure Rc where
  line : List UInt8
  it : List UInt8
  words : List (List UInt8)
/-- What a text is. -/
def Ex.str (R : Rc) : Ex → List UInt8
  | .mk k n s a => if k = 1 then R.it else if k = 2 then R.line else if k = 3 then (R.words[n.toNat]?).getD [] else if k = 4 then s else if k = 5 then strL a else (strL a).take n.toNat
  where strL : List Ex → List UInt8
  | [] => []
  | e :: r => e.str R ++ strL r
/-- How long a text is at most, uncut. -/
def Ex.len (R : Rc) : Ex → Nat
  | .mk k n s a => if k = 1 then R.it.length else if k = 2 then R.line.length else if k = 3 then ((R.words[n.toNat]?).getD []).length else if k = 4 then s.length else lenL a
  where lenL : List Ex → Nat
  | [] => 0
  | e :: r => e.len R + lenL r
/-- What a number is. -/
def Ex.num (R : Rc) : Ex → Int
  | .mk k n _ a => if k = 7 then n else if k = 8 then ((Ex.str.strL R a).length : Int) else if k = 9 then (R.words.length : Int) else numL a
  where numL : List Ex → Int
  | [] => 0
  | e :: r => e.num R + numL r
/-- How far from 0 a number is at most. -/
def Ex.far (R : Rc) : Ex → Nat
  | .mk k n _ a => if k = 7 then n.natAbs else if k = 8 then Ex.len.lenL R a else if k = 9 then R.words.length else farL a
  where farL : List Ex → Nat
  | [] => 0
  | e :: r => e.far R + farL r
theorem str_len (R : Rc) (e : Ex) : (e.str R).length ≤ e.len R := by
  refine Ex.ind (P := fun e => (e.str R).length ≤ e.len R) ?_ e
  intro k n s a ih
  have hL : (Ex.str.strL R a).length ≤ Ex.len.lenL R a := by
    induction a with
    | nil => simp [Ex.str.strL]
    | cons x a ihl =>
      have h1 := ih x (by simp)
      have h2 := ihl (fun e he => ih e (by simp [he]))
      simp only [Ex.str.strL, Ex.len.lenL, List.length_append]; omega
  simp only [Ex.str, Ex.len]
  split
  · omega
  split
  · omega
  split
  · omega
  split
  · omega
  split
  · exact hL
  · rw [List.length_take]; omega
theorem strL_len (R : Rc) (a : List Ex) : (Ex.str.strL R a).length ≤ Ex.len.lenL R a := by
  induction a with
  | nil => simp [Ex.str.strL]
  | cons x a ihl =>
    have h1 := str_len R x
    simp only [Ex.str.strL, Ex.len.lenL, List.length_append]; omega
theorem num_far (R : Rc) (e : Ex) : (e.num R).natAbs ≤ e.far R := by
  refine Ex.ind (P := fun e => (e.num R).natAbs ≤ e.far R) ?_ e
  intro k n s a ih
  have hL : (Ex.num.numL R a).natAbs ≤ Ex.far.farL R a := by
    induction a with
    | nil => simp [Ex.num.numL]
    | cons x a ihl =>
      have h1 := ih x (by simp)
      have h2 := ihl (fun e he => ih e (by simp [he]))
      simp only [Ex.num.numL, Ex.far.farL]; omega
  have hS := strL_len R a
  simp only [Ex.num, Ex.far]
  split
  · omega
  split
  · omega
  split
  · omega
  · exact hL
theorem len_le (R : Rc) (M : Nat) (h1 : R.it.length ≤ M) (h2 : R.line.length ≤ M) (h3 : ∀ x ∈ R.words, x.length ≤ M) (e : Ex) : e.len R ≤ M * e.cnt + e.wt := by
  refine Ex.ind (P := fun e => e.len R ≤ M * e.cnt + e.wt) ?_ e
  intro k n s a ih
  have hL : Ex.len.lenL R a ≤ M * Ex.cnt.cntL a + Ex.wt.wtL a := by
    induction a with
    | nil => simp [Ex.len.lenL]
    | cons x a ihl =>
      have h1 := ih x (by simp)
      have h2 := ihl (fun e he => ih e (by simp [he]))
      simp only [Ex.len.lenL, Ex.cnt.cntL, Ex.wt.wtL, Nat.mul_add]; omega
  simp only [Ex.len, Ex.cnt, Ex.wt, Nat.mul_add, Nat.mul_one]
  split
  · omega
  split
  · omega
  split
  · have : ((R.words[n.toNat]?).getD []).length ≤ M := by
      cases hx : R.words[n.toNat]? with
      | none => simp
      | some x => exact h3 x (List.mem_of_getElem? hx)
    omega
  split
  · omega
  · omega
theorem far_le (R : Rc) (M : Nat) (h1 : R.it.length ≤ M) (h2 : R.line.length ≤ M) (h3 : ∀ x ∈ R.words, x.length ≤ M) (h4 : R.words.length ≤ M) (e : Ex) : ∀ t c, e.ok t c = true → e.far R ≤ (M + 1000) * e.cnt + e.wt := by
  refine Ex.ind (P := fun e => ∀ t c, e.ok t c = true → e.far R ≤ (M + 1000) * e.cnt + e.wt) ?_ e
  intro k n s a ih t c hok
  simp only [Ex.ok, Bool.and_eq_true] at hok
  have hlenL : Ex.len.lenL R a ≤ M * Ex.cnt.cntL a + Ex.wt.wtL a := by
    clear hok ih
    induction a with
    | nil => simp [Ex.len.lenL]
    | cons x a ihl =>
      have h5 := len_le R M h1 h2 h3 x
      simp only [Ex.len.lenL, Ex.cnt.cntL, Ex.wt.wtL, Nat.mul_add]; omega
  have hL : Ex.far.farL R a ≤ (M + 1000) * Ex.cnt.cntL a + Ex.wt.wtL a := by
    have hk := hok.2
    clear hlenL
    clear hok
    induction a with
    | nil => simp [Ex.far.farL]
    | cons x a ihl =>
      simp only [Ex.ok.okL, Bool.and_eq_true] at hk
      have h5 := ih x (by simp) _ _ hk.1
      have h6 := ihl (fun e he => ih e (by simp [he])) hk.2
      simp only [Ex.far.farL, Ex.cnt.cntL, Ex.wt.wtL, Nat.mul_add]; omega
  have hh := hok.1
  simp only [Ex.far, Ex.cnt, Ex.wt, Nat.mul_add, Nat.mul_one]
  split
  · rename_i hk
    subst hk
    simp only [hdOk, Bool.and_eq_true, decide_eq_true_eq] at hh
    have h7 := hh.1.1.1.2
    have h8 := hh.1.1.2
    simp only [lowK, highK] at h7 h8
    simp at h7 h8
    omega
  split
  · simp only [Nat.add_mul]; omega
  split
  · omega
  · omega
end Go.Proofs.YtmgpacenooncjaaGreatDoor
