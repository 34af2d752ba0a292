/- Benches: the document's numbering of places. -/
import Derived.Test.YtilgiehcpmafgaaB9
namespace Go.Proofs.Ytilgiehcpmafgaa
open Go.ChangeShapes Go.WideShapes Go.ChangeAt Go.RowKit
open Bn
/-- The k-th slot is slot k % S of worker k / S. -/
structure Placed (L : List Sl) (W S : Nat) : Prop where
  pos : 1 ≤ S
  len : L.length = W * S
  place : ∀ k (h : k < L.length), L[k].pw = ((k / S : Nat) : Int) ∧ L[k].ps = ((k % S : Nat) : Int)
theorem IsB.placed {w : World} {lo hi P W S g cap : Nat} {L : List Sl} (h : IsB w lo hi P W S g cap L) : Placed L W S := ⟨h.s1.1, h.len, h.place⟩
theorem Placed.lt {L : List Sl} {W S a b : Nat} (h : Placed L W S) (ha : a < W) (hb : b < S) : a * S + b < L.length := by
  rw [h.len]
  have : (a + 1) * S ≤ W * S := Nat.mul_le_mul_right S ha
  rw [Nat.succ_mul] at this
  omega
theorem Placed.dm {S a b : Nat} (hb : b < S) : (a * S + b) / S = a ∧ (a * S + b) % S = b := by
  constructor
  · rw [Nat.add_comm, Nat.add_mul_div_right _ _ (by omega), Nat.div_eq_of_lt hb, Nat.zero_add]
  · rw [Nat.add_comm, Nat.add_mul_mod_self_right, Nat.mod_eq_of_lt hb]
theorem Placed.is {L : List Sl} {W S k : Nat} (h : Placed L W S) (hk : k < L.length) (a b : Int) : isPlace a b L[k] = true ↔ (((k / S : Nat) : Int) = a ∧ ((k % S : Nat) : Int) = b) := by
  have := h.place k hk
  simp [isPlace, this.1, this.2]
theorem Placed.bound {L : List Sl} {W S k : Nat} (h : Placed L W S) (hk : k < L.length) : k / S < W ∧ k % S < S := by
  have hp := h.pos
  rw [h.len] at hk
  exact ⟨(Nat.div_lt_iff_lt_mul (by omega)).2 hk, Nat.mod_lt _ (by omega)⟩
theorem Placed.there {L : List Sl} {W S a b : Nat} (h : Placed L W S) (ha : a < W) (hb : b < S) : idx (isPlace a b) L = ((a * S + b : Nat) : Int) := by
  refine idx_at _ L _ (h.lt ha hb) (fun j hj hjk => ?_) ((h.is (h.lt ha hb) _ _).2 ⟨by rw [(Placed.dm hb).1], by rw [(Placed.dm hb).2]⟩)
  rw [Bool.eq_false_iff]
  intro e
  have e1 := (h.is hj _ _).1 e
  have e2 := Nat.div_add_mod j S
  have e3 : j / S = a := by omega
  have e4 : j % S = b := by omega
  rw [e3, e4, Nat.mul_comm] at e2
  omega
theorem Placed.nowhere {L : List Sl} {W S : Nat} (h : Placed L W S) {a b : Int} (hn : ¬ ((0 ≤ a ∧ a < W) ∧ 0 ≤ b ∧ b < S)) : idx (isPlace a b) L = -1 := by
  refine idx_none _ L fun j hj => ?_
  rw [Bool.eq_false_iff]
  intro e
  have e1 := (h.is hj _ _).1 e
  have e2 := h.bound hj
  generalize j / S = x at *
  generalize j % S = y at *
  omega
theorem Placed.isF {L : List Sl} {W S k : Nat} (h : Placed L W S) (hk : k < L.length) (a : Nat) : isFree a L[k] = true ↔ (k / S = a ∧ L[k].taken = false) := by
  have := h.place k hk
  simp [isFree, this.1]
  omega
/-- The first free slot of a worker. -/
theorem Placed.free {L : List Sl} {W S a b : Nat} (h : Placed L W S) (ha : a < W) (hb : b < S) (hf : (L[a * S + b]'(h.lt ha hb)).taken = false) (hl : ∀ n (hn : n < b), (L[a * S + n]'(h.lt ha (Nat.lt_trans hn hb))).taken = true) : idx (isFree a) L = ((a * S + b : Nat) : Int) := by
  refine idx_at _ L _ (h.lt ha hb) (fun j hj hjk => ?_) ((h.isF (h.lt ha hb) a).2 ⟨(Placed.dm hb).1, hf⟩)
  rw [Bool.eq_false_iff]
  intro e
  have e1 := (h.isF hj a).1 e
  have e2 := Nat.div_add_mod j S
  rw [e1.1, Nat.mul_comm] at e2
  have e3 : j % S < b := by omega
  have e4 := hl _ e3
  have e5 : a * S + j % S = j := e2
  simp only [e5] at e4
  rw [e1.2] at e4
  cases e4
theorem Placed.full {L : List Sl} {W S a : Nat} (h : Placed L W S) (ha : a < W) (hl : ∀ n (hn : n < S), (L[a * S + n]'(h.lt ha hn)).taken = true) : idx (isFree a) L = -1 := by
  refine idx_none _ L fun j hj => ?_
  rw [Bool.eq_false_iff]
  intro e
  have e1 := (h.isF hj a).1 e
  have e2 := Nat.div_add_mod j S
  rw [e1.1, Nat.mul_comm] at e2
  have e4 := hl _ (h.bound hj).2
  have e5 : a * S + j % S = j := e2
  simp only [e5] at e4
  rw [e1.2] at e4
  cases e4
theorem idx_any (p : Sl → Bool) (L : List Sl) : decide (0 ≤ idx p L) = L.any p := by
  induction L with
  | nil => rfl
  | cons x L ih =>
    rw [List.any_cons, ← ih, idx]
    by_cases hx : p x = true
    · simp [hx]
    · simp only [hx, Bool.false_eq_true, if_false, Bool.false_or]
      by_cases hn : idx p L < 0
      · rw [if_pos hn]
        simp
        omega
      · rw [if_neg hn]
        simp
        omega
end Go.Proofs.Ytilgiehcpmafgaa
