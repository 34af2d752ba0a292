/- Tasks: each act, whatever its index: what the program and the document answer. -/
import Derived.Test.YtilgiehcpmafgaaT6
namespace Go.Proofs.Ytilgiehcpmafgaa
open Go.ChangeShapes Go.WideShapes Go.ChangeAt Go.RowKit
namespace Tk
def inR (a b : List Int) (fold : Bool) (i : Int) : Bool := decide (0 ≤ i) && decide (i < (sel fold a b).length)
def bF (a b : List Int) (fold : Bool) (i : Int) : Int := if inR a b fold i then begF a b fold i.toNat else 5
def bA (a b : List Int) (fold : Bool) (i : Int) : List Int := if inR a b fold i then (if begF a b fold i.toNat = 0 then updA fold a i.toNat 1 else a) else a
def bB (a b : List Int) (fold : Bool) (i : Int) : List Int := if inR a b fold i then (if begF a b fold i.toNat = 0 then updB fold b i.toNat 1 else b) else b
def wF (a b : List Int) (fold : Bool) (i : Int) : Int := if inR a b fold i then 0 else 5
def wA (a b : List Int) (fold : Bool) (i : Int) : List Int := if inR a b fold i then (if (sel fold a b).getD i.toNat 0 = 1 then updA fold a i.toNat 0 else a) else a
def wB (a b : List Int) (fold : Bool) (i : Int) : List Int := if inR a b fold i then (if (sel fold a b).getD i.toNat 0 = 1 then updB fold b i.toNat 0 else b) else b
def fT (a b : List Int) (fold : Bool) (i : Int) : Bool := if inR a b fold i then (sel fold a b).getD i.toNat 0 != 2 else false
def fA (a b : List Int) (fold : Bool) (i : Int) : List Int := if inR a b fold i then updA fold a i.toNat 2 else a
def fB (a b : List Int) (fold : Bool) (i : Int) : List Int := if inR a b fold i then updB fold b i.toNat 2 else b
def fC (a b c : List Int) (fold : Bool) (i m : Int) : List Int := if inR a b fold i then (if (sel fold a b).getD i.toNat 0 != 2 && !fold then c.set i.toNat m else c) else c
theorem inR_yes {a b : List Int} {fold : Bool} {i : Int} (h : inR a b fold i = true) : ∃ k : Nat, i = k ∧ k < (sel fold a b).length ∧ i.toNat = k := by
  unfold inR at h
  rw [Bool.and_eq_true, decide_eq_true_eq, decide_eq_true_eq] at h
  exact ⟨i.toNat, by omega, by omega, rfl⟩
theorem inR_no {a b : List Int} {fold : Bool} {i : Int} (h : inR a b fold i = false) : i < 0 ∨ ((sel fold a b).length : Int) ≤ i := by
  unfold inR at h
  rw [Bool.and_eq_false_iff, decide_eq_false_iff_not, decide_eq_false_iff_not] at h
  omega
theorem begF_pos (a b : List Int) (fold : Bool) (k : Nat) : 0 ≤ begF a b fold k := by unfold begF; split <;> omega
theorem bF_pos (a b : List Int) (fold : Bool) (i : Int) : 0 ≤ bF a b fold i := by
  unfold bF
  have := begF_pos a b fold i.toNat
  split <;> omega
theorem wF_pos (a b : List Int) (fold : Bool) (i : Int) : 0 ≤ wF a b fold i := by unfold wF; split <;> omega
end Tk
open Tk
theorem begin_all {lo hi P : Nat} {va vb vc : Value} {a b c : List Int} (w : World) (h : IsT 70 w lo hi P va vb vc a b c) (fold : Bool) (i : Int) :
    Calls Try.prog 11 #[.pointer (some ⟨P, 0, none⟩), .bool fold, .int .i64 i] w fun e w' => e = .returned (errV (bF a b fold i)) ∧ IsT 70 w' lo hi P va vb vc (bA a b fold i) (bB a b fold i) c ∧ Win lo hi w w' := by
  unfold bF bA bB
  cases hr : inR a b fold i with
  | true =>
    obtain ⟨k, rfl, hk, e⟩ := inR_yes hr
    rw [e]
    exact begin_in w h fold k hk
  | false =>
    refine (begin_out w h fold i (inR_no hr)).mono ?_
    rintro _ w' ⟨rfl, h9⟩
    rw [h9]
    exact ⟨rfl, h, Win.refl _ _ _⟩
theorem set1_all {lo hi P : Nat} {va vb vc : Value} {a b c : List Int} (w : World) (h : IsT 72 w lo hi P va vb vc a b c) (fold : Bool) (i : Int) :
    Calls Try.prog 10 #[.pointer (some ⟨P, 0, none⟩), .bool fold, .int .i64 i, .int .i64 1, .int .i64 0] w fun e w' => ∃ bl, e = .returned (.tuple #[.bool bl, .int .i64 (bF a b fold i)]) ∧ IsT 72 w' lo hi P va vb vc (bA a b fold i) (bB a b fold i) c ∧ Win lo hi w w' := by
  unfold bF bA bB
  cases hr : inR a b fold i with
  | true =>
    obtain ⟨k, rfl, hk, e⟩ := inR_yes hr
    rw [e]
    exact set1_in w h fold k hk
  | false =>
    refine (set_out w h fold i 1 0 (inR_no hr)).mono ?_
    rintro _ w' ⟨rfl, h9⟩
    rw [h9]
    exact ⟨_, rfl, h, Win.refl _ _ _⟩
theorem wait_all {lo hi P : Nat} {va vb vc : Value} {a b c : List Int} (w : World) (h : IsT 70 w lo hi P va vb vc a b c) (fold : Bool) (i : Int) :
    Calls Try.prog 12 #[.pointer (some ⟨P, 0, none⟩), .bool fold, .int .i64 i] w fun e w' => e = .returned (errV (wF a b fold i)) ∧ IsT 70 w' lo hi P va vb vc (wA a b fold i) (wB a b fold i) c ∧ Win lo hi w w' := by
  unfold wF wA wB
  cases hr : inR a b fold i with
  | true =>
    obtain ⟨k, rfl, hk, e⟩ := inR_yes hr
    rw [e]
    exact wait_in w h fold k hk
  | false =>
    refine (wait_out w h fold i (inR_no hr)).mono ?_
    rintro _ w' ⟨rfl, h9⟩
    rw [h9]
    exact ⟨rfl, h, Win.refl _ _ _⟩
theorem set0_all {lo hi P : Nat} {va vb vc : Value} {a b c : List Int} (w : World) (h : IsT 72 w lo hi P va vb vc a b c) (fold : Bool) (i : Int) :
    Calls Try.prog 10 #[.pointer (some ⟨P, 0, none⟩), .bool fold, .int .i64 i, .int .i64 0, .int .i64 0] w fun e w' => ∃ bl, e = .returned (.tuple #[.bool bl, .int .i64 (wF a b fold i)]) ∧ IsT 72 w' lo hi P va vb vc (wA a b fold i) (wB a b fold i) c ∧ Win lo hi w w' := by
  unfold wF wA wB
  cases hr : inR a b fold i with
  | true =>
    obtain ⟨k, rfl, hk, e⟩ := inR_yes hr
    rw [e]
    exact set0_in w h fold k hk
  | false =>
    refine (set_out w h fold i 0 0 (inR_no hr)).mono ?_
    rintro _ w' ⟨rfl, h9⟩
    rw [h9]
    exact ⟨_, rfl, h, Win.refl _ _ _⟩
theorem finish_all {lo hi P : Nat} {va vb vc : Value} {a b c : List Int} (w : World) (h : IsT 70 w lo hi P va vb vc a b c) (fold : Bool) (i m : Int) :
    Calls Try.prog 13 #[.pointer (some ⟨P, 0, none⟩), .bool fold, .int .i64 i, .int .i64 m] w fun e w' => e = .returned (.tuple #[.bool (fT a b fold i), errV (wF a b fold i)]) ∧ IsT 70 w' lo hi P va vb vc (fA a b fold i) (fB a b fold i) (fC a b c fold i m) ∧ Win lo hi w w' := by
  unfold wF fT fA fB fC
  cases hr : inR a b fold i with
  | true =>
    obtain ⟨k, rfl, hk, e⟩ := inR_yes hr
    rw [e]
    exact finish_in w h fold k m hk
  | false =>
    refine (finish_out w h fold i m (inR_no hr)).mono ?_
    rintro _ w' ⟨rfl, h9⟩
    rw [h9]
    exact ⟨rfl, h, Win.refl _ _ _⟩
theorem set2_all {lo hi P : Nat} {va vb vc : Value} {a b c : List Int} (w : World) (h : IsT 72 w lo hi P va vb vc a b c) (fold : Bool) (i m : Int) :
    Calls Try.prog 10 #[.pointer (some ⟨P, 0, none⟩), .bool fold, .int .i64 i, .int .i64 2, .int .i64 m] w fun e w' => e = .returned (.tuple #[.bool (fT a b fold i), .int .i64 (wF a b fold i)]) ∧ IsT 72 w' lo hi P va vb vc (fA a b fold i) (fB a b fold i) (fC a b c fold i m) ∧ Win lo hi w w' := by
  unfold wF fT fA fB fC
  cases hr : inR a b fold i with
  | true =>
    obtain ⟨k, rfl, hk, e⟩ := inR_yes hr
    rw [e]
    exact set2_in w h fold k m hk
  | false =>
    refine (set_out w h fold i 2 m (inR_no hr)).mono ?_
    rintro _ w' ⟨rfl, h9⟩
    rw [h9]
    exact ⟨rfl, h, Win.refl _ _ _⟩
end Go.Proofs.Ytilgiehcpmafgaa
