/- Contract of the closure by which pairs are put in order. -/
import Derived.Test.YtmgpacenooncjaaGreatDoorPpMem
import Derived.Shelf.Small.Strs
namespace Go.Proofs.YtmgpacenooncjaaGreatDoor.Pp
open Go.ChangeShapes Go.WideShapes Go.ChangeAt Go.RowKit Go.Shelf
open Stable

def cmpRen : Go.Shelf.Ren := ⟨fun | 106 => 81 | 213 => 100 | 265 => 118 | n => n, fun | 9 => 9 | 3 => 3 | n => n, fun | n => n⟩
theorem cmpLays : Go.Proofs.Lays.n106 Tryz.prog cmpRen := {
  mixed := by kernel_rfl
  f106 := Tryz.func81.trans (congrArg some (by kernel_rfl))
  f213 := Tryz.func100.trans (congrArg some (by kernel_rfl))
  f265 := Tryz.func118.trans (congrArg some (by kernel_rfl))
  t3 := Tryz.underlying3
  a3 := Tryz.isAgg3
  z3 := Tryz.sizeOf3
  v3 := Tryz.zeroValue3
  t9 := Tryz.underlying9
  a9 := Tryz.isAgg9
  z9 := Tryz.sizeOf9
  v9 := Tryz.zeroValue9 }
theorem compare_any (a b : ByteArray) (w : World) : Calls Tryz.prog 81 #[.string a, .string b] w fun e w' => e = .returned (.int .i64 (Lib.compareBytes a.data.toList b.data.toList)) ∧ w' = w := Any.strings_Compare cmpLays a b w
theorem compare_lt : ∀ a b : List UInt8, (Lib.compareBytes a b < 0 ↔ bl a b = true) ∧ -1 ≤ Lib.compareBytes a b ∧ Lib.compareBytes a b ≤ 1 := by
  intro a
  induction a with
  | nil =>
    intro b
    cases b with
    | nil => simp [Lib.compareBytes, bl, Op.bytesLess]
    | cons y b => simp [Lib.compareBytes, bl, Op.bytesLess]
  | cons x a ih =>
    intro b
    cases b with
    | nil => simp [Lib.compareBytes, bl, Op.bytesLess]
    | cons y b =>
      have IH := ih b
      simp only [Lib.compareBytes, bl, Op.bytesLess, Bool.or_eq_true, Bool.and_eq_true, decide_eq_true_eq, beq_iff_eq] at IH ⊢
      by_cases h1 : x < y
      · simp [h1]
      · by_cases h2 : y < x
        · have h3 : x ≠ y := fun e => by subst e; exact h1 h2
          simp [h1, h2, h3]
        · have h3 : x = y := by
            apply UInt8.toNat_inj.1
            have a1 : ¬ x.toNat < y.toNat := fun h => h1 (UInt8.lt_iff_toNat_lt.2 h)
            have a2 : ¬ y.toNat < x.toNat := fun h => h2 (UInt8.lt_iff_toNat_lt.2 h)
            omega
          subst h3
          simp only [h1, if_false, false_or, true_and]
          exact IH
def cmpN (x y : ByteArray × Int) : Int := Lib.compareBytes (key x) (key y)
theorem cmpN_lt (x y : ByteArray × Int) : (cmpN x y < 0 ↔ bl (key x) (key y) = true) := (compare_lt _ _).1
set_option maxRecDepth 100000 in
theorem cmp_any (x y : ByteArray × Int) (w : World) :
    Calls Tryz.prog 80 #[.agg #[.string x.1, .int .i64 x.2], .agg #[.string y.1, .int .i64 y.2]] w fun e w' => e = .returned (.int .i64 (cmpN x y)) ∧ Below w.heap.size w w' := by
  go_enter Tryz.func80, Tryz.ntmps80
  go_wp2_with (go_at_call 81; refine (compare_any _ _ _).mono ?_; rintro e w1 ⟨rfl, rfl⟩)
  go_ret
  refine ⟨?_, ((Below.refl _ _).alloc (Nat.le_refl _) _).alloc (by simp) _⟩
  unfold cmpN key
  rw [ByteArray.toList_eq, ByteArray.toList_eq]; rfl
/-- The closure as a value. -/
def cmpV : Value := .func (.func 80) #[] #[]
theorem cmp_regrown (x y : ByteArray × Int) (wr : World) : ∀ d os, Calls Tryz.prog 80 #[.agg #[.string x.1, .int .i64 x.2], .agg #[.string y.1, .int .i64 y.2]] (Sort.grow (redrawn wr d) os) fun e w'' => e = .returned (.int .i64 (cmpN x y)) ∧ ∃ p : Regrown, w'' = Sort.grow (redrawn wr p.d) p.os :=
  fun _ _ => Calls.regrown_of (cmp_any x y _)
end Go.Proofs.YtmgpacenooncjaaGreatDoor.Pp
