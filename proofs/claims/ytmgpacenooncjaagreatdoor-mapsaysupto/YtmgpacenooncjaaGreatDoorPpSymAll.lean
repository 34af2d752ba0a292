/- Contract of package slices' merge in place at pairs, and blocks of a list that are in order. -/
import Derived.Test.YtmgpacenooncjaaGreatDoorPpSymM1
import Derived.Test.YtmgpacenooncjaaGreatDoorPpSymM2
namespace Go.Proofs.YtmgpacenooncjaaGreatDoor.Pp
open Go.ChangeShapes Go.WideShapes Go.ChangeAt Go.RowKit
open Stable
theorem symOK_all (g n cap : Nat) (hN : n ≤ 1000000) : ∀ d, SymOK g n cap d := by
  intro d
  induction d with
  | zero => intro P X Y Q w _ _ a m b ha hm hb hX hY hd; omega
  | succ d ih =>
    intro P X Y Q w hr hn a m b ha hm hb hX hY hd sX sY
    have IH : SymOK g n cap (b - a) := fun P' X' Y' Q' w' hr' hn' a' m' b' ha' hm' hb' hX' hY' hd' => ih P' X' Y' Q' w' hr' hn' a' m' b' ha' hm' hb' hX' hY' (by omega)
    match X, hX, hm, sX, hr, hn with
    | [x], _, hm, sX, hr, hn =>
      refine (symLeft_any g n cap P Y Q x w hr hn hN a m b ha (by simpa using hm) hb sY).mono ?_
      rintro e w' ⟨rfl, ⟨Z, z1, z2, z3, z4⟩, ho⟩
      exact ⟨rfl, ⟨Z, z1, z2, by rw [z3]; simp; omega, z4⟩, ho⟩
    | x :: x2 :: X', _, hm, sX, hr, hn =>
      match Y, hY, hb, sY, hr, hn with
      | [y], _, hb, sY, hr, hn =>
        refine (symRight_any g n cap P (x :: x2 :: X') Q y w hr hn hN a m b ha hm (by simpa using hb) sX (by simp)).mono ?_
        rintro e w' ⟨rfl, ⟨Z, z1, z2, z3, z4⟩, ho⟩
        exact ⟨rfl, ⟨Z, z1, z2, by rw [z3]; simp, z4⟩, ho⟩
      | y :: y2 :: Y', _, hb, sY, hr, hn =>
        by_cases hc : (a + b) / 2 < m
        · exact symMid1_any g n cap P (x :: x2 :: X') (y :: y2 :: Y') Q w hr hn hN a m b _ ha hm hb (by simp) (by simp) sX sY rfl hc IH
        · exact symMid2_any g n cap P (x :: x2 :: X') (y :: y2 :: Y') Q w hr hn hN a m b _ ha hm hb (by simp) (by simp) sX sY rfl (by omega) IH
theorem symMerge_any (g n cap : Nat) (P X Y Q : List (ByteArray × Int)) (w : World) (hr : Row g (P ++ X ++ Y ++ Q) w) (hn : n = (P ++ X ++ Y ++ Q).length) (hN : n ≤ 1000000) (a m b : Nat) (ha : a = P.length) (hm : m = a + X.length) (hb : b = m + Y.length) (hX : 0 < X.length) (hY : 0 < Y.length) (sX : Sorted X) (sY : Sorted Y) :
    Calls Tryz.prog 117 #[.slice (some ⟨g, 0, none⟩) n cap, .int .i64 a, .int .i64 m, .int .i64 b, .func (.func 80) #[] #[]] w fun e w' => e = .returned (.tuple #[]) ∧ (∃ Z, Sorted Z ∧ SE (X ++ Y) Z ∧ Z.length = X.length + Y.length ∧ Row g (P ++ Z ++ Q) w') ∧ Only g w w' :=
  symOK_all g n cap hN (b + 1 - a) P X Y Q w hr hn a m b ha hm hb hX hY (by omega) sX sY

/-- Full blocks of k, each in order. -/
def Fu (k : Nat) (D : List (ByteArray × Int)) : Prop := ∃ ls : List (List (ByteArray × Int)), D = ls.flatten ∧ ∀ l ∈ ls, l.length = k ∧ Sorted l
theorem Fu.nil {k : Nat} : Fu k [] := ⟨[], rfl, fun l hl => by cases hl⟩
theorem Fu.snoc {k : Nat} {D l : List (ByteArray × Int)} (h : Fu k D) (hl : l.length = k) (hs : Sorted l) : Fu k (D ++ l) := by
  obtain ⟨ls, rfl, h2⟩ := h
  refine ⟨ls ++ [l], by simp, fun x hx => ?_⟩
  rcases List.mem_append.1 hx with hx | hx
  · exact h2 x hx
  · rw [List.mem_singleton] at hx; subst hx; exact ⟨hl, hs⟩
/-- Blocks of k, the last one maybe shorter, each in order. -/
def Bk (k : Nat) (R : List (ByteArray × Int)) : Prop := ∃ (ls : List (List (ByteArray × Int))) (z : List (ByteArray × Int)), R = ls.flatten ++ z ∧ (∀ l ∈ ls, l.length = k ∧ Sorted l) ∧ z.length ≤ k ∧ Sorted z
theorem Bk.last {k : Nat} {l : List (ByteArray × Int)} (h : l.length ≤ k) (hs : Sorted l) : Bk k l := ⟨[], l, rfl, (fun x hx => by cases hx), h, hs⟩
theorem Bk.cons {k : Nat} {l r : List (ByteArray × Int)} (hl : l.length = k) (hs : Sorted l) (h : Bk k r) : Bk k (l ++ r) := by
  obtain ⟨ls, z, rfl, h2, h3, h4⟩ := h
  refine ⟨l :: ls, z, by simp, fun x hx => ?_, h3, h4⟩
  rcases List.mem_cons.1 hx with rfl | hx
  · exact ⟨hl, hs⟩
  · exact h2 x hx
theorem Bk.either {k : Nat} {R : List (ByteArray × Int)} (h : Bk k R) : (R.length ≤ k ∧ Sorted R) ∨ ∃ l r, R = l ++ r ∧ l.length = k ∧ Sorted l ∧ Bk k r := by
  obtain ⟨ls, z, rfl, h2, h3, h4⟩ := h
  cases ls with
  | nil => exact .inl ⟨by simpa using h3, by simpa using h4⟩
  | cons l ls =>
    obtain ⟨a, b⟩ := h2 l (List.mem_cons_self ..)
    exact .inr ⟨l, ls.flatten ++ z, by simp, a, b, ls, z, rfl, fun x hx => h2 x (List.mem_cons_of_mem _ hx), h3, h4⟩
theorem Fu.bk {k : Nat} {D : List (ByteArray × Int)} (h : Fu k D) : ∀ R, Bk k R → Bk k (D ++ R) := by
  obtain ⟨ls, rfl, h2⟩ := h
  rintro R ⟨ms, z, rfl, h3, h4, h5⟩
  refine ⟨ls ++ ms, z, by simp, fun x hx => ?_, h4, h5⟩
  rcases List.mem_append.1 hx with hx | hx
  · exact h2 x hx
  · exact h3 x hx
theorem Bk.two {k : Nat} {R : List (ByteArray × Int)} (h : Bk k R) (hk : 0 < k) (hR : 2 * k ≤ R.length) : ∃ l1 l2 r, R = l1 ++ l2 ++ r ∧ l1.length = k ∧ l2.length = k ∧ Sorted l1 ∧ Sorted l2 ∧ Bk k r := by
  rcases h.either with ⟨h1, _⟩ | ⟨l, r, rfl, h1, h2, h3⟩
  · omega
  · rw [List.length_append] at hR
    rcases h3.either with ⟨h4, h5⟩ | ⟨l2, r2, rfl, h4, h5, h6⟩
    · exact ⟨l, r, [], by simp, h1, by omega, h2, h5, Bk.last (by simp) List.Pairwise.nil⟩
    · exact ⟨l, l2, r2, by simp, h1, h4, h2, h5, h6⟩
theorem Bk.one {k : Nat} {R : List (ByteArray × Int)} (h : Bk k R) (h1 : k < R.length) (h2 : R.length < 2 * k) : ∃ l1 l2, R = l1 ++ l2 ∧ l1.length = k ∧ Sorted l1 ∧ Sorted l2 := by
  rcases h.either with ⟨h3, _⟩ | ⟨l, r, rfl, h3, h4, h5⟩
  · omega
  · rw [List.length_append] at h2
    rcases h5.either with ⟨h6, h7⟩ | ⟨l2, r2, rfl, h6, h7, h8⟩
    · exact ⟨l, r, rfl, h3, h4, h7⟩
    · rw [List.length_append] at h2; omega
theorem Bk.none {k : Nat} {R : List (ByteArray × Int)} (h : Bk k R) (h1 : R.length ≤ k) : Sorted R := by
  rcases h.either with ⟨_, h3⟩ | ⟨l, r, rfl, h3, h4, h5⟩
  · exact h3
  · rw [List.length_append] at h1
    have : r = [] := List.eq_nil_of_length_eq_zero (by omega)
    subst this
    simpa using h4
end Go.Proofs.YtmgpacenooncjaaGreatDoor.Pp
