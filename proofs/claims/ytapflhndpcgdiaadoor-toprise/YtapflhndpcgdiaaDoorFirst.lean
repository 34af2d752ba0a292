/- Contracts of pair.cutKey and pair.first: what a text begins with. -/
import Derived.Test.YtapflhndpcgdiaaDoorRead
namespace Go.Proofs.YtapflhndpcgdiaaDoor
open Go.ChangeShapes Go.WideShapes Go.ChangeAt Go.RowKit
open Num

/-- A key that is told ahead of ':', what stands behind it, and whether it is there. -/
def keyT (l : List UInt8) : List UInt8 × List UInt8 × Bool :=
  if (cutAt 58 l).2.2 then
    match numB (cutAt 58 l).1 with
    | some n => if 0 ≤ n ∧ n ≤ ((cutAt 58 l).2.1.length : Int) then ((cutAt 58 l).2.1.take n.toNat, (cutAt 58 l).2.1.drop n.toNat, true) else ([], [], false)
    | none => ([], [], false)
  else ([], [], false)
theorem cutAt_len (c : UInt8) : ∀ l : List UInt8, (cutAt c l).1.length ≤ l.length ∧ (cutAt c l).2.1.length ≤ l.length ∧ ((cutAt c l).2.2 = true → (cutAt c l).2.1.length < l.length) := by
  intro l
  induction l with
  | nil => simp [cutAt]
  | cons b r ih =>
    unfold cutAt
    split
    · simp
    · simp only [List.length_cons]
      exact ⟨by omega, by omega, fun h => by have := ih.2.2 h; omega⟩

set_option maxRecDepth 100000 in
set_option maxHeartbeats 1000000 in
theorem cutKey_any (l : List UInt8) (w : World) (E : Env w) (hl : l.length ≤ 4000000000) :
    Calls Tryd.prog 49 #[.string (bs l)] w fun e w' => e = .returned (.tuple #[.string (bs (keyT l).1), .string (bs (keyT l).2.1), .bool (keyT l).2.2]) ∧ Below w.heap.size w w' := by
  have hsz := bs_size l
  have C1 : Hid (∀ w, Env w → Calls Tryd.prog 50 #[.string (bs l), .string ⟨#[58]⟩] w fun e w' => e = .returned (.tuple #[.string (bs (cutAt 58 l).1), .string (bs (cutAt 58 l).2.1), .bool (cutAt 58 l).2.2]) ∧ Below w.heap.size w w') := by
    intro w E
    have := cut_any (bs l) 58 w E (by omega)
    rw [bs_data] at this
    exact this
  have hlen := cutAt_len 58 l
  have C2 : Hid (∀ w, Env w → Calls Tryd.prog 51 #[.string (bs (cutAt 58 l).1)] w fun e w' => e = .returned (.tuple #[.int .i64 ((numB (cutAt 58 l).1).getD 0), .bool (numB (cutAt 58 l).1).isSome]) ∧ Below w.heap.size w w') := fun w E => number_pair _ w E (by omega)
  have hemp : bs [] = ⟨#[]⟩ := rfl
  unfold keyT
  rcases hc : cutAt 58 l with ⟨a, rest, ok⟩
  rw [hc] at C1 C2 hlen
  have hrs := bs_size rest
  simp only at C1 C2 hlen ⊢
  clear hc
  cases ok with
  | false =>
    rw [if_neg (by simp)]
    cases hn : numB a with
    | none =>
      rw [hn] at C2
      simp only [Option.getD_none, Option.isSome_none] at C2
      clear hn
      go_enter Tryd.func49, Tryd.ntmps49
      go_wp2_with (first | (go_at_call 50; refine (C1.out _ E).mono ?_; rintro e w1 ⟨rfl, hb1⟩) | (go_at_call 51; refine (C2.out _ (E.below hb1)).mono ?_; rintro e w2 ⟨rfl, hb2⟩))
      go_ret3
      exact ⟨rfl, below_trans hb1 hb2⟩
    | some n =>
      rw [hn] at C2
      simp only [Option.getD_some, Option.isSome_some] at C2
      clear hn
      go_enter Tryd.func49, Tryd.ntmps49
      go_wp2_with (first | (go_at_call 50; refine (C1.out _ E).mono ?_; rintro e w1 ⟨rfl, hb1⟩) | (go_at_call 51; refine (C2.out _ (E.below hb1)).mono ?_; rintro e w2 ⟨rfl, hb2⟩))
      go_ret3
      exact ⟨rfl, below_trans hb1 hb2⟩
  | true =>
    rw [if_pos rfl]
    cases hn : numB a with
    | none =>
      rw [hn] at C2
      simp only [Option.getD_none, Option.isSome_none] at C2
      clear hn
      go_enter Tryd.func49, Tryd.ntmps49
      go_wp2_with (first | (go_at_call 50; refine (C1.out _ E).mono ?_; rintro e w1 ⟨rfl, hb1⟩) | (go_at_call 51; refine (C2.out _ (E.below hb1)).mono ?_; rintro e w2 ⟨rfl, hb2⟩))
      go_ret3
      exact ⟨rfl, below_trans hb1 hb2⟩
    | some n =>
      rw [hn] at C2
      simp only [Option.getD_some, Option.isSome_some] at C2
      clear hn
      simp only
      by_cases hr : 0 ≤ n ∧ n ≤ (rest.length : Int)
      · rw [if_pos hr]
        obtain ⟨hr0, hr1⟩ := hr
        obtain ⟨k, rfl⟩ := Int.eq_ofNat_of_zero_le hr0
        have hk : k ≤ rest.length := by omega
        have hk' : k ≤ (bs rest).size := by omega
        have hT := bs_take rest k
        have hD := bs_drop rest k
        have HT := Lib.hid hT
        have HD := Lib.hid hD
        have HR := Lib.hid hrs
        have hbig : (bs rest).size ≤ 9000000000 := by omega
        clear hT hD hrs hr0 hr1
        go_enter Tryd.func49, Tryd.ntmps49
        go_wp2_with (first | (go_at_call 50; refine (C1.out _ E).mono ?_; rintro e w1 ⟨rfl, hb1⟩) | (go_at_call 51; refine (C2.out _ (E.below hb1)).mono ?_; rintro e w2 ⟨rfl, hb2⟩))
        go_quiet (fail)
        go_wp2
        go_ret3
        refine ⟨?_, (below_trans hb1 hb2).trans ((below_drewN _ _).mono (below_trans hb1 hb2).size)⟩
        show Ending.returned (.tuple #[.string ((bs rest).extract 0 k), .string ((bs rest).extract k (bs rest).size), .bool true]) = _
        rw [HT.out, HD.out, Int.toNat_natCast]
      · rw [if_neg hr]
        go_enter Tryd.func49, Tryd.ntmps49
        go_wp2_with (first | (go_at_call 50; refine (C1.out _ E).mono ?_; rintro e w1 ⟨rfl, hb1⟩) | (go_at_call 51; refine (C2.out _ (E.below hb1)).mono ?_; rintro e w2 ⟨rfl, hb2⟩))
        all_goals go_ret3
        all_goals exact ⟨rfl, below_trans hb1 hb2⟩

/-- The pair that a text begins with, what stands behind it, and whether there is one. -/
def stepT (l : List UInt8) : (List UInt8 × Int) × List UInt8 × Bool :=
  if (keyT l).2.2 = true ∧ (keyT l).2.1.head? = some 32 then
    if (cutAt 10 (keyT l).2.1.tail).2.2 then
      match numB (cutAt 10 (keyT l).2.1.tail).1 with
      | some v => (((keyT l).1, v), (cutAt 10 (keyT l).2.1.tail).2.1, true)
      | none => (([], 0), [], false)
    else (([], 0), [], false)
  else (([], 0), [], false)
theorem keyT_len (l : List UInt8) : (keyT l).1.length ≤ l.length ∧ (keyT l).2.1.length ≤ l.length := by
  have h := cutAt_len 58 l
  unfold keyT
  split
  · split
    · split
      · simp only [List.length_take, List.length_drop]; omega
      · simp
    · simp
  · simp
def fstV (p : (List UInt8 × Int) × List UInt8 × Bool) : Value := .tuple #[.agg #[.string (bs p.1.1), .int .i64 p.1.2], .string (bs p.2.1), .bool p.2.2]
theorem bs_cons_ne (c : UInt8) (r : List UInt8) : (bs (c :: r)).toList.isEmpty = false := by rw [bs_toList]; rfl
theorem bs_cons_at (c : UInt8) (r : List UInt8) (h : 0 < (bs (c :: r)).size) : (bs (c :: r))[0] = c := by
  have : (bs (c :: r)).data.toList[0]? = some c := by rw [bs_data]; rfl
  rw [List.getElem?_eq_getElem (by simpa using h), Option.some.injEq] at this
  exact this

set_option maxRecDepth 100000 in
set_option maxHeartbeats 2000000 in
theorem first_any (l : List UInt8) (w : World) (E : Env w) (hl : l.length ≤ 4000000000) :
    Calls Tryd.prog 33 #[.string (bs l)] w fun e w' => e = .returned (fstV (stepT l)) ∧ Below w.heap.size w w' := by
  have C1 : Hid (∀ w, Env w → Calls Tryd.prog 49 #[.string (bs l)] w fun e w' => e = .returned (.tuple #[.string (bs (keyT l).1), .string (bs (keyT l).2.1), .bool (keyT l).2.2]) ∧ Below w.heap.size w w') := fun w E => cutKey_any l w E hl
  have hlen := keyT_len l
  unfold stepT
  rcases hk : keyT l with ⟨key, rest, ok⟩
  rw [hk] at C1 hlen
  simp only at C1 hlen ⊢
  clear hk
  cases ok with
  | false =>
    rw [if_neg (by simp)]
    go_enter Tryd.func33, Tryd.ntmps33
    go_wp2_with (go_at_call 49; refine (C1.out _ (E.below ((Below.refl _ _).alloc (Nat.le_refl _) _))).mono ?_; rintro e w1 ⟨rfl, hb1⟩; obtain ⟨hc1, hf1⟩ := bcell hb1)
    exact bodyPost_ret (v := fstV (([], 0), [], false)) (by simp [results, Tryd.results33, go_sem, hc1, fstV]; rfl) rfl ⟨rfl, ((((Below.refl _ _).alloc (Nat.le_refl _) _).trans (hb1.mono (by simp))).setCell (Nat.le_refl _) _).setCell (Nat.le_refl _) _⟩
  | true =>
    cases rest with
    | nil =>
      rw [if_neg (by simp)]
      have hT : (bs []).toList.isEmpty = true := by rw [bs_toList]; rfl
      go_enter Tryd.func33, Tryd.ntmps33
      go_wp2_with (go_at_call 49; refine (C1.out _ (E.below ((Below.refl _ _).alloc (Nat.le_refl _) _))).mono ?_; rintro e w1 ⟨rfl, hb1⟩; obtain ⟨hc1, hf1⟩ := bcell hb1)
      exact bodyPost_ret (v := fstV (([], 0), [], false)) (by simp [results, Tryd.results33, go_sem, hc1, fstV]; rfl) rfl ⟨rfl, ((((Below.refl _ _).alloc (Nat.le_refl _) _).trans (hb1.mono (by simp))).setCell (Nat.le_refl _) _).setCell (Nat.le_refl _) _⟩
    | cons c r =>
      have hT := bs_cons_ne c r
      have h0 : 0 < (bs (c :: r)).size := by rw [bs_size]; simp
      have h0' : (0 : Int) < (bs (c :: r)).size := by omega
      have hA := bs_cons_at c r
      have hsb : (bs (c :: r)).size ≤ 9000000000 := by rw [bs_size]; omega
      by_cases hc : c = 32
      · subst hc
        rw [if_pos (by simp), List.tail_cons]
        have hD : (bs (32 :: r)).extract 1 (bs (32 :: r)).size = bs r := by rw [bs_drop]; rfl
        have hn32 : (32 : UInt8).toNat = 32 := rfl
        have C2 : Hid (∀ w, Env w → Calls Tryd.prog 50 #[.string (bs r), .string ⟨#[10]⟩] w fun e w' => e = .returned (.tuple #[.string (bs (cutAt 10 r).1), .string (bs (cutAt 10 r).2.1), .bool (cutAt 10 r).2.2]) ∧ Below w.heap.size w w') := by
          intro w E
          have := cut_any (bs r) 10 w E (by rw [bs_size]; simp at hlen; omega)
          rw [bs_data] at this
          exact this
        have hlen2 := cutAt_len 10 r
        simp only [List.length_cons] at hlen
        rcases hc : cutAt 10 r with ⟨a, more, ok2⟩
        rw [hc] at C2 hlen2
        simp only at C2 hlen2 ⊢
        have C3 : Hid (∀ w, Env w → Calls Tryd.prog 51 #[.string (bs a)] w fun e w' => e = .returned (.tuple #[.int .i64 ((numB a).getD 0), .bool (numB a).isSome]) ∧ Below w.heap.size w w') := fun w E => number_pair a w E (by omega)
        clear hc hlen hlen2
        cases ok2 with
        | false =>
          rw [if_neg (by simp)]
          cases hn : numB a with
          | none =>
            rw [hn] at C3
            simp only [Option.getD_none, Option.isSome_none] at C3
            go_enter Tryd.func33, Tryd.ntmps33
            go_wp2_with (first | (go_at_call 49; refine (C1.out _ (E.below ((Below.refl _ _).alloc (Nat.le_refl _) _))).mono ?_; rintro e w1 ⟨rfl, hb1⟩; obtain ⟨hc1, hf1⟩ := bcell hb1; have hz1 : w.heap.size < w1.heap.size := by { have := hb1.size; simp at this; omega }; have E1 : Env w1 := E.below (((Below.refl _ _).alloc (Nat.le_refl _) _).trans (hb1.mono (by simp)))) | (go_at_call 50; refine (C2.out _ E1).mono ?_; rintro e w2 ⟨rfl, hb2⟩; obtain ⟨hc2, hf2⟩ := bcell hb2; have hz2 : w.heap.size < w2.heap.size := by { have := hb2.size; omega }; have E2 : Env w2 := E1.below hb2) | (go_at_call 51; refine (C3.out _ E2).mono ?_; rintro e w3 ⟨rfl, hb3⟩; obtain ⟨hc3, hf3⟩ := bcell hb3; have hz3 : w.heap.size < w3.heap.size := by { have := hb3.size; omega }))
            exact bodyPost_ret (v := fstV (([], 0), [], false)) (by simp [results, Tryd.results33, go_sem, hc1, hc2, hc3, hz1, hz2, fstV]; rfl) rfl ⟨rfl, ((((Below.refl _ _).alloc (Nat.le_refl _) _).trans ((below_trans (below_trans hb1 hb2) hb3).mono (by simp))).setCell (Nat.le_refl _) _).setCell (Nat.le_refl _) _⟩
          | some v =>
            rw [hn] at C3
            simp only [Option.getD_some, Option.isSome_some] at C3
            clear hn
            go_enter Tryd.func33, Tryd.ntmps33
            go_wp2_with (first | (go_at_call 49; refine (C1.out _ (E.below ((Below.refl _ _).alloc (Nat.le_refl _) _))).mono ?_; rintro e w1 ⟨rfl, hb1⟩; obtain ⟨hc1, hf1⟩ := bcell hb1; have hz1 : w.heap.size < w1.heap.size := by { have := hb1.size; simp at this; omega }; have E1 : Env w1 := E.below (((Below.refl _ _).alloc (Nat.le_refl _) _).trans (hb1.mono (by simp)))) | (go_at_call 50; refine (C2.out _ E1).mono ?_; rintro e w2 ⟨rfl, hb2⟩; obtain ⟨hc2, hf2⟩ := bcell hb2; have hz2 : w.heap.size < w2.heap.size := by { have := hb2.size; omega }; have E2 : Env w2 := E1.below hb2) | (go_at_call 51; refine (C3.out _ E2).mono ?_; rintro e w3 ⟨rfl, hb3⟩; obtain ⟨hc3, hf3⟩ := bcell hb3; have hz3 : w.heap.size < w3.heap.size := by { have := hb3.size; omega }))
            exact bodyPost_ret (v := fstV (([], 0), [], false)) (by simp [results, Tryd.results33, go_sem, hc1, hc2, hc3, hz1, hz2, fstV]; rfl) rfl ⟨rfl, ((((Below.refl _ _).alloc (Nat.le_refl _) _).trans ((below_trans (below_trans hb1 hb2) hb3).mono (by simp))).setCell (Nat.le_refl _) _).setCell (Nat.le_refl _) _⟩
        | true =>
          rw [if_pos rfl]
          cases hn : numB a with
          | none =>
            rw [hn] at C3
            simp only [Option.getD_none, Option.isSome_none] at C3
            simp only
            go_enter Tryd.func33, Tryd.ntmps33
            go_wp2_with (first | (go_at_call 49; refine (C1.out _ (E.below ((Below.refl _ _).alloc (Nat.le_refl _) _))).mono ?_; rintro e w1 ⟨rfl, hb1⟩; obtain ⟨hc1, hf1⟩ := bcell hb1; have hz1 : w.heap.size < w1.heap.size := by { have := hb1.size; simp at this; omega }; have E1 : Env w1 := E.below (((Below.refl _ _).alloc (Nat.le_refl _) _).trans (hb1.mono (by simp)))) | (go_at_call 50; refine (C2.out _ E1).mono ?_; rintro e w2 ⟨rfl, hb2⟩; obtain ⟨hc2, hf2⟩ := bcell hb2; have hz2 : w.heap.size < w2.heap.size := by { have := hb2.size; omega }; have E2 : Env w2 := E1.below hb2) | (go_at_call 51; refine (C3.out _ E2).mono ?_; rintro e w3 ⟨rfl, hb3⟩; obtain ⟨hc3, hf3⟩ := bcell hb3; have hz3 : w.heap.size < w3.heap.size := by { have := hb3.size; omega }))
            exact bodyPost_ret (v := fstV (([], 0), [], false)) (by simp [results, Tryd.results33, go_sem, hc1, hc2, hc3, hz1, hz2, fstV]; rfl) rfl ⟨rfl, ((((Below.refl _ _).alloc (Nat.le_refl _) _).trans ((below_trans (below_trans hb1 hb2) hb3).mono (by simp))).setCell (Nat.le_refl _) _).setCell (Nat.le_refl _) _⟩
          | some v =>
            rw [hn] at C3
            simp only [Option.getD_some, Option.isSome_some] at C3
            simp only
            clear hn
            go_enter Tryd.func33, Tryd.ntmps33
            go_wp2_with (first | (go_at_call 49; refine (C1.out _ (E.below ((Below.refl _ _).alloc (Nat.le_refl _) _))).mono ?_; rintro e w1 ⟨rfl, hb1⟩; obtain ⟨hc1, hf1⟩ := bcell hb1; have hz1 : w.heap.size < w1.heap.size := by { have := hb1.size; simp at this; omega }; have E1 : Env w1 := E.below (((Below.refl _ _).alloc (Nat.le_refl _) _).trans (hb1.mono (by simp)))) | (go_at_call 50; refine (C2.out _ E1).mono ?_; rintro e w2 ⟨rfl, hb2⟩; obtain ⟨hc2, hf2⟩ := bcell hb2; have hz2 : w.heap.size < w2.heap.size := by { have := hb2.size; omega }; have E2 : Env w2 := E1.below hb2) | (go_at_call 51; refine (C3.out _ E2).mono ?_; rintro e w3 ⟨rfl, hb3⟩; obtain ⟨hc3, hf3⟩ := bcell hb3; have hz3 : w.heap.size < w3.heap.size := by { have := hb3.size; omega }))
            exact bodyPost_ret (v := fstV ((key, v), more, true)) (by simp [results, Tryd.results33, go_sem, hc1, hc2, hc3, hz1, hz2, fstV]) rfl ⟨rfl, ((((Below.refl _ _).alloc (Nat.le_refl _) _).trans ((below_trans (below_trans hb1 hb2) hb3).mono (by simp))).setCell (Nat.le_refl _) _).setCell (Nat.le_refl _) _⟩
      · rw [if_neg (by simpa using hc)]
        have hc' : ((c.toNat : Int) == 32) = false := by
          simp only [beq_eq_false_iff_ne, ne_eq]
          intro e
          exact hc (UInt8.toNat_inj.1 (by have : (32 : UInt8).toNat = 32 := rfl
                                          omega))
        go_enter Tryd.func33, Tryd.ntmps33
        go_wp2_with (go_at_call 49; refine (C1.out _ (E.below ((Below.refl _ _).alloc (Nat.le_refl _) _))).mono ?_; rintro e w1 ⟨rfl, hb1⟩; obtain ⟨hc1, hf1⟩ := bcell hb1)
        exact bodyPost_ret (v := fstV (([], 0), [], false)) (by simp [results, Tryd.results33, go_sem, hc1, fstV]; rfl) rfl ⟨rfl, ((((Below.refl _ _).alloc (Nat.le_refl _) _).trans (hb1.mono (by simp))).setCell (Nat.le_refl _) _).setCell (Nat.le_refl _) _⟩
end Go.Proofs.YtapflhndpcgdiaaDoor
