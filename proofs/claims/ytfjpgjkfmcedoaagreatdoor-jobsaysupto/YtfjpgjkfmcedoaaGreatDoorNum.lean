/- Decimal numbers as texts: plain facts, of no program. -/
import Derived.Lib.AtoiAll
import Derived.Lib.ItoaNum
import Derived.Lib.ItoaLen
import GoSem.Op.String
namespace Go.Proofs.YtfjpgjkfmcedoaaGreatDoor.Num
open Go.Lib (atoiAll itoa decDigits parseMag parseUint10)

def digB (c : UInt8) : Bool := decide (48 ≤ c.toNat) && decide (c.toNat ≤ 57)
theorem digB_iff (c : UInt8) : digB c = true ↔ 48 ≤ c.toNat ∧ c.toNat ≤ 57 := by simp [digB]
def val (l : List UInt8) : Nat := l.foldl (fun a c => a * 10 + (c.toNat - 48)) 0
theorem val_snoc (l : List UInt8) (c : UInt8) : val (l ++ [c]) = val l * 10 + (c.toNat - 48) := by
  unfold val; rw [List.foldl_append]; rfl
theorem fold_le (r : List UInt8) : ∀ a : Nat, a ≤ r.foldl (fun a c => a * 10 + (c.toNat - 48)) a := by
  induction r with
  | nil => intro a; exact Nat.le_refl _
  | cons c r ih => intro a; simp only [List.foldl_cons]; have := ih (a * 10 + (c.toNat - 48)); omega
theorem ofNat_dig (d : Nat) (h : d < 10) : (UInt8.ofNat (48 + d)).toNat = 48 + d := by
  rw [UInt8.toNat_ofNat']; omega
theorem dec_small {u : Nat} (h : u < 10) : decDigits u = [UInt8.ofNat (48 + u)] := by rw [decDigits, dif_pos h]
theorem dec_big {u : Nat} (h : ¬ u < 10) : decDigits u = decDigits (u / 10) ++ [UInt8.ofNat (48 + u % 10)] := by rw [decDigits, dif_neg h]
theorem dec_ne (u : Nat) : decDigits u ≠ [] := by
  by_cases h : u < 10
  · rw [dec_small h]; simp
  · rw [dec_big h]; simp
theorem dec_val (u : Nat) : val (decDigits u) = u := by
  induction u using Nat.strongRecOn with
  | ind u ih =>
    by_cases h : u < 10
    · rw [dec_small h]
      simp only [val, List.foldl_cons, List.foldl_nil, ofNat_dig u h]
      omega
    · rw [dec_big h, val_snoc, ih (u / 10) (by omega), ofNat_dig _ (by omega)]
      omega
theorem dec_dig (u : Nat) : ∀ c ∈ decDigits u, digB c = true := by
  induction u using Nat.strongRecOn with
  | ind u ih =>
    intro c hc
    by_cases h : u < 10
    · rw [dec_small h, List.mem_singleton] at hc
      subst hc
      rw [digB_iff, ofNat_dig u h]; omega
    · rw [dec_big h, List.mem_append, List.mem_singleton] at hc
      rcases hc with hc | rfl
      · exact ih (u / 10) (by omega) c hc
      · rw [digB_iff, ofNat_dig _ (by omega)]; omega
theorem head_append {α : Type} {x y : List α} (h : x ≠ []) : (x ++ y).head? = x.head? := by
  cases x with
  | nil => exact absurd rfl h
  | cons a r => rfl
theorem dec_head (u : Nat) (h0 : 0 < u) : (decDigits u).head? ≠ some 48 := by
  induction u using Nat.strongRecOn with
  | ind u ih =>
    by_cases h : u < 10
    · rw [dec_small h]
      intro hh
      simp only [List.head?_cons, Option.some.injEq] at hh
      have := congrArg UInt8.toNat hh
      rw [ofNat_dig u h] at this
      have e : (48 : UInt8).toNat = 48 := rfl
      omega
    · rw [dec_big h, head_append (dec_ne _)]
      exact ih (u / 10) (by omega) (by omega)
theorem val_pos {t : List UInt8} (hne : t ≠ []) (hd : ∀ c ∈ t, digB c = true) (hh : t.head? ≠ some 48) : 0 < val t := by
  cases t with
  | nil => exact absurd rfl hne
  | cons c r =>
    have h1 := (digB_iff c).1 (hd c (List.mem_cons_self ..))
    have h2 : c.toNat ≠ 48 := by
      intro h
      apply hh
      simp only [List.head?_cons, Option.some.injEq]
      exact UInt8.toNat_inj.1 (by rw [h]; rfl)
    have := fold_le r (0 * 10 + (c.toNat - 48))
    unfold val
    simp only [List.foldl_cons]
    omega
theorem val_dec : ∀ (n : Nat) (t : List UInt8), t.length = n → t ≠ [] → (∀ c ∈ t, digB c = true) → (t = [48] ∨ t.head? ≠ some 48) → decDigits (val t) = t := by
  intro n
  induction n with
  | zero => intro t hl hne; exact absurd (List.eq_nil_of_length_eq_zero hl) hne
  | succ n ih =>
    intro t hl hne hd hh
    rcases List.eq_nil_or_concat t with rfl | ⟨t', c, rfl⟩
    · exact absurd rfl hne
    rw [List.concat_eq_append] at hl hd hh ⊢
    have hc := (digB_iff c).1 (hd c (by simp))
    have ec : UInt8.ofNat (48 + (c.toNat - 48)) = c := by
      apply UInt8.toNat_inj.1
      rw [ofNat_dig _ (by omega)]; omega
    by_cases h' : t' = []
    · subst h'
      rw [val_snoc]
      have e0 : val [] = 0 := rfl
      rw [e0, dec_small (by omega), Nat.zero_mul, Nat.zero_add, ec]
      rfl
    · have hd' : ∀ c ∈ t', digB c = true := fun x hx => hd x (by simp [hx])
      have hh' : t'.head? ≠ some 48 := by
        rcases hh with hh | hh
        · have := congrArg List.length hh
          simp only [List.length_append, List.length_cons, List.length_nil] at this
          have : t'.length = 0 := by omega
          exact absurd (List.eq_nil_of_length_eq_zero this) h'
        · rw [head_append h'] at hh; exact hh
      have hp := val_pos h' hd' hh'
      rw [val_snoc, dec_big (by omega), show (val t' * 10 + (c.toNat - 48)) / 10 = val t' by omega, show (val t' * 10 + (c.toNat - 48)) % 10 = c.toNat - 48 by omega, ec, ih t' (by simp at hl; omega) h' hd' (.inr hh')]
theorem val_lt : ∀ (n : Nat) (t : List UInt8), t.length = n → (∀ c ∈ t, digB c = true) → val t < 10 ^ n := by
  intro n
  induction n with
  | zero => intro t hl _; rw [List.eq_nil_of_length_eq_zero hl]; simp [val]
  | succ n ih =>
    intro t hl hd
    rcases List.eq_nil_or_concat t with rfl | ⟨t', c, rfl⟩
    · simp at hl
    rw [List.concat_eq_append] at hl hd ⊢
    have hc := (digB_iff c).1 (hd c (by simp))
    have := ih t' (by simp at hl; omega) (fun x hx => hd x (by simp [hx]))
    rw [val_snoc, Nat.pow_succ]
    omega
theorem parse_ok : ∀ (r : List UInt8) (acc : Nat), (∀ c ∈ r, digB c = true) → r.foldl (fun a c => a * 10 + (c.toNat - 48)) acc ≤ 9223372036854775808 → parseUint10 acc r = .ok (r.foldl (fun a c => a * 10 + (c.toNat - 48)) acc) := by
  intro r
  induction r with
  | nil => intro acc _ _; rfl
  | cons c r ih =>
    intro acc hd hb
    have hc := (digB_iff c).1 (hd c (List.mem_cons_self ..))
    simp only [List.foldl_cons] at hb ⊢
    have hm := fold_le r (acc * 10 + (c.toNat - 48))
    rw [parseUint10, if_pos hc, if_neg (by omega), if_neg (by omega), ih _ (fun x hx => hd x (List.mem_cons_of_mem _ hx)) hb]
theorem mag_dec (u : Nat) (h : u ≤ 9223372036854775808) : parseMag (decDigits u) = .ok u := by
  unfold parseMag
  rw [if_neg (dec_ne u), parse_ok _ 0 (dec_dig u) (by have := dec_val u; unfold val at this; omega)]
  have := dec_val u
  unfold val at this
  rw [this]
theorem atoi_itoa (v : Int) (h0 : -9223372036854775808 ≤ v) (h1 : v ≤ 9223372036854775807) : atoiAll (itoa v) = .ok v := by
  unfold itoa
  by_cases hn : v < 0
  · rw [if_pos hn]
    have e : (45 : UInt8).toNat = 45 := rfl
    simp only [atoiAll, e, if_true, or_true, not_true_eq_false, false_and, if_false, true_and]
    rw [mag_dec _ (by omega)]
    simp only
    rw [if_neg (by omega)]
    congr 1
    omega
  · rw [if_neg hn]
    cases hl : decDigits v.toNat with
    | nil => exact absurd hl (dec_ne _)
    | cons c r =>
      have hc := (digB_iff c).1 (dec_dig v.toNat c (by rw [hl]; exact List.mem_cons_self ..))
      have hm := mag_dec v.toNat (by omega)
      rw [hl] at hm
      simp only [atoiAll]
      rw [if_neg (by omega), hm]
      simp only
      rw [if_neg (by omega), if_neg (by omega), if_neg (by omega)]
      congr 1
      omega

/-- The number that a text is the decimal text of, if there is one. -/
def numB (l : List UInt8) : Option Int :=
  match atoiAll l with
  | .ok v => if itoa v = l then some v else none
  | _ => none
theorem num_itoa {v : Int} (h0 : -9223372036854775808 ≤ v) (h1 : v ≤ 9223372036854775807) : numB (itoa v) = some v := by
  simp [numB, atoi_itoa v h0 h1]
theorem atoi_bd {l : List UInt8} {v : Int} (h : atoiAll l = .ok v) : -9223372036854775808 ≤ v ∧ v ≤ 9223372036854775807 := by
  cases l with
  | nil => simp [atoiAll] at h
  | cons c r =>
    simp only [atoiAll] at h
    split at h
    · cases h
    · cases h
    · split at h
      · cases h
      · split at h
        · cases h
        · injection h with h
          split at h <;> omega
theorem num_some {l : List UInt8} {v : Int} (h : numB l = some v) : itoa v = l ∧ -9223372036854775808 ≤ v ∧ v ≤ 9223372036854775807 := by
  unfold numB at h
  split at h
  · split at h
    · injection h with h
      subst h
      exact ⟨by assumption, atoi_bd (by assumption)⟩
    · cases h
  · cases h

/-- What stands behind a '-'. -/
def mag (l : List UInt8) : List UInt8 := if l.head? = some 45 then l.tail else l
theorem mag_itoa (v : Int) : mag (itoa v) = decDigits v.natAbs := by
  unfold itoa mag
  by_cases hn : v < 0
  · simp [hn]
  · rw [if_neg hn]
    have e : v.toNat = v.natAbs := by omega
    rw [e]
    rw [if_neg]
    intro h
    cases hl : decDigits v.natAbs with
    | nil => exact absurd hl (dec_ne _)
    | cons c r =>
      rw [hl] at h
      simp only [List.head?_cons, Option.some.injEq] at h
      have hc := (digB_iff c).1 (dec_dig v.natAbs c (by rw [hl]; exact List.mem_cons_self ..))
      subst h
      have e : (45 : UInt8).toNat = 45 := rfl
      omega
theorem nDig_le (u : Nat) (h : u ≤ 9223372036854775808) : (decDigits u).length ≤ 19 := by
  rcases Nat.lt_or_ge (decDigits u).length 20 with h' | h'
  · omega
  · exfalso
    -- twenty digits are at least 10^19
    have key : ∀ n u, (decDigits u).length = n + 1 → 0 < n → 10 ^ n ≤ u := by
      intro n
      induction n with
      | zero => intro u _ h; omega
      | succ n ih =>
        intro u hu _
        by_cases hs : u < 10
        · rw [dec_small hs] at hu; simp at hu
        · rw [dec_big hs] at hu
          simp only [List.length_append, List.length_cons, List.length_nil] at hu
          by_cases hn : n = 0
          · subst hn; simp; omega
          · have := ih (u / 10) (by omega) (by omega)
            rw [Nat.pow_succ]; omega
    have := key ((decDigits u).length - 1) u (by omega) (by omega)
    have h2 : 10 ^ 19 ≤ 10 ^ ((decDigits u).length - 1) := Nat.pow_le_pow_right (by omega) (by omega)
    omega
theorem num_shape {l : List UInt8} {v : Int} (h : numB l = some v) :
    mag l = decDigits v.natAbs ∧ mag l ≠ [] ∧ (mag l).length ≤ 19 ∧ (∀ c ∈ mag l, digB c = true) ∧ ¬ ((mag l).head? = some 48 ∧ 1 < l.length) := by
  obtain ⟨hl, h0, h1⟩ := num_some h
  have hm : mag l = decDigits v.natAbs := by rw [← hl]; exact mag_itoa v
  refine ⟨hm, by rw [hm]; exact dec_ne _, by rw [hm]; exact nDig_le _ (by omega), by rw [hm]; exact dec_dig _, ?_⟩
  rintro ⟨hh, hlen⟩
  rw [hm] at hh
  by_cases hz : v = 0
  · subst hz
    have : itoa 0 = [48] := by decide +kernel
    rw [← hl, this] at hlen
    simp at hlen
  · exact dec_head _ (by omega) hh
theorem num_small {l : List UInt8} (hne : mag l ≠ []) (hd : ∀ c ∈ mag l, digB c = true) (hh : ¬ ((mag l).head? = some 48 ∧ 1 < l.length)) (hv : val (mag l) ≤ 9223372036854775807) :
    numB l = some (if l.head? = some 45 then -(val (mag l) : Int) else val (mag l)) := by
  have key : itoa (if l.head? = some 45 then -(val (mag l) : Int) else val (mag l)) = l := by
    by_cases hn : l.head? = some 45
    · rw [if_pos hn]
      have hm : mag l = l.tail := by unfold mag; rw [if_pos hn]
      cases l with
      | nil => simp at hn
      | cons c t =>
        simp only [List.head?_cons, Option.some.injEq] at hn
        subst hn
        simp only [List.tail_cons] at hm
        rw [hm] at hne hd hh hv ⊢
        have ht : 1 ≤ t.length := by
          cases t with
          | nil => exact absurd rfl hne
          | cons a r => simp
        have hh' : t.head? ≠ some 48 := fun e => hh ⟨e, by simp only [List.length_cons]; omega⟩
        have hp := val_pos hne hd hh'
        unfold itoa
        rw [if_pos (by omega), show (-(val t : Int)).natAbs = val t by omega, val_dec _ t rfl hne hd (.inr hh')]
    · rw [if_neg hn]
      have hm : mag l = l := by unfold mag; rw [if_neg hn]
      rw [hm] at hne hd hh hv ⊢
      unfold itoa
      rw [if_neg (by omega), Int.toNat_natCast]
      refine val_dec _ l rfl hne hd ?_
      by_cases h1 : 1 < l.length
      · exact .inr fun e => hh ⟨e, h1⟩
      · cases l with
        | nil => exact absurd rfl hne
        | cons c r =>
          have : r = [] := by
            cases r with
            | nil => rfl
            | cons a b => simp at h1
          subst this
          by_cases hc : c = 48
          · subst hc; exact .inl rfl
          · right; simpa using hc
  have h2 := num_itoa (v := if l.head? = some 45 then -(val (mag l) : Int) else val (mag l)) (by split <;> omega) (by split <;> omega)
  rw [key] at h2
  exact h2
theorem num_big {l : List UInt8} (hv : 9223372036854775807 < val (mag l)) (hne : l ≠ itoa (-9223372036854775808)) : numB l = none := by
  cases h : numB l with
  | none => rfl
  | some v =>
    exfalso
    obtain ⟨hl, h0, h1⟩ := num_some h
    have hm := (num_shape h).1
    rw [hm, dec_val] at hv
    have : v = -9223372036854775808 := by omega
    subst this
    exact hne hl.symm
theorem num_least : numB (itoa (-9223372036854775808)) = some (-9223372036854775808) := num_itoa (by omega) (by omega)

theorem lt_fold (x : List UInt8) : ∀ (y : List UInt8) (a b : Nat), x.length = y.length → (∀ c ∈ x, digB c = true) → (∀ c ∈ y, digB c = true) → a < b →
    y.foldl (fun a c => a * 10 + (c.toNat - 48)) a < x.foldl (fun a c => a * 10 + (c.toNat - 48)) b := by
  induction x with
  | nil =>
    intro y a b hl _ _ h
    cases y with
    | nil => exact h
    | cons c r => simp at hl
  | cons c x ih =>
    intro y a b hl hx hy h
    cases y with
    | nil => simp at hl
    | cons d y =>
      have hc := (digB_iff c).1 (hx c (List.mem_cons_self ..))
      have hd := (digB_iff d).1 (hy d (List.mem_cons_self ..))
      simp only [List.foldl_cons]
      exact ih y _ _ (by simpa using hl) (fun e he => hx e (List.mem_cons_of_mem _ he)) (fun e he => hy e (List.mem_cons_of_mem _ he)) (by omega)
/-- Of two digit texts of one length the lesser number comes first. -/
theorem less_val (x : List UInt8) : ∀ (y : List UInt8) (a : Nat), x.length = y.length → (∀ c ∈ x, digB c = true) → (∀ c ∈ y, digB c = true) →
    (Op.bytesLess x y = true ↔ x.foldl (fun a c => a * 10 + (c.toNat - 48)) a < y.foldl (fun a c => a * 10 + (c.toNat - 48)) a) := by
  induction x with
  | nil =>
    intro y a hl _ _
    cases y with
    | nil => simp [Op.bytesLess]
    | cons c r => simp at hl
  | cons c x ih =>
    intro y a hl hx hy
    cases y with
    | nil => simp at hl
    | cons d y =>
      have hc := (digB_iff c).1 (hx c (List.mem_cons_self ..))
      have hd := (digB_iff d).1 (hy d (List.mem_cons_self ..))
      have hl' : x.length = y.length := by simpa using hl
      have hx' : ∀ c ∈ x, digB c = true := fun e he => hx e (List.mem_cons_of_mem _ he)
      have hy' : ∀ c ∈ y, digB c = true := fun e he => hy e (List.mem_cons_of_mem _ he)
      simp only [List.foldl_cons, Op.bytesLess, Bool.or_eq_true, Bool.and_eq_true, decide_eq_true_eq, beq_iff_eq]
      by_cases h1 : c.toNat < d.toNat
      · exact ⟨fun _ => lt_fold y x _ _ hl'.symm hy' hx' (by omega), fun _ => .inl (UInt8.lt_iff_toNat_lt.2 h1)⟩
      · by_cases h2 : c = d
        · subst h2
          have hn : ¬ c < c := fun h => by have := UInt8.lt_iff_toNat_lt.1 h; omega
          exact ⟨fun h => (ih y _ hl' hx' hy').1 (h.resolve_left hn).2, fun h => .inr ⟨rfl, (ih y _ hl' hx' hy').2 h⟩⟩
        · have h3 : c.toNat ≠ d.toNat := fun h => h2 (UInt8.toNat_inj.1 h)
          have h4 := lt_fold x y (a * 10 + (d.toNat - 48)) (a * 10 + (c.toNat - 48)) hl' hx' hy' (by omega)
          exact ⟨fun h => h.elim (fun h => absurd (UInt8.lt_iff_toNat_lt.1 h) h1) (fun h => absurd h.1 h2), fun h => by omega⟩
def maxText : List UInt8 := [57, 50, 50, 51, 51, 55, 50, 48, 51, 54, 56, 53, 52, 55, 55, 53, 56, 48, 55]
theorem less_max {t : List UInt8} (hl : t.length = 19) (hd : ∀ c ∈ t, digB c = true) : Op.bytesLess maxText t = true ↔ 9223372036854775807 < val t := by
  have h := less_val maxText t 0 (by rw [hl]; rfl) (by decide) hd
  rw [h]
  have e : maxText.foldl (fun a c => a * 10 + (c.toNat - 48)) 0 = 9223372036854775807 := by decide +kernel
  rw [e]; rfl
end Go.Proofs.YtfjpgjkfmcedoaaGreatDoor.Num
