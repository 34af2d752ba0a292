/- Lists of pairs put in order by their keys, those of one key in their order: plain facts, of no program. -/
import GoSem.Op.String
namespace Go.Proofs.YtmgpacenooncjaaGreatDoor.Pp.Stable

/-- Is a key below another one? -/
def bl (a b : List UInt8) : Bool := Op.bytesLess a b
theorem bl_irrefl : ∀ a : List UInt8, bl a a = false := by
  intro a
  induction a with
  | nil => rfl
  | cons c r ih =>
    unfold bl at ih ⊢
    have : ¬ c < c := fun h => by have := UInt8.lt_iff_toNat_lt.1 h; omega
    simp [Op.bytesLess, ih, this]
theorem bl_trans : ∀ a b c : List UInt8, bl a b = true → bl b c = true → bl a c = true := by
  intro a
  induction a with
  | nil =>
    intro b c h1 h2
    cases c with
    | nil => cases b <;> simp [bl, Op.bytesLess] at h2
    | cons z c => rfl
  | cons x a ih =>
    intro b c h1 h2
    cases b with
    | nil => simp [bl, Op.bytesLess] at h1
    | cons y b =>
      cases c with
      | nil => simp [bl, Op.bytesLess] at h2
      | cons z c =>
        simp only [bl, Op.bytesLess, Bool.or_eq_true, Bool.and_eq_true, decide_eq_true_eq, beq_iff_eq] at h1 h2 ⊢
        rcases h1 with h1 | ⟨rfl, h1⟩
        · rcases h2 with h2 | ⟨rfl, _⟩
          · left; have a1 := UInt8.lt_iff_toNat_lt.1 h1; have a2 := UInt8.lt_iff_toNat_lt.1 h2; exact UInt8.lt_iff_toNat_lt.2 (by omega)
          · exact .inl h1
        · rcases h2 with h2 | ⟨rfl, h2⟩
          · exact .inl h2
          · exact .inr ⟨rfl, ih b c h1 h2⟩
theorem bl_total : ∀ a b : List UInt8, bl a b = false → bl b a = false → a = b := by
  intro a
  induction a with
  | nil =>
    intro b h1 h2
    cases b with
    | nil => rfl
    | cons y b => simp [bl, Op.bytesLess] at h1
  | cons x a ih =>
    intro b h1 h2
    cases b with
    | nil => simp [bl, Op.bytesLess] at h2
    | cons y b =>
      simp only [bl, Op.bytesLess, Bool.or_eq_false_iff, Bool.and_eq_false_iff, decide_eq_false_iff_not, beq_eq_false_iff_ne] at h1 h2
      have e : x = y := by
        apply UInt8.toNat_inj.1
        have a1 : ¬ x.toNat < y.toNat := fun h => h1.1 (UInt8.lt_iff_toNat_lt.2 h)
        have a2 : ¬ y.toNat < x.toNat := fun h => h2.1 (UInt8.lt_iff_toNat_lt.2 h)
        omega
      subst e
      rw [ih b (h1.2.resolve_left (fun h => h rfl)) (h2.2.resolve_left (fun h => h rfl))]
/-- a is not above b. -/
theorem le_trans {a b c : List UInt8} (h1 : bl b a = false) (h2 : bl c b = false) : bl c a = false := by
  cases h : bl c a with
  | false => rfl
  | true =>
    cases h3 : bl a b with
    | true => rw [bl_trans c a b h h3] at h2; cases h2
    | false => rw [bl_total a b h3 h1] at h; rw [h] at h2; cases h2
theorem lt_le {a b : List UInt8} (h : bl a b = true) : bl b a = false := by
  cases h' : bl b a with
  | false => rfl
  | true => have := bl_trans a b a h h'; rw [bl_irrefl] at this; cases this
theorem lt_of_lt_le {a b c : List UInt8} (h1 : bl a b = true) (h2 : bl c b = false) : bl a c = true := by
  cases h : bl a c with
  | true => rfl
  | false => have := le_trans h2 h; rw [h1] at this; cases this
theorem lt_of_le_lt {a b c : List UInt8} (h1 : bl b a = false) (h2 : bl b c = true) : bl a c = true := by
  cases h : bl a c with
  | true => rfl
  | false => have := le_trans h h1; rw [h2] at this; cases this

def key (p : ByteArray × Int) : List UInt8 := p.1.toList
def Sorted (l : List (ByteArray × Int)) : Prop := l.Pairwise fun p q => bl (key q) (key p) = false
def SE (l m : List (ByteArray × Int)) : Prop := ∀ k : List UInt8, l.filter (fun p => key p == k) = m.filter (fun p => key p == k)
theorem SE.refl (l : List (ByteArray × Int)) : SE l l := fun _ => rfl
theorem SE.symm {l m : List (ByteArray × Int)} (h : SE l m) : SE m l := fun k => (h k).symm
theorem SE.trans {l m n : List (ByteArray × Int)} (h : SE l m) (h' : SE m n) : SE l n := fun k => (h k).trans (h' k)
theorem SE.append {a a' b b' : List (ByteArray × Int)} (h : SE a a') (h' : SE b b') : SE (a ++ b) (a' ++ b') := fun k => by rw [List.filter_append, List.filter_append, h k, h' k]
theorem SE.swap {x y : List (ByteArray × Int)} (h : ∀ p ∈ x, ∀ q ∈ y, key p ≠ key q) : SE (x ++ y) (y ++ x) := by
  intro k
  rw [List.filter_append, List.filter_append]
  by_cases hx : x.filter (fun p => key p == k) = []
  · rw [hx]; simp
  · have hy : y.filter (fun p => key p == k) = [] := by
      rw [List.filter_eq_nil_iff]
      intro q hq
      obtain ⟨p, hp⟩ := List.exists_mem_of_ne_nil _ hx
      rw [List.mem_filter] at hp
      have := h p hp.1 q hq
      simp only [beq_iff_eq] at hp ⊢
      intro e
      exact this (hp.2.trans e.symm)
    rw [hy]; simp
theorem SE.mem {l m : List (ByteArray × Int)} (h : SE l m) {p : ByteArray × Int} (hp : p ∈ l) : p ∈ m := by
  have h1 : p ∈ l.filter (fun q => key q == key p) := by rw [List.mem_filter]; exact ⟨hp, by simp⟩
  rw [h (key p), List.mem_filter] at h1
  exact h1.1
theorem SE.nil {m : List (ByteArray × Int)} (h : SE [] m) : m = [] := by
  cases m with
  | nil => rfl
  | cons q m => have := SE.mem h.symm (List.mem_cons_self (a := q) (l := m)); cases this
theorem sorted_unique : ∀ (l m : List (ByteArray × Int)), Sorted l → Sorted m → SE l m → l = m := by
  intro l
  induction l with
  | nil => intro m _ _ h; exact h.nil.symm
  | cons p l ih =>
    intro m hl hm h
    cases m with
    | nil => exact absurd h.symm.nil (by simp)
    | cons q m =>
      have hl' := List.pairwise_cons.1 hl
      have hm' := List.pairwise_cons.1 hm
      have e1 : bl (key p) (key q) = false := by
        have hp := h.mem (List.mem_cons_self (a := p) (l := l))
        rcases List.mem_cons.1 hp with rfl | hp
        · exact bl_irrefl _
        · exact hm'.1 p hp
      have e2 : bl (key q) (key p) = false := by
        have hq := h.symm.mem (List.mem_cons_self (a := q) (l := m))
        rcases List.mem_cons.1 hq with rfl | hq
        · exact bl_irrefl _
        · exact hl'.1 q hq
      have ek := bl_total _ _ e1 e2
      have h1 := h (key p)
      rw [List.filter_cons_of_pos (by simp), List.filter_cons_of_pos (by simp [ek])] at h1
      injection h1 with h2 h3
      subst h2
      congr 1
      refine ih m hl'.2 hm'.2 fun k => ?_
      have h4 := h k
      by_cases hk : key p = k
      · rw [List.filter_cons_of_pos (by simp [hk]), List.filter_cons_of_pos (by simp [hk])] at h4
        injection h4
      · rw [List.filter_cons_of_neg (by simp [hk]), List.filter_cons_of_neg (by simp [hk])] at h4
        exact h4
theorem sorted_append {a b : List (ByteArray × Int)} : Sorted (a ++ b) ↔ Sorted a ∧ Sorted b ∧ ∀ p ∈ a, ∀ q ∈ b, bl (key q) (key p) = false := List.pairwise_append
/-- Two neighbours whose keys fall are swapped: nothing of one key turns. -/
theorem SE.swap1 {a b : List (ByteArray × Int)} {p q : ByteArray × Int} (h : bl (key q) (key p) = true) : SE (a ++ p :: q :: b) (a ++ q :: p :: b) := by
  have : SE ([p] ++ [q]) ([q] ++ [p]) := SE.swap (by
    intro x hx y hy
    rw [List.mem_singleton] at hx hy
    subst hx hy
    intro e
    rw [e, bl_irrefl] at h
    cases h)
  exact (SE.refl a).append (this.append (SE.refl b))
theorem SE.of_lt {x y : List (ByteArray × Int)} (h : ∀ p ∈ x, ∀ q ∈ y, bl (key q) (key p) = true) : SE (x ++ y) (y ++ x) :=
  SE.swap fun p hp q hq e => by have := h p hp q hq; rw [e, bl_irrefl] at this; cases this
end Go.Proofs.YtmgpacenooncjaaGreatDoor.Pp.Stable
