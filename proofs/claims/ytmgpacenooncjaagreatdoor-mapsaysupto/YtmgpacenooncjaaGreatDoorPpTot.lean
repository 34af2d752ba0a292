/- Plain: lists put in order; what all values of a key are as one; lists that rise are told by it. Of no program. -/
import Derived.Test.YtmgpacenooncjaaGreatDoorPpStable
import Derived.Test.YtmgpacenooncjaaGreatDoorPpGrp
namespace Go.Proofs.YtmgpacenooncjaaGreatDoor.Pp.Tot
open Grp Stable
/-- Put in order. -/
def ins (p : ByteArray × Int) : List (ByteArray × Int) → List (ByteArray × Int)
  | [] => [p]
  | q :: l => if bl (key q) (key p) = true then q :: ins p l else p :: q :: l
def srt : List (ByteArray × Int) → List (ByteArray × Int)
  | [] => []
  | p :: l => ins p (srt l)
theorem ins_se (p : ByteArray × Int) (l : List (ByteArray × Int)) : SE (p :: l) (ins p l) := by
  induction l with
  | nil => exact SE.refl _
  | cons q l ih =>
    unfold ins
    split
    · rename_i h
      have h1 : SE ([] ++ p :: q :: l) ([] ++ q :: p :: l) := SE.swap1 h
      exact h1.trans (SE.append (SE.refl [q]) ih)
    · exact SE.refl _
theorem srt_se (l : List (ByteArray × Int)) : SE l (srt l) := by
  induction l with
  | nil => exact SE.refl _
  | cons p l ih => exact (SE.append (SE.refl [p]) ih).trans (ins_se p (srt l))
theorem ins_mem {p : ByteArray × Int} {l : List (ByteArray × Int)} {x : ByteArray × Int} (h : x ∈ ins p l) : x = p ∨ x ∈ l := by
  have := (ins_se p l).symm.mem h
  simpa using this
theorem ins_sorted (p : ByteArray × Int) (l : List (ByteArray × Int)) (h : Sorted l) : Sorted (ins p l) := by
  induction l with
  | nil => exact List.pairwise_singleton _ _
  | cons q l ih =>
    have h' := List.pairwise_cons.1 h
    unfold ins
    split
    · rename_i h1
      refine List.pairwise_cons.2 ⟨fun x hx => ?_, ih h'.2⟩
      rcases ins_mem hx with rfl | hx
      · exact lt_le h1
      · exact h'.1 x hx
    · rename_i h1
      have h1' : bl (key q) (key p) = false := by simpa using h1
      refine List.pairwise_cons.2 ⟨fun x hx => ?_, h⟩
      rcases List.mem_cons.1 hx with rfl | hx
      · exact h1'
      · exact le_trans h1' (h'.1 x hx)
theorem srt_sorted (l : List (ByteArray × Int)) : Sorted (srt l) := by
  induction l with
  | nil => exact List.Pairwise.nil
  | cons p l ih => exact ins_sorted p _ ih
theorem srt_eq {l Z : List (ByteArray × Int)} (h1 : Sorted Z) (h2 : SE l Z) : Z = srt l := sorted_unique Z (srt l) h1 (srt_sorted l) (h2.symm.trans (srt_se l))
theorem ins_len (p : ByteArray × Int) (l : List (ByteArray × Int)) : (ins p l).length = l.length + 1 := by
  induction l with
  | nil => rfl
  | cons q l ih =>
    unfold ins
    split
    · simp [ih]
    · rfl
theorem srt_len (l : List (ByteArray × Int)) : (srt l).length = l.length := by
  induction l with
  | nil => rfl
  | cons p l ih => simp [srt, ins_len, ih]
theorem srt_mem {l : List (ByteArray × Int)} {x : ByteArray × Int} : x ∈ srt l ↔ x ∈ l := ⟨fun h => (srt_se l).symm.mem h, fun h => (srt_se l).mem h⟩
theorem srt_of_se {l m : List (ByteArray × Int)} (h : SE l m) : srt l = srt m := srt_eq (srt_sorted l) (h.symm.trans (srt_se l))
theorem se_srt (l : List (ByteArray × Int)) : SE (srt l) l := (srt_se l).symm
theorem SE.filter {l m : List (ByteArray × Int)} (h : SE l m) (f : List UInt8 → Bool) : SE (l.filter fun p => f (key p)) (m.filter fun p => f (key p)) := by
  intro k
  rw [List.filter_filter, List.filter_filter]
  have e : ∀ l : List (ByteArray × Int), l.filter (fun p => (key p == k) && f (key p)) = (l.filter fun p => key p == k).filter fun p => f (key p) := fun l => by
    rw [List.filter_filter]
    congr 1
    funext p
    exact Bool.and_comm _ _
  rw [e, e, h k]
theorem Sorted.filter {l : List (ByteArray × Int)} (h : Sorted l) (f : ByteArray × Int → Bool) : Sorted (l.filter f) := List.Pairwise.filter _ h
theorem srt_filter (l : List (ByteArray × Int)) (f : List UInt8 → Bool) : (srt l).filter (fun p => f (key p)) = srt (l.filter fun p => f (key p)) :=
  srt_eq (Sorted.filter (srt_sorted l) _) (SE.filter (srt_se l) f)

/-- Two values, or one, or none, as one. -/
def mop (kind : Int) : Option Int → Option Int → Option Int
  | none, y => y
  | some x, none => some x
  | some x, some y => some (two kind x y)
theorem mop_none (kind : Int) (x : Option Int) : mop kind x none = x := by cases x <;> rfl
theorem mop_comm (kind : Int) (x y : Option Int) : mop kind x y = mop kind y x := by
  cases x <;> cases y <;> simp only [mop]
  rw [two_comm]
theorem mop_assoc (kind : Int) (x y z : Option Int) : mop kind (mop kind x y) z = mop kind x (mop kind y z) := by
  cases x <;> cases y <;> cases z <;> simp only [mop]
  rw [two_assoc]
/-- What all values of a key are as one. -/
def tot (kind : Int) (k : List UInt8) : List (ByteArray × Int) → Option Int
  | [] => none
  | p :: l => mop kind (if key p = k then some p.2 else none) (tot kind k l)
theorem tot_append (kind : Int) (k : List UInt8) (a b : List (ByteArray × Int)) : tot kind k (a ++ b) = mop kind (tot kind k a) (tot kind k b) := by
  induction a with
  | nil => rfl
  | cons p a ih => simp only [List.cons_append, tot, ih, mop_assoc]
theorem tot_perm (kind : Int) (k : List UInt8) {a b : List (ByteArray × Int)} (h : a.Perm b) : tot kind k a = tot kind k b := by
  induction h with
  | nil => rfl
  | cons x _ ih => simp only [tot, ih]
  | swap x y l =>
    simp only [tot]
    rw [← mop_assoc, ← mop_assoc]
    congr 1
    exact mop_comm _ _ _
  | trans _ _ ih1 ih2 => exact ih1.trans ih2
theorem tot_own (kind : Int) (k : List UInt8) (l : List (ByteArray × Int)) : tot kind k l = tot kind k (l.filter fun p => key p == k) := by
  induction l with
  | nil => rfl
  | cons p l ih =>
    by_cases h : key p = k
    · rw [List.filter_cons_of_pos (by simp [h])]
      simp only [tot, ih]
    · rw [List.filter_cons_of_neg (by simp [h])]
      simp only [tot, if_neg h]
      exact ih
theorem tot_se (kind : Int) (k : List UInt8) {l m : List (ByteArray × Int)} (h : SE l m) : tot kind k l = tot kind k m := by rw [tot_own, h k, ← tot_own]
theorem tot_srt (kind : Int) (k : List UInt8) (l : List (ByteArray × Int)) : tot kind k (srt l) = tot kind k l := tot_se kind k (se_srt l)
theorem tot_one (kind : Int) (k : List UInt8) (p : ByteArray × Int) : tot kind k [p] = if key p = k then some p.2 else none := by simp only [tot, mop_none]
theorem tot_step (kind : Int) (k : List UInt8) (A : List (ByteArray × Int)) (p : ByteArray × Int) : tot kind k (Grp.step kind A p) = mop kind (tot kind k A) (tot kind k [p]) := by
  rcases List.eq_nil_or_concat A with rfl | ⟨A, q, rfl⟩
  · rfl
  · rw [List.concat_eq_append]
    by_cases h : q.1 = p.1
    · rw [step_same _ _ _ _ h, tot_append, tot_append, mop_assoc, tot_one, tot_one, tot_one]
      congr 1
      have h2 : key p = key q := by unfold key; rw [h]
      have h3 : key (q.1, two kind q.2 p.2) = key q := rfl
      rw [h2, h3]
      split <;> rfl
    · rw [step_other _ _ _ _ h, tot_append kind k (A ++ [q]) [p]]
theorem tot_grp (kind : Int) (k : List UInt8) (l : List (ByteArray × Int)) : tot kind k (grp kind l) = tot kind k l := by
  have gen : ∀ (l A : List (ByteArray × Int)), tot kind k (l.foldl (Grp.step kind) A) = mop kind (tot kind k A) (tot kind k l) := by
    intro l
    induction l with
    | nil => intro A; rw [show tot kind k [] = none from rfl, mop_none]; rfl
    | cons p l ih =>
      intro A
      rw [List.foldl_cons, ih, tot_step, mop_assoc, ← tot_append]
      rfl
  exact gen l []
theorem tot_filter (kind : Int) (k : List UInt8) (f : List UInt8 → Bool) (l : List (ByteArray × Int)) : tot kind k (l.filter fun p => f (key p)) = if f k = true then tot kind k l else none := by
  induction l with
  | nil => split <;> rfl
  | cons p l ih =>
    by_cases h : f (key p) = true
    · rw [List.filter_cons_of_pos (p := fun p => f (key p)) h]
      simp only [tot, ih]
      by_cases hk : key p = k
      · rw [hk] at h
        rw [if_pos h, if_pos h]
      · rw [if_neg hk]
        split <;> rfl
    · rw [List.filter_cons_of_neg (p := fun p => f (key p)) h, ih]
      by_cases hk : key p = k
      · rw [hk] at h
        rw [if_neg h, if_neg h]
      · simp only [tot, if_neg hk]
        split <;> rfl
/-- Keys that rise, none twice. -/
def Rises (l : List (ByteArray × Int)) : Prop := l.Pairwise fun p q => bl (key p) (key q) = true
theorem Rises.filter {l : List (ByteArray × Int)} (h : Rises l) (f : ByteArray × Int → Bool) : Rises (l.filter f) := List.Pairwise.filter _ h
theorem Rises.sorted {l : List (ByteArray × Int)} (h : Rises l) : Sorted l := List.Pairwise.imp (fun h => lt_le h) h
theorem key_inj {p q : ByteArray × Int} (h : key p = key q) : p.1 = q.1 := by
  unfold key at h
  rw [ByteArray.toList_eq, ByteArray.toList_eq] at h
  cases hp : p.1; cases hq : q.1; rw [hp, hq] at h; simp_all
theorem key_ne {p q : ByteArray × Int} (h : p.1 ≠ q.1) : key p ≠ key q := fun e => h (key_inj e)
theorem rises_keys (A : List (ByteArray × Int)) (q q' : ByteArray × Int) (h : key q = key q') (hA : Rises (A ++ [q])) : Rises (A ++ [q']) := by
  unfold Rises at hA ⊢
  rw [List.pairwise_append] at hA ⊢
  refine ⟨hA.1, List.pairwise_singleton _ _, fun x hx y hy => ?_⟩
  rw [List.mem_singleton] at hy
  subst hy
  rw [← h]
  exact hA.2.2 x hx q (by simp)
theorem rises_grp (kind : Int) (l : List (ByteArray × Int)) (h : Sorted l) : Rises (grp kind l) := by
  have gen : ∀ (l A : List (ByteArray × Int)), Rises A → Sorted l → (∀ x ∈ A, ∀ y ∈ l, bl (key y) (key x) = false) → Rises (l.foldl (Grp.step kind) A) := by
    intro l
    induction l with
    | nil => intro A hA _ _; exact hA
    | cons p l ih =>
      intro A hA hl hAl
      rw [List.foldl_cons]
      have hl' := List.pairwise_cons.1 hl
      rcases List.eq_nil_or_concat A with rfl | ⟨A, q, rfl⟩
      · refine ih _ (List.pairwise_singleton _ _) hl'.2 fun x hx y hy => ?_
        rw [step_nil, List.mem_singleton] at hx
        subst hx
        exact hl'.1 y hy
      · rw [List.concat_eq_append] at hA hAl ⊢
        by_cases e : q.1 = p.1
        · rw [step_same _ _ _ _ e]
          refine ih _ (rises_keys A q _ rfl hA) hl'.2 fun x hx y hy => ?_
          rcases List.mem_append.1 hx with hx | hx
          · exact hAl x (by simp [hx]) y (by simp [hy])
          · rw [List.mem_singleton] at hx
            subst hx
            exact hAl q (by simp) y (by simp [hy])
        · rw [step_other _ _ _ _ e]
          refine ih _ ?_ hl'.2 fun x hx y hy => ?_
          · refine List.pairwise_append.2 ⟨hA, List.pairwise_singleton _ _, fun x hx y hy => ?_⟩
            rw [List.mem_singleton] at hy
            subst hy
            have h1 := hAl x hx y (by simp)
            have hqp : bl (key q) (key y) = true := by
              cases h2 : bl (key q) (key y) with
              | true => rfl
              | false => exact absurd (bl_total _ _ h2 (hAl q (by simp) y (by simp))) (key_ne e)
            rcases List.mem_append.1 hx with hx2 | hx2
            · have h3 := (List.pairwise_append.1 hA).2.2 x hx2 q (by simp)
              exact bl_trans _ _ _ h3 hqp
            · rw [List.mem_singleton] at hx2
              subst hx2
              exact hqp
          · rcases List.mem_append.1 hx with hx | hx
            · exact hAl x hx y (by simp [hy])
            · rw [List.mem_singleton] at hx
              subst hx
              exact hl'.1 y hy
  exact gen l [] List.Pairwise.nil h (fun x hx => by cases hx)
theorem tot_none (kind : Int) (k : List UInt8) (l : List (ByteArray × Int)) (h : ∀ p ∈ l, key p ≠ k) : tot kind k l = none := by
  induction l with
  | nil => rfl
  | cons p l ih => simp only [tot, if_neg (h p (by simp))]; exact ih fun q hq => h q (by simp [hq])
theorem tot_some (kind : Int) {p : ByteArray × Int} {l : List (ByteArray × Int)} (h : p ∈ l) : tot kind (key p) l ≠ none := by
  induction l with
  | nil => cases h
  | cons q l ih =>
    simp only [tot]
    rcases List.mem_cons.1 h with rfl | h
    · rw [if_pos rfl]
      cases tot kind (key p) l <;> simp [mop]
    · have := ih h
      cases h1 : tot kind (key p) l with
      | none => exact absurd h1 this
      | some x => split <;> simp [mop]
theorem rises_unique (kind : Int) : ∀ (l m : List (ByteArray × Int)), Rises l → Rises m → (∀ k, tot kind k l = tot kind k m) → l = m := by
  intro l
  induction l with
  | nil =>
    intro m _ _ h
    cases m with
    | nil => rfl
    | cons q m => exact absurd (h (key q)).symm (tot_some kind (by simp))
  | cons p l ih =>
    intro m hl hm h
    cases m with
    | nil => exact absurd (h (key p)) (tot_some kind (by simp))
    | cons q m =>
      have hl' := List.pairwise_cons.1 hl
      have hm' := List.pairwise_cons.1 hm
      have least : ∀ (x y : ByteArray × Int) (a b : List (ByteArray × Int)), (∀ z ∈ b, bl (key y) (key z) = true) → tot kind (key x) (x :: a) = tot kind (key x) (y :: b) → bl (key x) (key y) = false := by
        intro x y a b hb e
        cases h1 : bl (key x) (key y) with
        | false => rfl
        | true =>
          refine absurd ?_ (tot_some kind (show x ∈ x :: a by simp))
          rw [e]
          refine tot_none _ _ _ fun z hz e2 => ?_
          rcases List.mem_cons.1 hz with rfl | hz
          · rw [e2, bl_irrefl] at h1; cases h1
          · have h3 := bl_trans _ _ _ h1 (hb z hz)
            rw [e2, bl_irrefl] at h3
            cases h3
      have ek := bl_total _ _ (least p q l m hm'.1 (h (key p))) (least q p m l hl'.1 (h (key q)).symm)
      have nl : ∀ (x : ByteArray × Int) (a : List (ByteArray × Int)), (∀ z ∈ a, bl (key x) (key z) = true) → tot kind (key x) a = none := fun x a ha => tot_none _ _ _ fun z hz e => by
        have := ha z hz
        rw [e, bl_irrefl] at this
        cases this
      have h1 := h (key p)
      simp only [tot] at h1
      rw [if_pos trivial, if_pos ek.symm, nl p l hl'.1, ek, nl q m hm'.1, mop_none, mop_none] at h1
      have e2 : p.2 = q.2 := Option.some.inj h1
      have e1 : p = q := Prod.ext (key_inj ek) e2
      subst e1
      congr 1
      refine ih m hl'.2 hm'.2 fun k => ?_
      by_cases hk : key p = k
      · rw [← hk, nl p l hl'.1, nl p m hm'.1]
      · have := h k
        simp only [tot, if_neg hk] at this
        exact this
theorem grp_unique (kind : Int) {l m : List (ByteArray × Int)} (hl : Sorted l) (hm : Sorted m) (h : ∀ k, tot kind k l = tot kind k m) : grp kind l = grp kind m :=
  rises_unique kind _ _ (rises_grp kind l hl) (rises_grp kind m hm) fun k => by rw [tot_grp, tot_grp, h k]
theorem grp_srt_perm (kind : Int) {l m : List (ByteArray × Int)} (h : l.Perm m) : grp kind (srt l) = grp kind (srt m) :=
  grp_unique kind (srt_sorted l) (srt_sorted m) fun k => by rw [tot_srt, tot_srt, tot_perm kind k h]
theorem grp_filter (kind : Int) (f : List UInt8 → Bool) (l : List (ByteArray × Int)) (h : Sorted l) : (grp kind l).filter (fun p => f (key p)) = grp kind (l.filter fun p => f (key p)) :=
  rises_unique kind _ _ (Rises.filter (rises_grp kind l h) _) (rises_grp kind _ (Sorted.filter h _)) fun k => by rw [tot_filter, tot_grp, tot_grp, tot_filter]
/-- A list's keys. -/
def keysOf (l : List (ByteArray × Int)) : List ByteArray := l.map Prod.fst
theorem keys_srt_perm {l m : List (ByteArray × Int)} (h : l.Perm m) : keysOf (srt l) = keysOf (srt m) := by
  have hz : ∀ l : List (ByteArray × Int), keysOf l = keysOf (l.map fun p => (p.1, 0)) := fun l => by simp [keysOf]
  rw [hz (srt l), hz (srt m)]
  congr 1
  have hs : ∀ l : List (ByteArray × Int), Sorted l → Sorted (l.map fun p => (p.1, 0)) := fun l h => List.pairwise_map.2 h
  have hf : ∀ (k : List UInt8) (l : List (ByteArray × Int)), (l.map fun p => ((p.1, 0) : ByteArray × Int)).filter (fun p => key p == k) = (l.filter fun p => key p == k).map fun p => (p.1, 0) := fun k l => by
    rw [List.filter_map]
    rfl
  have hc : ∀ (k : List UInt8) (l : List (ByteArray × Int)), (l.filter fun p => key p == k).map (fun p => ((p.1, 0) : ByteArray × Int)) = List.replicate (l.filter fun p => key p == k).length ((⟨k.toArray⟩ : ByteArray), (0 : Int)) := fun k l => by
    rw [List.eq_replicate_iff]
    refine ⟨by simp, fun x hx => ?_⟩
    rw [List.mem_map] at hx
    obtain ⟨p, hp, rfl⟩ := hx
    rw [List.mem_filter] at hp
    have h1 : key p = k := by simpa using hp.2
    have h2 : p.1 = ⟨k.toArray⟩ := by
      subst h1
      unfold key
      rw [ByteArray.toList_eq]
    rw [h2]
  refine sorted_unique _ _ (hs _ (srt_sorted l)) (hs _ (srt_sorted m)) fun k => ?_
  rw [hf, hf, hc, hc]
  have h1 : ((srt l).filter fun p => key p == k).length = ((srt m).filter fun p => key p == k).length := by
    rw [← srt_se l k, ← srt_se m k]
    exact (h.filter _).length_eq
  rw [h1]
end Go.Proofs.YtmgpacenooncjaaGreatDoor.Pp.Tot
