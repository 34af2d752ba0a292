/- Plain: values of a key as one, two by two; groups of pairs; groups of groups. -/
import Derived.WalkKit
namespace Go.Proofs.YtmgpacenooncjaaGreatDoor.Pp
namespace Grp
/-- A whole number, kept to 64 bits. -/
def two (kind a b : Int) : Int := if kind = 2 then min a b else if kind = 3 then max a b else IntKind.i64.wrap (a + b)
theorem wrap_eq (x : Int) : IntKind.i64.wrap x = Int.bmod x 18446744073709551616 := by
  show IntKind.wrap .i64 x = _
  simp only [IntKind.wrap, IntKind.signed, IntKind.bits]
  unfold Int.bmod
  simp
  split <;> split <;> omega
theorem two_comm (kind a b : Int) : two kind a b = two kind b a := by
  unfold two
  split
  · exact Int.min_comm _ _
  · split
    · exact Int.max_comm _ _
    · rw [Int.add_comm]
theorem two_assoc (kind a b c : Int) : two kind (two kind a b) c = two kind a (two kind b c) := by
  unfold two
  split
  · exact Int.min_assoc _ _ _
  · split
    · exact Int.max_assoc _ _ _
    · rw [wrap_eq, wrap_eq, wrap_eq, wrap_eq, Int.bmod_add_bmod, Int.add_bmod_bmod, Int.add_assoc]
def step (kind : Int) (acc : List (ByteArray × Int)) (p : ByteArray × Int) : List (ByteArray × Int) :=
  match acc.getLast? with
  | none => [p]
  | some q => if q.1 = p.1 then acc.dropLast ++ [(q.1, two kind q.2 p.2)] else acc ++ [p]
def grp (kind : Int) (l : List (ByteArray × Int)) : List (ByteArray × Int) := l.foldl (step kind) []
theorem step_nil (kind : Int) (p : ByteArray × Int) : step kind [] p = [p] := rfl
theorem step_same (kind : Int) (A : List (ByteArray × Int)) (q p : ByteArray × Int) (h : q.1 = p.1) : step kind (A ++ [q]) p = A ++ [(q.1, two kind q.2 p.2)] := by
  simp [step, h]
theorem step_other (kind : Int) (A : List (ByteArray × Int)) (q p : ByteArray × Int) (h : q.1 ≠ p.1) : step kind (A ++ [q]) p = A ++ [q] ++ [p] := by
  simp [step, h]
theorem grp_nil (kind : Int) : grp kind ([] : List (ByteArray × Int)) = [] := rfl
theorem grp_snoc (kind : Int) (l : List (ByteArray × Int)) (p : ByteArray × Int) : grp kind (l ++ [p]) = step kind (grp kind l) p := by
  unfold grp; rw [List.foldl_append]; rfl
/-- One list of groups behind another. -/
def join (kind : Int) (A : List (ByteArray × Int)) : List (ByteArray × Int) → List (ByteArray × Int)
  | [] => A
  | q :: B => step kind A q ++ B
theorem step_last (kind : Int) (A : List (ByteArray × Int)) (q : ByteArray × Int) : ∃ X x, step kind A q = X ++ [(q.1, x)] ∧ ∀ y, step kind A (q.1, two kind q.2 y) = X ++ [(q.1, two kind x y)] := by
  rcases List.eq_nil_or_concat A with rfl | ⟨A, r, rfl⟩
  · exact ⟨[], q.2, rfl, fun y => rfl⟩
  · rw [List.concat_eq_append]
    by_cases h : r.1 = q.1
    · refine ⟨A, two kind r.2 q.2, by rw [step_same _ _ _ _ h, h], fun y => ?_⟩
      rw [step_same kind A r (q.1, two kind q.2 y) h, h, two_assoc]
    · exact ⟨A ++ [r], q.2, step_other _ _ _ _ h, fun y => step_other _ _ _ _ h⟩
theorem step_join (kind : Int) (A G : List (ByteArray × Int)) (p : ByteArray × Int) : step kind (join kind A G) p = join kind A (step kind G p) := by
  cases G with
  | nil => simp [join, step_nil]
  | cons q B =>
    rcases List.eq_nil_or_concat B with rfl | ⟨B, r, rfl⟩
    · obtain ⟨X, x, h1, h2⟩ := step_last kind A q
      simp only [join, List.append_nil]
      by_cases h : q.1 = p.1
      · have e1 : step kind [q] p = [(q.1, two kind q.2 p.2)] := step_same kind [] q p h
        rw [h1, step_same kind X (q.1, x) p h, e1]
        simp only [List.append_nil, h2]
      · have e1 : step kind [q] p = [q, p] := step_other kind [] q p h
        rw [h1, step_other kind X (q.1, x) p h, e1]
        simp only [h1]
    · rw [List.concat_eq_append]
      have e : q :: (B ++ [r]) = (q :: B) ++ [r] := rfl
      by_cases h : r.1 = p.1
      · rw [e, step_same _ _ _ _ h]
        simp only [List.cons_append, join]
        rw [← List.append_assoc, step_same _ _ _ _ h, List.append_assoc]
      · rw [e, step_other _ _ _ _ h]
        simp only [List.cons_append, join]
        rw [← List.append_assoc, step_other _ _ _ _ h]
        simp
theorem foldl_join (kind : Int) (A b : List (ByteArray × Int)) : b.foldl (step kind) A = join kind A (grp kind b) := by
  have gen : ∀ (n : Nat) (b : List (ByteArray × Int)), b.length = n → b.foldl (step kind) A = join kind A (grp kind b) := by
    intro n
    induction n with
    | zero => intro b hb; rw [List.eq_nil_of_length_eq_zero hb]; rfl
    | succ n ih =>
      intro b hb
      rcases List.eq_nil_or_concat b with rfl | ⟨b', p, rfl⟩
      · simp at hb
      · rw [List.concat_eq_append] at hb ⊢
        rw [List.foldl_append, grp_snoc, ← step_join, ← ih b' (by simpa using hb)]
        rfl
  exact gen _ b rfl
theorem grp_append (kind : Int) (a b : List (ByteArray × Int)) : grp kind (a ++ b) = join kind (grp kind a) (grp kind b) := by
  rw [← foldl_join]
  unfold grp
  rw [List.foldl_append]
/-- Neighbours have other keys. -/
def Apart : List (ByteArray × Int) → Prop
  | [] => True
  | [_] => True
  | p :: q :: l => p.1 ≠ q.1 ∧ Apart (q :: l)
theorem apart_snoc : ∀ (A : List (ByteArray × Int)) (q p : ByteArray × Int), Apart (A ++ [q, p]) ↔ Apart (A ++ [q]) ∧ q.1 ≠ p.1
  | [], q, p => by simp [Apart]
  | [a], q, p => by simp [Apart]
  | a :: b :: A, q, p => by
    have ih := apart_snoc (b :: A) q p
    simp only [List.cons_append, Apart] at ih ⊢
    rw [ih, and_assoc]
theorem apart_keys : ∀ (A : List (ByteArray × Int)) (q q' : ByteArray × Int), q.1 = q'.1 → (Apart (A ++ [q]) ↔ Apart (A ++ [q']))
  | [], q, q', _ => by simp [Apart]
  | [a], q, q', h => by simp [Apart, h]
  | a :: b :: A, q, q', h => by
    have ih := apart_keys (b :: A) q q' h
    simp only [List.cons_append, Apart] at ih ⊢
    rw [ih]
theorem apart_step (kind : Int) (A : List (ByteArray × Int)) (p : ByteArray × Int) (h : Apart A) : Apart (step kind A p) := by
  rcases List.eq_nil_or_concat A with rfl | ⟨A, r, rfl⟩
  · trivial
  · rw [List.concat_eq_append] at h ⊢
    by_cases e : r.1 = p.1
    · rw [step_same _ _ _ _ e]
      exact (apart_keys A r (r.1, two kind r.2 p.2) rfl).1 h
    · rw [step_other _ _ _ _ e, List.append_assoc]
      exact (apart_snoc A r p).2 ⟨h, e⟩
theorem apart_foldl (kind : Int) : ∀ (b A : List (ByteArray × Int)), Apart A → Apart (b.foldl (step kind) A)
  | [], _, h => h
  | p :: b, A, h => apart_foldl kind b _ (apart_step kind A p h)
theorem apart_grp (kind : Int) (l : List (ByteArray × Int)) : Apart (grp kind l) := apart_foldl kind l [] trivial
theorem apart_mid : ∀ (A : List (ByteArray × Int)) (r p : ByteArray × Int) (b : List (ByteArray × Int)), Apart (A ++ r :: p :: b) → r.1 ≠ p.1
  | [], _, _, _, h => h.1
  | [_], _, _, _, h => h.2.1
  | _ :: b :: A, r, p, c, h => apart_mid (b :: A) r p c h.2
theorem foldl_apart (kind : Int) : ∀ (b A : List (ByteArray × Int)), Apart (A ++ b) → b.foldl (step kind) A = A ++ b
  | [], A, _ => by simp
  | p :: b, A, h => by
    rw [List.foldl_cons]
    rcases List.eq_nil_or_concat A with rfl | ⟨A, r, rfl⟩
    · rw [step_nil, foldl_apart kind b [p] h]
      rfl
    · rw [List.concat_eq_append] at h ⊢
      have h1 : r.1 ≠ p.1 := apart_mid A r p b (by simpa using h)
      rw [step_other _ _ _ _ h1, foldl_apart kind b _ (by simpa using h)]
      simp
theorem grp_apart (kind : Int) (l : List (ByteArray × Int)) (h : Apart l) : grp kind l = l := by
  have := foldl_apart kind l [] (by simpa using h)
  simpa [grp] using this
theorem grp_grp (kind : Int) (l : List (ByteArray × Int)) : grp kind (grp kind l) = grp kind l := grp_apart kind _ (apart_grp kind l)
theorem grp_parts (kind : Int) (a b : List (ByteArray × Int)) : grp kind (grp kind a ++ grp kind b) = grp kind (a ++ b) := by
  rw [grp_append, grp_grp, grp_grp, grp_append]
theorem step_len (kind : Int) (A : List (ByteArray × Int)) (p : ByteArray × Int) : (step kind A p).length ≤ A.length + 1 := by
  rcases List.eq_nil_or_concat A with rfl | ⟨A, r, rfl⟩
  · simp [step_nil]
  · rw [List.concat_eq_append]
    by_cases e : r.1 = p.1
    · rw [step_same _ _ _ _ e]; simp
    · rw [step_other _ _ _ _ e]; simp
theorem grp_len (kind : Int) (l : List (ByteArray × Int)) : (grp kind l).length ≤ l.length := by
  have gen : ∀ (n : Nat) (l : List (ByteArray × Int)), l.length = n → (grp kind l).length ≤ l.length := by
    intro n
    induction n with
    | zero => intro l hl; rw [List.eq_nil_of_length_eq_zero hl]; simp [grp_nil]
    | succ n ih =>
      intro l hl
      rcases List.eq_nil_or_concat l with rfl | ⟨b, p, rfl⟩
      · simp at hl
      · rw [List.concat_eq_append] at hl ⊢
        rw [grp_snoc]
        have h1 := step_len kind (grp kind b) p
        have h2 := ih b (by simpa using hl)
        simp; omega
  exact gen _ l rfl
end Grp
end Go.Proofs.YtmgpacenooncjaaGreatDoor.Pp
