/- Mapper: what rules make of a record, plain; bounds. -/
import Derived.Test.YtmgpacenooncjaaGreatDoorJbL
import Derived.Test.YtmgpacenooncjaaGreatDoorPpFold
import Derived.Test.YtmgpacenooncjaaGreatDoorPpSort
import Derived.Test.YtmgpacenooncjaaGreatDoorPpGrps
import Derived.Test.YtmgpacenooncjaaGreatDoorPpTot
namespace Go.Proofs.YtmgpacenooncjaaGreatDoor
open Go.ChangeShapes Go.WideShapes Go.ChangeAt Go.RowKit
/-- The looks of a rule at a record: one at all of it, or one at each of its words. -/
def looksL (each : Bool) (R : Rc) : List Rc := if each = true then R.words.map (fun x => ⟨R.line, x, R.words⟩) else [R]
/-- Does what a rule asks for hold? -/
def holdsB (r : Rl) (R : Rc) : Bool := if r.when = 1 then decide (r.iff.str R = r.s) else if r.when = 2 then !decide (r.iff.str R = r.s) else true
/-- The pair of a look. -/
def pairL (r : Rl) (kind : Int) (R : Rc) : ByteArray × Int := (bs ((r.key.str R).take 20), Pp.firstI kind (r.val.num R))
def ruleP (r : Rl) (kind : Int) (R : Rc) : List (ByteArray × Int) := ((looksL r.each R).filter (holdsB r)).map (pairL r kind)
/-- The pairs of a record, as rules make them; as a job does. -/
def rulesP (l : List Rl) (kind : Int) (line : List UInt8) : List (ByteArray × Int) := l.flatMap fun r => ruleP r kind (ofL line)
theorem rulesP_append (a b : List Rl) (kind : Int) (line : List UInt8) : rulesP (a ++ b) kind line = rulesP a kind line ++ rulesP b kind line := by simp [rulesP]
theorem rulesP_one (r : Rl) (kind : Int) (line : List UInt8) : rulesP [r] kind line = ruleP r kind (ofL line) := by simp [rulesP]
theorem looks_len (each : Bool) (R : Rc) : (looksL each R).length ≤ R.words.length + 1 := by unfold looksL; split <;> simp
theorem ruleP_len (r : Rl) (kind : Int) (line : List UInt8) : (ruleP r kind (ofL line)).length ≤ line.length + 1 := by
  unfold ruleP
  rw [List.length_map]
  have h1 := List.length_filter_le (holdsB r) (looksL r.each (ofL line))
  have h2 := looks_len r.each (ofL line)
  have h3 : (ofL line).words.length ≤ line.length := words_len line
  omega
theorem rulesP_len (l : List Rl) (kind : Int) (line : List UInt8) : (rulesP l kind line).length ≤ l.length * (line.length + 1) := by
  induction l with
  | nil => simp [rulesP]
  | cons r l ih =>
    have h1 := ruleP_len r kind line
    have h2 : rulesP (r :: l) kind line = ruleP r kind (ofL line) ++ rulesP l kind line := by simp [rulesP]
    rw [h2, List.length_append, List.length_cons, Nat.succ_mul]
    omega
/-- A record whose texts are so long at most, and so many. -/
structure RcIn (R : Rc) (M : Nat) : Prop where
  it : R.it.length ≤ M
  line : R.line.length ≤ M
  word : ∀ x ∈ R.words, x.length ≤ M
  many : R.words.length ≤ M
theorem rcIn_of (line : List UInt8) (M : Nat) (h : line.length ≤ M) : RcIn (ofL line) M :=
  ⟨Nat.zero_le _, h, fun x hx => by have := word_len (l := line) (cur := []) hx; simp at this; omega, Nat.le_trans (words_len line) h⟩
theorem rcIn_look {R : Rc} {M : Nat} (h : RcIn R M) {each : Bool} {x : Rc} (hx : x ∈ looksL each R) : RcIn x M ∧ x.words = R.words ∧ x.line = R.line := by
  unfold looksL at hx
  split at hx
  · simp only [List.mem_map] at hx
    obtain ⟨y, hy, rfl⟩ := hx
    exact ⟨⟨h.word y hy, h.line, h.word, h.many⟩, rfl, rfl⟩
  · rw [List.mem_singleton] at hx
    subst hx
    exact ⟨h, rfl, rfl⟩
theorem ok_wt (e : Ex) : ∀ t c, e.ok t c = true → e.wt ≤ 21 * e.cnt := by
  refine Ex.ind (P := fun e => ∀ t c, e.ok t c = true → e.wt ≤ 21 * e.cnt) ?_ e
  intro k n s a ih t c h
  simp only [Ex.ok, Bool.and_eq_true] at h
  have hL : ∀ t', Ex.ok.okL a t' c = true → Ex.wt.wtL a ≤ 21 * Ex.cnt.cntL a := by
    clear h
    induction a with
    | nil => intro _ _; simp [Ex.wt.wtL]
    | cons x a ihl =>
      intro t' h
      simp only [Ex.ok.okL, Bool.and_eq_true] at h
      have h1 := ih x (by simp) t' c h.1
      have h2 := ihl (fun e he => ih e (by simp [he])) t' h.2
      simp only [Ex.wt.wtL, Ex.cnt.cntL]; omega
  have h2 := hL _ h.2
  have h1 := h.1
  simp only [hdOk, fitsB, bytesK, Bool.and_eq_true, decide_eq_true_eq] at h1
  have h3 := h1.1.2.1
  have h5 : s.length ≤ (if k = 4 then 20 else 0) := of_decide_eq_true h3
  have h4 : s.length ≤ 20 := by
    by_cases hk : k = 4
    · rw [if_pos hk] at h5; omega
    · rw [if_neg hk] at h5; omega
  simp only [Ex.wt, Ex.cnt]; omega
theorem fault_wt {e : Ex} {t c : Bool} (h : faultE e t c = 0) : e.wt ≤ 630 := by
  have h1 := ok_wt e t c (fault_ok h)
  have h2 := fault_cnt h
  omega
theorem fault_len {e : Ex} {t c : Bool} (h : faultE e t c = 0) {R : Rc} {M : Nat} (hR : RcIn R M) : e.len R ≤ M * 30 + 630 := by
  have h1 := len_le R M hR.it hR.line hR.word e
  have h2 := fault_cnt h
  have h3 := fault_wt h
  have h4 := Nat.mul_le_mul_left M h2
  omega
theorem fault_far {e : Ex} {t c : Bool} (h : faultE e t c = 0) {R : Rc} {M : Nat} (hR : RcIn R M) : e.far R ≤ (M + 1000) * 30 + 630 := by
  have h1 := far_le R M hR.it hR.line hR.word hR.many e t c (fault_ok h)
  have h2 := fault_cnt h
  have h3 := fault_wt h
  have h4 := Nat.mul_le_mul_left (M + 1000) h2
  omega
/-- What a rule that may be has. -/
structure RlIn (r : Rl) : Prop where
  when : r.when = 0 ∨ ((r.when = 1 ∨ r.when = 2) ∧ faultE r.iff true true = 0)
  key : faultE r.key true true = 0
  val : faultE r.val false true = 0
theorem rlIn_of {r : Rl} (h : ruleFault r = 0) : RlIn r := by
  unfold ruleFault at h
  split at h
  · rename_i h1; exact absurd h h1
  · rename_i h1
    split at h
    · rename_i h2; exact absurd h h2
    · rename_i h2
      simp only [ne_eq, Decidable.not_not] at h1 h2
      refine ⟨?_, fault_more h2, fault_more h⟩
      unfold whenFault at h1
      split at h1
      · rename_i h3; exact .inl h3
      · split at h1
        · rename_i h3
          split at h1
          · exact .inr ⟨h3, fault_more h1⟩
          · omega
        · omega
theorem rulesFault_all {l : List Rl} (h : rulesFault l = 0) : ∀ x ∈ l, ruleFault x = 0 := by
  induction l with
  | nil => intro x hx; cases hx
  | cons y l ih =>
    simp only [rulesFault] at h
    split at h
    · rename_i h1; exact absurd h h1
    · rename_i h1
      intro x hx
      rcases List.mem_cons.1 hx with rfl | hx
      · exact Decidable.not_not.1 h1
      · exact ih h x hx
theorem rulesFault_of {l : List Rl} (h : ∀ x ∈ l, ruleFault x = 0) : rulesFault l = 0 := by
  induction l with
  | nil => rfl
  | cons y l ih =>
    simp only [rulesFault]
    rw [if_neg (by rw [Decidable.not_not]; exact h y (by simp))]
    exact ih fun x hx => h x (by simp [hx])
theorem jobFault_parts {j : Jb} (h : jobFault j = 0) : 1 ≤ j.rules.length ∧ j.rules.length ≤ 4 ∧ 1 ≤ j.fold ∧ j.fold ≤ 4 ∧ 1 ≤ j.slices ∧ j.slices ≤ 4 ∧ rulesFault j.rules = 0 := by
  unfold jobFault at h
  split at h
  · omega
  · split at h
    · omega
    · split at h
      · omega
      · omega
theorem jobFault_of {j : Jb} (h1 : 1 ≤ j.rules.length) (h2 : j.rules.length ≤ 4) (h3 : 1 ≤ j.fold) (h4 : j.fold ≤ 4) (h5 : 1 ≤ j.slices) (h6 : j.slices ≤ 4) (h7 : rulesFault j.rules = 0) : jobFault j = 0 := by
  unfold jobFault
  rw [if_neg (by omega), if_neg (by omega), if_neg (by omega), h7]
end Go.Proofs.YtmgpacenooncjaaGreatDoor
