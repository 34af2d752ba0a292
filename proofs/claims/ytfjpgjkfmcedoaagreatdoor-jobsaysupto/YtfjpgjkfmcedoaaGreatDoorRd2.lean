/- What a rule's line, a job's first line and a job's text are read as: plain. -/
import Derived.Test.YtfjpgjkfmcedoaaGreatDoorG7
import Derived.Test.YtfjpgjkfmcedoaaGreatDoorG8
namespace Go.Proofs.YtfjpgjkfmcedoaaGreatDoor
open Go.ChangeShapes Go.WideShapes Go.ChangeAt Go.RowKit
def eachT : List UInt8 := [101, 97, 99, 104, 32]
def sameT : List UInt8 := [115, 97, 109, 101, 32]
def otherT : List UInt8 := [111, 116, 104, 101, 114, 32]
def earlyT : List UInt8 := [32, 101, 97, 114, 108, 121]
theorem prefix_app (p t : List UInt8) : p.isPrefixOf (p ++ t) = true := by
  rw [List.isPrefixOf_iff_prefix]; exact List.prefix_append p t
theorem takeR_app (p t : List UInt8) : takeR p (p ++ t) = t := by
  unfold takeR; rw [if_pos (prefix_app p t)]; simp
theorem takeR_not {p t : List UInt8} (h : p.isPrefixOf t = false) : takeR p t = t := by
  unfold takeR; rw [if_neg (by simp [h])]
theorem faultE_ok {e : Ex} {t c : Bool} (h : faultE e t c = 0) : e.ok t c = true := by
  unfold faultE at h
  split at h
  · split at h
    · assumption
    · cases h
  · cases h
theorem zero_ex {e : Ex} (h : e.zero = true) : e = .mk 0 0 [] [] := by
  obtain ⟨k, n, s, a⟩ := e
  unfold Ex.zero at h
  simp only [Bool.and_eq_true, Ex.k, Ex.n, Ex.s, Ex.a, List.isEmpty_iff] at h
  obtain ⟨⟨⟨h1, h2⟩, rfl⟩, h4⟩ := h
  rw [of_decide_eq_true h1, of_decide_eq_true h2, List.eq_nil_of_length_eq_zero (of_decide_eq_true h4)]
/-- A rule that may be. -/
theorem rule_parts {r : Rl} (h : ruleFault r = 0) : r.key.ok true r.each = true ∧ r.val.ok false r.each = true ∧ ((r.when = 0 ∧ r.iff = .mk 0 0 [] [] ∧ r.s = []) ∨ ((r.when = 1 ∨ r.when = 2) ∧ r.iff.ok true r.each = true ∧ r.s.contains 10 = false)) := by
  unfold ruleFault at h
  by_cases h1 : whenFault r ≠ 0
  · rw [if_pos h1] at h; exact absurd h h1
  · rw [if_neg h1] at h
    by_cases h2 : faultE r.key true r.each ≠ 0
    · rw [if_pos h2] at h; exact absurd h h2
    · rw [if_neg h2] at h
      refine ⟨faultE_ok (by simpa using h2), faultE_ok h, ?_⟩
      have h3 : whenFault r = 0 := by simpa using h1
      unfold whenFault at h3
      split at h3
      · rename_i hw
        split at h3
        · rename_i hz
          simp only [Bool.and_eq_true] at hz
          exact .inl ⟨hw, zero_ex hz.1, by simpa using hz.2⟩
        · cases h3
      · split at h3
        · rename_i hw
          split at h3
          · rename_i hf
            refine .inr ⟨hw, faultE_ok h3, ?_⟩
            unfold fitsB at hf
            simp only [Bool.and_eq_true, Bool.not_eq_true'] at hf
            exact hf.2
          · cases h3
        · cases h3
/-- What is read of a rule's line. -/
def ReadsR (line : List UInt8) (r' : Rl) : Prop :=
  r'.wt ≤ 10 * line.length + 10 ∧ r'.fit ∧ ∀ r, ruleFault r = 0 → line ++ [10] = ruleL r → r' = r
/-- The end of a rule: its key, its value. -/
def ReadsKV (s : List UInt8) (key val : Ex) : Prop := ∃ s7 s9, ReadsE (s.drop 4) key s7 ∧ ReadsE (s7.drop 5) val s9
theorem kv_len {s : List UInt8} {key val : Ex} (h : ReadsKV s key val) : key.wt ≤ 3 * s.length + 1 ∧ val.wt ≤ 3 * s.length + 1 ∧ key.fit ∧ val.fit := by
  obtain ⟨s7, s9, ⟨a1, a2, a3, _⟩, ⟨b1, b2, b3, _⟩⟩ := h
  have c1 : (s.drop 4).length ≤ s.length := by simp
  have c2 : (s7.drop 5).length ≤ s7.length := by simp
  exact ⟨by omega, by omega, a3, b3⟩
theorem kv_back {s : List UInt8} {key val k v : Ex} {c : Bool} (h : ReadsKV s key val) (ok1 : k.ok true c = true) (ok2 : v.ok false c = true) (hs : s = [107, 101, 121, 32] ++ k.txt ++ [32, 118, 97, 108, 32] ++ v.txt) : key = k ∧ val = v := by
  obtain ⟨s7, s9, ⟨_, _, _, a4⟩, ⟨_, _, _, b4⟩⟩ := h
  have e1 : s.drop 4 = k.txt ++ ([32, 118, 97, 108, 32] ++ v.txt) := by rw [hs]; simp
  obtain ⟨f1, f2⟩ := a4 k true c _ ok1 e1 (.inr ⟨_, rfl⟩)
  have e2 : s7.drop 5 = v.txt ++ [] := by rw [f2]; simp
  exact ⟨f1, (b4 v false c [] ok2 e2 (.inl rfl)).1⟩
theorem rule_line {line : List UInt8} {r : Rl} (h : line ++ [10] = ruleL r) : line = ruleHd r ++ ([107, 101, 121, 32] ++ r.key.txt ++ [32, 118, 97, 108, 32] ++ r.val.txt) := by
  unfold ruleL at h
  have := (List.append_inj' h rfl).1
  rw [this]; simp
theorem each_pre {line : List UInt8} {each : Bool} {when : Int} {iff : Ex} {s : List UInt8} {k v : Ex} (e : line = ruleHd ⟨each, when, iff, s, k, v⟩ ++ ([107, 101, 121, 32] ++ k.txt ++ [32, 118, 97, 108, 32] ++ v.txt)) :
    eachT.isPrefixOf line = each ∧ takeR eachT line = (if when = 1 then sameT ++ iff.txt ++ [32] ++ quoteL s ++ [32] else if when = 2 then otherT ++ iff.txt ++ [32] ++ quoteL s ++ [32] else []) ++ ([107, 101, 121, 32] ++ k.txt ++ [32, 118, 97, 108, 32] ++ v.txt) := by
  unfold ruleHd at e
  simp only at e
  cases each with
  | true =>
    rw [if_pos rfl, List.append_assoc] at e
    rw [e]
    exact ⟨prefix_app eachT _, takeR_app eachT _⟩
  | false =>
    rw [if_neg (by decide), List.nil_append] at e
    have hn : eachT.isPrefixOf line = false := by
      rw [e]
      split
      · rfl
      · split <;> rfl
    exact ⟨hn, by rw [takeR_not hn, e]; rfl⟩
/-- A rule that makes its pairs always. -/
theorem rule_always {line : List UInt8} {key val : Ex} (h1 : sameT.isPrefixOf (takeR eachT line) = false) (h2 : otherT.isPrefixOf (takeR eachT line) = false) (h : ReadsKV (takeR eachT line) key val) :
    ReadsR line ⟨eachT.isPrefixOf line, 0, .mk 0 0 [] [], [], key, val⟩ := by
  obtain ⟨a, b, c, d⟩ := kv_len h
  have hl := takeR_len eachT line
  refine ⟨by simp only [Rl.wt, Ex.wt, Ex.wt.wtL, List.length_nil]; omega, ⟨⟨⟨by omega, by omega⟩, trivial⟩, c, d⟩, ?_⟩
  intro r hr hl2
  have e := rule_line hl2
  obtain ⟨ok1, ok2, hw⟩ := rule_parts hr
  obtain ⟨each, when, iff, s, k, v⟩ := r
  simp only at e ok1 ok2 hw
  have hpre : eachT.isPrefixOf line = each ∧ takeR eachT line = (if when = 1 then sameT ++ iff.txt ++ [32] ++ quoteL s ++ [32] else if when = 2 then otherT ++ iff.txt ++ [32] ++ quoteL s ++ [32] else []) ++ ([107, 101, 121, 32] ++ k.txt ++ [32, 118, 97, 108, 32] ++ v.txt) := each_pre e
  obtain ⟨q1, q2⟩ := hpre
  rcases hw with ⟨rfl, rfl, rfl⟩ | ⟨hw, _⟩
  · rw [if_neg (by decide), if_neg (by decide), List.nil_append] at q2
    obtain ⟨rfl, rfl⟩ := kv_back h ok1 ok2 q2
    rw [q1]
  · exfalso
    rcases hw with rfl | rfl
    · rw [if_pos rfl] at q2
      rw [q2, List.append_assoc, List.append_assoc, List.append_assoc, List.append_assoc, prefix_app] at h1
      cases h1
    · rw [if_neg (by decide), if_pos rfl] at q2
      rw [q2, List.append_assoc, List.append_assoc, List.append_assoc, List.append_assoc, prefix_app] at h2
      cases h2
/-- When a rule makes its pairs: what is looked at, and what it is held against. -/
def ReadsW (s : List UInt8) (iff : Ex) (S s5 : List UInt8) : Prop := ∃ s3, ReadsE s iff s3 ∧ (S, s5) = ((unqL ((s3.drop 1).drop 1)).1, (unqL ((s3.drop 1).drop 1)).2.drop 1)
theorem w_len {s S s5 : List UInt8} {iff : Ex} (h : ReadsW s iff S s5) : iff.wt ≤ 3 * s.length + 1 ∧ S.length + s5.length ≤ s.length ∧ iff.fit := by
  obtain ⟨s3, ⟨a1, a2, a3, _⟩, e⟩ := h
  injection e with e1 e2
  have := unq_len _ ((s3.drop 1).drop 1) (Nat.le_refl _)
  have c : ((s3.drop 1).drop 1).length ≤ s3.length := by simp
  rw [e1, e2]
  refine ⟨by omega, ?_, a3⟩
  simp only [List.length_drop] at *
  omega
theorem w_back {s S s5 u rest : List UInt8} {iff f : Ex} {c : Bool} (h : ReadsW s iff S s5) (ok : f.ok true c = true) (hs : s = f.txt ++ [32] ++ quoteL u ++ [32] ++ rest) : iff = f ∧ S = u ∧ s5 = rest := by
  obtain ⟨s3, ⟨_, _, _, a4⟩, e⟩ := h
  injection e with e1 e2
  have e3 : s = f.txt ++ (32 :: (quoteL u ++ (32 :: rest))) := by rw [hs]; simp
  obtain ⟨f1, f2⟩ := a4 f true c _ ok e3 (.inr ⟨_, rfl⟩)
  have e4 : (s3.drop 1).drop 1 = quoL u ++ 34 :: (32 :: rest) := by rw [f2]; simp [quoteL]
  rw [e4, unq_quo] at e1 e2
  exact ⟨f1, e1, e2⟩
/-- A rule that makes its pairs if something is so, or if it is not. -/
theorem rule_when (q : Bool) {line S s5 : List UInt8} {iff key val : Ex} (h1 : (if q then sameT else otherT).isPrefixOf (takeR eachT line) = true) (h2 : q = true ∨ sameT.isPrefixOf (takeR eachT line) = false)
    (hw : ReadsW ((takeR eachT line).drop (if q then sameT else otherT).length) iff S s5) (h : ReadsKV s5 key val) :
    ReadsR line ⟨eachT.isPrefixOf line, if q then 1 else 2, iff, S, key, val⟩ := by
  obtain ⟨a, b, c, d⟩ := kv_len h
  obtain ⟨a1, b1, c1⟩ := w_len hw
  have hl := takeR_len eachT line
  have hd : ((takeR eachT line).drop (if q then sameT else otherT).length).length ≤ (takeR eachT line).length := by simp
  refine ⟨by simp only [Rl.wt]; omega, ⟨c1, c, d⟩, ?_⟩
  intro r hr hl2
  have e := rule_line hl2
  obtain ⟨ok1, ok2, hw2⟩ := rule_parts hr
  obtain ⟨each, when, f, s, k, v⟩ := r
  simp only at e ok1 ok2 hw2
  obtain ⟨q1, q2⟩ := each_pre e
  rcases hw2 with ⟨rfl, rfl, rfl⟩ | ⟨hw2, okf, _⟩
  · exfalso
    rw [if_neg (by decide), if_neg (by decide), List.nil_append] at q2
    rw [q2] at h1
    cases q <;> simp [sameT, otherT, List.isPrefixOf] at h1
  · rcases hw2 with rfl | rfl
    · rw [if_pos rfl] at q2
      have hq : q = true := by
        rcases h2 with h2 | h2
        · exact h2
        · exfalso
          rw [q2, List.append_assoc, List.append_assoc, List.append_assoc, List.append_assoc, prefix_app] at h2
          cases h2
      subst hq
      simp only [if_true] at hw ⊢
      obtain ⟨rfl, rfl, e5⟩ := w_back hw okf (u := s) (rest := [107, 101, 121, 32] ++ k.txt ++ [32, 118, 97, 108, 32] ++ v.txt) (by rw [q2]; simp [sameT])
      obtain ⟨rfl, rfl⟩ := kv_back h ok1 ok2 e5
      rw [q1]
    · rw [if_neg (by decide), if_pos rfl] at q2
      have hq : q = false := by
        cases q with
        | false => rfl
        | true =>
          exfalso
          rw [q2] at h1
          simp [sameT, otherT, List.isPrefixOf] at h1
      subst hq
      simp only [Bool.false_eq_true, if_false] at hw ⊢
      obtain ⟨rfl, rfl, e5⟩ := w_back hw okf (u := s) (rest := [107, 101, 121, 32] ++ k.txt ++ [32, 118, 97, 108, 32] ++ v.txt) (by rw [q2]; simp [otherT])
      obtain ⟨rfl, rfl⟩ := kv_back h ok1 ok2 e5
      rw [q1]
end Go.Proofs.YtfjpgjkfmcedoaaGreatDoor
