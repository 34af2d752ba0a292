/- Put together of Jo3, Jo4, Jo5, Jo6. -/
import Derived.Test.YtfjpgjkfmcedoaaGreatDoorG15
/- JobOf: what stands where while a rule's line is gone through. -/
namespace Go.Proofs.YtfjpgjkfmcedoaaGreatDoor
open Go.ChangeShapes Go.WideShapes Go.ChangeAt Go.RowKit
/-- While a rule's line is gone through: the lexer, the rule, and all that was there before the line. -/
structure YL (P B : Nat) (line : List UInt8) (a : Nat) (b : Bool) (cs : Array Value) (w wr : World) : Prop where
  lx : Blk wr P 64 (lexC line a b)
  ex : wr.heap[B]? = some (.cells cs 46 (0, 0))
  bel : Below w.heap.size w wr
  hP : w.heap.size ≤ P
  ltB : P < B
theorem YL.read {P B a a' : Nat} {line : List UInt8} {b b' : Bool} {cs : Array Value} {w wr w' : World} (h : YL P B line a b cs w wr) (hr : Blk w' P 64 (lexC line a' b')) (ho : Only P wr w') : YL P B line a' b' cs w w' := by
  have h1 := h.hP
  have h2 := h.ltB
  exact ⟨hr, (ho.block _ (blockLt h.ex) (by simp; omega)).trans h.ex, below_of_only h.bel h1 ho, h1, h2⟩
theorem YL.lower {P B a : Nat} {line : List UInt8} {b : Bool} {cs : Array Value} {w wr w' : World} (h : YL P B line a b cs w wr) (hb : Below wr.heap.size wr w') : YL P B line a b cs w w' :=
  h.read (h.lx.blw hb) (Only.of_below hb)
theorem YL.drewN {P B a : Nat} {line : List UInt8} {b : Bool} {cs : Array Value} {w wr : World} (h : YL P B line a b cs w wr) (n : Nat) : YL P B line a b cs w (wr.drewN n) :=
  h.lower (below_drewN _ _)
theorem YL.put {P B a : Nat} (j : Nat) {line : List UInt8} {b : Bool} {cs cs' : Array Value} {v : Value} {w wr : World} (h : YL P B line a b cs w wr) (hc : cs.setIfInBounds j v = cs') : YL P B line a b cs' w (wr.setCell ⟨B, j, none⟩ v) := by
  have h1 := h.hP
  have h2 := h.ltB
  refine ⟨h.lx.other j v (by omega), ?_, h.bel.setCell (p := ⟨B, j, none⟩) (by simp; omega) v, h1, h2⟩
  rw [← hc]
  exact heap_set h.ex v
theorem YL.c (i : Nat) {P B a : Nat} {line : List UInt8} {b : Bool} {cs : Array Value} {w wr : World} (h : YL P B line a b cs w wr) : wr.cell? ⟨B, i, none⟩ = cs[i]? := cell_of_row wr B i _ _ (0, 0) h.ex
theorem YL.f (i : Nat) {P B a : Nat} {line : List UInt8} {b : Bool} {cs : Array Value} {w wr : World} (h : YL P B line a b cs w wr) : wr.frozen? ⟨B, i, none⟩ = false := frozen_of_row wr B i _ _ h.ex
theorem Ly.lexed {P B a d : Nat} {line : List UInt8} {w w' : World} {r : Ending} (h : LexSaid P line a d w r w') (hB : B < w.heap.size) :
    ∃ e a' b' ao cap, r = .returned (.agg #[.int .i64 e.k, .int .i64 e.n, .string (bs e.s), .slice ao e.a.length cap]) ∧ Ly B w' (.slice ao e.a.length cap) e ∧ LexE line a d e a' b' ∧ Blk w' P 64 (lexC line a' b') ∧ Only P w w' := by
  obtain ⟨e, a', b', sv, h1, h2, h3, h4⟩ := h
  obtain ⟨ao, cap, rfl⟩ := h2.self.slice
  exact ⟨e, a', b', ao, cap, h1, ⟨w.heap.size, w'.heap.size, hB, Nat.le_refl _, h2⟩, h3, h4.at', h4.only⟩
/-- What a rule's line gives, where it gives a rule. -/
def LexR (line : List UInt8) (x : Rl) : Prop := x.wt ≤ 3 * line.length + 10 ∧ x.fit ∧ ∀ r, ruleFault r = 0 → line = lineR r → x = r
/-- A line that is no rule's. -/
def NoRule (line : List UInt8) : Prop := ∀ r, ruleFault r = 0 → line ≠ lineR r
theorem peek_both {s : List UInt8} (h1 : peekL s [115, 97, 109, 101] = true) (h2 : peekL s [111, 116, 104, 101, 114] = true) : False := by
  have e1 := peek_word h1 (by decide)
  have e2 := peek_word h2 (by decide)
  rw [e1] at e2
  cases e2
/-- A line without a condition. -/
theorem lexR_always {line : List UInt8} {p p6 p8 : Nat} {key val : Ex} (hp : p = (if peekL line [101, 97, 99, 104] then 5 else 0)) (h1 : peekL (line.drop p) [115, 97, 109, 101] = false) (h2 : peekL (line.drop p) [111, 116, 104, 101, 114] = false)
    (hk : LexE line (p + 4) 1 key p6 false) (hv : LexE line (p6 + 4) 1 val p8 false) (h8 : p8 ≤ line.length + 1) : LexR line ⟨peekL line [101, 97, 99, 104], 0, .mk 0 0 [] [], [], key, val⟩ := by
  have k1 := hk.1
  have v1 := hv.1
  refine ⟨by simp only [Rl.wt, Ex.wt, Ex.wt.wtL, List.length_nil]; omega, ⟨⟨⟨by omega, by omega⟩, trivial⟩, hk.2.2.1 rfl, hv.2.2.1 rfl⟩, ?_⟩
  intro r hf hl
  obtain ⟨a1, a2⟩ := when_walk hf hl
  rw [a1] at hp ⊢
  obtain ⟨b1, b2, b3⟩ := a2 p hp
  obtain ⟨-, -, hq⟩ := rule_parts hf
  have hw : r.when = 0 := by
    rcases hq with hq | hq
    · exact hq.1
    · rcases hq.1 with e | e
      · rw [(b1 e).1] at h1; cases h1
      · rw [(b2 e).2.1] at h2; cases h2
  obtain ⟨-, -, c3, c4, c5⟩ := b3 hw
  obtain ⟨-, d2⟩ := kv_walk hf c3
  obtain ⟨e1, -, -, e4⟩ := d2 key p6 false hk
  obtain ⟨f1, -⟩ := e4 val p8 false hv
  obtain ⟨each, when, iff, s, k, v⟩ := r
  simp only at hw c4 c5 e1 f1 ⊢
  rw [hw, c4, c5, e1, f1]
end Go.Proofs.YtfjpgjkfmcedoaaGreatDoor
/- JobOf: a rule's line: what is met ahead of its key; the rule that it gives, or none (plain). -/
namespace Go.Proofs.YtfjpgjkfmcedoaaGreatDoor
open Go.ChangeShapes Go.WideShapes Go.ChangeAt Go.RowKit
theorem lexT_bad (s : List UInt8) (a : Nat) : (lexT s a true).2.2 = true := by
  unfold lexT
  split
  · rfl
  · split <;> rfl
/-- What has been met ahead of the key. -/
def HeadR (line : List UInt8) (p : Nat) (b : Bool) (each : Bool) (when : Int) (iff : Ex) (S : List UInt8) : Prop :=
  iff.wt + S.length ≤ p + 1 ∧ (b = false → iff.fit ∧ p ≤ line.length + 1) ∧ p ≤ line.length + 4 ∧
  ∀ r, ruleFault r = 0 → line = lineR r → b = false ∧ line.drop p = keyVal r ∧ r.each = each ∧ r.when = when ∧ r.iff = iff ∧ r.s = S
theorem eachP_le (line : List UInt8) : (if peekL line [101, 97, 99, 104] then 5 else 0) ≤ line.length := by
  split
  · rename_i h
    unfold peekL at h
    rw [List.isPrefixOf_iff_prefix] at h
    have := h.length_le
    simpa using this
  · omega
theorem headR_always {line : List UInt8} {p : Nat} (hp : p = (if peekL line [101, 97, 99, 104] then 5 else 0)) (h1 : peekL (line.drop p) [115, 97, 109, 101] = false) (h2 : peekL (line.drop p) [111, 116, 104, 101, 114] = false) :
    HeadR line p false (peekL line [101, 97, 99, 104]) 0 (.mk 0 0 [] []) [] := by
  have hle := eachP_le line
  rw [← hp] at hle
  refine ⟨by simp [Ex.wt, Ex.wt.wtL], fun _ => ⟨⟨⟨by omega, by omega⟩, trivial⟩, by omega⟩, by omega, ?_⟩
  intro r hf hl
  obtain ⟨a1, a2⟩ := when_walk hf hl
  rw [a1] at hp ⊢
  obtain ⟨b1, b2, b3⟩ := a2 p hp
  obtain ⟨-, -, hq⟩ := rule_parts hf
  have hw : r.when = 0 := by
    rcases hq with hq | hq
    · exact hq.1
    · rcases hq.1 with e | e
      · rw [(b1 e).1] at h1; cases h1
      · rw [(b2 e).2.1] at h2; cases h2
  obtain ⟨-, -, c3, c4, c5⟩ := b3 hw
  exact ⟨rfl, c3, rfl, hw, c4, c5⟩
theorem headR_when (q : Bool) {line : List UInt8} {p p3 : Nat} {iff : Ex} {b3 : Bool} (hp : p = (if peekL line [101, 97, 99, 104] then 5 else 0))
    (h1 : peekL (line.drop p) [115, 97, 109, 101] = q) (h2 : q = false → peekL (line.drop p) [111, 116, 104, 101, 114] = true) (hE : LexE line (p + if q then 5 else 6) 1 iff p3 b3) (hpl : (p + if q then 5 else 6) ≤ line.length + 1) :
    HeadR line (lexT line p3 b3).2.1 (lexT line p3 b3).2.2 (peekL line [101, 97, 99, 104]) (if q then 1 else 2) iff (lexT line p3 b3).1 := by
  have w1 := hE.1
  have w2 := lexT_len line p3 b3
  have w3 := hE.2.1 hpl
  refine ⟨by omega, fun hb => ?_, ?_, ?_⟩
  · have e : b3 = false := by
      cases b3 with
      | false => rfl
      | true => rw [lexT_bad] at hb; cases hb
    subst e
    exact ⟨hE.2.2.1 rfl, (lexT_pos line p3 (w3.2 rfl)).1.2 hb⟩
  · unfold lexT
    cases hd : line.drop p3 with
    | nil => have := w3.1; simp only; omega
    | cons c r =>
      have hl := congrArg List.length hd
      rw [List.length_drop, List.length_cons] at hl
      have h1 := lexQ_len _ r (Nat.le_refl _)
      have := w3.1
      simp only
      split
      · dsimp only; omega
      · dsimp only; omega
  · intro r hf hl
    obtain ⟨a1, a2⟩ := when_walk hf hl
    rw [a1] at hp ⊢
    obtain ⟨b1, b2, b3'⟩ := a2 p hp
    obtain ⟨-, -, hq⟩ := rule_parts hf
    have hw : (r.when = if q then 1 else 2) ∧ line.drop (p + if q then 5 else 6) = r.iff.txt ++ ([32] ++ quoteL r.s ++ [32] ++ keyVal r) := by
      rcases hq with hq | hq
      · obtain ⟨c1, c2, -⟩ := b3' hq.1
        cases q with
        | true => rw [c1] at h1; cases h1
        | false => rw [h2 rfl] at c2; cases c2
      · rcases hq.1 with e | e
        · obtain ⟨c1, c2⟩ := b1 e
          rw [c1] at h1
          subst h1
          exact ⟨e, c2⟩
        · obtain ⟨c1, -, c2⟩ := b2 e
          rw [c1] at h1
          subst h1
          exact ⟨e, c2⟩
    obtain ⟨hw1, hw2⟩ := hw
    have hw12 : r.when = 1 ∨ r.when = 2 := by
      rw [hw1]
      cases q <;> simp
    obtain ⟨f1, f2, f3, f4, f5⟩ := w_walk hf hw12 hw2 iff p3 b3 hE
    exact ⟨f4, f5, rfl, hw1, f1.symm, f3.symm⟩
/-- The rule. -/
theorem lexR_of {line : List UInt8} {p p6 p8 : Nat} {each : Bool} {when : Int} {iff key val : Ex} {S : List UInt8} (h : HeadR line p false each when iff S) (hk : LexE line (p + 4) 1 key p6 false) (hv : LexE line (p6 + 4) 1 val p8 false) (h8 : p8 ≤ line.length + 3) :
    LexR line ⟨each, when, iff, S, key, val⟩ := by
  obtain ⟨a1, a2, -, a4⟩ := h
  have k1 := hk.1
  have v1 := hv.1
  refine ⟨by simp only [Rl.wt]; omega, ⟨(a2 rfl).1, hk.2.2.1 rfl, hv.2.2.1 rfl⟩, ?_⟩
  intro r hf hl
  obtain ⟨-, c3, c4, c5, c6, c7⟩ := a4 r hf hl
  obtain ⟨-, d2⟩ := kv_walk hf c3
  obtain ⟨e1, -, -, e4⟩ := d2 key p6 false hk
  obtain ⟨f1, -⟩ := e4 val p8 false hv
  obtain ⟨each', when', iff', s', k', v'⟩ := r
  simp only at c4 c5 c6 c7 e1 f1 ⊢
  rw [c4, c5, c6, c7, e1, f1]
theorem noR_head {line : List UInt8} {p : Nat} {b each : Bool} {when : Int} {iff : Ex} {S : List UInt8} (h : HeadR line p b each when iff S) (hb : b = true ∨ wordR (line.drop p) ≠ [107, 101, 121]) : NoRule line := by
  intro r hf hl
  obtain ⟨c1, c2, -⟩ := h.2.2.2 r hf hl
  obtain ⟨d1, -⟩ := kv_walk hf c2
  rcases hb with hb | hb
  · rw [c1] at hb; cases hb
  · exact hb d1
theorem noR_key {line : List UInt8} {p p6 : Nat} {b each b6 : Bool} {when : Int} {iff key : Ex} {S : List UInt8} (h : HeadR line p b each when iff S) (hk : LexE line (p + 4) 1 key p6 b6) (hb : b6 = true ∨ wordR (line.drop p6) ≠ [118, 97, 108]) : NoRule line := by
  intro r hf hl
  obtain ⟨-, c2, -⟩ := h.2.2.2 r hf hl
  obtain ⟨-, d2⟩ := kv_walk hf c2
  obtain ⟨-, e2, e3, -⟩ := d2 key p6 b6 hk
  rcases hb with hb | hb
  · rw [e2] at hb; cases hb
  · exact hb e3
theorem noR_val {line : List UInt8} {p p6 p8 : Nat} {b each b6 : Bool} {when : Int} {iff key val : Ex} {S : List UInt8} (h : HeadR line p b each when iff S) (hk : LexE line (p + 4) 1 key p6 b6) (hv : LexE line (p6 + 4) 1 val p8 true) : NoRule line := by
  intro r hf hl
  obtain ⟨-, c2, -⟩ := h.2.2.2 r hf hl
  obtain ⟨-, d2⟩ := kv_walk hf c2
  obtain ⟨-, -, -, e4⟩ := d2 key p6 b6 hk
  have := (e4 val p8 true hv).2
  cases this
end Go.Proofs.YtfjpgjkfmcedoaaGreatDoor
/- JobOf: the lines of a job's text, one after another (plain). -/
namespace Go.Proofs.YtfjpgjkfmcedoaaGreatDoor
open Go.ChangeShapes Go.WideShapes Go.ChangeAt Go.RowKit
/-- Lines, each with its end. -/
def joined (l : List (List UInt8)) : List UInt8 := (l.map fun y => y ++ [10]).flatten
theorem joined_snoc (l : List (List UInt8)) (x : List UInt8) : joined (l ++ [x]) = joined l ++ (x ++ [10]) := by simp [joined]
theorem line_uniq : ∀ {x y r t : List UInt8}, (∀ b ∈ x, b ≠ 10) → (∀ b ∈ y, b ≠ 10) → x ++ 10 :: r = y ++ 10 :: t → x = y ∧ r = t := by
  intro x
  induction x with
  | nil =>
    intro y r t _ hy h
    cases y with
    | nil => simpa using h
    | cons c y =>
      exfalso
      rw [List.nil_append, List.cons_append] at h
      injection h with h1 h2
      exact hy c (List.mem_cons_self ..) h1.symm
  | cons b x ih =>
    intro y r t hx hy h
    cases y with
    | nil =>
      exfalso
      rw [List.nil_append, List.cons_append] at h
      injection h with h1 h2
      exact hx b (List.mem_cons_self ..) h1
    | cons c y =>
      rw [List.cons_append, List.cons_append] at h
      injection h with h1 h2
      obtain ⟨e1, e2⟩ := ih (fun z hz => hx z (List.mem_cons_of_mem _ hz)) (fun z hz => hy z (List.mem_cons_of_mem _ hz)) h2
      exact ⟨by rw [h1, e1], e2⟩
theorem lines_uniq : ∀ {A B : List (List UInt8)} {R : List UInt8}, (∀ x ∈ A, ∀ b ∈ x, b ≠ 10) → (∀ x ∈ B, ∀ b ∈ x, b ≠ 10) → joined A ++ R = joined B → ∃ B', B = A ++ B' ∧ R = joined B' := by
  intro A
  induction A with
  | nil => intro B R _ _ h; exact ⟨B, rfl, by simpa [joined] using h⟩
  | cons x A ih =>
    intro B R hA hB h
    cases B with
    | nil => exfalso; simp [joined] at h
    | cons y B =>
      have h' : x ++ 10 :: (joined A ++ R) = y ++ 10 :: joined B := by
        have : joined (x :: A) ++ R = x ++ 10 :: (joined A ++ R) := by simp [joined]
        rw [← this, h]
        simp [joined]
      obtain ⟨e1, e2⟩ := line_uniq (hA x (List.mem_cons_self ..)) (hB y (List.mem_cons_self ..)) h'
      obtain ⟨B', e3, e4⟩ := ih (fun z hz => hA z (List.mem_cons_of_mem _ hz)) (fun z hz => hB z (List.mem_cons_of_mem _ hz)) e2
      exact ⟨B', by rw [e1, e3]; rfl, e4⟩
theorem jobL_joined (j : Jb) : jobL j = joined (lineH j :: j.rules.map lineR) := by
  unfold jobL rulesL joined
  rw [headL_line, List.map_cons, List.flatten_cons, List.map_map]
  congr 1
  congr 1
  exact List.map_congr_left fun r _ => ruleL_line r
/-- What has been gone through of a job's text is that job's. -/
theorem job_prefix {j : Jb} {A : List (List UInt8)} {R s : List UInt8} (hf : jobFault j = 0) (hs : s = joined A ++ R) (hA : ∀ x ∈ A, ∀ b ∈ x, b ≠ 10) (h : jobL j = s) :
    ∃ B', lineH j :: j.rules.map lineR = A ++ B' ∧ R = joined B' := by
  rw [jobL_joined, hs] at h
  refine lines_uniq hA ?_ h.symm
  intro x hx
  rcases List.mem_cons.1 hx with rfl | hx
  · exact lineH_plain j
  · obtain ⟨r, hr, rfl⟩ := List.mem_map.1 hx
    exact lineR_plain (rulesFault_all (jobFault_rules hf) r hr)
/-- A line that is no rule's: no job's text. -/
theorem job_no {j : Jb} {h0 x : List UInt8} {done : List (List UInt8)} {R s : List UInt8} (hf : jobFault j = 0) (hs : s = joined (h0 :: done ++ [x]) ++ R) (hA : ∀ y ∈ h0 :: done ++ [x], ∀ b ∈ y, b ≠ 10) (hx : NoRule x) : jobL j ≠ s := by
  intro h
  obtain ⟨B', e, -⟩ := job_prefix hf hs hA h
  have e2 : j.rules.map lineR = done ++ [x] ++ B' := by
    rw [List.cons_append, List.cons_append] at e
    injection e
  have hm : x ∈ j.rules.map lineR := by rw [e2]; simp
  obtain ⟨r, hr, e3⟩ := List.mem_map.1 hm
  exact hx r (rulesFault_all (jobFault_rules hf) r hr) e3.symm
/-- The rules that lines give. -/
def LexRs : List (List UInt8) → List Rl → Prop
  | [], [] => True
  | x :: xs, r :: rs => LexR x r ∧ LexRs xs rs
  | _, _ => False
theorem lexRs_snoc : ∀ {xs : List (List UInt8)} {rs : List Rl} {x : List UInt8} {r : Rl}, LexRs xs rs → LexR x r → LexRs (xs ++ [x]) (rs ++ [r]) := by
  intro xs
  induction xs with
  | nil =>
    intro rs x r h hr
    cases rs with
    | nil => exact ⟨hr, trivial⟩
    | cons _ _ => exact False.elim h
  | cons y xs ih =>
    intro rs x r h hr
    cases rs with
    | nil => exact False.elim h
    | cons q rs => exact ⟨h.1, ih h.2 hr⟩
theorem lexRs_back : ∀ {l rs : List Rl}, (∀ r ∈ l, ruleFault r = 0) → LexRs (l.map lineR) rs → rs = l := by
  intro l
  induction l with
  | nil =>
    intro rs _ h
    cases rs with
    | nil => rfl
    | cons _ _ => exact False.elim h
  | cons r l ih =>
    intro rs hf h
    cases rs with
    | nil => exact False.elim h
    | cons q rs =>
      rw [h.1.2.2 r (hf r (List.mem_cons_self ..)) rfl, ih (fun x hx => hf x (List.mem_cons_of_mem _ hx)) h.2]
theorem lexRs_wt : ∀ {xs : List (List UInt8)} {rs : List Rl}, LexRs xs rs → rulesWt rs ≤ 13 * (joined xs).length ∧ (∀ r ∈ rs, r.fit) ∧ rs.length = xs.length := by
  intro xs
  induction xs with
  | nil =>
    intro rs h
    cases rs with
    | nil => exact ⟨by simp [rulesWt], by simp, rfl⟩
    | cons _ _ => exact False.elim h
  | cons x xs ih =>
    intro rs h
    cases rs with
    | nil => exact False.elim h
    | cons q rs =>
      obtain ⟨a, b, c⟩ := ih h.2
      have hw := h.1.1
      refine ⟨?_, fun r hr => ?_, by simp [c]⟩
      · have e1 : rulesWt (q :: rs) = q.wt + rulesWt rs := by simp [rulesWt]
        have e2 : (joined (x :: xs)).length = x.length + 1 + (joined xs).length := by simp [joined]; omega
        rw [e1, e2]
        omega
      · rcases List.mem_cons.1 hr with rfl | hr
        · exact h.1.2.1
        · exact b r hr
end Go.Proofs.YtfjpgjkfmcedoaaGreatDoor
/- JobOf: the lines' ends, and the first line (plain). -/
namespace Go.Proofs.YtfjpgjkfmcedoaaGreatDoor
open Go.ChangeShapes Go.WideShapes Go.ChangeAt Go.RowKit
open Pp.Num (numB num_itoa)
theorem cut_line : ∀ {l : List UInt8}, l.getLast? = some 10 → ∃ x r, Pp.cutAt 10 l = (x, r, true) ∧ l = x ++ 10 :: r ∧ (∀ b ∈ x, b ≠ 10) ∧ (r = [] ∨ r.getLast? = some 10) := by
  intro l
  induction l with
  | nil => intro h; simp at h
  | cons b l ih =>
    intro h
    by_cases hb : b = 10
    · subst hb
      refine ⟨[], l, by simp [Pp.cutAt], rfl, by simp, ?_⟩
      cases l with
      | nil => exact .inl rfl
      | cons c l => right; rw [List.getLast?_cons_cons] at h; exact h
    · cases l with
      | nil => simp at h; exact absurd h hb
      | cons c l =>
        rw [List.getLast?_cons_cons] at h
        obtain ⟨x, r, h1, h2, h3, h4⟩ := ih h
        refine ⟨b :: x, r, ?_, by rw [h2]; rfl, ?_, h4⟩
        · rw [Pp.cutAt, if_neg hb, h1]
        · intro z hz
          rcases List.mem_cons.1 hz with rfl | hz
          · exact hb
          · exact h3 z hz
/-- The first line, word for word. -/
theorem head_walk {j : Jb} {head : List UInt8} (h1 : 1 ≤ j.fold) (h2 : j.fold ≤ 4) (h3 : -9223372036854775808 ≤ j.slices) (h4 : j.slices ≤ 9223372036854775807) (h : head = lineH j) :
    foldK (wordR head) = j.fold ∧ ∀ a1, a1 = (wordR head).length + 1 → numB (wordR (head.drop a1)) = some j.slices ∧ ∀ a2, a2 = a1 + (wordR (head.drop a1)).length + 1 →
      (a2 ≤ head.length → (head.drop a2 == [101, 97, 114, 108, 121]) = j.early) ∧ (¬ a2 ≤ head.length → j.early = false) := by
  have e : head = foldL j.fold.toNat ++ (32 :: (Lib.itoa j.slices ++ (if j.early then [32, 101, 97, 114, 108, 121] else []))) := by rw [h]; simp [lineH]
  have st : Stop1 (if j.early then [32, 101, 97, 114, 108, 121] else ([] : List UInt8)) := by
    split
    · exact .inr ⟨_, rfl⟩
    · exact .inl rfl
  have w1 : wordR head = foldL j.fold.toNat := by rw [e]; exact wordR_app (.inr ⟨_, rfl⟩) (fun b hb => (foldL_plain _ b hb).1)
  refine ⟨?_, ?_⟩
  · rw [w1, foldK_name j.fold.toNat (by omega) (by omega)]
    omega
  · intro a1 ha1
    have d1 : head.drop a1 = Lib.itoa j.slices ++ (if j.early then [32, 101, 97, 114, 108, 121] else []) := by
      rw [ha1, w1, ← List.drop_drop]
      conv => lhs; rw [e]
      rw [List.drop_left]
      rfl
    have w2 : wordR (head.drop a1) = Lib.itoa j.slices := by rw [d1]; exact wordR_app st (fun b hb => (itoa_plain _ b hb).1)
    refine ⟨by rw [w2]; exact num_itoa h3 h4, ?_⟩
    intro a2 ha2
    have d2 : head.drop a2 = (if j.early then [32, 101, 97, 114, 108, 121] else ([] : List UInt8)).drop 1 := by
      rw [ha2, w2, Nat.add_assoc, ← List.drop_drop, d1, ← List.drop_drop, List.drop_left]
    have hl := congrArg List.length d1
    rw [List.length_drop, List.length_append] at hl
    have ha2' : a2 = a1 + (Lib.itoa j.slices).length + 1 := by rw [ha2, w2]
    cases hj : j.early with
    | true =>
      rw [hj] at d2 hl
      simp only [if_true, List.length_cons, List.length_nil] at hl
      exact ⟨fun _ => by rw [d2]; rfl, fun hn => absurd (by omega) hn⟩
    | false =>
      rw [hj] at d2
      exact ⟨fun _ => by rw [d2]; rfl, fun _ => rfl⟩
end Go.Proofs.YtfjpgjkfmcedoaaGreatDoor
