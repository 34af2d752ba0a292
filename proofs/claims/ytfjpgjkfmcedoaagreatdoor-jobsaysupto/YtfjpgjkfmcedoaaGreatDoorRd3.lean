/- What a job's text is read as, line by line: plain. -/
import Derived.Test.YtfjpgjkfmcedoaaGreatDoorRdH
namespace Go.Proofs.YtfjpgjkfmcedoaaGreatDoor
open Go.ChangeShapes Go.WideShapes Go.ChangeAt Go.RowKit
theorem spl_sum (c : UInt8) (l : List UInt8) : ((spl c l).map fun x => x.length + 1).sum = l.length + 1 := by
  induction l with
  | nil => simp [spl]
  | cons b r ih =>
    unfold spl
    have hne := spl_ne c r
    split
    · simp only [List.map_cons, List.sum_cons, ih, List.length_nil, List.length_cons]; omega
    · cases hs : spl c r with
      | nil => exact absurd hs hne
      | cons x xs =>
        rw [hs] at ih
        simp only [List.headD_cons, List.tail_cons, List.map_cons, List.sum_cons, List.length_cons] at ih ⊢
        omega
theorem spl_one {c : UInt8} {x : List UInt8} (h : ∀ b ∈ x, b ≠ c) : spl c x = [x] := by
  induction x with
  | nil => rfl
  | cons b r ih =>
    unfold spl
    rw [if_neg (h b (List.mem_cons_self ..)), ih (fun y hy => h y (List.mem_cons_of_mem _ hy))]
    rfl
theorem spl_app {c : UInt8} {x : List UInt8} (h : ∀ b ∈ x, b ≠ c) (r : List UInt8) : spl c (x ++ c :: r) = x :: spl c r := by
  induction x with
  | nil => rw [List.nil_append, spl, if_pos rfl]
  | cons b t ih =>
    rw [List.cons_append, spl, if_neg (h b (List.mem_cons_self ..)), ih (fun y hy => h y (List.mem_cons_of_mem _ hy))]
    rfl
/-- Lines without an end in them, each with one behind it but the last. -/
def joinN : List (List UInt8) → List UInt8
  | [] => []
  | [x] => x
  | x :: y :: r => x ++ 10 :: joinN (y :: r)
theorem spl_join : ∀ (x : List UInt8) (r : List (List UInt8)), (∀ y ∈ x :: r, ∀ b ∈ y, b ≠ 10) → spl 10 (joinN (x :: r)) = x :: r
  | x, [], h => spl_one (h x (List.mem_cons_self ..))
  | x, y :: r, h => by
    rw [joinN, spl_app (h x (List.mem_cons_self ..)), spl_join y r (fun z hz => h z (List.mem_cons_of_mem _ hz))]
theorem join_end : ∀ (x : List UInt8) (r : List (List UInt8)), ((x :: r).map fun y => y ++ [10]).flatten = joinN (x :: r) ++ [10]
  | x, [] => by simp [joinN]
  | x, y :: r => by
    have ih := join_end y r
    rw [List.map_cons, List.flatten_cons, ih, joinN]
    simp
/-- A text without the end of its last line. -/
def trimN (s : List UInt8) : List UInt8 := Lib.trimSuffix s [10]
theorem trim_end (s : List UInt8) : trimN (s ++ [10]) = s := by
  unfold trimN Lib.trimSuffix Lib.hasSuffix
  rw [if_pos (by simp)]
  simp
theorem trim_len (s : List UInt8) : (trimN s).length ≤ s.length := by
  unfold trimN Lib.trimSuffix
  split
  · simp
  · exact Nat.le_refl _
theorem quo_plain {s : List UInt8} (h : s.contains 10 = false) : ∀ b ∈ quoteL s, b ≠ 10 := by
  have hq : ∀ t : List UInt8, t.contains 10 = false → ∀ b ∈ quoL t, b ≠ 10 := by
    intro t
    induction t with
    | nil => intro _ b hb; simp [quoL] at hb
    | cons c t ih =>
      intro ht b hb
      simp only [List.contains_cons, Bool.or_eq_false_iff] at ht
      have hc : c ≠ 10 := by
        have := ht.1
        simp only [beq_eq_false_iff_ne] at this
        exact fun e => this e.symm
      unfold quoL at hb
      rcases List.mem_append.1 hb with hb | hb
      · split at hb
        · simp only [List.mem_cons, List.not_mem_nil, or_false] at hb
          rcases hb with rfl | rfl
          · decide
          · exact hc
        · simp only [List.mem_cons, List.not_mem_nil, or_false] at hb
          subst hb; exact hc
      · exact ih ht.2 b hb
  intro b hb
  unfold quoteL at hb
  rcases List.mem_cons.1 hb with rfl | hb
  · decide
  · rcases List.mem_append.1 hb with hb | hb
    · exact hq s h b hb
    · simp only [List.mem_cons, List.not_mem_nil, or_false] at hb
      subst hb; decide
theorem txt_plain (e : Ex) : ∀ t c, e.ok t c = true → ∀ b ∈ e.txt, b ≠ 10 := by
  refine Ex.ind (P := fun e => ∀ t c, e.ok t c = true → ∀ b ∈ e.txt, b ≠ 10) ?_ e
  intro k n s a ih t c h b hb
  obtain ⟨_, _, _, _, _, hs, hok⟩ := ok_parts h
  have hL : ∀ (l : List Ex) (t : Bool), (∀ e ∈ l, ∀ t c, e.ok t c = true → ∀ b ∈ e.txt, b ≠ 10) → Ex.ok.okL l t c = true → ∀ b ∈ Ex.txt.txtL l, b ≠ 10 := by
    intro l
    induction l with
    | nil => intro _ _ _ b hb; simp [Ex.txt.txtL] at hb
    | cons x l ihl =>
      intro t hx ho b hb
      obtain ⟨o1, o2⟩ := okL_head ho
      simp only [Ex.txt.txtL] at hb
      rcases List.mem_append.1 hb with hb | hb
      · rcases List.mem_cons.1 hb with rfl | hb
        · decide
        · exact hx x (List.mem_cons_self ..) _ _ o1 b hb
      · exact ihl t (fun e he => hx e (List.mem_cons_of_mem _ he)) o2 b hb
  simp only [Ex.txt, hdTxt] at hb
  rcases List.mem_append.1 hb with hb | hb
  · rcases List.mem_append.1 hb with hb | hb
    · rcases List.mem_append.1 hb with hb | hb
      · exact (nameL_plain k b hb).2
      · split at hb
        · rcases List.mem_cons.1 hb with rfl | hb
          · decide
          · exact (itoa_plain n b hb).2
        · cases hb
    · split at hb
      · rcases List.mem_cons.1 hb with rfl | hb
        · decide
        · exact quo_plain hs b hb
      · cases hb
  · exact hL a _ ih hok b hb
/-- A rule's line, without its end. -/
def lineR (r : Rl) : List UInt8 := ruleHd r ++ ([107, 101, 121, 32] ++ r.key.txt ++ [32, 118, 97, 108, 32] ++ r.val.txt)
theorem ruleL_line (r : Rl) : ruleL r = lineR r ++ [10] := by unfold ruleL lineR; simp
theorem mem_lit {l : List UInt8} (h : l.contains 10 = false) : ∀ b ∈ l, b ≠ 10 := by
  intro b hb e
  subst e
  have : l.contains 10 = true := by simpa using hb
  rw [h] at this; cases this
theorem lineR_plain {r : Rl} (h : ruleFault r = 0) : ∀ b ∈ lineR r, b ≠ 10 := by
  obtain ⟨ok1, ok2, hw⟩ := rule_parts h
  have hk := txt_plain r.key _ _ ok1
  have hv := txt_plain r.val _ _ ok2
  have hhd : ∀ b ∈ ruleHd r, b ≠ 10 := by
    unfold ruleHd
    intro b hb
    rcases List.mem_append.1 hb with hb | hb
    · split at hb
      · exact mem_lit (by decide) b hb
      · cases hb
    · rcases hw with ⟨h0, _, _⟩ | ⟨h0, oki, hs⟩
      · rw [h0, if_neg (by decide), if_neg (by decide)] at hb; cases hb
      · have hi := txt_plain r.iff _ _ oki
        have hq := quo_plain hs
        rcases h0 with h0 | h0
        · rw [h0, if_pos rfl] at hb
          simp only [List.mem_append] at hb
          rcases hb with (((hb | hb) | hb) | hb) | hb
          · exact mem_lit (by decide) b hb
          · exact hi b hb
          · exact mem_lit (by decide) b hb
          · exact hq b hb
          · exact mem_lit (by decide) b hb
        · rw [h0, if_neg (by decide), if_pos rfl] at hb
          simp only [List.mem_append] at hb
          rcases hb with (((hb | hb) | hb) | hb) | hb
          · exact mem_lit (by decide) b hb
          · exact hi b hb
          · exact mem_lit (by decide) b hb
          · exact hq b hb
          · exact mem_lit (by decide) b hb
  intro b hb
  unfold lineR at hb
  simp only [List.mem_append] at hb
  rcases hb with hb | (((hb | hb) | hb) | hb)
  · exact hhd b hb
  · exact mem_lit (by decide) b hb
  · exact hk b hb
  · exact mem_lit (by decide) b hb
  · exact hv b hb
/-- A job's first line, without its end. -/
def lineH (j : Jb) : List UInt8 := foldL j.fold.toNat ++ [32] ++ Lib.itoa j.slices ++ (if j.early then [32, 101, 97, 114, 108, 121] else [])
theorem headL_line (j : Jb) : headL j = lineH j ++ [10] := rfl
theorem lineH_plain (j : Jb) : ∀ b ∈ lineH j, b ≠ 10 := by
  intro b hb
  unfold lineH at hb
  simp only [List.mem_append] at hb
  rcases hb with ((hb | hb) | hb) | hb
  · exact (foldL_plain _ b hb).2
  · exact mem_lit (by decide) b hb
  · exact (itoa_plain _ b hb).2
  · split at hb
    · exact mem_lit (by decide) b hb
    · cases hb
theorem rulesFault_all {l : List Rl} (h : rulesFault l = 0) : ∀ r ∈ l, ruleFault r = 0 := by
  induction l with
  | nil => intro r hr; cases hr
  | cons x l ih =>
    unfold rulesFault at h
    split at h
    · rename_i hx; exact absurd h hx
    · rename_i hx
      intro r hr
      rcases List.mem_cons.1 hr with rfl | hr
      · simpa using hx
      · exact ih h r hr
theorem jobFault_rules {j : Jb} (h : jobFault j = 0) : rulesFault j.rules = 0 := by
  unfold jobFault at h
  split at h
  · cases h
  · split at h
    · cases h
    · split at h
      · cases h
      · exact h
/-- The lines of a job's text. -/
theorem job_lines {j : Jb} (h : jobFault j = 0) : spl 10 (trimN (jobL j)) = lineH j :: j.rules.map lineR := by
  have e : jobL j = joinN (lineH j :: j.rules.map lineR) ++ [10] := by
    rw [← join_end]
    unfold jobL rulesL
    rw [headL_line, List.map_cons, List.flatten_cons, List.map_map]
    congr 1
    congr 1
    apply List.map_congr_left
    intro r _
    exact ruleL_line r
  rw [e, trim_end]
  apply spl_join
  intro y hy
  rcases List.mem_cons.1 hy with rfl | hy
  · exact lineH_plain j
  · obtain ⟨r, hr, rfl⟩ := List.mem_map.1 hy
    exact lineR_plain (rulesFault_all (jobFault_rules h) r hr)
/-- The rules that lines are read as. -/
def ReadsL : List (List UInt8) → List Rl → Prop
  | [], [] => True
  | x :: xs, r :: rs => ReadsR x r ∧ ReadsL xs rs
  | _, _ => False
theorem readsL_snoc {xs : List (List UInt8)} {rs : List Rl} {x : List UInt8} {r : Rl} (h : ReadsL xs rs) (hr : ReadsR x r) : ReadsL (xs ++ [x]) (rs ++ [r]) := by
  induction xs generalizing rs with
  | nil =>
    cases rs with
    | nil => exact ⟨hr, trivial⟩
    | cons a b => exact h.elim
  | cons y ys ih =>
    cases rs with
    | nil => exact h.elim
    | cons a b => exact ⟨h.1, ih h.2⟩
theorem readsL_wt {xs : List (List UInt8)} {rs : List Rl} (h : ReadsL xs rs) : rulesWt rs ≤ 10 * (xs.map fun x => x.length + 1).sum ∧ (∀ r ∈ rs, r.fit) ∧ rs.length = xs.length := by
  induction xs generalizing rs with
  | nil =>
    cases rs with
    | nil => exact ⟨by simp [rulesWt], (fun r hr => by cases hr), rfl⟩
    | cons a b => exact h.elim
  | cons y ys ih =>
    cases rs with
    | nil => exact h.elim
    | cons a b =>
      obtain ⟨h1, h2, h3⟩ := ih h.2
      obtain ⟨a1, a2, _⟩ := h.1
      refine ⟨?_, ?_, by simp [h3]⟩
      · simp only [rulesWt, List.map_cons, List.sum_cons] at h1 ⊢; omega
      · intro r hr
        rcases List.mem_cons.1 hr with rfl | hr
        · exact a2
        · exact h2 r hr
theorem readsL_back {rs l : List Rl} (h : ReadsL (l.map lineR) rs) (hf : ∀ r ∈ l, ruleFault r = 0) : rs = l := by
  induction l generalizing rs with
  | nil =>
    cases rs with
    | nil => rfl
    | cons a b => exact h.elim
  | cons y ys ih =>
    cases rs with
    | nil => exact h.elim
    | cons a b =>
      have e1 := h.1.2.2 y (hf y (List.mem_cons_self ..)) (ruleL_line y).symm
      rw [e1, ih h.2 (fun r hr => hf r (List.mem_cons_of_mem _ hr))]
/-- What a text is read as. -/
def ReadsJ (s : List UInt8) (j' : Jb) : Prop :=
  rulesWt j'.rules ≤ 10 * (s.length + 1) ∧ (∀ r ∈ j'.rules, r.fit) ∧ ∀ j, jobFault j = 0 → jobL j = s → j' = j
theorem job_reads {s x : List UInt8} {xs : List (List UInt8)} {fo sl : Int} {ea : Bool} {rs : List Rl} (hs : spl 10 (trimN s) = x :: xs) (hh : ReadsH x fo ea sl) (hr : ReadsL xs rs) : ReadsJ s ⟨rs, fo, ea, sl⟩ := by
  obtain ⟨h1, h2, _⟩ := readsL_wt hr
  have h3 := spl_sum 10 (trimN s)
  have h4 := trim_len s
  rw [hs] at h3
  simp only [List.map_cons, List.sum_cons] at h3
  refine ⟨by simp only; omega, h2, fun j hj e => ?_⟩
  rw [← e, job_lines hj] at hs
  injection hs with e1 e2
  subst e1 e2
  obtain ⟨a, b, c⟩ := hh.2 j hj (headL_line j).symm
  have d := readsL_back hr (rulesFault_all (jobFault_rules hj))
  cases j
  simp_all
end Go.Proofs.YtfjpgjkfmcedoaaGreatDoor
