/- The document's lexer: what it takes for an expression (plain). -/
import Derived.Test.YtfjpgjkfmcedoaaGreatDoorLx4
import Derived.Test.YtfjpgjkfmcedoaaGreatDoorPpNumbK
namespace Go.Proofs.YtfjpgjkfmcedoaaGreatDoor
open Go.ChangeShapes Go.WideShapes Go.ChangeAt Go.RowKit
open Pp.Num (numB num_some num_itoa num_shape)
theorem lexQ_took (n : Nat) : ∀ s : List UInt8, s.length ≤ n → (lexQ s).1.length ≤ (lexQ s).2.1 := by
  induction n with
  | zero => intro s h; obtain rfl : s = [] := List.eq_nil_of_length_eq_zero (by omega); simp [lexQ]
  | succ n ih =>
    intro s h
    cases s with
    | nil => simp [lexQ]
    | cons b r =>
      by_cases h1 : b = 34
      · subst h1; rw [lexQ_end]; simp
      · by_cases h2 : b = 92
        · subst h2
          cases r with
          | nil => rw [lexQ_sign _ _ (by decide) (.inr rfl)]; simp [lexQ]
          | cons c t =>
            rw [lexQ_esc]
            have := ih t (by simp at h; omega)
            simp only [List.length_cons] at h ⊢; omega
        · rw [lexQ_sign b r h1 (.inl h2)]
          have := ih r (by simp at h; omega)
          simp only [List.length_cons] at h ⊢; omega
/-- A place that may be, whether it is bad or not. -/
def PosL (s : List UInt8) (a : Nat) (b : Bool) : Prop := a ≤ s.length + 3 ∧ (b = false → a ≤ s.length + 1)
theorem lexT_pos (s : List UInt8) (a : Nat) (h : a ≤ s.length + 1) : PosL s (lexT s a false).2.1 (lexT s a false).2.2 ∧ a + (lexT s a false).1.length ≤ (lexT s a false).2.1 := by
  unfold lexT
  cases hd : s.drop a with
  | nil => exact ⟨⟨by show a ≤ _; omega, fun e => by cases e⟩, by simp⟩
  | cons c r =>
    have hl := congrArg List.length hd
    rw [List.length_drop, List.length_cons] at hl
    have h1 := lexQ_len _ r (Nat.le_refl _)
    have h2 := lexQ_took _ r (Nat.le_refl _)
    simp only
    split
    · refine ⟨⟨?_, fun _ => ?_⟩, ?_⟩
      all_goals (dsimp only; omega)
    · exact ⟨⟨by show a ≤ _; omega, fun e => by cases e⟩, by simp⟩
theorem lexT_quo {s : List UInt8} {a : Nat} {t rest : List UInt8} (h : s.drop a = quoteL t ++ rest) (hr : Stop1 rest) : lexT s a false = (t, a + (quoteL t).length + 1, false) := by
  unfold lexT
  have e : s.drop a = 34 :: (quoL t ++ 34 :: rest) := by rw [h]; simp [quoteL]
  rw [e]
  simp only [if_true]
  rw [lexQ_quo rest hr]
  have e2 : (quoteL t).length = (quoL t).length + 2 := by simp [quoteL]
  rw [e2]
  simp
  omega
theorem word_pos {s : List UInt8} {a : Nat} (h : a ≤ s.length + 1) : a + (wordR (s.drop a)).length + 1 ≤ s.length + 2 ∧ (wordR (s.drop a) ≠ [] → a + (wordR (s.drop a)).length + 1 ≤ s.length + 1) := by
  have h1 := wordR_len (s.drop a)
  rw [List.length_drop] at h1
  refine ⟨by omega, fun hne => ?_⟩
  have : 0 < (wordR (s.drop a)).length := List.length_pos_iff.2 hne
  omega
/-- What is taken for an expression at a place, and where it ends. -/
def LexE (s : List UInt8) (a d : Nat) (e : Ex) (a' : Nat) (b' : Bool) : Prop :=
  a + e.wt ≤ a' ∧ (a ≤ s.length + 1 → PosL s a' b') ∧ (b' = false → e.fit) ∧
  ∀ e0 t c rest, e0.ok t c = true → e0.dep + d ≤ 6 → s.drop a = e0.txt ++ rest → Stop1 rest → e = e0 ∧ a' = a + e0.txt.length + 1 ∧ b' = false
/-- So many of those in an expression. -/
def LexK (s : List UInt8) (a d : Nat) (b : Bool) (i : Nat) (ks : List Ex) (ai : Nat) (bi : Bool) : Prop :=
  ks.length = i ∧ a + Ex.wt.wtL ks ≤ ai ∧ (PosL s a b → PosL s ai bi) ∧ (bi = false → Ex.fit.fitL ks) ∧ (bi = false → b = false) ∧
  ∀ l t c rest, b = false → Ex.ok.okL l t c = true → Ex.dep.depL l + d ≤ 6 → i ≤ l.length → s.drop a = (Ex.txt.txtL l ++ rest).drop 1 → Stop1 rest → ks = l.take i ∧ ai = a + (Ex.txt.txtL (l.take i)).length ∧ bi = false
theorem lexK_zero (s : List UInt8) (a d : Nat) (b : Bool) : LexK s a d b 0 [] a b :=
  ⟨rfl, by simp [Ex.wt.wtL], fun h => h, fun _ => trivial, fun h => h, fun l t c rest hb _ _ _ _ _ => ⟨by simp, by simp [Ex.txt.txtL], hb⟩⟩
theorem lexK_step {s : List UInt8} {a d : Nat} {b : Bool} {i : Nat} {ks : List Ex} {ai : Nat} {x : Ex} {a' : Nat} {b' : Bool} (h : LexK s a d b i ks ai false) (hx : LexE s ai d x a' b') : LexK s a d b (i + 1) (ks ++ [x]) a' b' := by
  obtain ⟨h1, h2, h3, h4, h5, h6⟩ := h
  obtain ⟨x1, x2, x3, x4⟩ := hx
  refine ⟨by simp [h1], by rw [wtL_append]; simp only [Ex.wt.wtL]; omega, fun hp => x2 ((h3 hp).2 rfl), fun e => fitL_snoc (h4 rfl) (x3 e), fun _ => h5 rfl, ?_⟩
  intro l t c rest hb ok hd hi hs hr
  obtain ⟨e1, e2, -⟩ := h6 l t c rest hb ok hd (by omega) hs hr
  have hlt : i < l.length := by omega
  have hdr : l.drop i = l[i] :: l.drop (i + 1) := List.drop_eq_getElem_cons hlt
  have okd := okL_drop i ok
  rw [hdr] at okd
  obtain ⟨oky, _⟩ := okL_head okd
  have hsplit : Ex.txt.txtL l = Ex.txt.txtL (l.take i) ++ Ex.txt.txtL (l.drop i) := by rw [← txtL_append, List.take_append_drop]
  have e3 : s.drop ai = l[i].txt ++ (Ex.txt.txtL (l.drop (i + 1)) ++ rest) := by
    rw [e2, ← List.drop_drop, hs, List.drop_drop, hsplit, hdr, Nat.add_comm 1, ← List.drop_drop, List.append_assoc, List.drop_left]
    simp [Ex.txt.txtL]
  have hdep : l[i].dep ≤ Ex.dep.depL l := by
    have q1 := depL_take (l := l) (i := i) (x := l[i]) (List.getElem?_eq_getElem hlt)
    have q2 := depL_le l (i + 1)
    omega
  obtain ⟨f1, f2, f3⟩ := x4 l[i] t c _ oky (by omega) e3 (txtL_stop hr _)
  have e4 : Ex.txt.txtL (l.take (i + 1)) = Ex.txt.txtL (l.take i) ++ (32 :: l[i].txt) := txtL_take (List.getElem?_eq_getElem hlt)
  refine ⟨by rw [List.take_succ_eq_append_getElem hlt, e1, f1], ?_, f3⟩
  rw [f2, e2, e4, List.length_append, List.length_cons]
  omega
/-- A number that is taken, or not. -/
def LexN (k : Int) (s : List UInt8) (a : Nat) (n : Int) (a' : Nat) (b : Bool) : Prop :=
  if hasNum k then a' = a + (wordR (s.drop a)).length + 1 ∧ b = (numB (wordR (s.drop a))).isNone ∧ ∀ v, numB (wordR (s.drop a)) = some v → n = v else n = 0 ∧ a' = a ∧ b = false
/-- A text that is taken, or not. -/
def LexW (k : Int) (s : List UInt8) (a : Nat) (t : List UInt8) (a' : Nat) (b : Bool) : Prop :=
  if hasTxt k then (t, a', b) = lexT s a false else t = [] ∧ a' = a ∧ b = false
theorem lexN_pos {k : Int} {s : List UInt8} {a : Nat} {n : Int} {a' : Nat} {b : Bool} (h : LexN k s a n a' b) : a ≤ a' ∧ (a ≤ s.length + 1 → PosL s a' b) ∧ (b = false → -9223372036854775808 ≤ n ∧ n ≤ 9223372036854775807) := by
  unfold LexN at h
  split at h
  · obtain ⟨rfl, rfl, h3⟩ := h
    refine ⟨by omega, fun ha => ⟨by have := (word_pos ha).1; omega, fun hb => ?_⟩, fun hb => ?_⟩
    · refine (word_pos ha).2 fun e => ?_
      rw [e] at hb
      cases hb
    · cases hv : numB (wordR (s.drop a)) with
      | none => rw [hv] at hb; cases hb
      | some v => rw [h3 v hv]; exact (num_some hv).2
  · obtain ⟨rfl, rfl, rfl⟩ := h
    exact ⟨Nat.le_refl _, fun ha => ⟨by omega, fun _ => ha⟩, fun _ => by omega⟩
theorem lexW_pos {k : Int} {s : List UInt8} {a : Nat} {t : List UInt8} {a' : Nat} {b : Bool} (h : LexW k s a t a' b) (ha : a ≤ s.length + 1) : PosL s a' b := by
  unfold LexW at h
  split at h
  · have := (lexT_pos s a ha).1
    rw [← h] at this
    exact this
  · obtain ⟨rfl, rfl, rfl⟩ := h
    exact ⟨by omega, fun _ => ha⟩
theorem lexT_len (s : List UInt8) (a : Nat) (b : Bool) : a + (lexT s a b).1.length ≤ (lexT s a b).2.1 := by
  unfold lexT
  cases hd : s.drop a with
  | nil => simp
  | cons c r =>
    have h2 := lexQ_took _ r (Nat.le_refl _)
    simp only
    split
    · dsimp only; omega
    · simp
theorem lexW_len {k : Int} {s : List UInt8} {a : Nat} {t : List UInt8} {a' : Nat} {b : Bool} (h : LexW k s a t a' b) : a + t.length ≤ a' := by
  unfold LexW at h
  split at h
  · have := lexT_len s a false
    rw [← h] at this
    exact this
  · obtain ⟨rfl, rfl, rfl⟩ := h
    simp
/-- What follows of a text that is an expression's: the word, the kind, what stands behind it. -/
theorem lex_head {s : List UInt8} {a : Nat} {k n : Int} {u : List UInt8} {l : List Ex} {t c : Bool} {rest : List UInt8} (ok : (Ex.mk k n u l).ok t c = true) (hs : s.drop a = (Ex.mk k n u l).txt ++ rest) (hr : Stop1 rest) :
    wordR (s.drop a) = nameL k ∧ nameK (wordR (s.drop a)) = k ∧ s.drop (a + (nameL k).length + 1) = ((if hasNum k then 32 :: Lib.itoa n else []) ++ ((if hasTxt k then 32 :: quoteL u else []) ++ (Ex.txt.txtL l ++ rest))).drop 1 ∧ Stop1 ((if hasTxt k then 32 :: quoteL u else []) ++ (Ex.txt.txtL l ++ rest)) := by
  obtain ⟨⟨hk1, hk2⟩, -⟩ := ok_parts ok
  simp only [Ex.txt, hdTxt, List.append_assoc] at hs
  have st3 := txtL_stop hr l
  have st2 : Stop1 ((if hasTxt k = true then 32 :: quoteL u else []) ++ (Ex.txt.txtL l ++ rest)) := by
    split
    · exact .inr ⟨_, rfl⟩
    · exact st3
  have st1 : Stop1 ((if hasNum k = true then 32 :: Lib.itoa n else []) ++ ((if hasTxt k = true then 32 :: quoteL u else []) ++ (Ex.txt.txtL l ++ rest))) := by
    split
    · exact .inr ⟨_, rfl⟩
    · exact st2
  have hw : wordR (s.drop a) = nameL k := by rw [hs]; exact wordR_app st1 (fun b hb => (nameL_plain k b hb).1)
  refine ⟨hw, by rw [hw]; exact nameK_name k hk1 hk2, ?_, st2⟩
  rw [Nat.add_assoc, ← List.drop_drop, hs, ← List.drop_drop, List.drop_left]
theorem lexE_bad0 {s : List UInt8} {a d : Nat} (h : nameK (wordR (s.drop a)) = 0 ∨ 6 ≤ d) : LexE s a d (.mk (nameK (wordR (s.drop a))) 0 [] []) (a + (wordR (s.drop a)).length + 1) true := by
  refine ⟨by simp only [Ex.wt, Ex.wt.wtL]; simp, fun ha => ⟨by have := (word_pos ha).1; omega, nofun⟩, nofun, ?_⟩
  intro e0 t c rest ok hd hs hr
  exfalso
  have h1 := dep_pos e0
  obtain ⟨k, n, u, l⟩ := e0
  have h2 := (lex_head ok hs hr).2.1
  have h3 := (ok_parts ok).1
  omega
theorem lexE_bad1 {s : List UInt8} {a d a' : Nat} {n : Int} (hn : LexN (nameK (wordR (s.drop a))) s (a + (wordR (s.drop a)).length + 1) n a' true) : LexE s a d (.mk (nameK (wordR (s.drop a))) n [] []) a' true := by
  obtain ⟨h1, h2, -⟩ := lexN_pos hn
  have hnum : hasNum (nameK (wordR (s.drop a))) = true := by
    cases h : hasNum (nameK (wordR (s.drop a))) with
    | true => rfl
    | false =>
      unfold LexN at hn
      rw [h] at hn
      have := hn.2.2
      cases this
  refine ⟨by simp only [Ex.wt, Ex.wt.wtL]; simp; omega, fun ha => ⟨?_, nofun⟩, nofun, ?_⟩
  · refine (h2 ((word_pos ha).2 fun e => ?_)).1
    rw [e] at hnum
    cases hnum
  · intro e0 t c rest ok hd hs hr
    exfalso
    obtain ⟨k, m, u, l⟩ := e0
    obtain ⟨w1, w2, w3, w4⟩ := lex_head ok hs hr
    obtain ⟨-, -, -, -, hm, -, -⟩ := ok_parts ok
    rw [w2] at hn hnum
    rw [hnum, if_pos rfl] at w3
    unfold LexN at hn
    rw [if_pos hnum] at hn
    have h3 := hn.2.1
    rw [w1, w3, show (32 :: Lib.itoa m ++ ((if hasTxt k = true then 32 :: quoteL u else []) ++ (Ex.txt.txtL l ++ rest))).drop 1 = Lib.itoa m ++ ((if hasTxt k = true then 32 :: quoteL u else []) ++ (Ex.txt.txtL l ++ rest)) from rfl, wordR_app w4 (fun b hb => (itoa_plain m b hb).1), num_itoa (by omega) (by omega)] at h3
    cases h3
theorem lexE_node {s : List UInt8} {a d a2 a3 i ai : Nat} {n : Int} {t : List UInt8} {b3 bi : Bool} {ks : List Ex} (hk : nameK (wordR (s.drop a)) ≠ 0)
    (hn : LexN (nameK (wordR (s.drop a))) s (a + (wordR (s.drop a)).length + 1) n a2 false) (ht : LexW (nameK (wordR (s.drop a))) s a2 t a3 b3)
    (hq : LexK s a3 (d + 1) b3 i ks ai bi) (hi : i ≤ partsK (nameK (wordR (s.drop a)))) (he : bi = false → i = partsK (nameK (wordR (s.drop a)))) : LexE s a d (.mk (nameK (wordR (s.drop a))) n t ks) ai bi := by
  obtain ⟨n1, n2, n3⟩ := lexN_pos hn
  have t1 := lexW_len ht
  obtain ⟨q1, q2, q3, q4, q5, q6⟩ := hq
  have hne : wordR (s.drop a) ≠ [] := fun e => by rw [e] at hk; exact hk rfl
  refine ⟨by simp only [Ex.wt]; omega, fun ha => q3 (lexW_pos ht ((n2 ((word_pos ha).2 hne)).2 rfl)), fun e => ⟨n3 rfl, q4 e⟩, ?_⟩
  intro e0 tt c rest ok hdp hs hr
  obtain ⟨k, m, u, l⟩ := e0
  obtain ⟨w1, w2, w3, w4⟩ := lex_head ok hs hr
  obtain ⟨-, hlen, hm0, hu0, hm, -, okl⟩ := ok_parts ok
  rw [w2] at hn ht hi he ⊢
  rw [w1] at hn
  have hnn : n = m ∧ a2 = a + (nameL k).length + (if hasNum k then 32 :: Lib.itoa m else []).length + 1 ∧ s.drop a2 = ((if hasTxt k then 32 :: quoteL u else []) ++ (Ex.txt.txtL l ++ rest)).drop 1 := by
    unfold LexN at hn
    by_cases h : hasNum k = true
    · rw [if_pos h] at hn w3 ⊢
      obtain ⟨e1, -, e2⟩ := hn
      rw [w3, show (32 :: Lib.itoa m ++ ((if hasTxt k = true then 32 :: quoteL u else []) ++ (Ex.txt.txtL l ++ rest))).drop 1 = Lib.itoa m ++ ((if hasTxt k = true then 32 :: quoteL u else []) ++ (Ex.txt.txtL l ++ rest)) from rfl, wordR_app w4 (fun b hb => (itoa_plain m b hb).1)] at e1 e2
      refine ⟨e2 m (num_itoa (by omega) (by omega)), by rw [e1, List.length_cons]; omega, ?_⟩
      rw [e1, Nat.add_assoc, ← List.drop_drop, w3, show (32 :: Lib.itoa m ++ ((if hasTxt k = true then 32 :: quoteL u else []) ++ (Ex.txt.txtL l ++ rest))).drop 1 = Lib.itoa m ++ ((if hasTxt k = true then 32 :: quoteL u else []) ++ (Ex.txt.txtL l ++ rest)) from rfl, ← List.drop_drop, List.drop_left]
    · rw [if_neg h] at hn w3 ⊢
      obtain ⟨e1, e2, -⟩ := hn
      refine ⟨by rw [e1, hm0 (by simpa using h)], by rw [e2]; simp, ?_⟩
      rw [e2, w3]
      rfl
  obtain ⟨rfl, ha2, hs2⟩ := hnn
  have htt : t = u ∧ a3 = a2 + (if hasTxt k then 32 :: quoteL u else []).length ∧ b3 = false ∧ s.drop a3 = (Ex.txt.txtL l ++ rest).drop 1 := by
    unfold LexW at ht
    by_cases h : hasTxt k = true
    · rw [if_pos h] at ht hs2 ⊢
      have hs3 : s.drop a2 = quoteL u ++ (Ex.txt.txtL l ++ rest) := hs2
      rw [lexT_quo hs3 (txtL_stop hr l)] at ht
      injection ht with e1 e2
      injection e2 with e2 e3
      refine ⟨e1, by rw [e2, List.length_cons]; omega, e3, ?_⟩
      rw [e2, Nat.add_assoc, ← List.drop_drop, hs3, ← List.drop_drop, List.drop_left]
    · rw [if_neg h] at ht hs2 ⊢
      obtain ⟨e1, e2, e3⟩ := ht
      refine ⟨by rw [e1, hu0 (by simpa using h)], by rw [e2]; simp, e3, ?_⟩
      rw [e2, hs2]
      rfl
  obtain ⟨rfl, ha3, rfl, hs3⟩ := htt
  have hdl : Ex.dep.depL l + (d + 1) ≤ 6 := by simp only [Ex.dep] at hdp; omega
  obtain ⟨f1, f2, f3⟩ := q6 l _ _ rest rfl okl hdl (by omega) hs3 hr
  have hi2 : i = l.length := by rw [he f3, hlen]
  rw [hi2, List.take_length] at f1 f2
  refine ⟨by rw [f1], ?_, f3⟩
  rw [f2, ha3, ha2]
  simp only [Ex.txt, hdTxt, List.length_append]
  omega
end Go.Proofs.YtfjpgjkfmcedoaaGreatDoor
