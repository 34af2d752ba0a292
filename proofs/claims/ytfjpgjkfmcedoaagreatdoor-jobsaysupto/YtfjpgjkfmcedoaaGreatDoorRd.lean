/- What a job's text is read as: plain. Written by tpl/mk_rd.py. -/
import Derived.Test.YtfjpgjkfmcedoaaGreatDoorG5
import Derived.Test.YtfjpgjkfmcedoaaGreatDoorNum
import Derived.Lib.IndexMore
import Derived.Lib.IndexBytes
namespace Go.Proofs.YtfjpgjkfmcedoaaGreatDoor
open Go.ChangeShapes Go.WideShapes Go.ChangeAt Go.RowKit
open Num (digB_iff dec_dig)
/-- The word that a text begins with. -/
def wordR : List UInt8 → List UInt8
  | [] => []
  | b :: r => if b = 32 then [] else b :: wordR r
theorem wordR_len (s : List UInt8) : (wordR s).length ≤ s.length := by
  induction s with
  | nil => simp [wordR]
  | cons b r ih => unfold wordR; split <;> simp <;> omega
/-- A blank stands ahead, or nothing. -/
def Stop1 (r : List UInt8) : Prop := r = [] ∨ ∃ t, r = 32 :: t
theorem wordR_app {r : List UInt8} (hr : Stop1 r) : ∀ {a : List UInt8}, (∀ b ∈ a, b ≠ 32) → wordR (a ++ r) = a := by
  intro a
  induction a with
  | nil =>
    intro _
    rcases hr with rfl | ⟨t, rfl⟩
    · rfl
    · simp [wordR]
  | cons b a ih =>
    intro h
    rw [List.cons_append, wordR, if_neg (h b (List.mem_cons_self ..)), ih (fun x hx => h x (List.mem_cons_of_mem _ hx))]
theorem cut_word : ∀ l : List UInt8, (Lib.cut l [32]).1 = wordR l := by
  intro l
  induction l with
  | nil => simp [Lib.cut, Lib.index, wordR]
  | cons b r ih =>
    by_cases h : b = 32
    · subst h
      simp [Lib.cut, Lib.index, wordR, List.isPrefixOf]
    · rw [wordR, if_neg h, ← ih]
      have h' : ((32 : UInt8) == b) = false := by simpa using fun e => h e.symm
      have hge := Lib.index_ge r [32]
      simp only [Lib.cut, Lib.index, List.isPrefixOf, h', Bool.false_and, Bool.false_eq_true, if_false]
      by_cases h1 : Lib.index r [32] = -1
      · simp [h1]
      · have h2 : 0 ≤ Lib.index r [32] := by omega
        have h3 : (Lib.index r [32] + 1).toNat = (Lib.index r [32]).toNat + 1 := by omega
        have hb : (Lib.index r [32] == -1) = false := by simpa using h1
        simp only [hb, Bool.false_eq_true, if_false]
        rw [if_pos (by omega), if_pos h2, h3]
        simp
/-- A quoted text, behind its first sign, and what stands behind it. -/
def unqL : List UInt8 → List UInt8 × List UInt8
  | [] => ([], [])
  | [b] => if b = 34 ∨ b = 92 then ([], []) else ([b], [])
  | b :: c :: t => if b = 34 then ([], c :: t) else if b = 92 then (c :: (unqL t).1, (unqL t).2) else (b :: (unqL (c :: t)).1, (unqL (c :: t)).2)
theorem unq_end (r : List UInt8) : unqL (34 :: r) = ([], r) := by
  cases r with
  | nil => rfl
  | cons c t => rfl
theorem unq_esc (c : UInt8) (t : List UInt8) : unqL (92 :: c :: t) = (c :: (unqL t).1, (unqL t).2) := by
  rw [unqL, if_neg (by decide), if_pos rfl]
theorem unq_sign (b : UInt8) (r : List UInt8) (h1 : b ≠ 34) (h2 : b ≠ 92) : unqL (b :: r) = (b :: (unqL r).1, (unqL r).2) := by
  cases r with
  | nil => simp [unqL, h1, h2]
  | cons c t => rw [unqL, if_neg h1, if_neg h2]
theorem unq_quo (rest : List UInt8) : ∀ s : List UInt8, unqL (quoL s ++ 34 :: rest) = (s, rest) := by
  intro s
  induction s with
  | nil => exact unq_end rest
  | cons c s ih =>
    unfold quoL
    by_cases h : c = 34 ∨ c = 92
    · rw [if_pos h]
      show unqL (92 :: c :: (quoL s ++ 34 :: rest)) = _
      rw [unq_esc, ih]
    · rw [if_neg h]
      show unqL (c :: (quoL s ++ 34 :: rest)) = _
      rw [unq_sign c _ (fun e => h (.inl e)) (fun e => h (.inr e)), ih]
theorem unq_len (n : Nat) : ∀ s : List UInt8, s.length ≤ n → (unqL s).1.length + (unqL s).2.length ≤ s.length := by
  induction n with
  | zero => intro s h; obtain rfl : s = [] := List.eq_nil_of_length_eq_zero (by omega); simp [unqL]
  | succ n ih =>
    intro s h
    cases s with
    | nil => simp [unqL]
    | cons b r =>
      by_cases h1 : b = 34
      · subst h1; rw [unq_end]; simp
      · by_cases h2 : b = 92
        · subst h2
          cases r with
          | nil => simp [unqL]
          | cons c t =>
            rw [unq_esc]
            have := ih t (by simp at h; omega)
            simp only [List.length_cons] at h ⊢; omega
        · rw [unq_sign b r h1 h2]
          have := ih r (by simp at h; omega)
          simp only [List.length_cons] at h ⊢; omega
theorem itoa_plain (v : Int) : ∀ b ∈ Lib.itoa v, b ≠ 32 ∧ b ≠ 10 := by
  intro b hb
  unfold Lib.itoa at hb
  have dig : ∀ n, b ∈ Lib.decDigits n → b ≠ 32 ∧ b ≠ 10 := by
    intro n h
    have h1 := (digB_iff b).1 (dec_dig n b h)
    constructor
    · rintro rfl; simp at h1
    · rintro rfl; simp at h1
  split at hb
  · rcases List.mem_cons.1 hb with rfl | hb
    · decide
    · exact dig _ hb
  · exact dig _ hb
/-- A name's kind. -/
def nameK (w : List UInt8) : Int := if w = [105, 116] then 1 else if w = [108, 105, 110, 101] then 2 else if w = [119, 111, 114, 100] then 3 else if w = [116, 101, 120, 116] then 4 else if w = [99, 97, 116] then 5 else if w = [99, 117, 116] then 6 else if w = [110, 117, 109] then 7 else if w = [108, 101, 110] then 8 else if w = [109, 97, 110, 121] then 9 else if w = [97, 100, 100] then 10 else 0
theorem nameK_name (k : Int) (h1 : 1 ≤ k) (h2 : k ≤ 10) : nameK (nameL k) = k := by
  have : k = 1 ∨ k = 2 ∨ k = 3 ∨ k = 4 ∨ k = 5 ∨ k = 6 ∨ k = 7 ∨ k = 8 ∨ k = 9 ∨ k = 10 := by omega
  rcases this with rfl | rfl | rfl | rfl | rfl | rfl | rfl | rfl | rfl | rfl <;> decide +kernel
theorem nameK_rng (w : List UInt8) : 0 ≤ nameK w ∧ nameK w ≤ 10 := by
  unfold nameK
  repeat' split
  all_goals omega
theorem nameK_len (w : List UInt8) : nameK w = 0 ∨ 2 ≤ w.length := by
  unfold nameK
  repeat' split
  all_goals first | (left; rfl) | (right; subst_vars; simp)
theorem nameL_plain (k : Int) : ∀ b ∈ nameL k, b ≠ 32 ∧ b ≠ 10 := by
  unfold nameL
  repeat' split
  all_goals (intro b hb; simp only [List.mem_cons, List.not_mem_nil, or_false] at hb <;> first | (rcases hb with rfl | rfl | rfl | rfl <;> decide) | (rcases hb with rfl | rfl | rfl <;> decide) | (rcases hb with rfl | rfl <;> decide))
theorem known_rng {k : Int} (h : known k = true) : 1 ≤ k ∧ k ≤ 10 := by
  simpa [known] using h
/-- What an expression that may be is made of. -/
theorem ok_parts {k n : Int} {s : List UInt8} {a : List Ex} {text each : Bool} (h : (Ex.mk k n s a).ok text each = true) :
    (1 ≤ k ∧ k ≤ 10) ∧ a.length = partsK k ∧ (hasNum k = false → n = 0) ∧ (hasTxt k = false → s = []) ∧ (-1000 ≤ n ∧ n ≤ 1000) ∧ s.contains 10 = false ∧ Ex.ok.okL a (textsK k) each = true := by
  simp only [Ex.ok, hdOk, fitsB, Bool.and_eq_true, decide_eq_true_eq, Bool.not_eq_true'] at h
  obtain ⟨⟨⟨⟨⟨⟨⟨h1, _⟩, _⟩, h3⟩, h4⟩, h5, h6⟩, h7⟩, h8⟩ := h
  refine ⟨known_rng h1, h7, fun hn => ?_, fun ht => ?_, ?_, by simpa using h6, h8⟩
  · unfold hasNum at hn
    have hn' := of_decide_eq_false hn
    unfold lowK highK at *
    split at h3 <;> split at h4 <;> (try split at h4) <;> simp_all <;> omega
  · unfold hasTxt at ht
    have ht' := of_decide_eq_false ht
    exact List.eq_nil_of_length_eq_zero (by omega)
  · unfold lowK at h3
    unfold highK at h4
    split at h3 <;> split at h4 <;> (try split at h4) <;> omega
theorem okL_head {x : Ex} {r : List Ex} {t c : Bool} (h : Ex.ok.okL (x :: r) t c = true) : x.ok t c = true ∧ Ex.ok.okL r t c = true := by
  simpa [Ex.ok.okL] using h
theorem okL_drop {t c : Bool} : ∀ {l : List Ex} (i : Nat), Ex.ok.okL l t c = true → Ex.ok.okL (l.drop i) t c = true := by
  intro l
  induction l with
  | nil => intro i h; simpa using h
  | cons x r ih =>
    intro i h
    cases i with
    | zero => simpa using h
    | succ i => exact ih i (okL_head h).2
theorem txtL_stop {rest : List UInt8} (h : Stop1 rest) (a : List Ex) : Stop1 (Ex.txt.txtL a ++ rest) := by
  cases a with
  | nil => exact h
  | cons x r => exact .inr ⟨x.txt ++ (Ex.txt.txtL r ++ rest), by simp [Ex.txt.txtL]⟩
/-- What is read of a text as an expression, and what is left. -/
def ReadsE (s : List UInt8) (e' : Ex) (s' : List UInt8) : Prop :=
  s'.length ≤ s.length ∧ e'.wt + 3 * s'.length ≤ 3 * s.length + 1 ∧ e'.fit ∧
  ∀ e text each rest, e.ok text each = true → s = e.txt ++ rest → Stop1 rest → e' = e ∧ s' = rest
/-- So many of those in an expression. -/
def ReadsK (i : Nat) (s : List UInt8) (ks : List Ex) (si : List UInt8) : Prop :=
  ks.length = i ∧ si.length ≤ s.length ∧ Ex.wt.wtL ks + 3 * si.length ≤ 3 * s.length + i ∧ Ex.fit.fitL ks ∧
  ∀ a text each rest, Ex.ok.okL a text each = true → i ≤ a.length → s = Ex.txt.txtL a ++ rest → Stop1 rest → ks = a.take i ∧ si = Ex.txt.txtL (a.drop i) ++ rest
theorem readsK_zero (s : List UInt8) : ReadsK 0 s [] s := ⟨rfl, Nat.le_refl _, by simp [Ex.wt.wtL], trivial, fun a _ _ rest _ _ h _ => ⟨by simp, by simpa using h⟩⟩
theorem fitL_snoc {ks : List Ex} {x : Ex} (h : Ex.fit.fitL ks) (hx : x.fit) : Ex.fit.fitL (ks ++ [x]) := by
  induction ks with
  | nil => exact ⟨hx, trivial⟩
  | cons y ks ih => exact ⟨h.1, ih h.2⟩
theorem readsK_step {i : Nat} {s si s' : List UInt8} {ks : List Ex} {x : Ex} (h : ReadsK i s ks si) (hx : ReadsE (si.drop 1) x s') : ReadsK (i + 1) s (ks ++ [x]) s' := by
  obtain ⟨h1, h2, h3, h4, h5⟩ := h
  obtain ⟨x1, x2, x3, x4⟩ := hx
  have hd : (si.drop 1).length ≤ si.length := by simp
  refine ⟨by simp [h1], by omega, ?_, fitL_snoc h4 x3, ?_⟩
  · rw [wtL_append]; simp only [Ex.wt.wtL]; omega
  · intro a text each rest ok hi hs hr
    obtain ⟨e1, e2⟩ := h5 a text each rest ok (by omega) hs hr
    have hlt : i < a.length := by omega
    have hdr : a.drop i = a[i] :: a.drop (i + 1) := List.drop_eq_getElem_cons hlt
    have okd := okL_drop i ok
    rw [hdr] at okd e2
    obtain ⟨oky, _⟩ := okL_head okd
    have e3 : si.drop 1 = a[i].txt ++ (Ex.txt.txtL (a.drop (i + 1)) ++ rest) := by rw [e2]; simp [Ex.txt.txtL]
    obtain ⟨f1, f2⟩ := x4 a[i] text each _ oky e3 (txtL_stop hr _)
    exact ⟨by rw [List.take_succ_eq_append_getElem hlt, e1, f1], f2⟩
/-- A number that is read, or not. -/
def ReadsN (k : Int) (s : List UInt8) (n : Int) (s' : List UInt8) : Prop :=
  if hasNum k then s' = (s.drop 1).drop (wordR (s.drop 1)).length ∧ (-9223372036854775808 ≤ n ∧ n ≤ 9223372036854775807) ∧ ∀ v, -9223372036854775808 ≤ v → v ≤ 9223372036854775807 → wordR (s.drop 1) = Lib.itoa v → n = v else n = 0 ∧ s' = s
/-- A quoted text that is read, or not. -/
def ReadsT (k : Int) (s : List UInt8) (t : List UInt8) (s' : List UInt8) : Prop :=
  if hasTxt k then (t, s') = unqL ((s.drop 1).drop 1) else t = [] ∧ s' = s
theorem readsN_len {k n : Int} {s s' : List UInt8} (h : ReadsN k s n s') : s'.length ≤ s.length ∧ (-9223372036854775808 ≤ n ∧ n ≤ 9223372036854775807) := by
  unfold ReadsN at h
  split at h
  · obtain ⟨rfl, h2, _⟩ := h
    exact ⟨by simp, h2⟩
  · obtain ⟨rfl, rfl⟩ := h
    exact ⟨Nat.le_refl _, by omega⟩
theorem readsT_len {k : Int} {s t s' : List UInt8} (h : ReadsT k s t s') : t.length + s'.length ≤ s.length := by
  unfold ReadsT at h
  split at h
  · have := unq_len _ ((s.drop 1).drop 1) (Nat.le_refl _)
    rw [← h] at this
    simp at this; omega
  · obtain ⟨rfl, rfl⟩ := h
    simp
theorem node_reads {s s2 s3 s' : List UInt8} {n : Int} {t : List UInt8} {ks : List Ex} (hn : ReadsN (nameK (wordR s)) (s.drop (wordR s).length) n s2) (ht : ReadsT (nameK (wordR s)) s2 t s3) (hk : ReadsK (partsK (nameK (wordR s))) s3 ks s') :
    ReadsE s (.mk (nameK (wordR s)) n t ks) s' := by
  obtain ⟨n1, n2⟩ := readsN_len hn
  have t1 := readsT_len ht
  obtain ⟨k1, k2, k3, k4, k5⟩ := hk
  have hd : (s.drop (wordR s).length).length + (wordR s).length = s.length := by have := wordR_len s; simp; omega
  have hp : partsK (nameK (wordR s)) = 0 ∨ (partsK (nameK (wordR s)) ≤ 2 ∧ 2 ≤ (wordR s).length) := by
    rcases nameK_len (wordR s) with h | h
    · rw [h]; left; rfl
    · right; refine ⟨?_, h⟩; unfold partsK; repeat' split
      all_goals omega
  refine ⟨by omega, ?_, ⟨n2, k4⟩, ?_⟩
  · simp only [Ex.wt]; rcases hp with hp | hp <;> omega
  · intro e text each rest ok hs hr
    obtain ⟨k, m, u, a⟩ := e
    obtain ⟨⟨hk1, hk2⟩, ha, hm0, hu0, hm, _, oka⟩ := ok_parts ok
    simp only [Ex.txt, hdTxt, List.append_assoc] at hs
    have st3 := txtL_stop hr a
    have st2 : Stop1 ((if hasTxt k = true then 32 :: quoteL u else []) ++ (Ex.txt.txtL a ++ rest)) := by
      split
      · exact .inr ⟨_, rfl⟩
      · exact st3
    have st1 : Stop1 ((if hasNum k = true then 32 :: Lib.itoa m else []) ++ ((if hasTxt k = true then 32 :: quoteL u else []) ++ (Ex.txt.txtL a ++ rest))) := by
      split
      · exact .inr ⟨_, rfl⟩
      · exact st2
    have hw : wordR s = nameL k := by rw [hs]; exact wordR_app st1 (fun b hb => (nameL_plain k b hb).1)
    have hkk : nameK (wordR s) = k := by rw [hw]; exact nameK_name k hk1 hk2
    rw [hkk] at hn ht k1 k5 ⊢
    have hd1 : s.drop (wordR s).length = (if hasNum k = true then 32 :: Lib.itoa m else []) ++ ((if hasTxt k = true then 32 :: quoteL u else []) ++ (Ex.txt.txtL a ++ rest)) := by rw [hw, hs]; simp
    rw [hd1] at hn
    have hn2 : n = m ∧ s2 = (if hasTxt k = true then 32 :: quoteL u else []) ++ (Ex.txt.txtL a ++ rest) := by
      unfold ReadsN at hn
      by_cases hq : hasNum k = true
      · rw [if_pos hq, if_pos hq] at hn
        obtain ⟨e1, _, e2⟩ := hn
        have e3 : (((32 :: Lib.itoa m) ++ ((if hasTxt k = true then 32 :: quoteL u else []) ++ (Ex.txt.txtL a ++ rest))).drop 1) = Lib.itoa m ++ ((if hasTxt k = true then 32 :: quoteL u else []) ++ (Ex.txt.txtL a ++ rest)) := rfl
        rw [e3, wordR_app st2 (fun b hb => (itoa_plain m b hb).1)] at e1 e2
        exact ⟨e2 m (by omega) (by omega) rfl, by rw [e1]; simp⟩
      · rw [if_neg hq, if_neg hq] at hn
        exact ⟨by rw [hn.1, hm0 (by simpa using hq)], by rw [hn.2]; rfl⟩
    obtain ⟨rfl, rfl⟩ := hn2
    have ht2 : t = u ∧ s3 = Ex.txt.txtL a ++ rest := by
      unfold ReadsT at ht
      by_cases hq : hasTxt k = true
      · rw [if_pos hq, if_pos hq] at ht
        have e3 : ((((32 :: quoteL u) ++ (Ex.txt.txtL a ++ rest)).drop 1).drop 1) = quoL u ++ 34 :: (Ex.txt.txtL a ++ rest) := by simp [quoteL]
        rw [e3, unq_quo] at ht
        simpa using ht
      · rw [if_neg hq, if_neg hq] at ht
        exact ⟨by rw [ht.1, hu0 (by simpa using hq)], by rw [ht.2]; rfl⟩
    obtain ⟨rfl, rfl⟩ := ht2
    obtain ⟨f1, f2⟩ := k5 a _ _ rest oka (by omega) rfl hr
    rw [← ha, List.take_length] at f1
    rw [← ha, List.drop_length] at f2
    exact ⟨by rw [f1], by rw [f2]; rfl⟩
end Go.Proofs.YtfjpgjkfmcedoaaGreatDoor
