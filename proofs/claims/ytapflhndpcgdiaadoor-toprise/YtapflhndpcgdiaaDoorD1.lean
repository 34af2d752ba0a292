/- Folders: a list that rises, cut where its keys turn, plainly. -/
import Derived.Test.YtapflhndpcgdiaaDoorGrp
namespace Go.Proofs.YtapflhndpcgdiaaDoor
open Grp
/-- Pairs of one key. -/
structure Same1 (k : ByteArray) (s : List (ByteArray × Int)) : Prop where
  ne : s ≠ []
  key : ∀ p ∈ s, p.1 = k
/-- Parts of a list, each of one key, no two neighbours of the same. -/
def Segs : List ByteArray → List (List (ByteArray × Int)) → Prop
  | [], [] => True
  | k :: ks, s :: ss => Same1 k s ∧ (∀ k', ks.head? = some k' → k ≠ k') ∧ Segs ks ss
  | _, _ => False
theorem segs_len : ∀ {ks : List ByteArray} {ss : List (List (ByteArray × Int))}, Segs ks ss → ks.length = ss.length
  | [], [], _ => rfl
  | _ :: _, _ :: _, h => by rw [List.length_cons, List.length_cons, segs_len h.2.2]
  | [], _ :: _, h => h.elim
  | _ :: _, [], h => h.elim
theorem segs_snoc : ∀ {ks : List ByteArray} {ss : List (List (ByteArray × Int))} {k : ByteArray} {s : List (ByteArray × Int)}, Segs ks ss → Same1 k s → (∀ k', ks.getLast? = some k' → k' ≠ k) → Segs (ks ++ [k]) (ss ++ [s])
  | [], [], k, s, _, h1, _ => ⟨h1, fun k' h => by simp at h, trivial⟩
  | k0 :: ks, s0 :: ss, k, s, h, h1, h2 => by
    refine ⟨h.1, ?_, segs_snoc h.2.2 h1 (fun k' hk => h2 k' (by
      cases ks with
      | nil => simp at hk
      | cons a b => rw [List.getLast?_cons_cons]; exact hk))⟩
    intro k' hk
    cases ks with
    | nil =>
      have hk2 : k = k' := by simpa using hk
      subst hk2
      exact h2 k0 rfl
    | cons a b => exact h.2.1 k' (by simpa using hk)
  | [], _ :: _, _, _, h, _, _ => h.elim
  | _ :: _, [], _, _, h, _, _ => h.elim
theorem grp_same (kind : Int) {k : ByteArray} : ∀ {s : List (ByteArray × Int)}, Same1 k s → ∃ x, grp kind s = [(k, x)] := by
  intro s
  generalize hn : s.length = n
  induction n generalizing s with
  | zero => intro h; exact absurd (List.length_eq_zero_iff.1 hn) h.ne
  | succ n ih =>
    intro h
    rcases List.eq_nil_or_concat s with rfl | ⟨s', q, rfl⟩
    · simp at hn
    · rw [List.concat_eq_append] at *
      have hq : q.1 = k := h.key q (by simp)
      rw [grp_snoc]
      by_cases hs : s' = []
      · subst hs
        exact ⟨q.2, by rw [grp_nil, step_nil, ← hq]⟩
      · obtain ⟨x, hx⟩ := ih (s := s') (by simpa using hn) ⟨hs, fun p hp => h.key p (by simp [hp])⟩
        rw [hx]
        have e := step_same kind [] (k, x) q hq.symm
        exact ⟨_, e⟩
/-- What the groups of all are: of each part one. -/
theorem grp_segs (kind : Int) : ∀ {ks : List ByteArray} {ss : List (List (ByteArray × Int))}, Segs ks ss → ∃ M : List (ByteArray × Int), grp kind ss.flatten = M ∧ M.map Prod.fst = ks ∧ ∀ i : Nat, (ss[i]?).map (grp kind) = (M[i]?).map fun p => [p]
  | [], [], _ => ⟨[], rfl, rfl, fun i => by simp⟩
  | k :: ks, s :: ss, h => by
    obtain ⟨M, h1, h2, h3⟩ := grp_segs kind h.2.2
    obtain ⟨x, hx⟩ := grp_same kind h.1
    refine ⟨(k, x) :: M, ?_, by rw [List.map_cons, h2], fun i => ?_⟩
    · rw [List.flatten_cons, grp_append, h1, hx]
      cases M with
      | nil => rfl
      | cons q M' =>
        have hq : ks.head? = some q.1 := by rw [← h2]; rfl
        have hne := h.2.1 _ hq
        have e := step_other kind [] (k, x) q hne
        simp only [join]
        rw [show ([(k, x)] : List (ByteArray × Int)) = [] ++ [(k, x)] from rfl, e]
        rfl
    · cases i with
      | zero => simp [hx]
      | succ i => simpa using h3 i
  | [], _ :: _, h => h.elim
  | _ :: _, [], h => h.elim
end Go.Proofs.YtapflhndpcgdiaaDoor
