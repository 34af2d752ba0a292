/- Folders: an output's keys rise, none is lost, plainly; TopRise's closed fact. -/
import Derived.Test.YtapflhndpcgdiaaDoorD8
namespace Go.Proofs.YtapflhndpcgdiaaDoor
open Go.ChangeShapes Go.WideShapes Go.ChangeAt Go.RowKit
open Grp Stable
theorem segs_mem : ∀ {ks : List ByteArray} {ss : List (List (ByteArray × Int))}, Segs ks ss → ∀ s ∈ ss, ∀ p ∈ s, p.1 ∈ ks
  | [], [], _, s, hs, _, _ => by cases hs
  | k :: ks, s0 :: ss, h, s, hs, p, hp => by
    rcases List.mem_cons.1 hs with rfl | hs
    · rw [h.1.key p hp]; exact List.mem_cons_self
    · exact List.mem_cons_of_mem _ (segs_mem h.2.2 s hs p hp)
  | [], _ :: _, h, _, _, _, _ => h.elim
  | _ :: _, [], h, _, _, _, _ => h.elim
theorem segs_next : ∀ {ks : List ByteArray} {ss : List (List (ByteArray × Int))}, Segs ks ss → ∀ (i : Nat) (h : i + 1 < ks.length), ks[i] ≠ ks[i + 1]
  | [], [], _, i, h => by simp at h
  | k :: ks, s0 :: ss, hs, i, h => by
    cases i with
    | zero =>
      simp only [List.getElem_cons_zero, List.getElem_cons_succ]
      refine hs.2.1 _ ?_
      rw [List.length_cons] at h
      rw [List.head?_eq_getElem?, List.getElem?_eq_getElem (by omega)]
    | succ i =>
      simp only [List.getElem_cons_succ]
      exact segs_next hs.2.2 i (by simpa using h)
  | [], _ :: _, h, _, _ => h.elim
  | _ :: _, [], h, _, _ => h.elim
/-- Of what is made the keys rise. -/
theorem made_rise {kind : Int} {ks : List ByteArray} {ss : List (List (ByteArray × Int))} {Z M : List (ByteArray × Int)} (h : Segs ks ss) (hf : ss.flatten = Z) (hs : Sorted Z) (hM : M = grp kind Z) (i : Nat) (hi : i + 1 < M.length) : bl (key M[i]) (key M[i + 1]) = true := by
  obtain ⟨M', h1, h2, _⟩ := grp_segs kind h
  rw [hf, ← hM] at h1
  subst h1
  have hkl : ks.length = M.length := by rw [← h2, List.length_map]
  have hsl : ss.length = M.length := by rw [← segs_len h, hkl]
  have e0 : M[i].1 = ks[i] := by simp only [← h2, List.getElem_map]
  have e1 : M[i + 1].1 = ks[i + 1] := by simp only [← h2, List.getElem_map]
  obtain ⟨p, tp, hp, hpk⟩ := segs_key h i (by omega)
  obtain ⟨q, tq, hq, hqk⟩ := segs_key h (i + 1) (by omega)
  rw [List.getElem?_eq_getElem (by omega), Option.some.injEq] at hpk hqk
  rw [← hf] at hs
  unfold Sorted at hs
  rw [List.pairwise_flatten] at hs
  have hpw := hs.2
  rw [List.pairwise_iff_getElem] at hpw
  have hle := hpw i (i + 1) (by omega) (by omega) (by omega) p (by rw [hp]; exact List.mem_cons_self) q (by rw [hq]; exact List.mem_cons_self)
  have hne := segs_next h i (by omega)
  have kp : key M[i] = key p := by unfold key; rw [e0, hpk]
  have kq : key M[i + 1] = key q := by unfold key; rw [e1, hqk]
  rw [kp, kq]
  cases hb : bl (key p) (key q) with
  | true => rfl
  | false =>
    exact absurd (bl_total _ _ hb hle) (fun e => hne (by rw [hpk, hqk]; exact toList_inj e))
/-- None is lost. -/
theorem made_all {kind : Int} {ks : List ByteArray} {ss : List (List (ByteArray × Int))} {Z M : List (ByteArray × Int)} (h : Segs ks ss) (hf : ss.flatten = Z) (hM : M = grp kind Z) (p : ByteArray × Int) (hp : p ∈ Z) : ∃ q ∈ M, q.1 = p.1 := by
  obtain ⟨M', h1, h2, _⟩ := grp_segs kind h
  rw [hf, ← hM] at h1
  subst h1
  rw [← hf] at hp
  obtain ⟨s, hs, hp⟩ := List.mem_flatten.1 hp
  have hk := segs_mem h s hs p hp
  rw [← h2, List.mem_map] at hk
  obtain ⟨q, hq, e⟩ := hk
  exact ⟨q, hq, e⟩
end Go.Proofs.YtapflhndpcgdiaaDoor
