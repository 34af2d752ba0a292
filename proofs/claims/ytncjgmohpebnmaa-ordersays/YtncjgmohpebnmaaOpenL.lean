/- A slice of slices of pairs, as it was handed in, opened: what it holds. -/
import Derived.Test.YtncjgmohpebnmaaOpen
import Derived.Test.YtncjgmohpebnmaaMrg
import Derived.Deep.Slices
namespace Go.Proofs.Ytncjgmohpebnmaa
open Go.ChangeShapes Go.WideShapes Go.ChangeAt Go.RowKit Go.Deep
theorem cellsList : Try.prog.cellsOf 22 = 1 := by kernel_rfl

set_option maxRecDepth 100000 in
theorem open_pairs_cell {H : Type} {enc : TypeId × Value → H} {W : World} {fuel : Nat} {v : Value} {x : DataW H × List MemPlace} (hf : DataW.trod enc Try.prog W 0 (fun _ => true) true fuel 22 [v] = some x) :
    ∃ l : List (ByteArray × Int), IsPairs W v l ∧ l.length ≤ maxLen := by
  rcases open_slice_pairs Try.underlying22 Try.underlying36 cellsPair rfl rfl cellsStr cellsInt hf with ⟨hcs, _⟩ | ⟨a, len, cap, m, n, V0, V1, D0, D1, P0, P1, hcs, _, hl, hm, hmm, _, hx⟩
  · simp only [List.cons.injEq, and_true] at hcs
    subst hcs
    exact ⟨[], ⟨none, 0, rfl, fun i hi => absurd hi (by simp)⟩, by simp⟩
  · simp only [List.cons.injEq, and_true] at hcs
    subst hcs
    have hlm : len ≤ m := by rw [hmm]; simp; omega
    have key : ∀ i, i < len → ∃ b off, a = ⟨b, off, none⟩ ∧ W.cell? ⟨b, off + i * 2, none⟩ = some (.string (strOf (V0 i))) ∧ W.cell? ⟨b, off + i * 2 + 1, none⟩ = some (.int .i64 (intOf (V1 i))) := by
      intro i hi
      obtain ⟨c0, c1, t0, t1⟩ := hx i (by omega)
      obtain ⟨s, e0, _, hs⟩ := DataW.trod_string Try.underlying9 t0
      obtain ⟨k, e1, _, hk⟩ := DataW.trod_int Try.underlying3 t1
      simp only [List.cons.injEq, and_true] at e0 e1
      rw [e0] at c0 ⊢
      rw [e1] at c1 ⊢
      have h00 := (hx 0 (by omega)).1
      obtain ⟨b, off, spot⟩ := a
      have hspot : spot = none := by
        have h1 := World.cell?_spot h00
        simpa [Addr.add] using h1
      subst hspot
      rw [add_none] at c0 c1
      exact ⟨b, off, rfl, c0, c1⟩
    refine ⟨(List.range len).map fun i => (strOf (V0 i), intOf (V1 i)), ⟨some a, cap, by simp, fun i hi => ?_⟩, by simp; omega⟩
    have hi' : i < len := by simpa using hi
    obtain ⟨b, off, rfl, c0, c1⟩ := key i hi'
    exact ⟨b, off, rfl, by simpa using c0, by simpa using c1⟩
set_option maxRecDepth 100000 in
theorem open_lists {H : Type} {enc : TypeId × Value → H} {W : World} {base : Nat} {d : DataW H} {p : List MemPlace} {v : Value} (hv : Value.okWide Try.prog W .any base 23 v) (h : DataW.Trod enc Try.prog W 0 (fun _ => true) true 23 v d p) :
    ∃ ls : List (List (ByteArray × Int)), IsLists W v ls ∧ ls.length ≤ maxLen ∧ (∀ j, j < ls.length → (lsAt ls j).length ≤ maxLen) := by
  obtain ⟨a0, len0, cap0, rfl⟩ := okWide_slice Try.underlying23 hv
  obtain ⟨fuel, hf⟩ := h
  rcases open_slice1 Try.underlying23 cellsList hf with ⟨hcs, _⟩ | ⟨a, len, cap, m, n, V, D, Pl, hcs, _, hl, hm, hmm, _, hx⟩
  · simp [Value.cells] at hcs
    obtain ⟨rfl, rfl, rfl⟩ := hcs
    exact ⟨[], ⟨none, 0, rfl, fun i hi => absurd hi (by simp)⟩, by simp, fun j hj => absurd hj (by simp)⟩
  · simp [Value.cells] at hcs
    obtain ⟨rfl, rfl, rfl⟩ := hcs
    have hlm : len0 ≤ m := by rw [hmm]; simp; omega
    have each : ∀ i, ∃ l : List (ByteArray × Int), i < len0 → IsPairs W (V i) l ∧ l.length ≤ maxLen := by
      intro i
      by_cases hi : i < len0
      · obtain ⟨l, h1, h2⟩ := open_pairs_cell (hx i (by omega)).2
        exact ⟨l, fun _ => ⟨h1, h2⟩⟩
      · exact ⟨[], fun h => absurd h hi⟩
    obtain ⟨Ls, hLs⟩ := Classical.axiomOfChoice each
    refine ⟨(List.range len0).map Ls, ⟨some a, cap0, by simp, fun i hi => ?_⟩, by simp; omega, fun j hj => ?_⟩
    · have hi' : i < len0 := by simpa using hi
      have h0 := (hx 0 (by omega)).1
      have h1 := (hx i (by omega)).1
      obtain ⟨b, off, spot⟩ := a
      have hspot : spot = none := by
        have h2 := World.cell?_spot h0
        simpa [Addr.add] using h2
      subst hspot
      rw [add_none] at h1
      exact ⟨b, off, V i, rfl, h1, by simpa using (hLs i hi').1⟩
    · have hj' : j < len0 := by simpa using hj
      unfold lsAt
      rw [List.getElem?_eq_getElem hj]
      simpa using (hLs j hj').2
end Go.Proofs.Ytncjgmohpebnmaa
