/- A slice of slices of pairs, and a slice of numbers, as they were handed in, opened: what they hold. -/
import Derived.Test.YtapflhndpcgdiaaDoorOpen
import Derived.Test.YtapflhndpcgdiaaDoorD8
import Derived.Deep.Slices
namespace Go.Proofs.YtapflhndpcgdiaaDoor
open Go.ChangeShapes Go.WideShapes Go.ChangeAt Go.RowKit Go.Deep
theorem cellsList : Tryd.prog.cellsOf 22 = 1 := by kernel_rfl

set_option maxRecDepth 100000 in
theorem open_pairs_cell {H : Type} {enc : TypeId × Value → H} {W : World} {fuel : Nat} {v : Value} {x : DataW H × List MemPlace} (hf : DataW.trod enc Tryd.prog W 0 (fun _ => true) true fuel 22 [v] = some x) :
    ∃ l : List (ByteArray × Int), IsPairs W v l ∧ l.length ≤ maxLen ∧ ∀ q ∈ l, -9223372036854775808 ≤ q.2 ∧ q.2 ≤ 9223372036854775807 := by
  rcases open_slice_pairs Tryd.underlying22 Tryd.underlying30 cellsPair rfl rfl cellsStr cellsInt hf with ⟨hcs, _⟩ | ⟨a, len, cap, m, n, V0, V1, D0, D1, P0, P1, hcs, _, hl, hm, hmm, _, hx⟩
  · simp only [List.cons.injEq, and_true] at hcs
    subst hcs
    exact ⟨[], ⟨none, 0, rfl, fun i hi => absurd hi (by simp)⟩, by simp, fun q hq => absurd hq (by simp)⟩
  · simp only [List.cons.injEq, and_true] at hcs
    subst hcs
    have hlm : len ≤ m := by rw [hmm]; simp; omega
    have key : ∀ i, i < len → ∃ b off, a = ⟨b, off, none⟩ ∧ W.cell? ⟨b, off + i * 2, none⟩ = some (.string (strOf (V0 i))) ∧ W.cell? ⟨b, off + i * 2 + 1, none⟩ = some (.int .i64 (intOf (V1 i))) ∧ -9223372036854775808 ≤ intOf (V1 i) ∧ intOf (V1 i) ≤ 9223372036854775807 := by
      intro i hi
      obtain ⟨c0, c1, t0, t1⟩ := hx i (by omega)
      obtain ⟨s, e0, _, hs⟩ := DataW.trod_string Tryd.underlying9 t0
      obtain ⟨k, e1, _, hk⟩ := DataW.trod_int Tryd.underlying3 t1
      simp only [List.cons.injEq, and_true] at e0 e1
      rw [e0] at c0 ⊢
      rw [e1] at c1 ⊢
      have h00 := (hx 0 (by omega)).1
      obtain ⟨b, off, spot⟩ := a
      have hspot : spot = none := by
        have h1 := World.cell?_spot h00
        simpa [Addr.add] using h1
      subst hspot
      have bd := bounds_i64 hk
      rw [add_none] at c0 c1
      exact ⟨b, off, rfl, c0, c1, bd.1, bd.2⟩
    refine ⟨(List.range len).map fun i => (strOf (V0 i), intOf (V1 i)), ⟨some a, cap, by simp, fun i hi => ?_⟩, by simp; omega, fun q hq => ?_⟩
    · have hi' : i < len := by simpa using hi
      obtain ⟨b, off, rfl, c0, c1, _⟩ := key i hi'
      exact ⟨b, off, rfl, by simpa using c0, by simpa using c1⟩
    · rw [List.mem_map] at hq
      obtain ⟨i, hi, rfl⟩ := hq
      obtain ⟨b, off, _, _, _, h2, h3⟩ := key i (by simpa using hi)
      exact ⟨h2, h3⟩
set_option maxRecDepth 100000 in
theorem open_lists {H : Type} {enc : TypeId × Value → H} {W : World} {base : Nat} {d : DataW H} {p : List MemPlace} {v : Value} (hv : Value.okWide Tryd.prog W .any base 45 v) (h : DataW.Trod enc Tryd.prog W 0 (fun _ => true) true 45 v d p) :
    ∃ ls : List (List (ByteArray × Int)), IsLists W v ls ∧ ls.length ≤ maxLen ∧ (∀ l ∈ ls, l.length ≤ maxLen) ∧ (∀ l ∈ ls, ∀ p ∈ l, -9223372036854775808 ≤ p.2 ∧ p.2 ≤ 9223372036854775807) := by
  obtain ⟨a0, len0, cap0, rfl⟩ := okWide_slice Tryd.underlying45 hv
  obtain ⟨fuel, hf⟩ := h
  rcases open_slice1 Tryd.underlying45 cellsList hf with ⟨hcs, _⟩ | ⟨a, len, cap, m, n, V, D, Pl, hcs, _, hl, hm, hmm, _, hx⟩
  · simp [Value.cells] at hcs
    obtain ⟨rfl, rfl, rfl⟩ := hcs
    exact ⟨[], ⟨none, 0, rfl, fun i hi => absurd hi (by simp)⟩, by simp, (fun l hl => absurd hl (by simp)), (fun l hl => absurd hl (by simp))⟩
  · simp [Value.cells] at hcs
    obtain ⟨rfl, rfl, rfl⟩ := hcs
    have hlm : len0 ≤ m := by rw [hmm]; simp; omega
    have each : ∀ i, ∃ l : List (ByteArray × Int), i < len0 → IsPairs W (V i) l ∧ l.length ≤ maxLen ∧ ∀ q ∈ l, -9223372036854775808 ≤ q.2 ∧ q.2 ≤ 9223372036854775807 := by
      intro i
      by_cases hi : i < len0
      · obtain ⟨l, h1, h2, h3⟩ := open_pairs_cell (hx i (by omega)).2
        exact ⟨l, fun _ => ⟨h1, h2, h3⟩⟩
      · exact ⟨[], fun h => absurd h hi⟩
    obtain ⟨Ls, hLs⟩ := Classical.axiomOfChoice each
    refine ⟨(List.range len0).map Ls, ⟨some a, cap0, by simp, fun i hi => ?_⟩, by simp; omega, fun l hl => ?_, fun l hl => ?_⟩
    · have hi' : i < len0 := by simpa using hi
      have h0 := (hx 0 (by omega)).1
      have h1 := (hx i (by omega)).1
      obtain ⟨b, off, spot⟩ := a
      have hspot : spot = none := by
        have h2 := World.cell?_spot h0
        simpa [Addr.add] using h2
      subst hspot
      rw [add_none] at h1
      exact ⟨b, off, V i, rfl, h1, by simpa using (hLs i hi').1⟩
    · rw [List.mem_map] at hl
      obtain ⟨j, hj, rfl⟩ := hl
      exact (hLs j (by simpa using hj)).2.1
    · rw [List.mem_map] at hl
      obtain ⟨j, hj, rfl⟩ := hl
      exact (hLs j (by simpa using hj)).2.2
set_option maxRecDepth 100000 in
theorem open_nums {H : Type} {enc : TypeId × Value → H} {W : World} {base : Nat} {d : DataW H} {p : List MemPlace} {v : Value} (hv : Value.okWide Tryd.prog W .any base 46 v) (h : DataW.Trod enc Tryd.prog W 0 (fun _ => true) true 46 v d p) :
    ∃ l : List Int, IsNs W v l ∧ l.length ≤ maxLen ∧ ∀ n ∈ l, -9223372036854775808 ≤ n ∧ n ≤ 9223372036854775807 := by
  obtain ⟨a0, len0, cap0, rfl⟩ := okWide_slice Tryd.underlying46 hv
  obtain ⟨fuel, hf⟩ := h
  rcases open_slice1 Tryd.underlying46 cellsInt hf with ⟨hcs, _⟩ | ⟨a, len, cap, m, n, V, D, Pl, hcs, _, hl, hm, hmm, _, hx⟩
  · simp [Value.cells] at hcs
    obtain ⟨rfl, rfl, rfl⟩ := hcs
    exact ⟨[], ⟨none, 0, rfl, fun i hi => absurd hi (by simp)⟩, by simp, fun n hn => absurd hn (by simp)⟩
  · simp [Value.cells] at hcs
    obtain ⟨rfl, rfl, rfl⟩ := hcs
    have hlm : len0 ≤ m := by rw [hmm]; simp; omega
    have key : ∀ i, i < len0 → ∃ b off, a = ⟨b, off, none⟩ ∧ W.cell? ⟨b, off + i, none⟩ = some (.int .i64 (intOf (V i))) ∧ -9223372036854775808 ≤ intOf (V i) ∧ intOf (V i) ≤ 9223372036854775807 := by
      intro i hi
      obtain ⟨c0, t0⟩ := hx i (by omega)
      obtain ⟨k, e0, _, hk⟩ := DataW.trod_int Tryd.underlying3 t0
      simp only [List.cons.injEq, and_true] at e0
      rw [e0] at c0 ⊢
      have h00 := (hx 0 (by omega)).1
      obtain ⟨b, off, spot⟩ := a
      have hspot : spot = none := by
        have h1 := World.cell?_spot h00
        simpa [Addr.add] using h1
      subst hspot
      have bd := bounds_i64 hk
      rw [add_none] at c0
      exact ⟨b, off, rfl, c0, bd.1, bd.2⟩
    refine ⟨(List.range len0).map fun i => intOf (V i), ⟨some a, cap0, by simp, fun i hi => ?_⟩, by simp; omega, fun n hn => ?_⟩
    · have hi' : i < len0 := by simpa using hi
      obtain ⟨b, off, rfl, c0, _⟩ := key i hi'
      exact ⟨b, off, rfl, by simpa using c0⟩
    · rw [List.mem_map] at hn
      obtain ⟨i, hi, rfl⟩ := hn
      obtain ⟨b, off, _, _, h2, h3⟩ := key i (by simpa using hi)
      exact ⟨h2, h3⟩
end Go.Proofs.YtapflhndpcgdiaaDoor
