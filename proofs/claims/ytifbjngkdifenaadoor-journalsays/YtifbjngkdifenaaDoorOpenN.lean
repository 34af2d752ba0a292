/- Entries of a journal, as they were handed in, opened: what they hold. -/
import Derived.Test.YtifbjngkdifenaaDoorJ10
import Derived.OpenShut
import Derived.ShutString
import Derived.ChangeOld
import Derived.Below
import Derived.Lib.SmallJoins
import Derived.Deep.SlicePairs
import Derived.Deep.Slices
namespace Go.Proofs.YtifbjngkdifenaaDoor
open Go.ChangeShapes Go.WideShapes Go.ChangeAt Go.RowKit Go.Deep
namespace OpenN
theorem cells3 : Tryd.prog.cellsOf 25 = 3 := by kernel_rfl
theorem cells1s : Tryd.prog.cellsOf 9 = 1 := by kernel_rfl
theorem cells1i : Tryd.prog.cellsOf 3 = 1 := by kernel_rfl
theorem cells1is : Tryd.prog.cellsOf 22 = 1 := by kernel_rfl
theorem cells1ss : Tryd.prog.cellsOf 23 = 1 := by kernel_rfl
def strOf : Value → ByteArray
  | .string s => s
  | _ => ByteArray.empty
theorem none_add (b off j : Nat) : (⟨b, off, none⟩ : Addr).add j = ⟨b, off + j, none⟩ := by
  unfold Addr.add
  split
  · rename_i h; subst h; rfl
  · rfl
set_option maxRecDepth 100000 in
theorem ints {H : Type} {enc : TypeId × Value → H} {W : World} {fuel : Nat} {v : Value} {x : DataW H × List MemPlace} (hf : DataW.trod enc Tryd.prog W 0 (fun _ => true) true fuel 22 [v] = some x) :
    ∃ l : List Int, IsIs W v l ∧ l.length ≤ maxLen ∧ ∀ n ∈ l, Fit n := by
  rcases open_slice1 Tryd.underlying22 cells1i hf with ⟨hcs, _⟩ | ⟨a, len, cap, m, n, V, D, Pl, hcs, _, hl, hm, hmm, _, hx⟩
  · simp only [List.cons.injEq, and_true] at hcs
    subst hcs
    exact ⟨[], ⟨none, 0, rfl, fun i hi => absurd hi (by simp)⟩, by simp, (fun n hn => (by cases hn))⟩
  · simp only [List.cons.injEq, and_true] at hcs
    subst hcs
    have hlm : len ≤ m := by rw [hmm]; simp; omega
    have key : ∀ i, i < len → ∃ b off, a = ⟨b, off, none⟩ ∧ W.cell? ⟨b, off + i, none⟩ = some (.int .i64 (intOf (V i))) ∧ Fit (intOf (V i)) := by
      intro i hi
      obtain ⟨c0, t0⟩ := hx i (by omega)
      obtain ⟨k, e0, _, hk⟩ := DataW.trod_int Tryd.underlying3 t0
      simp only [List.cons.injEq, and_true] at e0
      rw [e0] at c0 ⊢
      have h00 := (hx 0 (by omega)).1
      obtain ⟨b, off, spot⟩ := a
      have hspot : spot = none := by
        have h1 := World.cell?_spot h00
        simpa [Addr.add] using h1
      subst hspot
      have bd := bounds_i64 hk
      rw [none_add] at c0
      exact ⟨b, off, rfl, c0, bd.1, bd.2⟩
    refine ⟨(List.range len).map fun i => intOf (V i), ⟨some a, cap, by simp, fun i hi => ?_⟩, by simp; omega, fun n hn => ?_⟩
    · have hi' : i < len := by simpa using hi
      obtain ⟨b, off, rfl, c0, _⟩ := key i hi'
      exact ⟨b, off, rfl, by simpa using c0⟩
    · rw [List.mem_map] at hn
      obtain ⟨i, hi, rfl⟩ := hn
      obtain ⟨b, off, _, _, h1⟩ := key i (by simpa using hi)
      exact h1
set_option maxRecDepth 100000 in
theorem texts {H : Type} {enc : TypeId × Value → H} {W : World} {fuel : Nat} {v : Value} {x : DataW H × List MemPlace} (hf : DataW.trod enc Tryd.prog W 0 (fun _ => true) true fuel 23 [v] = some x) :
    ∃ l : List (List UInt8), IsTexts W v (l.map bs) ∧ l.length ≤ maxLen := by
  rcases open_slice1 Tryd.underlying23 cells1s hf with ⟨hcs, _⟩ | ⟨a, len, cap, m, n, V, D, Pl, hcs, _, hl, hm, hmm, _, hx⟩
  · simp only [List.cons.injEq, and_true] at hcs
    subst hcs
    exact ⟨[], ⟨none, 0, rfl, fun i hi => absurd hi (by simp)⟩, by simp⟩
  · simp only [List.cons.injEq, and_true] at hcs
    subst hcs
    have hlm : len ≤ m := by rw [hmm]; simp; omega
    have key : ∀ i, i < len → ∃ b off, a = ⟨b, off, none⟩ ∧ W.cell? ⟨b, off + i, none⟩ = some (.string (bs (strOf (V i)).data.toList)) := by
      intro i hi
      obtain ⟨c0, t0⟩ := hx i (by omega)
      obtain ⟨s, e0, _, _⟩ := DataW.trod_string Tryd.underlying9 t0
      simp only [List.cons.injEq, and_true] at e0
      rw [e0] at c0 ⊢
      have h00 := (hx 0 (by omega)).1
      obtain ⟨b, off, spot⟩ := a
      have hspot : spot = none := by
        have h1 := World.cell?_spot h00
        simpa [Addr.add] using h1
      subst hspot
      rw [none_add] at c0
      exact ⟨b, off, rfl, by rw [bs_of]; exact c0⟩
    refine ⟨(List.range len).map fun i => (strOf (V i)).data.toList, ⟨some a, cap, by simp, fun i hi => ?_⟩, by simp; omega⟩
    have hi' : i < len := by simpa using hi
    obtain ⟨b, off, rfl, c0⟩ := key i hi'
    exact ⟨b, off, rfl, by simpa using c0⟩
/-- What is known of an entry that came in. -/
def Came (W : World) (v0 : Value) (x : EV) : Prop :=
  v0 = .string (bs x.e.kind) ∧ IsIs W x.vn x.e.n ∧ IsTexts W x.vt (x.e.texts.map bs) ∧ x.e.kind.length ≤ maxLen ∧ x.e.n.length ≤ maxLen ∧ x.e.texts.length ≤ maxLen ∧ ∀ n ∈ x.e.n, Fit n
set_option maxRecDepth 100000 in
/-- An entry's three cells. -/
theorem entry3 {H : Type} {enc : TypeId × Value → H} {W : World} {fuel : Nat} {cs : List Value} {x : DataW H × List MemPlace} (h : DataW.trod enc Tryd.prog W 0 (fun _ => true) true fuel 25 cs = some x) :
    ∃ (v0 : Value) (q : EV), cs = [v0, q.vn, q.vt] ∧ Came W v0 q := by
  obtain ⟨xs, n', hn', hxy, hcl, hxl, hf⟩ := DataW.trod_struct Tryd.underlying25 h
  rw [cells3] at hcl
  match xs, hxl, cs, hcl with
  | [y0, y1, y2], _, [v0, v1, v2], _ =>
    have g0 := hf 0 _ rfl
    have g1 := hf 1 _ rfl
    have g2 := hf 2 _ rfl
    simp [cells1s, cells1is, cells1ss] at g0 g1 g2
    obtain ⟨s, e0, _, hs⟩ := DataW.trod_string Tryd.underlying9 g0
    simp only [List.cons.injEq, and_true] at e0
    subst e0
    obtain ⟨ns, hn, hnl, hfit⟩ := ints g1
    obtain ⟨ts, ht, htl⟩ := texts g2
    exact ⟨.string s, ⟨⟨s.data.toList, ns, ts⟩, v1, v2⟩, rfl, by rw [bs_of], hn, ht, hs, hnl, htl, hfit⟩
set_option maxRecDepth 100000 in
theorem open_ents {H : Type} {enc : TypeId × Value → H} {W : World} {base : Nat} {d : DataW H} {p : List MemPlace} {v : Value} (hv : Value.okWide Tryd.prog W .any base 36 v) (h : DataW.Trod enc Tryd.prog W 0 (fun _ => true) true 36 v d p) :
    ∃ l : List EV, IsEnts W v l ∧ l.length ≤ maxLen ∧ (∀ x ∈ l, ∀ n ∈ x.e.n, Fit n) ∧ (∀ x ∈ l, x.e.kind.length ≤ maxLen ∧ x.e.n.length ≤ maxLen ∧ x.e.texts.length ≤ maxLen) := by
  obtain ⟨a0, len0, cap0, rfl⟩ := okWide_slice Tryd.underlying36 hv
  obtain ⟨fuel, hf⟩ := h
  rcases DataW.trod_slice Tryd.underlying36 hf with ⟨h0, _⟩ | ⟨a, len, cap, elems, rest, n, hfu, hcs, _, hb, hl, hm, hlen, hel, _, _⟩
  · simp [Value.cells] at h0
    obtain ⟨rfl, rfl, rfl⟩ := h0
    exact ⟨[], ⟨none, 0, rfl, fun i hi => absurd hi (by simp)⟩, by simp, (fun x hx => (by cases hx)), (fun x hx => (by cases hx))⟩
  · simp [Value.cells] at hcs
    obtain ⟨rfl, rfl, rfl⟩ := hcs
    have each : ∀ i, i < len0 → ∃ q : Value × EV, (W.cell? (a.add (i * 3)) = some q.1 ∧ W.cell? (a.add (i * 3 + 1)) = some q.2.vn ∧ W.cell? (a.add (i * 3 + 2)) = some q.2.vt) ∧ Came W q.1 q.2 := by
      intro i hi
      have key := hel i hi
      rw [List.getElem?_eq_getElem (by omega)] at key
      obtain ⟨cs', h1, h2⟩ := Option.bind_eq_some_iff.1 key
      rw [cells3] at h1
      obtain ⟨_, hcl, hcell⟩ := World.cells?_some h1
      obtain ⟨v0, q, rfl, hq⟩ := entry3 h2
      have c0 := hcell 0 (by omega)
      have c1 := hcell 1 (by omega)
      have c2 := hcell 2 (by omega)
      rw [add_add] at c0 c1 c2
      exact ⟨(v0, q), ⟨by simpa using c0, by simpa using c1, by simpa using c2⟩, hq⟩
    haveI : Inhabited (Value × EV) := ⟨(.bool false, ⟨⟨[], [], []⟩, .bool false, .bool false⟩)⟩
    obtain ⟨q, hq⟩ := choose_lt each
    have hspot : 0 < len0 → a.spot = none := fun hpos => by
      have h1 := World.cell?_spot (hq 0 hpos).1.1
      simpa [Addr.add] using h1
    obtain ⟨b, off, spot⟩ := a
    have mem : ∀ x ∈ (List.range len0).map (fun i => (q i).2), ∃ v0, Came W v0 x := fun x hx => by
      rw [List.mem_map] at hx
      obtain ⟨i, hi, rfl⟩ := hx
      exact ⟨_, (hq i (by simpa using hi)).2⟩
    refine ⟨(List.range len0).map fun i => (q i).2, ⟨some ⟨b, off, spot⟩, cap0, by simp, fun i hi => ?_⟩, by simp; omega, fun x hx n hn => ?_, fun x hx => ?_⟩
    · have hi' : i < len0 := by simpa using hi
      have hs := hspot (by omega)
      simp only at hs
      subst hs
      obtain ⟨⟨c0, c1, c2⟩, h0, h1, h2, _⟩ := hq i hi'
      simp only [none_add] at c0 c1 c2
      refine ⟨b, off, rfl, ?_⟩
      simp only [List.getElem_map, List.getElem_range]
      rw [h0] at c0
      exact ⟨c0, c1, c2, h1, h2⟩
    · obtain ⟨v0, hc⟩ := mem x hx
      exact hc.2.2.2.2.2.2 n hn
    · obtain ⟨v0, hc⟩ := mem x hx
      exact ⟨hc.2.2.2.1, hc.2.2.2.2.1, hc.2.2.2.2.2.1⟩
set_option maxRecDepth 100000 in
/-- An entry that came in as it is. -/
theorem entry {H : Type} {enc : TypeId × Value → H} {W : World} {base : Nat} {d : DataW H} {p : List MemPlace} {v : Value} (hv : Value.okWide Tryd.prog W .any base 25 v) (h : DataW.Trod enc Tryd.prog W 0 (fun _ => true) true 25 v d p) :
    ∃ x : EV, v = .agg #[.string (bs x.e.kind), x.vn, x.vt] ∧ Came W (.string (bs x.e.kind)) x := by
  obtain ⟨cs, rfl, _⟩ := okWide_struct Tryd.underlying25 hv
  obtain ⟨fuel, hf⟩ := h
  obtain ⟨v0, q, e, hq⟩ := entry3 hf
  have e0 := hq.1
  subst e0
  refine ⟨q, ?_, hq⟩
  have e2 : (Value.agg cs).cells.toList = cs.toList := rfl
  rw [e2] at e
  cases cs
  simp_all
end OpenN
end Go.Proofs.YtifbjngkdifenaaDoor
