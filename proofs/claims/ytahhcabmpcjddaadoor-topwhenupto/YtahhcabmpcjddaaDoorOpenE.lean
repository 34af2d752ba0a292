/- An expression, as it was handed in, opened: what it holds. -/
import Derived.Test.YtahhcabmpcjddaaDoorEx
import Derived.OpenShut
import Derived.ShutString
import Derived.ChangeOld
import Derived.Lib.SmallJoins
import Derived.Deep.SlicePairs
namespace Go.Proofs.YtahhcabmpcjddaaDoor
open Go.ChangeShapes Go.WideShapes Go.ChangeAt Go.RowKit Go.Deep
namespace OpenE
theorem one_le {H : Type} (d : DataW H) : 1 ≤ Rows.uptoBulk d := by
  cases d with
  | lit l => cases l <;> simp [Rows.uptoBulk]
  | nil => simp [Rows.uptoBulk]
  | ptr d => simp [Rows.uptoBulk]
  | slice elems spare => simp [Rows.uptoBulk]
  | agg parts => simp [Rows.uptoBulk]
  | iface t d => simp [Rows.uptoBulk]
  | map entries => simp [Rows.uptoBulk]
  | held h => simp [Rows.uptoBulk]
theorem all_append {H : Type} (l r : List (DataW H)) : Rows.uptoBulkAll (l ++ r) = Rows.uptoBulkAll l + Rows.uptoBulkAll r := by
  induction l with
  | nil => simp [Rows.uptoBulkAll]
  | cons x l ih => simp only [List.cons_append, Rows.uptoBulkAll, ih]; omega
theorem wtL_bulk {H : Type} : ∀ (l : List Ex) (E : List (DataW H)), l.length = E.length → (∀ (i : Nat) (x : Ex) (d : DataW H), l[i]? = some x → E[i]? = some d → x.wt ≤ Rows.uptoBulk d) → Ex.wt.wtL l ≤ Rows.uptoBulkAll E
  | [], [], _, _ => by simp [Ex.wt.wtL, Rows.uptoBulkAll]
  | x :: l, d :: E, hl, h => by
    have h0 := h 0 x d rfl rfl
    have h1 := wtL_bulk l E (by simpa using hl) (fun i y e hy he => h (i + 1) y e (by simpa using hy) (by simpa using he))
    simp only [Ex.wt.wtL, Rows.uptoBulkAll]
    omega
theorem cells4 : Tryd.prog.cellsOf 48 = 4 := by kernel_rfl
theorem cells1s : Tryd.prog.cellsOf 9 = 1 := by kernel_rfl
theorem cells1i : Tryd.prog.cellsOf 3 = 1 := by kernel_rfl
theorem cells1l : Tryd.prog.cellsOf 46 = 1 := by kernel_rfl
theorem none_add (b off j : Nat) : (⟨b, off, none⟩ : Addr).add j = ⟨b, off + j, none⟩ := by
  unfold Addr.add
  split
  · rename_i h; subst h; rfl
  · rfl
set_option maxRecDepth 100000 in
theorem kids {H : Type} {enc : TypeId × Value → H} {W : World} : ∀ (fuel : Nat) (sv : Value) (x : DataW H × List MemPlace), DataW.trod enc Tryd.prog W 0 (fun _ => true) true fuel 46 [sv] = some x →
    ∃ l : List Ex, Ex.wt.wtL l + 1 ≤ Rows.uptoBulk x.1 ∧ ∀ k n s, IsEx W sv (.mk k n s l) := by
  intro fuel
  induction fuel using Nat.strongRecOn with
  | ind fuel ih =>
    intro sv x h
    rcases DataW.trod_slice Tryd.underlying46 h with ⟨h0, rfl⟩ | ⟨a, len, cap, elems, rest, n, hfu, hcs, rfl, hb, hl, hm, hlen, hel, _, _⟩
    · simp only [List.cons.injEq, and_true] at h0
      subst h0
      exact ⟨[], by simp [Ex.wt.wtL, Rows.uptoBulk], fun k n s => IsEx.mk k n s none 0 [] 0 0 (fun _ => undef) (fun h => absurd h (by simp)) (fun i x hx => by simp at hx) (fun i x hx => by simp at hx)⟩
    · simp only [List.cons.injEq, and_true] at hcs
      subst hcs
      have each : ∀ i, i < len → ∃ q : Ex × Value, (W.cell? (a.add (i * 4)) = some (.int .i64 q.1.k) ∧ W.cell? (a.add (i * 4 + 1)) = some (.int .i64 q.1.n) ∧ W.cell? (a.add (i * 4 + 2)) = some (.string (bs q.1.s)) ∧ W.cell? (a.add (i * 4 + 3)) = some q.2) ∧ IsEx W q.2 q.1 ∧ ∀ d, elems[i]? = some d → q.1.wt ≤ Rows.uptoBulk d.1 := by
        intro i hi
        have key := hel i hi
        rw [List.getElem?_eq_getElem (by omega)] at key
        obtain ⟨cs', h1, h2⟩ := Option.bind_eq_some_iff.1 key
        rw [cells4] at h1
        obtain ⟨_, hcl, hcell⟩ := World.cells?_some h1
        obtain ⟨xs, n', hn', hxy, _, hxl, hf⟩ := DataW.trod_struct Tryd.underlying48 h2
        match xs, hxl, cs', hcl with
        | [y0, y1, y2, y3], _, [v0, v1, v2, v3], _ =>
          have g0 := hf 0 _ rfl
          have g1 := hf 1 _ rfl
          have g2 := hf 2 _ rfl
          have g3 := hf 3 _ rfl
          simp [cells1s, cells1i, cells1l] at g0 g1 g2 g3
          obtain ⟨k, e0, rfl, _⟩ := DataW.trod_int Tryd.underlying3 g0
          obtain ⟨m, e1, rfl, _⟩ := DataW.trod_int Tryd.underlying3 g1
          obtain ⟨s, e2, rfl, _⟩ := DataW.trod_string Tryd.underlying9 g2
          simp only [List.cons.injEq, and_true] at e0 e1 e2
          subst e0 e1 e2
          obtain ⟨l, hw, hI⟩ := ih n' (by omega) v3 y3 g3
          have c0 := hcell 0 (by omega)
          have c1 := hcell 1 (by omega)
          have c2 := hcell 2 (by omega)
          have c3 := hcell 3 (by omega)
          rw [add_add] at c0 c1 c2 c3
          refine ⟨(.mk k m s.data.toList l, v3), ⟨by simpa [Ex.k] using c0, by simpa [Ex.n] using c1, by simpa [Ex.s, bs_of] using c2, by simpa using c3⟩, hI _ _ _, ?_⟩
          intro d hd
          rw [List.getElem?_eq_getElem (by omega), Option.some.injEq] at hd
          rw [← hd]
          rw [hxy]
          simp only [List.map_cons, List.map_nil, Rows.uptoBulk, Rows.uptoBulkAll, Ex.wt]
          omega
      haveI : Inhabited (Ex × Value) := ⟨(.mk 0 0 [] [], undef)⟩
      obtain ⟨q, hq⟩ := choose_lt each
      refine ⟨(List.range len).map fun i => (q i).1, ?_, fun k n s => ?_⟩
      · have := wtL_bulk ((List.range len).map fun i => (q i).1) (elems.map (·.1)) (by simp [hlen]) (fun i x d hx hd => by
          simp only [List.getElem?_map] at hx hd
          cases he : elems[i]? with
          | none => rw [he] at hd; simp at hd
          | some d0 =>
            rw [he] at hd
            have hi : i < len := by rw [← hlen]; exact (List.getElem?_eq_some_iff.1 he).1
            rw [List.getElem?_range hi] at hx
            simp at hx hd
            subst hx hd
            exact (hq i hi).2.2 d0 he)
        simp only [Rows.uptoBulk]
        omega
      · have hspot : 0 < len → a.spot = none := fun hpos => by
          have h1 := World.cell?_spot (hq 0 hpos).1.1
          simpa [Addr.add] using h1
        obtain ⟨b, off, spot⟩ := a
        have e := IsEx.mk (w := W) k n s (some ⟨b, off, spot⟩) cap ((List.range len).map fun i => (q i).1) b off (fun i => (q i).2)
          (fun hpos => by have hs := hspot (by simpa using hpos); simp only at hs; rw [hs])
          (fun i x hx => by
            have hi : i < len := by have := (List.getElem?_eq_some_iff.1 hx).1; simpa using this
            rw [List.getElem?_map, List.getElem?_range hi] at hx
            simp at hx
            subst hx
            obtain ⟨c0, c1, c2, c3⟩ := (hq i hi).1
            have hs := hspot (by omega)
            simp only at hs
            subst hs
            rw [none_add] at c0 c1 c2 c3
            exact ⟨c0, c1, c2, c3⟩)
          (fun i x hx => by
            have hi : i < len := by have := (List.getElem?_eq_some_iff.1 hx).1; simpa using this
            rw [List.getElem?_map, List.getElem?_range hi] at hx
            simp at hx
            subst hx
            exact (hq i hi).2.1)
        rw [List.length_map, List.length_range] at e
        exact e
set_option maxRecDepth 100000 in
theorem expr {H : Type} {enc : TypeId × Value → H} {W : World} {base : Nat} {d : DataW H} {p : List MemPlace} {v : Value} (hv : Value.okWide Tryd.prog W .any base 48 v) (h : DataW.Trod enc Tryd.prog W 0 (fun _ => true) true 48 v d p) :
    ∃ (e : Ex) (sv : Value), v = e.val sv ∧ IsEx W sv e ∧ e.wt ≤ Rows.uptoBulk d := by
  obtain ⟨v0, v1, v2, v3, y0, y1, y2, y3, n, rfl, rfl, _, g0, g1, g2, g3⟩ := Joins.open_agg4 Tryd.underlying48 (by kernel_rfl) cells4 hv h
  obtain ⟨k, e0, rfl, _⟩ := DataW.trod_int Tryd.underlying3 g0
  obtain ⟨m, e1, rfl, _⟩ := DataW.trod_int Tryd.underlying3 g1
  obtain ⟨s, e2, rfl, _⟩ := DataW.trod_string Tryd.underlying9 g2
  simp only [List.cons.injEq, and_true] at e0 e1 e2
  subst e0 e1 e2
  obtain ⟨l, hw, hI⟩ := kids n v3 y3 g3
  refine ⟨.mk k m s.data.toList l, v3, by simp [Ex.val, Ex.k, Ex.n, Ex.s, bs_of], hI _ _ _, ?_⟩
  simp only [Rows.uptoBulk, Rows.uptoBulkAll, Ex.wt]
  omega
end OpenE
end Go.Proofs.YtahhcabmpcjddaaDoor
