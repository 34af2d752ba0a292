/- A job, as it was handed in, opened: what it holds. -/
import Derived.Test.YtfjpgjkfmcedoaaGreatDoorG7
import Derived.Test.YtfjpgjkfmcedoaaGreatDoorG8
namespace Go.Proofs.YtfjpgjkfmcedoaaGreatDoor
open Go.ChangeShapes Go.WideShapes Go.ChangeAt Go.RowKit Go.Deep
namespace OpenJ
open OpenE
theorem cells15 : Tryz.prog.cellsOf 46 = 15 := by kernel_rfl
theorem cellsJ : Tryz.prog.cellsOf 24 = 4 := by kernel_rfl
theorem cells1b : Tryz.prog.cellsOf 4 = 1 := by kernel_rfl
theorem cells1r : Tryz.prog.cellsOf 22 = 1 := by kernel_rfl
theorem fitL_of {l : List Ex} (h : ∀ (i : Nat) x, l[i]? = some x → x.fit) : Ex.fit.fitL l := by
  induction l with
  | nil => trivial
  | cons y l ih => exact ⟨h 0 y rfl, ih fun i x hx => h (i + 1) x (by simpa using hx)⟩
set_option maxRecDepth 100000 in
theorem kidsF {H : Type} {enc : TypeId × Value → H} {W : World} : ∀ (fuel : Nat) (sv : Value) (x : DataW H × List MemPlace), DataW.trod enc Tryz.prog W 0 (fun _ => true) true fuel 42 [sv] = some x →
    ∃ l : List Ex, Ex.wt.wtL l + 1 ≤ Rows.uptoBulk x.1 ∧ (∀ k n s, IsEx W sv (.mk k n s l)) ∧ Ex.fit.fitL l := by
  intro fuel
  induction fuel using Nat.strongRecOn with
  | ind fuel ih =>
    intro sv x h
    rcases DataW.trod_slice Tryz.underlying42 h with ⟨h0, rfl⟩ | ⟨a, len, cap, elems, rest, n, hfu, hcs, rfl, hb, hl, hm, hlen, hel, _, _⟩
    · simp only [List.cons.injEq, and_true] at h0
      subst h0
      exact ⟨[], by simp [Ex.wt.wtL, Rows.uptoBulk], fun k n s => IsEx.mk k n s none 0 [] 0 0 (fun _ => undef) (fun h => absurd h (by simp)) (fun i x hx => by simp at hx) (fun i x hx => by simp at hx), trivial⟩
    · simp only [List.cons.injEq, and_true] at hcs
      subst hcs
      have each : ∀ i, i < len → ∃ q : Ex × Value, (W.cell? (a.add (i * 4)) = some (.int .i64 q.1.k) ∧ W.cell? (a.add (i * 4 + 1)) = some (.int .i64 q.1.n) ∧ W.cell? (a.add (i * 4 + 2)) = some (.string (bs q.1.s)) ∧ W.cell? (a.add (i * 4 + 3)) = some q.2) ∧ IsEx W q.2 q.1 ∧ (∀ d, elems[i]? = some d → q.1.wt ≤ Rows.uptoBulk d.1) ∧ q.1.fit := by
        intro i hi
        have key := hel i hi
        rw [List.getElem?_eq_getElem (by omega)] at key
        obtain ⟨cs', h1, h2⟩ := Option.bind_eq_some_iff.1 key
        rw [cells4] at h1
        obtain ⟨_, hcl, hcell⟩ := World.cells?_some h1
        obtain ⟨xs, n', hn', hxy, _, hxl, hf⟩ := DataW.trod_struct Tryz.underlying44 h2
        match xs, hxl, cs', hcl with
        | [y0, y1, y2, y3], _, [v0, v1, v2, v3], _ =>
          have g0 := hf 0 _ rfl
          have g1 := hf 1 _ rfl
          have g2 := hf 2 _ rfl
          have g3 := hf 3 _ rfl
          simp [cells1s, cells1i, cells1l] at g0 g1 g2 g3
          obtain ⟨k, e0, rfl, _⟩ := DataW.trod_int Tryz.underlying3 g0
          obtain ⟨m, e1, rfl, hwm⟩ := DataW.trod_int Tryz.underlying3 g1
          obtain ⟨s, e2, rfl, _⟩ := DataW.trod_string Tryz.underlying9 g2
          simp only [List.cons.injEq, and_true] at e0 e1 e2
          subst e0 e1 e2
          obtain ⟨l, hw, hI, hF⟩ := ih n' (by omega) v3 y3 g3
          have bd := bounds_i64 hwm
          have c0 := hcell 0 (by omega)
          have c1 := hcell 1 (by omega)
          have c2 := hcell 2 (by omega)
          have c3 := hcell 3 (by omega)
          rw [add_add] at c0 c1 c2 c3
          refine ⟨(.mk k m s.data.toList l, v3), ⟨by simpa [Ex.k] using c0, by simpa [Ex.n] using c1, by simpa [Ex.s, bs_of] using c2, by simpa using c3⟩, hI _ _ _, ?_, by simp only [Ex.fit]; exact ⟨⟨bd.1, bd.2⟩, hF⟩⟩
          intro d hd
          rw [List.getElem?_eq_getElem (by omega), Option.some.injEq] at hd
          rw [← hd]
          rw [hxy]
          simp only [List.map_cons, List.map_nil, Rows.uptoBulk, Rows.uptoBulkAll, Ex.wt]
          omega
      haveI : Inhabited (Ex × Value) := ⟨(.mk 0 0 [] [], undef)⟩
      obtain ⟨q, hq⟩ := choose_lt each
      refine ⟨(List.range len).map fun i => (q i).1, ?_, fun k n s => ?_, fitL_of fun i x hx => ?_⟩
      · have := wtL_bulk ((List.range len).map fun i => (q i).1) (elems.map (·.1)) (by simp [hlen]) (fun i x d hx hd => by
          simp only [List.getElem?_map] at hx hd
          cases he : elems[i]? with
          | none => rw [he] at hd; simp at hd
          | some d0 =>
            rw [he] at hd
            have hi : i < len := by rw [← hlen]; exact (List.getElem?_eq_some_iff.1 he).1
            rw [List.getElem?_range hi] at hx
            simp at hx hd
            subst hx hd
            exact (hq i hi).2.2.1 d0 he)
        simp only [Rows.uptoBulk]
        omega
      · have hspot : 0 < len → a.spot = none := fun hpos => by
          have h1 := World.cell?_spot (hq 0 hpos).1.1
          simpa [Addr.add] using h1
        obtain ⟨b, off, spot⟩ := a
        have e := IsEx.mk (w := W) k n s (some ⟨b, off, spot⟩) cap ((List.range len).map fun i => (q i).1) b off (fun i => (q i).2)
          (fun hpos => by have hs := hspot (by simpa using hpos); simp only at hs; rw [hs])
          (fun i x hx => by
            have hi : i < len := by have := (List.getElem?_eq_some_iff.1 hx).1; simpa using this
            rw [List.getElem?_map, List.getElem?_range hi] at hx
            simp at hx
            subst hx
            obtain ⟨c0, c1, c2, c3⟩ := (hq i hi).1
            have hs := hspot (by omega)
            simp only at hs
            subst hs
            rw [none_add] at c0 c1 c2 c3
            exact ⟨c0, c1, c2, c3⟩)
          (fun i x hx => by
            have hi : i < len := by have := (List.getElem?_eq_some_iff.1 hx).1; simpa using this
            rw [List.getElem?_map, List.getElem?_range hi] at hx
            simp at hx
            subst hx
            exact (hq i hi).2.1)
        rw [List.length_map, List.length_range] at e
        exact e
      · have hi : i < len := by have := (List.getElem?_eq_some_iff.1 hx).1; simpa using this
        rw [List.getElem?_map, List.getElem?_range hi] at hx
        simp at hx
        subst hx
        exact (hq i hi).2.2.2
/-- An expression's four cells. -/
theorem expr4 {H : Type} {enc : TypeId × Value → H} {W : World} {fuel : Nat} {v0 v1 v2 v3 : Value} {x : DataW H × List MemPlace} (h : DataW.trod enc Tryz.prog W 0 (fun _ => true) true fuel 44 [v0, v1, v2, v3] = some x) :
    ∃ e : Ex, v0 = .int .i64 e.k ∧ v1 = .int .i64 e.n ∧ v2 = .string (bs e.s) ∧ IsEx W v3 e ∧ e.wt ≤ Rows.uptoBulk x.1 ∧ e.fit := by
  obtain ⟨xs, n', hn', hxy, _, hxl, hf⟩ := DataW.trod_struct Tryz.underlying44 h
  match xs, hxl with
  | [y0, y1, y2, y3], _ =>
    have g0 := hf 0 _ rfl
    have g1 := hf 1 _ rfl
    have g2 := hf 2 _ rfl
    have g3 := hf 3 _ rfl
    simp [cells1s, cells1i, cells1l] at g0 g1 g2 g3
    obtain ⟨k, e0, rfl, _⟩ := DataW.trod_int Tryz.underlying3 g0
    obtain ⟨m, e1, rfl, hwm⟩ := DataW.trod_int Tryz.underlying3 g1
    obtain ⟨s, e2, rfl, _⟩ := DataW.trod_string Tryz.underlying9 g2
    simp only [List.cons.injEq, and_true] at e0 e1 e2
    subst e0 e1 e2
    obtain ⟨l, hw, hI, hF⟩ := kidsF n' v3 y3 g3
    have bd := bounds_i64 hwm
    refine ⟨.mk k m s.data.toList l, rfl, rfl, by simp [Ex.s, bs_of], hI _ _ _, ?_, by simp only [Ex.fit]; exact ⟨⟨bd.1, bd.2⟩, hF⟩⟩
    rw [hxy]
    simp only [List.map_cons, List.map_nil, Rows.uptoBulk, Rows.uptoBulkAll, Ex.wt]
    omega
theorem rulesWt_bulk {H : Type} : ∀ (l : List Rl) (E : List (DataW H)), l.length = E.length → (∀ (i : Nat) (x : Rl) (d : DataW H), l[i]? = some x → E[i]? = some d → x.wt ≤ Rows.uptoBulk d) → rulesWt l ≤ Rows.uptoBulkAll E
  | [], [], _, _ => by simp [rulesWt, Rows.uptoBulkAll]
  | x :: l, d :: E, hl, h => by
    have h0 := h 0 x d rfl rfl
    have h1 := rulesWt_bulk l E (by simpa using hl) (fun i y e hy he => h (i + 1) y e (by simpa using hy) (by simpa using he))
    unfold rulesWt at h1 ⊢
    simp only [List.map_cons, List.sum_cons, Rows.uptoBulkAll]
    omega
set_option maxRecDepth 100000 in
theorem rules {H : Type} {enc : TypeId × Value → H} {W : World} (fuel : Nat) (sv : Value) (x : DataW H × List MemPlace) (h : DataW.trod enc Tryz.prog W 0 (fun _ => true) true fuel 22 [sv] = some x) :
    ∃ l : List Rl, rulesWt l ≤ Rows.uptoBulk x.1 ∧ IsRules W sv l ∧ ∀ (i : Nat) r, l[i]? = some r → r.fit := by
  rcases DataW.trod_slice Tryz.underlying22 h with ⟨h0, rfl⟩ | ⟨a, len, cap, elems, rest, n, hfu, hcs, rfl, hb, hl, hm, hlen, hel, _, _⟩
  · simp only [List.cons.injEq, and_true] at h0
    subst h0
    exact ⟨[], by simp [rulesWt], ⟨none, 0, 0, 0, fun _ => undef, fun _ => undef, fun _ => undef, rfl, fun h => absurd h (by simp), fun i x hx => by simp at hx⟩, fun i r hx => by simp at hx⟩
  · simp only [List.cons.injEq, and_true] at hcs
    subst hcs
    have each : ∀ i, i < len → ∃ q : Rl × Value × Value × Value, (W.cell? (a.add (i * 15)) = some (.bool q.1.each) ∧ W.cell? (a.add (i * 15 + 1)) = some (.int .i64 q.1.when) ∧ W.cell? (a.add (i * 15 + 2)) = some (.int .i64 q.1.iff.k) ∧ W.cell? (a.add (i * 15 + 3)) = some (.int .i64 q.1.iff.n) ∧ W.cell? (a.add (i * 15 + 4)) = some (.string (bs q.1.iff.s)) ∧ W.cell? (a.add (i * 15 + 5)) = some q.2.1 ∧ W.cell? (a.add (i * 15 + 6)) = some (.string (bs q.1.s)) ∧ W.cell? (a.add (i * 15 + 7)) = some (.int .i64 q.1.key.k) ∧ W.cell? (a.add (i * 15 + 8)) = some (.int .i64 q.1.key.n) ∧ W.cell? (a.add (i * 15 + 9)) = some (.string (bs q.1.key.s)) ∧ W.cell? (a.add (i * 15 + 10)) = some q.2.2.1 ∧ W.cell? (a.add (i * 15 + 11)) = some (.int .i64 q.1.val.k) ∧ W.cell? (a.add (i * 15 + 12)) = some (.int .i64 q.1.val.n) ∧ W.cell? (a.add (i * 15 + 13)) = some (.string (bs q.1.val.s)) ∧ W.cell? (a.add (i * 15 + 14)) = some q.2.2.2) ∧ (IsEx W q.2.1 q.1.iff ∧ IsEx W q.2.2.1 q.1.key ∧ IsEx W q.2.2.2 q.1.val) ∧ (∀ d, elems[i]? = some d → q.1.wt ≤ Rows.uptoBulk d.1) ∧ q.1.fit := by
      intro i hi
      have key := hel i hi
      rw [List.getElem?_eq_getElem (by omega)] at key
      obtain ⟨cs', h1, h2⟩ := Option.bind_eq_some_iff.1 key
      rw [cells15] at h1
      obtain ⟨_, hcl, hcell⟩ := World.cells?_some h1
      obtain ⟨xs, n', hn', hxy, _, hxl, hf⟩ := DataW.trod_struct Tryz.underlying46 h2
      match xs, hxl, cs', hcl with
      | [y0, y1, y2, y3, y4, y5], _, [v0, v1, v2, v3, v4, v5, v6, v7, v8, v9, v10, v11, v12, v13, v14], _ =>
        have g0 := hf 0 _ rfl
        have g1 := hf 1 _ rfl
        have g2 := hf 2 _ rfl
        have g3 := hf 3 _ rfl
        have g4 := hf 4 _ rfl
        have g5 := hf 5 _ rfl
        simp [cells1s, cells1i, cells1b, cells4] at g0 g1 g2 g3 g4 g5
        obtain ⟨b0, e0, rfl⟩ := DataW.trod_bool Tryz.underlying4 g0
        obtain ⟨m1, e1, rfl, _⟩ := DataW.trod_int Tryz.underlying3 g1
        obtain ⟨s3, e3, rfl, _⟩ := DataW.trod_string Tryz.underlying9 g3
        simp only [List.cons.injEq, and_true] at e0 e1 e3
        subst e0 e1 e3
        obtain ⟨ei, rfl, rfl, rfl, xi, wi, fi⟩ := expr4 g2
        obtain ⟨ek, rfl, rfl, rfl, xk, wk, fk⟩ := expr4 g4
        obtain ⟨ev, rfl, rfl, rfl, xv, wv, fv⟩ := expr4 g5
        have c0 := hcell 0 (by omega)
        have c1 := hcell 1 (by omega)
        have c2 := hcell 2 (by omega)
        have c3 := hcell 3 (by omega)
        have c4 := hcell 4 (by omega)
        have c5 := hcell 5 (by omega)
        have c6 := hcell 6 (by omega)
        have c7 := hcell 7 (by omega)
        have c8 := hcell 8 (by omega)
        have c9 := hcell 9 (by omega)
        have c10 := hcell 10 (by omega)
        have c11 := hcell 11 (by omega)
        have c12 := hcell 12 (by omega)
        have c13 := hcell 13 (by omega)
        have c14 := hcell 14 (by omega)
        rw [add_add] at c0 c1 c2 c3 c4 c5 c6 c7 c8 c9 c10 c11 c12 c13 c14
        refine ⟨(⟨b0, m1, ei, s3.data.toList, ek, ev⟩, v5, v10, v14), ⟨by simpa using c0, by simpa using c1, by simpa using c2, by simpa using c3, by simpa using c4, by simpa using c5, by simpa [bs_of] using c6, by simpa using c7, by simpa using c8, by simpa using c9, by simpa using c10, by simpa using c11, by simpa using c12, by simpa using c13, by simpa using c14⟩, ⟨xi, xk, xv⟩, ?_, ⟨fi, fk, fv⟩⟩
        intro d hd
        rw [List.getElem?_eq_getElem (by omega), Option.some.injEq] at hd
        rw [← hd]
        rw [hxy]
        simp only [List.map_cons, List.map_nil, Rows.uptoBulk, Rows.uptoBulkAll, Rl.wt]
        omega
    haveI : Inhabited (Rl × Value × Value × Value) := ⟨(⟨false, 0, .mk 0 0 [] [], [], .mk 0 0 [] [], .mk 0 0 [] []⟩, undef, undef, undef)⟩
    obtain ⟨q, hq⟩ := choose_lt each
    refine ⟨(List.range len).map fun i => (q i).1, ?_, ?_, fun i r hx => ?_⟩
    · have := rulesWt_bulk ((List.range len).map fun i => (q i).1) (elems.map (·.1)) (by simp [hlen]) (fun i x d hx hd => by
        simp only [List.getElem?_map] at hx hd
        cases he : elems[i]? with
        | none => rw [he] at hd; simp at hd
        | some d0 =>
          rw [he] at hd
          have hi : i < len := by rw [← hlen]; exact (List.getElem?_eq_some_iff.1 he).1
          rw [List.getElem?_range hi] at hx
          simp at hx hd
          subst hx hd
          exact (hq i hi).2.2.1 d0 he)
      simp only [Rows.uptoBulk]
      omega
    · have hspot : 0 < len → a.spot = none := fun hpos => by
        have h1 := World.cell?_spot (hq 0 hpos).1.1
        simpa [Addr.add] using h1
      obtain ⟨b, off, spot⟩ := a
      refine ⟨some ⟨b, off, spot⟩, cap, b, off, fun i => (q i).2.1, fun i => (q i).2.2.1, fun i => (q i).2.2.2, by simp, fun hpos => ?_, fun i x hx => ?_⟩
      · have hs := hspot (by simpa using hpos)
        simp only at hs
        rw [hs]
      · have hi : i < len := by have := (List.getElem?_eq_some_iff.1 hx).1; simpa using this
        rw [List.getElem?_map, List.getElem?_range hi] at hx
        simp at hx
        subst hx
        have hs := hspot (by omega)
        simp only at hs
        subst hs
        have hc := (hq i hi).1
        simp only [none_add, Nat.add_assoc] at hc ⊢
        exact ⟨hc, (hq i hi).2.1⟩
    · have hi : i < len := by have := (List.getElem?_eq_some_iff.1 hx).1; simpa using this
      rw [List.getElem?_map, List.getElem?_range hi] at hx
      simp at hx
      subst hx
      exact (hq i hi).2.2.2
set_option maxRecDepth 100000 in
theorem job {H : Type} {enc : TypeId × Value → H} {W : World} {base : Nat} {d : DataW H} {p : List MemPlace} {v : Value} (hv : Value.okWide Tryz.prog W .any base 24 v) (h : DataW.Trod enc Tryz.prog W 0 (fun _ => true) true 24 v d p) :
    ∃ (j : Jb) (rv : Value), v = j.value rv ∧ IsRules W rv j.rules ∧ rulesWt j.rules ≤ Rows.uptoBulk d ∧ ∀ (i : Nat) r, j.rules[i]? = some r → r.fit := by
  obtain ⟨v0, v1, v2, v3, y0, y1, y2, y3, n, rfl, rfl, _, g0, g1, g2, g3⟩ := Joins.open_agg4 Tryz.underlying24 (by kernel_rfl) cellsJ hv h
  obtain ⟨fo, e1, rfl, _⟩ := DataW.trod_int Tryz.underlying3 g1
  obtain ⟨ea, e2, rfl⟩ := DataW.trod_bool Tryz.underlying4 g2
  obtain ⟨sl, e3, rfl, _⟩ := DataW.trod_int Tryz.underlying3 g3
  simp only [List.cons.injEq, and_true] at e1 e2 e3
  subst e1 e2 e3
  obtain ⟨l, hw, hI, hF⟩ := rules n v0 y0 g0
  refine ⟨⟨l, fo, ea, sl⟩, v0, rfl, hI, ?_, hF⟩
  simp only [Rows.uptoBulk, Rows.uptoBulkAll]
  omega
end OpenJ
end Go.Proofs.YtfjpgjkfmcedoaaGreatDoor
