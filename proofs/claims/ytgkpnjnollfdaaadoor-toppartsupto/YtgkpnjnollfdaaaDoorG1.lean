/- Put together of LaidE, LaidX, OpenE, OpenR, OpenT, M2, M3, M4, N8a, PpSumK, PpMrgD, N9, PpGrpsO, N10, LtT, M5, X0, N5b, Y0. -/
import Derived.Test.YtgkpnjnollfdaaaDoorCards
import Derived.Test.YtgkpnjnollfdaaaDoorTxt
import Derived.Deep.DeepHandedRow
import Derived.Lib.LaidTab
import Derived.Stop.LaidErr
import Derived.Shelf.Vars
import Derived.Test.YtgkpnjnollfdaaaDoorExM
import Derived.OpenShut
import Derived.Test.YtgkpnjnollfdaaaDoorEx
import Derived.ShutString
import Derived.ChangeOld
import Derived.Lib.SmallJoins
import Derived.Deep.SlicePairs
import Derived.Test.YtgkpnjnollfdaaaDoorJbL
import Derived.Test.YtgkpnjnollfdaaaDoorM1
import Derived.Deep.Cut
import Derived.Deep.LoopGhost
import Derived.Test.YtgkpnjnollfdaaaDoorN6
import Derived.Test.YtgkpnjnollfdaaaDoorPpBase
import Derived.Laws.BitsAllLaws
import Derived.Test.YtgkpnjnollfdaaaDoorPpSort
import Derived.Test.YtgkpnjnollfdaaaDoorPpGrps
/- A world in which the listed variables hold what their initialisers lay, for the laws of expressions. -/
namespace Go.Proofs.YtgkpnjnollfdaaaDoor
open Go.ChangeShapes Go.WideShapes Go.ChangeAt Go.RowKit
namespace Laid
def litV : DataW Unit → Value
  | .lit (.int k n) => .int k n
  | .lit (.bool b) => .bool b
  | .lit (.string b) => .string ⟨b.toArray⟩
  | _ => .bool false
def rowOf : DataW Unit → List Value
  | .agg m => m.map litV
  | d => [litV d]
def tabOf : DataW Unit → Array Value
  | .agg l => (l.flatMap rowOf).toArray
  | _ => #[]
def put (w : World) (g : Nat) (cs : Array Value) : World :=
  { w with heap := w.heap.modify g fun
      | .cells _ t frozen => .cells cs t frozen
      | o => o }
theorem env0_of {W : World} (hs : W.ShapedOpen Tryd.prog) : Env0 W :=
  ⟨cell_of_shapedOpen_int (g := 0) (t := 3) (zero := #[.int .i64 0]) (k := .i64) hs (by decide +kernel) (by kernel_rfl) rfl (by kernel_rfl) (by kernel_rfl) Tryd.underlying3⟩
/-- A world with the decoder's tables laid. -/
def laidU (w : World) : World := put (put w 8 (tabOf Rows.laid_unicode_utf8_acceptRanges)) 7 (tabOf Rows.laid_unicode_utf8_first)
end Laid
end Go.Proofs.YtgkpnjnollfdaaaDoor
/- What the rows list of the table of kinds gives, and a world in which it is so. -/
namespace Go.Proofs.YtgkpnjnollfdaaaDoor
open Go.ChangeShapes Go.WideShapes Go.ChangeAt Go.RowKit
namespace Laid
theorem c5 : Tryd.prog.cellsOf 139 = 5 := by kernel_rfl
theorem ci : Tryd.prog.cellsOf 3 = 1 := by kernel_rfl
theorem cb : Tryd.prog.cellsOf 4 = 1 := by kernel_rfl
def shD (k : Nat) : DataW Unit := .agg [.lit (.int .i64 (lowK k)), .lit (.int .i64 (highK k)), .lit (.int .i64 (bytesK k)), .lit (.int .i64 (partsK k)), .lit (.bool (textsK k))]
theorem shapes_datum : (Rows.laid_threshfloor_expr_shapes : DataW Unit) = .agg ((List.range 11).map shD) := by kernel_rfl
set_option maxRecDepth 100000 in
theorem shape_elem {H : Type} {enc : TypeId × Value → H} {w : World} {base : Nat} {sp : Nat → Bool} {held : Bool} {fuel : Nat} {cs : List Value} {a0 a1 a2 a3 : Int} {a4 : Bool} {p : List MemPlace}
    (h : DataW.trod enc Tryd.prog w base sp held fuel 139 cs = some (.agg [.lit (.int .i64 a0), .lit (.int .i64 a1), .lit (.int .i64 a2), .lit (.int .i64 a3), .lit (.bool a4)], p)) : cs = [.int .i64 a0, .int .i64 a1, .int .i64 a2, .int .i64 a3, .bool a4] := by
  obtain ⟨xs, n', hn', hxy, hcl, hxl, hf⟩ := DataW.trod_struct Tryd.underlying139 h
  rw [c5] at hcl
  match xs, hxl, cs, hcl with
  | [y0, y1, y2, y3, y4], _, [v0, v1, v2, v3, v4], _ =>
    have g0 := hf 0 _ rfl
    have g1 := hf 1 _ rfl
    have g2 := hf 2 _ rfl
    have g3 := hf 3 _ rfl
    have g4 := hf 4 _ rfl
    simp [ci, cb] at g0 g1 g2 g3 g4
    obtain ⟨k0, e0, rfl, _⟩ := DataW.trod_int Tryd.underlying3 g0
    obtain ⟨k1, e1, rfl, _⟩ := DataW.trod_int Tryd.underlying3 g1
    obtain ⟨k2, e2, rfl, _⟩ := DataW.trod_int Tryd.underlying3 g2
    obtain ⟨k3, e3, rfl, _⟩ := DataW.trod_int Tryd.underlying3 g3
    obtain ⟨k4, e4, rfl⟩ := DataW.trod_bool Tryd.underlying4 g4
    simp at hxy e0 e1 e2 e3 e4
    obtain ⟨⟨rfl, rfl, rfl, rfl, rfl⟩, _⟩ := hxy
    rw [e0, e1, e2, e3, e4]
theorem gSh : Tryd.prog.globalNamed "threshfloor/expr.shapes" = some 2 := by kernel_rfl
theorem tSh : (Tryd.prog.globals[2]?).map (·.type) = some 154 := by kernel_rfl
theorem envS_of {W : World} {rest : List (String × DataW Unit)} (hs : W.ShapedOpen Tryd.prog) (h : laidMet Tryd.prog (("threshfloor/expr.shapes", Rows.laid_threshfloor_expr_shapes) :: rest) W) : EnvS W := by
  refine ⟨env0_of hs, ?_⟩
  obtain ⟨ps, ⟨g', t', cs, fuel, p, q, hg', ht', hvar, hd, _, _⟩, _⟩ := h
  obtain rfl := Option.some.inj (gSh.symm.trans hg')
  obtain rfl := Option.some.inj (tSh.symm.trans ht')
  rw [shapes_datum] at hd
  obtain ⟨xs, m, _, ex, hlen, hl, hel⟩ := DataW.trod_array Tryd.underlying154 hd
  intro k hk
  have hx : xs[k]?.map (·.1) = some (shD k) := by
    have h1 : (DataW.agg ((List.range 11).map shD) : DataW Unit) = .agg (xs.map (·.1)) := congrArg Prod.fst ex
    injection h1 with h1
    rw [← List.getElem?_map, ← h1, List.getElem?_map, List.getElem?_range (by omega)]
    rfl
  cases hy : xs[k]? with
  | none => rw [hy] at hx; cases hx
  | some y =>
    rw [hy] at hx
    obtain ⟨yd, yp⟩ := y
    simp only [Option.map_some, Option.some.injEq] at hx
    subst hx
    have he := hel k (by omega)
    rw [hy, c5] at he
    have hc := shape_elem he
    have cell : ∀ j v, [Value.int .i64 (lowK k), .int .i64 (highK k), .int .i64 (bytesK k), .int .i64 (partsK k), .bool (textsK k)][j]? = some v → W.cell? ⟨2, k * 5 + j, none⟩ = some v := by
      intro j v hv
      rw [World.var?_cell gSh hvar (k * 5 + j)]
      rw [← hc] at hv
      have hj : j < 5 := by
        have := (List.getElem?_eq_some_iff.1 hv).1
        simp at this
        omega
      rw [List.getElem?_take, if_pos hj, List.getElem?_drop] at hv
      simpa using hv
    exact ⟨cell 0 _ rfl, cell 1 _ rfl, cell 2 _ rfl, cell 3 _ rfl, cell 4 _ rfl⟩
/-- A world with the decoder's tables and that of kinds laid. -/
def laidX (w : World) : World := put (laidU w) 2 (tabOf Rows.laid_threshfloor_expr_shapes)
end Laid
end Go.Proofs.YtgkpnjnollfdaaaDoor
/- An expression, as it was handed in, opened: what it holds. -/
namespace Go.Proofs.YtgkpnjnollfdaaaDoor
open Go.ChangeShapes Go.WideShapes Go.ChangeAt Go.RowKit Go.Deep
namespace OpenE
theorem one_le {H : Type} (d : DataW H) : 1 ≤ Rows.uptoBulk d := by
  cases d with
  | lit l => cases l <;> simp [Rows.uptoBulk]
  | nil => simp [Rows.uptoBulk]
  | ptr d => simp [Rows.uptoBulk]
  | slice elems spare => simp [Rows.uptoBulk]
  | agg parts => simp [Rows.uptoBulk]
  | iface t d => simp [Rows.uptoBulk]
  | map entries => simp [Rows.uptoBulk]
  | held h => simp [Rows.uptoBulk]
theorem all_append {H : Type} (l r : List (DataW H)) : Rows.uptoBulkAll (l ++ r) = Rows.uptoBulkAll l + Rows.uptoBulkAll r := by
  induction l with
  | nil => simp [Rows.uptoBulkAll]
  | cons x l ih => simp only [List.cons_append, Rows.uptoBulkAll, ih]; omega
theorem wtL_bulk {H : Type} : ∀ (l : List Ex) (E : List (DataW H)), l.length = E.length → (∀ (i : Nat) (x : Ex) (d : DataW H), l[i]? = some x → E[i]? = some d → x.wt ≤ Rows.uptoBulk d) → Ex.wt.wtL l ≤ Rows.uptoBulkAll E
  | [], [], _, _ => by simp [Ex.wt.wtL, Rows.uptoBulkAll]
  | x :: l, d :: E, hl, h => by
    have h0 := h 0 x d rfl rfl
    have h1 := wtL_bulk l E (by simpa using hl) (fun i y e hy he => h (i + 1) y e (by simpa using hy) (by simpa using he))
    simp only [Ex.wt.wtL, Rows.uptoBulkAll]
    omega
theorem cells4 : Tryd.prog.cellsOf 41 = 4 := by kernel_rfl
theorem cells1s : Tryd.prog.cellsOf 9 = 1 := by kernel_rfl
theorem cells1i : Tryd.prog.cellsOf 3 = 1 := by kernel_rfl
theorem cells1l : Tryd.prog.cellsOf 39 = 1 := by kernel_rfl
theorem none_add (b off j : Nat) : (⟨b, off, none⟩ : Addr).add j = ⟨b, off + j, none⟩ := by
  unfold Addr.add
  split
  · rename_i h; subst h; rfl
  · rfl
set_option maxRecDepth 100000 in
theorem kids {H : Type} {enc : TypeId × Value → H} {W : World} : ∀ (fuel : Nat) (sv : Value) (x : DataW H × List MemPlace), DataW.trod enc Tryd.prog W 0 (fun _ => true) true fuel 39 [sv] = some x →
    ∃ l : List Ex, Ex.wt.wtL l + 1 ≤ Rows.uptoBulk x.1 ∧ ∀ k n s, IsEx W sv (.mk k n s l) := by
  intro fuel
  induction fuel using Nat.strongRecOn with
  | ind fuel ih =>
    intro sv x h
    rcases DataW.trod_slice Tryd.underlying39 h with ⟨h0, rfl⟩ | ⟨a, len, cap, elems, rest, n, hfu, hcs, rfl, hb, hl, hm, hlen, hel, _, _⟩
    · simp only [List.cons.injEq, and_true] at h0
      subst h0
      exact ⟨[], by simp [Ex.wt.wtL, Rows.uptoBulk], fun k n s => IsEx.mk k n s none 0 [] 0 0 (fun _ => undef) (fun h => absurd h (by simp)) (fun i x hx => by simp at hx) (fun i x hx => by simp at hx)⟩
    · simp only [List.cons.injEq, and_true] at hcs
      subst hcs
      have each : ∀ i, i < len → ∃ q : Ex × Value, (W.cell? (a.add (i * 4)) = some (.int .i64 q.1.k) ∧ W.cell? (a.add (i * 4 + 1)) = some (.int .i64 q.1.n) ∧ W.cell? (a.add (i * 4 + 2)) = some (.string (bs q.1.s)) ∧ W.cell? (a.add (i * 4 + 3)) = some q.2) ∧ IsEx W q.2 q.1 ∧ ∀ d, elems[i]? = some d → q.1.wt ≤ Rows.uptoBulk d.1 := by
        intro i hi
        have key := hel i hi
        rw [List.getElem?_eq_getElem (by omega)] at key
        obtain ⟨cs', h1, h2⟩ := Option.bind_eq_some_iff.1 key
        rw [cells4] at h1
        obtain ⟨_, hcl, hcell⟩ := World.cells?_some h1
        obtain ⟨xs, n', hn', hxy, _, hxl, hf⟩ := DataW.trod_struct Tryd.underlying41 h2
        match xs, hxl, cs', hcl with
        | [y0, y1, y2, y3], _, [v0, v1, v2, v3], _ =>
          have g0 := hf 0 _ rfl
          have g1 := hf 1 _ rfl
          have g2 := hf 2 _ rfl
          have g3 := hf 3 _ rfl
          simp [cells1s, cells1i, cells1l] at g0 g1 g2 g3
          obtain ⟨k, e0, rfl, _⟩ := DataW.trod_int Tryd.underlying3 g0
          obtain ⟨m, e1, rfl, _⟩ := DataW.trod_int Tryd.underlying3 g1
          obtain ⟨s, e2, rfl, _⟩ := DataW.trod_string Tryd.underlying9 g2
          simp only [List.cons.injEq, and_true] at e0 e1 e2
          subst e0 e1 e2
          obtain ⟨l, hw, hI⟩ := ih n' (by omega) v3 y3 g3
          have c0 := hcell 0 (by omega)
          have c1 := hcell 1 (by omega)
          have c2 := hcell 2 (by omega)
          have c3 := hcell 3 (by omega)
          rw [add_add] at c0 c1 c2 c3
          refine ⟨(.mk k m s.data.toList l, v3), ⟨by simpa [Ex.k] using c0, by simpa [Ex.n] using c1, by simpa [Ex.s, bs_of] using c2, by simpa using c3⟩, hI _ _ _, ?_⟩
          intro d hd
          rw [List.getElem?_eq_getElem (by omega), Option.some.injEq] at hd
          rw [← hd]
          rw [hxy]
          simp only [List.map_cons, List.map_nil, Rows.uptoBulk, Rows.uptoBulkAll, Ex.wt]
          omega
      haveI : Inhabited (Ex × Value) := ⟨(.mk 0 0 [] [], undef)⟩
      obtain ⟨q, hq⟩ := choose_lt each
      refine ⟨(List.range len).map fun i => (q i).1, ?_, fun k n s => ?_⟩
      · have := wtL_bulk ((List.range len).map fun i => (q i).1) (elems.map (·.1)) (by simp [hlen]) (fun i x d hx hd => by
          simp only [List.getElem?_map] at hx hd
          cases he : elems[i]? with
          | none => rw [he] at hd; simp at hd
          | some d0 =>
            rw [he] at hd
            have hi : i < len := by rw [← hlen]; exact (List.getElem?_eq_some_iff.1 he).1
            rw [List.getElem?_range hi] at hx
            simp at hx hd
            subst hx hd
            exact (hq i hi).2.2 d0 he)
        simp only [Rows.uptoBulk]
        omega
      · have hspot : 0 < len → a.spot = none := fun hpos => by
          have h1 := World.cell?_spot (hq 0 hpos).1.1
          simpa [Addr.add] using h1
        obtain ⟨b, off, spot⟩ := a
        have e := IsEx.mk (w := W) k n s (some ⟨b, off, spot⟩) cap ((List.range len).map fun i => (q i).1) b off (fun i => (q i).2)
          (fun hpos => by have hs := hspot (by simpa using hpos); simp only at hs; rw [hs])
          (fun i x hx => by
            have hi : i < len := by have := (List.getElem?_eq_some_iff.1 hx).1; simpa using this
            rw [List.getElem?_map, List.getElem?_range hi] at hx
            simp at hx
            subst hx
            obtain ⟨c0, c1, c2, c3⟩ := (hq i hi).1
            have hs := hspot (by omega)
            simp only at hs
            subst hs
            rw [none_add] at c0 c1 c2 c3
            exact ⟨c0, c1, c2, c3⟩)
          (fun i x hx => by
            have hi : i < len := by have := (List.getElem?_eq_some_iff.1 hx).1; simpa using this
            rw [List.getElem?_map, List.getElem?_range hi] at hx
            simp at hx
            subst hx
            exact (hq i hi).2.1)
        rw [List.length_map, List.length_range] at e
        exact e
set_option maxRecDepth 100000 in
theorem expr {H : Type} {enc : TypeId × Value → H} {W : World} {base : Nat} {d : DataW H} {p : List MemPlace} {v : Value} (hv : Value.okWide Tryd.prog W .any base 41 v) (h : DataW.Trod enc Tryd.prog W 0 (fun _ => true) true 41 v d p) :
    ∃ (e : Ex) (sv : Value), v = e.val sv ∧ IsEx W sv e ∧ e.wt ≤ Rows.uptoBulk d := by
  obtain ⟨v0, v1, v2, v3, y0, y1, y2, y3, n, rfl, rfl, _, g0, g1, g2, g3⟩ := Joins.open_agg4 Tryd.underlying41 (by kernel_rfl) cells4 hv h
  obtain ⟨k, e0, rfl, _⟩ := DataW.trod_int Tryd.underlying3 g0
  obtain ⟨m, e1, rfl, _⟩ := DataW.trod_int Tryd.underlying3 g1
  obtain ⟨s, e2, rfl, _⟩ := DataW.trod_string Tryd.underlying9 g2
  simp only [List.cons.injEq, and_true] at e0 e1 e2
  subst e0 e1 e2
  obtain ⟨l, hw, hI⟩ := kids n v3 y3 g3
  refine ⟨.mk k m s.data.toList l, v3, by simp [Ex.val, Ex.k, Ex.n, Ex.s, bs_of], hI _ _ _, ?_⟩
  simp only [Rows.uptoBulk, Rows.uptoBulkAll, Ex.wt]
  omega
end OpenE
end Go.Proofs.YtgkpnjnollfdaaaDoor
/- A job, as it was handed in, opened: what it holds, and how much room its list has. Written by tpl/mk_openr.py out of OpenJ. -/
namespace Go.Proofs.YtgkpnjnollfdaaaDoor
open Go.ChangeShapes Go.WideShapes Go.ChangeAt Go.RowKit Go.Deep
namespace OpenR
open OpenE
def fitE : Ex → Prop
  | .mk _ n _ a => (-9223372036854775808 ≤ n ∧ n ≤ 9223372036854775807) ∧ fitL a
  where fitL : List Ex → Prop
  | [] => True
  | e :: r => fitE e ∧ fitL r
def fitR (r : Rl) : Prop := fitE r.iff ∧ fitE r.key ∧ fitE r.val
theorem cells15 : Tryd.prog.cellsOf 43 = 15 := by kernel_rfl
theorem cellsJ : Tryd.prog.cellsOf 37 = 4 := by kernel_rfl
theorem cells1b : Tryd.prog.cellsOf 4 = 1 := by kernel_rfl
theorem cells1r : Tryd.prog.cellsOf 35 = 1 := by kernel_rfl
theorem fitL_of {l : List Ex} (h : ∀ (i : Nat) x, l[i]? = some x → (fitE x)) : fitE.fitL l := by
  induction l with
  | nil => trivial
  | cons y l ih => exact ⟨h 0 y rfl, ih fun i x hx => h (i + 1) x (by simpa using hx)⟩
set_option maxRecDepth 100000 in
theorem kidsF {H : Type} {enc : TypeId × Value → H} {W : World} : ∀ (fuel : Nat) (sv : Value) (x : DataW H × List MemPlace), DataW.trod enc Tryd.prog W 0 (fun _ => true) true fuel 39 [sv] = some x →
    ∃ l : List Ex, Ex.wt.wtL l + 1 ≤ Rows.uptoBulk x.1 ∧ (∀ k n s, IsEx W sv (.mk k n s l)) ∧ fitE.fitL l := by
  intro fuel
  induction fuel using Nat.strongRecOn with
  | ind fuel ih =>
    intro sv x h
    rcases DataW.trod_slice Tryd.underlying39 h with ⟨h0, rfl⟩ | ⟨a, len, cap, elems, rest, n, hfu, hcs, rfl, hb, hl, hm, hlen, hel, _, _⟩
    · simp only [List.cons.injEq, and_true] at h0
      subst h0
      exact ⟨[], by simp [Ex.wt.wtL, Rows.uptoBulk], fun k n s => IsEx.mk k n s none 0 [] 0 0 (fun _ => undef) (fun h => absurd h (by simp)) (fun i x hx => by simp at hx) (fun i x hx => by simp at hx), trivial⟩
    · simp only [List.cons.injEq, and_true] at hcs
      subst hcs
      have each : ∀ i, i < len → ∃ q : Ex × Value, (W.cell? (a.add (i * 4)) = some (.int .i64 q.1.k) ∧ W.cell? (a.add (i * 4 + 1)) = some (.int .i64 q.1.n) ∧ W.cell? (a.add (i * 4 + 2)) = some (.string (bs q.1.s)) ∧ W.cell? (a.add (i * 4 + 3)) = some q.2) ∧ IsEx W q.2 q.1 ∧ (∀ d, elems[i]? = some d → q.1.wt ≤ Rows.uptoBulk d.1) ∧ fitE q.1 := by
        intro i hi
        have key := hel i hi
        rw [List.getElem?_eq_getElem (by omega)] at key
        obtain ⟨cs', h1, h2⟩ := Option.bind_eq_some_iff.1 key
        rw [cells4] at h1
        obtain ⟨_, hcl, hcell⟩ := World.cells?_some h1
        obtain ⟨xs, n', hn', hxy, _, hxl, hf⟩ := DataW.trod_struct Tryd.underlying41 h2
        match xs, hxl, cs', hcl with
        | [y0, y1, y2, y3], _, [v0, v1, v2, v3], _ =>
          have g0 := hf 0 _ rfl
          have g1 := hf 1 _ rfl
          have g2 := hf 2 _ rfl
          have g3 := hf 3 _ rfl
          simp [cells1s, cells1i, cells1l] at g0 g1 g2 g3
          obtain ⟨k, e0, rfl, _⟩ := DataW.trod_int Tryd.underlying3 g0
          obtain ⟨m, e1, rfl, hwm⟩ := DataW.trod_int Tryd.underlying3 g1
          obtain ⟨s, e2, rfl, _⟩ := DataW.trod_string Tryd.underlying9 g2
          simp only [List.cons.injEq, and_true] at e0 e1 e2
          subst e0 e1 e2
          obtain ⟨l, hw, hI, hF⟩ := ih n' (by omega) v3 y3 g3
          have bd := bounds_i64 hwm
          have c0 := hcell 0 (by omega)
          have c1 := hcell 1 (by omega)
          have c2 := hcell 2 (by omega)
          have c3 := hcell 3 (by omega)
          rw [add_add] at c0 c1 c2 c3
          refine ⟨(.mk k m s.data.toList l, v3), ⟨by simpa [Ex.k] using c0, by simpa [Ex.n] using c1, by simpa [Ex.s, bs_of] using c2, by simpa using c3⟩, hI _ _ _, ?_, by simp only [fitE]; exact ⟨⟨bd.1, bd.2⟩, hF⟩⟩
          intro d hd
          rw [List.getElem?_eq_getElem (by omega), Option.some.injEq] at hd
          rw [← hd]
          rw [hxy]
          simp only [List.map_cons, List.map_nil, Rows.uptoBulk, Rows.uptoBulkAll, Ex.wt]
          omega
      haveI : Inhabited (Ex × Value) := ⟨(.mk 0 0 [] [], undef)⟩
      obtain ⟨q, hq⟩ := choose_lt each
      refine ⟨(List.range len).map fun i => (q i).1, ?_, fun k n s => ?_, fitL_of fun i x hx => ?_⟩
      · have := wtL_bulk ((List.range len).map fun i => (q i).1) (elems.map (·.1)) (by simp [hlen]) (fun i x d hx hd => by
          simp only [List.getElem?_map] at hx hd
          cases he : elems[i]? with
          | none => rw [he] at hd; simp at hd
          | some d0 =>
            rw [he] at hd
            have hi : i < len := by rw [← hlen]; exact (List.getElem?_eq_some_iff.1 he).1
            rw [List.getElem?_range hi] at hx
            simp at hx hd
            subst hx hd
            exact (hq i hi).2.2.1 d0 he)
        simp only [Rows.uptoBulk]
        omega
      · have hspot : 0 < len → a.spot = none := fun hpos => by
          have h1 := World.cell?_spot (hq 0 hpos).1.1
          simpa [Addr.add] using h1
        obtain ⟨b, off, spot⟩ := a
        have e := IsEx.mk (w := W) k n s (some ⟨b, off, spot⟩) cap ((List.range len).map fun i => (q i).1) b off (fun i => (q i).2)
          (fun hpos => by have hs := hspot (by simpa using hpos); simp only at hs; rw [hs])
          (fun i x hx => by
            have hi : i < len := by have := (List.getElem?_eq_some_iff.1 hx).1; simpa using this
            rw [List.getElem?_map, List.getElem?_range hi] at hx
            simp at hx
            subst hx
            obtain ⟨c0, c1, c2, c3⟩ := (hq i hi).1
            have hs := hspot (by omega)
            simp only at hs
            subst hs
            rw [none_add] at c0 c1 c2 c3
            exact ⟨c0, c1, c2, c3⟩)
          (fun i x hx => by
            have hi : i < len := by have := (List.getElem?_eq_some_iff.1 hx).1; simpa using this
            rw [List.getElem?_map, List.getElem?_range hi] at hx
            simp at hx
            subst hx
            exact (hq i hi).2.1)
        rw [List.length_map, List.length_range] at e
        exact e
      · have hi : i < len := by have := (List.getElem?_eq_some_iff.1 hx).1; simpa using this
        rw [List.getElem?_map, List.getElem?_range hi] at hx
        simp at hx
        subst hx
        exact (hq i hi).2.2.2
/-- An expression's four cells. -/
theorem expr4 {H : Type} {enc : TypeId × Value → H} {W : World} {fuel : Nat} {v0 v1 v2 v3 : Value} {x : DataW H × List MemPlace} (h : DataW.trod enc Tryd.prog W 0 (fun _ => true) true fuel 41 [v0, v1, v2, v3] = some x) :
    ∃ e : Ex, v0 = .int .i64 e.k ∧ v1 = .int .i64 e.n ∧ v2 = .string (bs e.s) ∧ IsEx W v3 e ∧ e.wt ≤ Rows.uptoBulk x.1 ∧ (fitE e) := by
  obtain ⟨xs, n', hn', hxy, _, hxl, hf⟩ := DataW.trod_struct Tryd.underlying41 h
  match xs, hxl with
  | [y0, y1, y2, y3], _ =>
    have g0 := hf 0 _ rfl
    have g1 := hf 1 _ rfl
    have g2 := hf 2 _ rfl
    have g3 := hf 3 _ rfl
    simp [cells1s, cells1i, cells1l] at g0 g1 g2 g3
    obtain ⟨k, e0, rfl, _⟩ := DataW.trod_int Tryd.underlying3 g0
    obtain ⟨m, e1, rfl, hwm⟩ := DataW.trod_int Tryd.underlying3 g1
    obtain ⟨s, e2, rfl, _⟩ := DataW.trod_string Tryd.underlying9 g2
    simp only [List.cons.injEq, and_true] at e0 e1 e2
    subst e0 e1 e2
    obtain ⟨l, hw, hI, hF⟩ := kidsF n' v3 y3 g3
    have bd := bounds_i64 hwm
    refine ⟨.mk k m s.data.toList l, rfl, rfl, by simp [Ex.s, bs_of], hI _ _ _, ?_, by simp only [fitE]; exact ⟨⟨bd.1, bd.2⟩, hF⟩⟩
    rw [hxy]
    simp only [List.map_cons, List.map_nil, Rows.uptoBulk, Rows.uptoBulkAll, Ex.wt]
    omega
theorem rulesWt_bulk {H : Type} : ∀ (l : List Rl) (E : List (DataW H)), l.length = E.length → (∀ (i : Nat) (x : Rl) (d : DataW H), l[i]? = some x → E[i]? = some d → x.wt ≤ Rows.uptoBulk d) → rulesWt l ≤ Rows.uptoBulkAll E
  | [], [], _, _ => by simp [rulesWt, Rows.uptoBulkAll]
  | x :: l, d :: E, hl, h => by
    have h0 := h 0 x d rfl rfl
    have h1 := rulesWt_bulk l E (by simpa using hl) (fun i y e hy he => h (i + 1) y e (by simpa using hy) (by simpa using he))
    unfold rulesWt at h1 ⊢
    simp only [List.map_cons, List.sum_cons, Rows.uptoBulkAll]
    omega
set_option maxRecDepth 100000 in
theorem rules {H : Type} {enc : TypeId × Value → H} {W : World} (fuel : Nat) (sv : Value) (x : DataW H × List MemPlace) (h : DataW.trod enc Tryd.prog W 0 (fun _ => true) true fuel 35 [sv] = some x) :
    ∃ l : List Rl, rulesWt l ≤ Rows.uptoBulk x.1 ∧ IsRules W sv l ∧ ∀ (i : Nat) r, l[i]? = some r → (fitR r) := by
  rcases DataW.trod_slice Tryd.underlying35 h with ⟨h0, rfl⟩ | ⟨a, len, cap, elems, rest, n, hfu, hcs, rfl, hb, hl, hm, hlen, hel, _, _⟩
  · simp only [List.cons.injEq, and_true] at h0
    subst h0
    exact ⟨[], by simp [rulesWt], ⟨none, 0, 0, 0, fun _ => undef, fun _ => undef, fun _ => undef, rfl, fun h => absurd h (by simp), fun i x hx => by simp at hx⟩, fun i r hx => by simp at hx⟩
  · simp only [List.cons.injEq, and_true] at hcs
    subst hcs
    have each : ∀ i, i < len → ∃ q : Rl × Value × Value × Value, (W.cell? (a.add (i * 15)) = some (.bool q.1.each) ∧ W.cell? (a.add (i * 15 + 1)) = some (.int .i64 q.1.when) ∧ W.cell? (a.add (i * 15 + 2)) = some (.int .i64 q.1.iff.k) ∧ W.cell? (a.add (i * 15 + 3)) = some (.int .i64 q.1.iff.n) ∧ W.cell? (a.add (i * 15 + 4)) = some (.string (bs q.1.iff.s)) ∧ W.cell? (a.add (i * 15 + 5)) = some q.2.1 ∧ W.cell? (a.add (i * 15 + 6)) = some (.string (bs q.1.s)) ∧ W.cell? (a.add (i * 15 + 7)) = some (.int .i64 q.1.key.k) ∧ W.cell? (a.add (i * 15 + 8)) = some (.int .i64 q.1.key.n) ∧ W.cell? (a.add (i * 15 + 9)) = some (.string (bs q.1.key.s)) ∧ W.cell? (a.add (i * 15 + 10)) = some q.2.2.1 ∧ W.cell? (a.add (i * 15 + 11)) = some (.int .i64 q.1.val.k) ∧ W.cell? (a.add (i * 15 + 12)) = some (.int .i64 q.1.val.n) ∧ W.cell? (a.add (i * 15 + 13)) = some (.string (bs q.1.val.s)) ∧ W.cell? (a.add (i * 15 + 14)) = some q.2.2.2) ∧ (IsEx W q.2.1 q.1.iff ∧ IsEx W q.2.2.1 q.1.key ∧ IsEx W q.2.2.2 q.1.val) ∧ (∀ d, elems[i]? = some d → q.1.wt ≤ Rows.uptoBulk d.1) ∧ fitR q.1 := by
      intro i hi
      have key := hel i hi
      rw [List.getElem?_eq_getElem (by omega)] at key
      obtain ⟨cs', h1, h2⟩ := Option.bind_eq_some_iff.1 key
      rw [cells15] at h1
      obtain ⟨_, hcl, hcell⟩ := World.cells?_some h1
      obtain ⟨xs, n', hn', hxy, _, hxl, hf⟩ := DataW.trod_struct Tryd.underlying43 h2
      match xs, hxl, cs', hcl with
      | [y0, y1, y2, y3, y4, y5], _, [v0, v1, v2, v3, v4, v5, v6, v7, v8, v9, v10, v11, v12, v13, v14], _ =>
        have g0 := hf 0 _ rfl
        have g1 := hf 1 _ rfl
        have g2 := hf 2 _ rfl
        have g3 := hf 3 _ rfl
        have g4 := hf 4 _ rfl
        have g5 := hf 5 _ rfl
        simp [cells1s, cells1i, cells1b, cells4] at g0 g1 g2 g3 g4 g5
        obtain ⟨b0, e0, rfl⟩ := DataW.trod_bool Tryd.underlying4 g0
        obtain ⟨m1, e1, rfl, _⟩ := DataW.trod_int Tryd.underlying3 g1
        obtain ⟨s3, e3, rfl, _⟩ := DataW.trod_string Tryd.underlying9 g3
        simp only [List.cons.injEq, and_true] at e0 e1 e3
        subst e0 e1 e3
        obtain ⟨ei, rfl, rfl, rfl, xi, wi, fi⟩ := expr4 g2
        obtain ⟨ek, rfl, rfl, rfl, xk, wk, fk⟩ := expr4 g4
        obtain ⟨ev, rfl, rfl, rfl, xv, wv, fv⟩ := expr4 g5
        have c0 := hcell 0 (by omega)
        have c1 := hcell 1 (by omega)
        have c2 := hcell 2 (by omega)
        have c3 := hcell 3 (by omega)
        have c4 := hcell 4 (by omega)
        have c5 := hcell 5 (by omega)
        have c6 := hcell 6 (by omega)
        have c7 := hcell 7 (by omega)
        have c8 := hcell 8 (by omega)
        have c9 := hcell 9 (by omega)
        have c10 := hcell 10 (by omega)
        have c11 := hcell 11 (by omega)
        have c12 := hcell 12 (by omega)
        have c13 := hcell 13 (by omega)
        have c14 := hcell 14 (by omega)
        rw [add_add] at c0 c1 c2 c3 c4 c5 c6 c7 c8 c9 c10 c11 c12 c13 c14
        refine ⟨(⟨b0, m1, ei, s3.data.toList, ek, ev⟩, v5, v10, v14), ⟨by simpa using c0, by simpa using c1, by simpa using c2, by simpa using c3, by simpa using c4, by simpa using c5, by simpa [bs_of] using c6, by simpa using c7, by simpa using c8, by simpa using c9, by simpa using c10, by simpa using c11, by simpa using c12, by simpa using c13, by simpa using c14⟩, ⟨xi, xk, xv⟩, ?_, ⟨fi, fk, fv⟩⟩
        intro d hd
        rw [List.getElem?_eq_getElem (by omega), Option.some.injEq] at hd
        rw [← hd]
        rw [hxy]
        simp only [List.map_cons, List.map_nil, Rows.uptoBulk, Rows.uptoBulkAll, Rl.wt]
        omega
    haveI : Inhabited (Rl × Value × Value × Value) := ⟨(⟨false, 0, .mk 0 0 [] [], [], .mk 0 0 [] [], .mk 0 0 [] []⟩, undef, undef, undef)⟩
    obtain ⟨q, hq⟩ := choose_lt each
    refine ⟨(List.range len).map fun i => (q i).1, ?_, ?_, fun i r hx => ?_⟩
    · have := rulesWt_bulk ((List.range len).map fun i => (q i).1) (elems.map (·.1)) (by simp [hlen]) (fun i x d hx hd => by
        simp only [List.getElem?_map] at hx hd
        cases he : elems[i]? with
        | none => rw [he] at hd; simp at hd
        | some d0 =>
          rw [he] at hd
          have hi : i < len := by rw [← hlen]; exact (List.getElem?_eq_some_iff.1 he).1
          rw [List.getElem?_range hi] at hx
          simp at hx hd
          subst hx hd
          exact (hq i hi).2.2.1 d0 he)
      simp only [Rows.uptoBulk]
      omega
    · have hspot : 0 < len → a.spot = none := fun hpos => by
        have h1 := World.cell?_spot (hq 0 hpos).1.1
        simpa [Addr.add] using h1
      obtain ⟨b, off, spot⟩ := a
      refine ⟨some ⟨b, off, spot⟩, cap, b, off, fun i => (q i).2.1, fun i => (q i).2.2.1, fun i => (q i).2.2.2, by simp, fun hpos => ?_, fun i x hx => ?_⟩
      · have hs := hspot (by simpa using hpos)
        simp only at hs
        rw [hs]
      · have hi : i < len := by have := (List.getElem?_eq_some_iff.1 hx).1; simpa using this
        rw [List.getElem?_map, List.getElem?_range hi] at hx
        simp at hx
        subst hx
        have hs := hspot (by omega)
        simp only at hs
        subst hs
        have hc := (hq i hi).1
        simp only [none_add, Nat.add_assoc] at hc ⊢
        exact ⟨hc, (hq i hi).2.1⟩
    · have hi : i < len := by have := (List.getElem?_eq_some_iff.1 hx).1; simpa using this
      rw [List.getElem?_map, List.getElem?_range hi] at hx
      simp at hx
      subst hx
      exact (hq i hi).2.2.2
set_option maxRecDepth 100000 in
theorem job {H : Type} {enc : TypeId × Value → H} {W : World} {base : Nat} {d : DataW H} {p : List MemPlace} {v : Value} (hv : Value.okWide Tryd.prog W .any base 37 v) (h : DataW.Trod enc Tryd.prog W 0 (fun _ => true) true 37 v d p) :
    ∃ (j : Jb) (rv : Value), v = j.value rv ∧ IsRules W rv j.rules ∧ rulesWt j.rules ≤ Rows.uptoBulk d ∧ ∀ (i : Nat) r, j.rules[i]? = some r → (fitR r) := by
  obtain ⟨v0, v1, v2, v3, y0, y1, y2, y3, n, rfl, rfl, _, g0, g1, g2, g3⟩ := Joins.open_agg4 Tryd.underlying37 (by kernel_rfl) cellsJ hv h
  obtain ⟨fo, e1, rfl, _⟩ := DataW.trod_int Tryd.underlying3 g1
  obtain ⟨ea, e2, rfl⟩ := DataW.trod_bool Tryd.underlying4 g2
  obtain ⟨sl, e3, rfl, _⟩ := DataW.trod_int Tryd.underlying3 g3
  simp only [List.cons.injEq, and_true] at e1 e2 e3
  subst e1 e2 e3
  obtain ⟨l, hw, hI, hF⟩ := rules n v0 y0 g0
  refine ⟨⟨l, fo, ea, sl⟩, v0, rfl, hI, ?_, hF⟩
  simp only [Rows.uptoBulk, Rows.uptoBulkAll]
  omega
set_option maxRecDepth 100000 in
theorem cell_cap {W : World} {base : Nat} {u : TypeId} {a : Option Addr} {m c : Nat} (h : Cell.okWide Tryd.prog W .any base u (.slice a m c)) : m ≤ c := by
  have h1 : Cell.ok Tryd.prog W .any base u (.slice a m c) := by
    unfold Cell.okWide at h
    split at h <;> first | contradiction | exact h
  unfold Cell.ok at h1
  split at h1 <;> simp_all
set_option maxRecDepth 100000 in
theorem jobC {H : Type} {enc : TypeId × Value → H} {W : World} {base : Nat} {d : DataW H} {p : List MemPlace} {v : Value} (hv : Value.okWide Tryd.prog W .any base 37 v) (h : DataW.Trod enc Tryd.prog W 0 (fun _ => true) true 37 v d p) :
    ∃ (j : Jb) (a : Option Addr) (cap : Nat), v = j.value (.slice a j.rules.length cap) ∧ j.rules.length ≤ cap ∧ IsRules W (.slice a j.rules.length cap) j.rules ∧ rulesWt j.rules ≤ Rows.uptoBulk d := by
  obtain ⟨j, rv, rfl, hI, hw, _⟩ := job hv h
  obtain ⟨a, cap, rfl⟩ := hI.slice
  refine ⟨j, a, cap, rfl, ?_, hI, hw⟩
  unfold Value.okWide at hv
  rw [Tryd.underlying37] at hv
  obtain ⟨cs, e, _, ts, _, _, hc⟩ := hv
  unfold Jb.value at e
  injection e with e
  subst e
  obtain ⟨u, _, hu⟩ := hc 0 _ rfl
  exact cell_cap hu
set_option maxRecDepth 100000 in
theorem rule {H : Type} {enc : TypeId × Value → H} {W : World} {base : Nat} {d : DataW H} {p : List MemPlace} {v : Value} (hv : Value.okWide Tryd.prog W .any base 43 v) (h : DataW.Trod enc Tryd.prog W 0 (fun _ => true) true 43 v d p) :
    ∃ (r : Rl) (ai ak av : Option Addr) (ci ck cv : Nat), v = r.value (.slice ai r.iff.a.length ci) (.slice ak r.key.a.length ck) (.slice av r.val.a.length cv) ∧ IsEx W (.slice ai r.iff.a.length ci) r.iff ∧ IsEx W (.slice ak r.key.a.length ck) r.key ∧ IsEx W (.slice av r.val.a.length cv) r.val ∧ r.wt ≤ Rows.uptoBulk d := by
  unfold Value.okWide at hv
  rw [Tryd.underlying43] at hv
  obtain ⟨cs, rfl, hsz, -⟩ := hv
  rw [cells15] at hsz
  obtain ⟨fuel, h⟩ := h
  obtain ⟨l, hl⟩ : ∃ l, l = cs.toList := ⟨_, rfl⟩
  have hlen : l.length = 15 := by rw [hl]; simpa using hsz
  obtain rfl : cs = l.toArray := by rw [hl]
  have h2 : DataW.trod enc Tryd.prog W 0 (fun _ => true) true fuel 43 l = some (d, p) := by simpa [Value.cells] using h
  clear h hl hsz
  obtain ⟨xs, n', hn', hxy, _, hxl, hf⟩ := DataW.trod_struct Tryd.underlying43 h2
  match xs, hxl, l, hlen with
  | [y0, y1, y2, y3, y4, y5], _, [v0, v1, v2, v3, v4, v5, v6, v7, v8, v9, v10, v11, v12, v13, v14], _ =>
    have g0 := hf 0 _ rfl
    have g1 := hf 1 _ rfl
    have g2 := hf 2 _ rfl
    have g3 := hf 3 _ rfl
    have g4 := hf 4 _ rfl
    have g5 := hf 5 _ rfl
    simp [cells1s, cells1i, cells1b, cells4] at g0 g1 g2 g3 g4 g5
    obtain ⟨b0, e0, rfl⟩ := DataW.trod_bool Tryd.underlying4 g0
    obtain ⟨m1, e1, rfl, _⟩ := DataW.trod_int Tryd.underlying3 g1
    obtain ⟨s3, e3, rfl, _⟩ := DataW.trod_string Tryd.underlying9 g3
    simp only [List.cons.injEq, and_true] at e0 e1 e3
    subst e0 e1 e3
    obtain ⟨ei, rfl, rfl, rfl, xi, wi, _⟩ := expr4 g2
    obtain ⟨ek, rfl, rfl, rfl, xk, wk, _⟩ := expr4 g4
    obtain ⟨ev, rfl, rfl, rfl, xv, wv, _⟩ := expr4 g5
    obtain ⟨ai, ci, rfl⟩ := xi.slice
    obtain ⟨ak, ck, rfl⟩ := xk.slice
    obtain ⟨av, cv, rfl⟩ := xv.slice
    refine ⟨⟨b0, m1, ei, s3.data.toList, ek, ev⟩, ai, ak, av, ci, ck, cv, by simp [Rl.value, bs_of], xi, xk, xv, ?_⟩
    have hd : d = _ := congrArg Prod.fst hxy
    simp only at hd
    rw [hd]
    simp only [List.map_cons, List.map_nil, Rows.uptoBulk, Rows.uptoBulkAll, Rl.wt]
    omega
end OpenR
end Go.Proofs.YtgkpnjnollfdaaaDoor
/- A list of texts, as it was handed in, opened: what it holds. -/
namespace Go.Proofs.YtgkpnjnollfdaaaDoor
open Go.ChangeShapes Go.WideShapes Go.ChangeAt Go.RowKit Go.Deep
namespace OpenT
open OpenE
theorem many_le {H : Type} (l : List (DataW H)) : l.length ≤ Rows.uptoBulkAll l := by
  induction l with
  | nil => simp
  | cons d l ih => have := one_le d; simp only [List.length_cons, Rows.uptoBulkAll]; omega
theorem cells1t : Tryd.prog.cellsOf 38 = 1 := by kernel_rfl
set_option maxRecDepth 100000 in
theorem texts {H : Type} {enc : TypeId × Value → H} {W : World} {fuel : Nat} {sv : Value} {x : DataW H × List MemPlace} (h : DataW.trod enc Tryd.prog W 0 (fun _ => true) true fuel 38 [sv] = some x) :
    ∃ l : List (List UInt8), l.length ≤ Rows.uptoBulk x.1 ∧ IsTexts W sv (l.map bs) := by
  rcases DataW.trod_slice Tryd.underlying38 h with ⟨h0, rfl⟩ | ⟨a, len, cap, elems, rest, n, hfu, hcs, rfl, hb, hl, hm, hlen, hel, _, _⟩
  · simp only [List.cons.injEq, and_true] at h0
    subst h0
    exact ⟨[], by simp, ⟨none, 0, rfl, fun i hi => absurd hi (by simp)⟩⟩
  · simp only [List.cons.injEq, and_true] at hcs
    subst hcs
    have each : ∀ i, i < len → ∃ s : ByteArray, W.cell? (a.add (i * 1)) = some (.string s) := by
      intro i hi
      have key := hel i hi
      rw [List.getElem?_eq_getElem (by omega)] at key
      obtain ⟨cs', h1, h2⟩ := Option.bind_eq_some_iff.1 key
      rw [cells1s] at h1
      obtain ⟨_, hcl, hcell⟩ := World.cells?_some h1
      obtain ⟨s, e0, _, _⟩ := DataW.trod_string Tryd.underlying9 h2
      subst e0
      have c0 := hcell 0 (by omega)
      refine ⟨s, ?_⟩
      simpa [Addr.add] using c0
    haveI : Inhabited ByteArray := ⟨ByteArray.empty⟩
    obtain ⟨q, hq⟩ := choose_lt each
    have hspot : 0 < len → a.spot = none := fun hpos => by
      have h1 := World.cell?_spot (hq 0 hpos)
      simpa [Addr.add] using h1
    obtain ⟨b, off, spot⟩ := a
    refine ⟨(List.range len).map fun i => (q i).data.toList, ?_, ⟨some ⟨b, off, spot⟩, cap, by simp, fun i hi => ?_⟩⟩
    · have h1 := many_le (elems.map (·.1))
      simp only [List.length_map, hlen, List.length_range, Rows.uptoBulk] at h1 ⊢
      omega
    · have hi' : i < len := by simpa using hi
      have hs := hspot (by omega)
      simp only at hs
      subst hs
      have c0 := hq i hi'
      rw [none_add] at c0
      exact ⟨b, off, rfl, by simpa [bs_of] using c0⟩
set_option maxRecDepth 100000 in
theorem lines {H : Type} {enc : TypeId × Value → H} {W : World} {base : Nat} {d : DataW H} {p : List MemPlace} {v : Value} (hv : Value.okWide Tryd.prog W .any base 38 v) (h : DataW.Trod enc Tryd.prog W 0 (fun _ => true) true 38 v d p) :
    ∃ l : List (List UInt8), IsTexts W v (l.map bs) ∧ l.length ≤ Rows.uptoBulk d := by
  obtain ⟨a0, len0, cap0, rfl⟩ := okWide_slice Tryd.underlying38 hv
  obtain ⟨fuel, hf⟩ := h
  obtain ⟨l, h1, h2⟩ := texts (x := (d, p)) (by simpa [Value.cells] using hf)
  exact ⟨l, h2, h1⟩
set_option maxRecDepth 100000 in
theorem cap_le {W : World} {base : Nat} {a : Option Addr} {m c : Nat} (h : Value.okWide Tryd.prog W .any base 38 (.slice a m c)) : m ≤ c := by
  unfold Value.okWide at h
  rw [Tryd.underlying38] at h
  have h1 : Cell.ok Tryd.prog W .any base 38 (.slice a m c) := by
    simp only [Cell.okWide] at h
    split at h <;> first | contradiction | exact h
  unfold Cell.ok at h1
  split at h1 <;> simp_all
set_option maxRecDepth 100000 in
theorem linesC {H : Type} {enc : TypeId × Value → H} {W : World} {base : Nat} {d : DataW H} {p : List MemPlace} {v : Value} (hv : Value.okWide Tryd.prog W .any base 38 v) (h : DataW.Trod enc Tryd.prog W 0 (fun _ => true) true 38 v d p) :
    ∃ (l : List (List UInt8)) (a : Option Addr) (c : Nat), v = .slice a l.length c ∧ l.length ≤ c ∧ IsTexts W (.slice a l.length c) (l.map bs) ∧ l.length ≤ Rows.uptoBulk d := by
  obtain ⟨a0, len0, cap0, rfl⟩ := okWide_slice Tryd.underlying38 hv
  have hc := cap_le hv
  obtain ⟨fuel, hf⟩ := h
  obtain ⟨l, h1, h2⟩ := texts (x := (d, p)) (by simpa [Value.cells] using hf)
  obtain ⟨a1, c1, e, -⟩ := id h2
  injection e with e1 e2 e3
  rw [List.length_map] at e2
  subst e2
  exact ⟨l, a0, cap0, rfl, hc, h2, h1⟩
end OpenT
end Go.Proofs.YtgkpnjnollfdaaaDoor
/- Mapper: what holds; the pair of a look. -/
namespace Go.Proofs.YtgkpnjnollfdaaaDoor
open Go.ChangeShapes Go.WideShapes Go.ChangeAt Go.RowKit
set_option maxRecDepth 100000 in
set_option maxHeartbeats 1000000 in
theorem holds_any (r : Rl) (ai ak av : Option Addr) (ci ck cv : Nat) (R : Rc) (ra : Option Addr) (rc : Nat) (w : World) (hR : IsTexts w (.slice ra R.words.length rc) (R.words.map bs)) (xi : IsEx w (.slice ai r.iff.a.length ci) r.iff) (hr : RlIn r) (hM : RcIn R 1000000) (E : EnvS w) :
    Calls Tryd.prog 39 #[r.value (.slice ai r.iff.a.length ci) (.slice ak r.key.a.length ck) (.slice av r.val.a.length cv), recV R ra rc] w fun e w' => e = .returned (.bool (holdsB r R)) ∧ Below w.heap.size w w' := by
  have hmix : Tryd.prog.follows .mixedOrders = true := by kernel_rfl
  have S := Lib.hid (fun w (h : IsEx w (.slice ai r.iff.a.length ci) r.iff) (hf : faultE r.iff true true = 0) hR E => StrX_any R ra rc h hR (by have := fault_wt hf; omega) hf (by have := fault_len hf hM; omega) E)
  obtain ⟨w2, hw2⟩ : ∃ w2, w2 = (w.alloc (.cells #[.bool r.each, .int .i64 r.when, .int .i64 r.iff.k, .int .i64 r.iff.n, .string (bs r.iff.s), .slice ai r.iff.a.length ci, .string (bs r.s), .int .i64 r.key.k, .int .i64 r.key.n, .string (bs r.key.s), .slice ak r.key.a.length ck, .int .i64 r.val.k, .int .i64 r.val.n, .string (bs r.val.s), .slice av r.val.a.length cv] 43)).alloc (.cells #[.string (bs R.line), .string (bs R.it), .slice ra R.words.length rc] 82) := ⟨_, rfl⟩
  have hbx : Below w.heap.size w w2 := by rw [hw2]; exact below_trans (below_box _) (below_box _)
  have e2 : w2.cell? ⟨w.heap.size, 2, none⟩ = some (.int .i64 r.iff.k) := by rw [hw2]; simp
  have e3 : w2.cell? ⟨w.heap.size, 3, none⟩ = some (.int .i64 r.iff.n) := by rw [hw2]; simp
  have e4 : w2.cell? ⟨w.heap.size, 4, none⟩ = some (.string (bs r.iff.s)) := by rw [hw2]; simp
  have e5 : w2.cell? ⟨w.heap.size, 5, none⟩ = some (.slice ai r.iff.a.length ci) := by rw [hw2]; simp
  have e6 : w2.cell? ⟨w.heap.size, 6, none⟩ = some (.string (bs r.s)) := by rw [hw2]; simp
  have r0 : w2.cell? ⟨w.heap.size + 1, 0, none⟩ = some (.string (bs R.line)) := by rw [hw2]; simp
  have r1 : w2.cell? ⟨w.heap.size + 1, 1, none⟩ = some (.string (bs R.it)) := by rw [hw2]; simp
  have r2 : w2.cell? ⟨w.heap.size + 1, 2, none⟩ = some (.slice ra R.words.length rc) := by rw [hw2]; simp
  have HW2 := Lib.hid hw2
  have HB := Lib.hid hbx
  have XI := Lib.hid (xi.lower hbx)
  have HR := Lib.hid (hR.below hbx)
  have HE := Lib.hid (E.lower hbx)
  clear hw2 hbx xi hR E
  unfold Rl.value recV
  rcases hr.when with h0 | ⟨h12, hf⟩
  · have HV : Hid (holdsB r R = true) := by
      show _ = _
      unfold holdsB
      rw [h0]; rfl
    rw [HV.out, h0]
    clear S XI HE e2 e3 e4 e5 e6 r0 r1 r2
    go_enter Tryd.func39, Tryd.ntmps39
    go_wp2
    go_ret
    exact ⟨rfl, below_trans (below_box _) (below_box _)⟩
  · replace e2 := cell_regrown e2
    replace e3 := cell_regrown e3
    replace e4 := cell_regrown e4
    replace e5 := cell_regrown e5
    replace e6 := cell_regrown e6
    replace r0 := cell_regrown r0
    replace r1 := cell_regrown r1
    replace r2 := cell_regrown r2
    have D1 : Hid (∀ d os, Calls Tryd.prog 56 #[r.iff.val (.slice ai r.iff.a.length ci), recV R ra rc] (Sort.grow (redrawn w2 d) os) fun e w'' => e = .returned (.string (bs (r.iff.str R))) ∧ ∃ p : Regrown, w'' = Sort.grow (redrawn w2 p.d) p.os) := fun d os => Calls.regrown_of (S.out _ (XI.out.lower (below_regrown _ _ _)) hf (HR.out.below (below_regrown _ _ _)) (HE.out.lower (below_regrown _ _ _)))
    unfold Ex.val recV at D1
    have hq : ∀ a b : List UInt8, ((bs a).toList == (bs b).toList) = decide (a = b) := fun a b => by
      rw [bs_toList, bs_toList]
      by_cases h : a = b
      · simp [h]
      · rw [decide_eq_false h, beq_eq_false_iff_ne]; exact h
    rcases h12 with h0 | h0
    · have HV : Hid (holdsB r R = ((bs (r.iff.str R)).toList == (bs r.s).toList)) := by
        show _ = _
        unfold holdsB
        rw [h0, if_pos rfl, hq]
      rw [HV.out]
      rw [h0] at HW2 ⊢
      clear S XI HR HE HV hq h0 hf hr
      generalize bs (r.iff.str R) = X at *
      generalize r.iff.k = xk at *
      generalize r.iff.n = xn at *
      generalize bs r.iff.s = xs at *
      generalize bs r.s = ss at *
      go_enter Tryd.func39, Tryd.ntmps39
      go_wp2
      rw [← HW2.out]
      refine wp_region_quiet_below hmix (by kernel_rfl) ?_
      repeat (quiet_step (first | (go_at_call 56; exact D1.out _ _)))
      refine wpQuiet_nil ?_
      intro _ hw'
      obtain ⟨⟨dq, osq⟩, hw''⟩ := hw'
      subst hw''
      have hbb : Below w.heap.size w (Sort.grow (redrawn w2 dq) osq) := below_trans HB.out (below_regrown w2 dq osq)
      generalize Sort.grow (redrawn w2 dq) osq = w3 at *
      go_wp2
      go_ret
      exact ⟨rfl, hbb⟩
    · have HV : Hid (holdsB r R = !((bs (r.iff.str R)).toList == (bs r.s).toList)) := by
        show _ = _
        unfold holdsB
        rw [h0, if_neg (by decide), if_pos rfl, hq]
      rw [HV.out]
      rw [h0] at HW2 ⊢
      clear S XI HR HE HV hq h0 hf hr
      generalize bs (r.iff.str R) = X at *
      generalize r.iff.k = xk at *
      generalize r.iff.n = xn at *
      generalize bs r.iff.s = xs at *
      generalize bs r.s = ss at *
      go_enter Tryd.func39, Tryd.ntmps39
      go_wp2
      rw [← HW2.out]
      refine wp_region_quiet_below hmix (by kernel_rfl) ?_
      repeat (quiet_step (first | (go_at_call 56; exact D1.out _ _)))
      refine wpQuiet_nil ?_
      intro _ hw'
      obtain ⟨⟨dq, osq⟩, hw''⟩ := hw'
      subst hw''
      have hbb : Below w.heap.size w (Sort.grow (redrawn w2 dq) osq) := below_trans HB.out (below_regrown w2 dq osq)
      generalize Sort.grow (redrawn w2 dq) osq = w3 at *
      go_wp2
      go_ret
      exact ⟨rfl, hbb⟩
end Go.Proofs.YtgkpnjnollfdaaaDoor
/- Mapper: the pair of a look. -/
namespace Go.Proofs.YtgkpnjnollfdaaaDoor
open Go.ChangeShapes Go.WideShapes Go.ChangeAt Go.RowKit
set_option maxRecDepth 100000 in
set_option maxHeartbeats 1000000 in
theorem pairOf_any (r : Rl) (ai ak av : Option Addr) (ci ck cv : Nat) (kind : Int) (R : Rc) (ra : Option Addr) (rc : Nat) (w : World) (hR : IsTexts w (.slice ra R.words.length rc) (R.words.map bs)) (xk : IsEx w (.slice ak r.key.a.length ck) r.key) (xv : IsEx w (.slice av r.val.a.length cv) r.val) (hr : RlIn r) (hM : RcIn R 1000000) (E : EnvS w) :
    Calls Tryd.prog 40 #[r.value (.slice ai r.iff.a.length ci) (.slice ak r.key.a.length ck) (.slice av r.val.a.length cv), recV R ra rc, .int .i64 kind] w fun e w' => e = .returned (.agg #[.string (pairL r kind R).1, .int .i64 (pairL r kind R).2]) ∧ Below w.heap.size w w' := by
  have S := Lib.hid (fun w (h : IsEx w (.slice ak r.key.a.length ck) r.key) hR E => StrX_any R ra rc h hR (by have := fault_wt hr.key; omega) hr.key (by have := fault_len hr.key hM; omega) E)
  have I := Lib.hid (fun w (h : IsEx w (.slice av r.val.a.length cv) r.val) hR E => IntX_any R ra rc h hR (by have := fault_wt hr.val; omega) hr.val (by have := fault_far hr.val hM; omega) E)
  obtain ⟨w1, hw1⟩ : ∃ w1, w1 = (w.alloc (.cells #[.bool r.each, .int .i64 r.when, .int .i64 r.iff.k, .int .i64 r.iff.n, .string (bs r.iff.s), .slice ai r.iff.a.length ci, .string (bs r.s), .int .i64 r.key.k, .int .i64 r.key.n, .string (bs r.key.s), .slice ak r.key.a.length ck, .int .i64 r.val.k, .int .i64 r.val.n, .string (bs r.val.s), .slice av r.val.a.length cv] 43)).alloc (.cells #[.string (bs R.line), .string (bs R.it), .slice ra R.words.length rc] 82) := ⟨_, rfl⟩
  have hb1 : Below w.heap.size w w1 := by rw [hw1]; exact below_trans (below_box _) (below_box _)
  have hs1 : w1.heap.size = w.heap.size + 1 + 1 := by rw [hw1]; simp
  obtain ⟨w2, hw2⟩ : ∃ w2, w2 = w1.alloc (.cells #[.string ⟨#[]⟩, .int .i64 0] 25) := ⟨_, rfl⟩
  have hb2 : Below w1.heap.size w1 w2 := by rw [hw2]; exact below_box _
  have hbx := below_trans hb1 hb2
  have e0 := cell_below (a := ⟨w.heap.size, 7, none⟩) (v := .int .i64 r.key.k) (by rw [hw1]; simp) hb2
  have e1 := cell_below (a := ⟨w.heap.size, 8, none⟩) (v := .int .i64 r.key.n) (by rw [hw1]; simp) hb2
  have e2 := cell_below (a := ⟨w.heap.size, 9, none⟩) (v := .string (bs r.key.s)) (by rw [hw1]; simp) hb2
  have e3 := cell_below (a := ⟨w.heap.size, 10, none⟩) (v := .slice ak r.key.a.length ck) (by rw [hw1]; simp) hb2
  have v0 := cell_below (a := ⟨w.heap.size, 11, none⟩) (v := .int .i64 r.val.k) (by rw [hw1]; simp) hb2
  have v1 := cell_below (a := ⟨w.heap.size, 12, none⟩) (v := .int .i64 r.val.n) (by rw [hw1]; simp) hb2
  have v2 := cell_below (a := ⟨w.heap.size, 13, none⟩) (v := .string (bs r.val.s)) (by rw [hw1]; simp) hb2
  have v3 := cell_below (a := ⟨w.heap.size, 14, none⟩) (v := .slice av r.val.a.length cv) (by rw [hw1]; simp) hb2
  have r0 := cell_below (a := ⟨w.heap.size + 1, 0, none⟩) (v := .string (bs R.line)) (by rw [hw1]; simp) hb2
  have r1 := cell_below (a := ⟨w.heap.size + 1, 1, none⟩) (v := .string (bs R.it)) (by rw [hw1]; simp) hb2
  have r2 := cell_below (a := ⟨w.heap.size + 1, 2, none⟩) (v := .slice ra R.words.length rc) (by rw [hw1]; simp) hb2
  have hg : Blk w2 (w.heap.size + 1 + 1) 25 [.string ⟨#[]⟩, .int .i64 0] := by rw [hw2]; exact blk_new (cs := #[.string ⟨#[]⟩, .int .i64 0]) hs1.symm
  rw [hw1] at hw2
  have hXs : (r.key.str R).length ≤ 1000000000 := Nat.le_trans (str_len R r.key) (by have := fault_len hr.key hM; omega)
  rw [← bs_size] at hXs
  have HW2 := Lib.hid hw2
  have XK := Lib.hid (xk.lower hbx)
  have XV := Lib.hid (xv.lower hbx)
  have HR := Lib.hid (hR.below hbx)
  have HE := Lib.hid (E.lower hbx)
  clear hw2 hw1 hs1 hb1 hb2 xk xv hR E hr
  unfold Rl.value recV
  unfold Ex.val recV at S I
  simp only [pairL]
  have FI := Lib.hid (fun w => Pp.first_any kind (r.val.num R) w)
  generalize hX : bs (r.key.str R) = X at *
  have HX : Hid ((20 ≤ X.size → X.extract 0 20 = bs ((r.key.str R).take 20)) ∧ (X.size ≤ 20 → X.extract 0 X.size = bs ((r.key.str R).take 20))) := by
    subst hX
    refine ⟨fun _ => bs_take _ _, fun h => ?_⟩
    rw [bs_size] at h ⊢
    rw [bs_take, List.take_of_length_le h, List.take_of_length_le (Nat.le_refl _)]
  generalize r.val.num R = V at *
  generalize Pp.firstI kind V = fv at *
  go_enter Tryd.func40, Tryd.ntmps40
  go_wp2_with (go_at_call 56; refine Hid.out ?_)
  refine Lib.hid ?_
  rw [← HW2.out]
  refine (S.out _ XK.out HR.out HE.out).mono ?_
  rintro _ w3 ⟨rfl, hb3⟩
  replace v0 := cell_below v0 hb3
  replace v1 := cell_below v1 hb3
  replace v2 := cell_below v2 hb3
  replace v3 := cell_below v3 hb3
  replace r0 := cell_below r0 hb3
  replace r1 := cell_below r1 hb3
  replace r2 := cell_below r2 hb3
  have hg3 := hg.blw hb3
  have hb03 := below_trans hbx hb3
  have IV := Lib.hid (I.out w3 (XV.out.lower hb3) (HR.out.below hb3) (HE.out.lower hb3))
  clear e0 e1 e2 e3 hg hb3 hbx S I XK XV HR HE HW2
  have HMIN : ∃ (m : Nat), min (X.size : Int) 20 = (m : Int) ∧ m ≤ X.size ∧ X.extract 0 m = bs ((r.key.str R).take 20) := by
    by_cases h : X.size ≤ 20
    · exact ⟨X.size, by omega, Nat.le_refl _, HX.out.2 h⟩
    · exact ⟨20, by omega, by omega, HX.out.1 (by omega)⟩
  obtain ⟨m, hm, hmX, hmE⟩ := HMIN
  have HME := Lib.hid hmE
  clear hmE HX
  go_wp2_with (go_at_call 58; refine Hid.out ?_)
  refine Lib.hid ?_
  refine IV.out.mono ?_
  rintro _ w4 ⟨rfl, hb4⟩
  have hg4 := hg3.blw hb4
  have hb04 := below_trans hb03 hb4
  have q0 := hg4.at (i := 0) (v := .string ⟨#[]⟩) rfl
  have q1 := hg4.at (i := 1) (v := .int .i64 0) rfl
  have f0 := hg4.frozen 0
  have f1 := hg4.frozen 1
  have HG := Lib.hid hg4
  clear hb4 hg4 hg3 hb03 v0 v1 v2 v3 r0 r1 r2 IV
  go_wp2_with (go_at_call 57; refine (FI.out _).mono ?_; rintro _ w5 ⟨rfl, h5⟩; rw [h5]; clear h5 w5)
  (try simp only [Exit.inBlock, Exit.then])
  have g2 := (HG.out.set 0 (.string (X.extract 0 m))).set 1 (.int .i64 fv)
  have hp1 : Below w.heap.size w ((w4.setCell ⟨w.heap.size + 1 + 1, 0, none⟩ (.string (X.extract 0 m))).setCell ⟨w.heap.size + 1 + 1, 1, none⟩ (.int .i64 fv)) := (hb04.setCell (p := ⟨w.heap.size + 1 + 1, 0, none⟩) (by simp; omega) _).setCell (p := ⟨w.heap.size + 1 + 1, 1, none⟩) (by simp; omega) _
  refine bodyPost_ret (results_cell_row rfl _ _ (w.heap.size + 1 + 1) 25 #[.string (X.extract 0 m), .int .i64 fv] (0, 0) _ rfl g2 Tryd.underlying25 rfl (by kernel_rfl)) rfl ?_
  exact ⟨by rw [← HME.out], hp1⟩
end Go.Proofs.YtgkpnjnollfdaaaDoor
/- Mapper: Pairs. -/
namespace Go.Proofs.YtgkpnjnollfdaaaDoor
open Go.ChangeShapes Go.WideShapes Go.ChangeAt Go.RowKit
def ruleCells (r : Rl) (ai ak av : Option Addr) (ci ck cv : Nat) : List Value := [.bool r.each, .int .i64 r.when, .int .i64 r.iff.k, .int .i64 r.iff.n, .string (bs r.iff.s), .slice ai r.iff.a.length ci, .string (bs r.s), .int .i64 r.key.k, .int .i64 r.key.n, .string (bs r.key.s), .slice ak r.key.a.length ck, .int .i64 r.val.k, .int .i64 r.val.n, .string (bs r.val.s), .slice av r.val.a.length cv]
theorem ruleAt {w : World} {B : Nat} {r : Rl} {ai ak av : Option Addr} {ci ck cv : Nat} (h : Blk w B 43 (ruleCells r ai ak av ci ck cv)) : w.cell? ⟨B, 0, none⟩ = some (.bool r.each) ∧ w.cell? ⟨B, 1, none⟩ = some (.int .i64 r.when) ∧ w.cell? ⟨B, 2, none⟩ = some (.int .i64 r.iff.k) ∧ w.cell? ⟨B, 3, none⟩ = some (.int .i64 r.iff.n) ∧ w.cell? ⟨B, 4, none⟩ = some (.string (bs r.iff.s)) ∧ w.cell? ⟨B, 5, none⟩ = some (.slice ai r.iff.a.length ci) ∧ w.cell? ⟨B, 6, none⟩ = some (.string (bs r.s)) ∧ w.cell? ⟨B, 7, none⟩ = some (.int .i64 r.key.k) ∧ w.cell? ⟨B, 8, none⟩ = some (.int .i64 r.key.n) ∧ w.cell? ⟨B, 9, none⟩ = some (.string (bs r.key.s)) ∧ w.cell? ⟨B, 10, none⟩ = some (.slice ak r.key.a.length ck) ∧ w.cell? ⟨B, 11, none⟩ = some (.int .i64 r.val.k) ∧ w.cell? ⟨B, 12, none⟩ = some (.int .i64 r.val.n) ∧ w.cell? ⟨B, 13, none⟩ = some (.string (bs r.val.s)) ∧ w.cell? ⟨B, 14, none⟩ = some (.slice av r.val.a.length cv) :=
  ⟨h.at rfl, h.at rfl, h.at rfl, h.at rfl, h.at rfl, h.at rfl, h.at rfl, h.at rfl, h.at rfl, h.at rfl, h.at rfl, h.at rfl, h.at rfl, h.at rfl, h.at rfl⟩
/-- What Pairs has made by now, beside what it goes over. -/
structure Mk (w0 wr : World) (lv : Value) (acc : List (ByteArray × Int)) : Prop where
  row : wr.ownsRow w0.heap.size 25 2 lv acc.length (Pp.cellsP acc)
  bel : Below w0.heap.size w0 wr
structure Mi (w0 wr : World) (B : Nat) (cs : List Value) (u wv : Value) (L : List Rc) (lv : Value) (acc : List (ByteArray × Int)) : Prop where
  md : Mk w0 wr lv acc
  rule : Blk wr B 43 cs
  recs : wr.ownsRow w0.heap.size 82 3 u L.length (cellsR wv L)
theorem Mk.below {w0 wr w' : World} {lv : Value} {acc : List (ByteArray × Int)} (h : Mk w0 wr lv acc) (hb : Below wr.heap.size wr w') : Mk w0 w' lv acc := ⟨ow_below h.row hb, below_trans h.bel hb⟩
theorem Mi.below {w0 wr w' : World} {B : Nat} {cs : List Value} {u wv lv : Value} {L : List Rc} {acc : List (ByteArray × Int)} (h : Mi w0 wr B cs u wv L lv acc) (hb : Below wr.heap.size wr w') : Mi w0 w' B cs u wv L lv acc := ⟨h.md.below hb, h.rule.blw hb, ow_below h.recs hb⟩
theorem ruleP_take (r : Rl) (kind : Int) (L : List Rc) (k : Nat) (x : Rc) (hx : L[k]? = some x) : ((L.take (k + 1)).filter (holdsB r)).map (pairL r kind) = ((L.take k).filter (holdsB r)).map (pairL r kind) ++ (if holdsB r x = true then [pairL r kind x] else []) := by
  rw [take_snoc hx, List.filter_append, List.map_append]
  congr 1
  cases h : holdsB r x <;> simp [h]
theorem pairInfo2 : (Tryd.prog.info? 25).map (fun i => (i.zero, i.size, i.bytes)) = some (some (.agg #[.string ⟨#[]⟩, .int .i64 0]), 2, 24) := by kernel_rfl
set_option maxRecDepth 100000 in
set_option maxHeartbeats 2000000 in
theorem pairs_any (j : Jb) (rv : Value) (line : List UInt8) (w : World) (h : IsRules w rv j.rules) (hw : rulesWt j.rules ≤ 1000000000) (hf : jobFault j = 0) (hl : line.length ≤ 100000) (E : EnvS w) :
    Calls Tryd.prog 14 #[j.value rv, .string (bs line)] w fun e w' => ∃ u, e = .returned u ∧ w'.ownsRow w.heap.size 25 2 u (rulesP j.rules j.fold line).length (Pp.cellsP (rulesP j.rules j.fold line)) ∧ Below w.heap.size w w' := by
  have CK := Lib.hid (fun w h E => jobCheck_any j rv w h hw E)
  rw [hf] at CK
  obtain ⟨nw, hnw⟩ : ∃ nw, nw = (wordsL line).length := ⟨_, rfl⟩
  have OF := Lib.hid (fun w E => of_any line nw hnw w E (by omega))
  have HNW := Lib.hid hnw
  clear hnw
  obtain ⟨hl1, hl4, -, -, -, -, hrf⟩ := jobFault_parts hf
  have HRF := Lib.hid (rulesFault_all hrf)
  clear hf hrf
  obtain ⟨ip, hp0, hp1, hp2, hp3⟩ := info_parts pairInfo2
  obtain ⟨l, fo, ea', sl⟩ := j
  simp only [Jb.value] at *
  have H := Lib.hid h
  obtain ⟨a, cap, b, off, AI, AK, AV, rfl, ha, hc⟩ := h
  have HA := Lib.hid ha
  have HC := Lib.hid hc
  have HE := Lib.hid E
  clear ha hc E
  obtain ⟨n, hn⟩ : ∃ n, n = l.length := ⟨_, rfl⟩
  rw [← hn] at H CK hl1 hl4 ⊢
  have HN := Lib.hid hn
  clear hn
  unfold errV at CK
  simp only [if_pos] at CK
  go_enter Tryd.func14, Tryd.ntmps14
  go_wp2_with (go_at_call 17; refine Hid.out ?_)
  refine Lib.hid ?_
  refine (CK.out _ (H.out.lower (below_box _)) (HE.out.lower (below_box _))).mono ?_
  rintro _ w1 ⟨rfl, hb1⟩
  have JB := Lib.hid ((blk_new (w := w) (cs := #[.slice a n cap, .int .i64 fo, .bool ea', .int .i64 sl]) (t := 37) rfl).blw hb1)
  have hb01 := below_trans (below_box _) hb1
  clear CK hb1
  go_wp2_with (go_at_call 37; refine Hid.out ?_)
  refine Lib.hid ?_
  refine (OF.out w1 (HE.out.lower hb01).toEnv0).mono ?_
  rintro _ w2 ⟨ra, rc, rfl, HT, hb2, -⟩
  obtain ⟨w3, hw3⟩ : ∃ w3, w3 = w2.alloc (.cells #[.string (bs line), .string ⟨#[]⟩, .slice ra nw rc] 82) := ⟨_, rfl⟩
  have hb23 : Below w2.heap.size w2 w3 := by rw [hw3]; exact below_box _
  have hb13 := below_trans hb2 hb23
  have hb03 := below_trans hb01 hb13
  obtain ⟨G, hG⟩ : ∃ G, G = w2.heap.size := ⟨_, rfl⟩
  have RB : Hid (Blk w3 G 82 [.string (bs line), .string ⟨#[]⟩, .slice ra nw rc]) := by
    show Blk _ _ _ _
    rw [hw3]
    exact blk_new (cs := #[.string (bs line), .string ⟨#[]⟩, .slice ra nw rc]) hG
  have HT3 : Hid (IsTexts w3 (.slice ra nw rc) ((wordsL line).map bs)) := IsTexts.below HT.out hb23
  have JB3 := Lib.hid (JB.out.blw hb13)
  have HW3 := Lib.hid hw3
  have HGG := Lib.hid hG
  have HB03 := Lib.hid hb03
  have k0 := JB3.out.at (i := 0) (v := .slice a n cap) rfl
  clear hw3 hG hb23 hb13 hb2 hb01 HT JB hb03 OF
  go_upto_region 5 with fail
  rw [← HW3.out, ← HGG.out]
  clear HW3 HGG
  go_wp2
  clear k0
  have M0 : Hid (Mk w3 w3 (.slice none 0 0) (rulesP (l.take 0) fo line)) := ⟨World.ownsRow_nil _ _ _ _, Below.refl _ _⟩
  go_loopg [5, 19] n (fun gg lv iv wr => ∃ i : Nat, gg = n - i ∧ i ≤ n ∧ iv = .int .i64 i ∧ Hid (Mk w3 wr lv (rulesP (l.take i) fo line)))
  case atStart => exact ⟨0, rfl, Nat.zero_le _, rfl, M0⟩
  case round =>
    clear M0
    obtain ⟨i, hgi, hi, rfl, HM⟩ := hrel
    have HGI := Lib.hid hgi
    clear hgi
    have hb3r := HM.out.bel
    by_cases hlt : i < n
    · obtain ⟨r, hr⟩ : ∃ r, l[i]? = some r := ⟨l[i]'(by have := HN.out; omega), by simp⟩
      have hbw := below_trans HB03.out hb3r
      have ea := HA.out (by have := HN.out; omega)
      subst ea
      obtain ⟨⟨c0, c1, c2, c3, c4, c5, c6, c7, c8, c9, c10, c11, c12, c13, c14⟩, xi, xk, xv⟩ := HC.out i r hr
      obtain ⟨ai, ci, ei⟩ := xi.slice
      obtain ⟨ak, ck, ek⟩ := xk.slice
      obtain ⟨av, cv, ev⟩ := xv.slice
      rw [ei] at c5 xi
      rw [ek] at c10 xk
      rw [ev] at c14 xv
      replace c0 := cell_below c0 hbw
      replace c1 := cell_below c1 hbw
      replace c2 := cell_below c2 hbw
      replace c3 := cell_below c3 hbw
      replace c4 := cell_below c4 hbw
      replace c5 := cell_below c5 hbw
      replace c6 := cell_below c6 hbw
      replace c7 := cell_below c7 hbw
      replace c8 := cell_below c8 hbw
      replace c9 := cell_below c9 hbw
      replace c10 := cell_below c10 hbw
      replace c11 := cell_below c11 hbw
      replace c12 := cell_below c12 hbw
      replace c13 := cell_below c13 hbw
      replace c14 := cell_below c14 hbw
      have XI := Lib.hid xi
      have XK := Lib.hid xk
      have XV := Lib.hid xv
      have HR := Lib.hid (rlIn_of (HRF.out r (List.mem_of_getElem? hr)))
      have HRR := Lib.hid hr
      clear xi xk xv ei ek ev hr hbw
      obtain ⟨w4, hw4⟩ : ∃ w4, w4 = wr.alloc (.cells #[.bool r.each, .int .i64 r.when, .int .i64 r.iff.k, .int .i64 r.iff.n, .string (bs r.iff.s), .slice ai r.iff.a.length ci, .string (bs r.s), .int .i64 r.key.k, .int .i64 r.key.n, .string (bs r.key.s), .slice ak r.key.a.length ck, .int .i64 r.val.k, .int .i64 r.val.n, .string (bs r.val.s), .slice av r.val.a.length cv] 43) := ⟨_, rfl⟩
      obtain ⟨B, hB⟩ : ∃ B, B = wr.heap.size := ⟨_, rfl⟩
      have RU : Hid (Blk w4 B 43 (ruleCells r ai ak av ci ck cv)) := by
        show Blk _ _ _ _
        rw [hw4]
        exact blk_new hB
      have hbr4 : Below wr.heap.size wr w4 := by rw [hw4]; exact below_box _
      have HM4 := Lib.hid (HM.out.below hbr4)
      have hb04 := below_trans HB03.out HM4.out.bel
      have HT4 : Hid (IsTexts w4 (.slice ra nw rc) ((wordsL line).map bs)) := IsTexts.below HT3.out HM4.out.bel
      have LK : Hid (Calls Tryd.prog 38 #[.agg #[.bool r.each, .int .i64 r.when, .int .i64 r.iff.k, .int .i64 r.iff.n, .string (bs r.iff.s), .slice ai r.iff.a.length ci, .string (bs r.s), .int .i64 r.key.k, .int .i64 r.key.n, .string (bs r.key.s), .slice ak r.key.a.length ck, .int .i64 r.val.k, .int .i64 r.val.n, .string (bs r.val.s), .slice av r.val.a.length cv], .agg #[.string (bs line), .string ⟨#[]⟩, .slice ra nw rc]] w4 fun e w' => ∃ u, e = .returned u ∧ w'.ownsRow w4.heap.size 82 3 u (looksL r.each (ofL line)).length (cellsR (.slice ra nw rc) (looksL r.each (ofL line))) ∧ Below w4.heap.size w4 w') := by
        have h := looks_any r ai ak av ci ck cv (ofL line) ra rc w4 (by
          have := HT4.out
          rw [HNW.out] at this
          exact this) (by have := words_len line; show (wordsL line).length ≤ _; omega)
        rw [show (ofL line).words.length = nw from HNW.out.symm] at h
        unfold Rl.value recV at h
        rw [show (ofL line).words.length = nw from HNW.out.symm] at h
        exact h
      have HLL : Hid (∀ x ∈ looksL r.each (ofL line), RcIn x 1000000 ∧ x.words = wordsL line ∧ x.line = line) := fun x hx => rcIn_look (rcIn_of line 1000000 (by omega)) hx
      have HRP : Hid (rulesP (l.take (i + 1)) fo line = rulesP (l.take i) fo line ++ ((looksL r.each (ofL line)).filter (holdsB r)).map (pairL r fo)) := by
        show _ = _
        rw [take_snoc HRR.out, rulesP_append, rulesP_one]
        rfl
      have HLN : (looksL r.each (ofL line)).length ≤ 100001 := by have h1 := looks_len r.each (ofL line); have h2 : (ofL line).words.length ≤ line.length := words_len line; omega
      have HAL : (rulesP (l.take i) fo line).length ≤ 400004 := by
        have h1 := rulesP_len (l.take i) fo line
        have h2 : (l.take i).length ≤ 4 := by rw [List.length_take]; omega
        have h3 := Nat.mul_le_mul h2 (show line.length + 1 ≤ 100001 by omega)
        omega
      generalize looksL r.each (ofL line) = L at *
      generalize rulesP (l.take i) fo line = acc at *
      have HLN2 := Lib.hid HLN
      have HAL2 := Lib.hid HAL
      have HW4 := Lib.hid hw4
      have HBB := Lib.hid hB
      have HB04 := Lib.hid hb04
      obtain ⟨g0, g1, g2⟩ : w4.cell? ⟨G, 0, none⟩ = some (.string (bs line)) ∧ w4.cell? ⟨G, 1, none⟩ = some (.string ⟨#[]⟩) ∧ w4.cell? ⟨G, 2, none⟩ = some (.slice ra nw rc) := by
        have h := RB.out.blw HM4.out.bel
        exact ⟨h.at rfl, h.at rfl, h.at rfl⟩
      obtain ⟨q0, q1, q2, q3, q4, q5, q6, q7, q8, q9, q10, q11, q12, q13, q14⟩ := ruleAt RU.out
      clear hw4 hB hbr4 hb3r HLN HAL hb04 HM
      go_upto_region 8 with fail
      rw [← HW4.out, ← HBB.out]
      clear HW4 c0 c1 c2 c3 c4 c5 c6 c7 c8 c9 c10 c11 c12 c13 c14
      go_wp2_with (go_at_call 38; refine Hid.out ?_)
      refine Lib.hid ?_
      refine LK.out.mono ?_
      rintro _ w5 ⟨u, rfl, hrec, hb45⟩
      obtain ⟨m, hm⟩ : ∃ m, m = L.length := ⟨_, rfl⟩
      rw [← hm] at hrec
      obtain ⟨uo, uc, eu, -⟩ := isRecs_of hm hrec
      rw [← hm] at eu
      subst eu
      have I5 : Hid (Mi w3 w5 B (ruleCells r ai ak av ci ck cv) (.slice uo m uc) (.slice ra nw rc) L u5 (acc ++ ((L.take 0).filter (holdsB r)).map (pairL r fo))) := by
        refine ⟨?_, RU.out.blw hb45, by rw [← hm]; exact ow_low hrec HM4.out.bel.size⟩
        simp only [List.take_zero, List.filter_nil, List.map_nil, List.append_nil]
        exact HM4.out.below hb45
      have hmle : m ≤ 100001 := by rw [hm]; exact HLN2.out
      have HMM := Lib.hid hm
      clear LK RU HM4 HT4 hrec hb45 hm g0 g1 g2 q0 q1 q2 q3 q4 q5 q6 q7 q8 q9 q10 q11 q12 q13 q14
      dsimp only
      go_wp2
      go_loopg [5, 27] m (fun gg lv kv wq => ∃ k : Nat, gg = m - k ∧ k ≤ m ∧ kv = .int .i64 k ∧ Hid (Mi w3 wq B (ruleCells r ai ak av ci ck cv) (.slice uo m uc) (.slice ra nw rc) L lv (acc ++ ((L.take k).filter (holdsB r)).map (pairL r fo))))
      case atStart => exact ⟨0, rfl, Nat.zero_le _, rfl, I5⟩
      case round =>
        clear I5
        obtain ⟨k, hgk, hk, rfl, HI⟩ := hrel
        have HGK := Lib.hid hgk
        clear hgk
        by_cases hkm : k < m
        · have HKM := Lib.hid hkm
          obtain ⟨x, hx⟩ : ∃ x, L[k]? = some x := ⟨L[k]'(by have := HMM.out; omega), by simp⟩
          obtain ⟨rcx, hwx, -⟩ := HLL.out x (List.mem_of_getElem? hx)
          obtain ⟨a', cap', ev', hcell⟩ := isRecs_of rfl HI.out.recs
          simp only [Value.slice.injEq] at ev'
          obtain ⟨rfl, -, rfl⟩ := ev'
          obtain ⟨rb, roff, eu, s0, s1, s2⟩ := hcell k x hx
          subst eu
          obtain ⟨w6, hw6⟩ : ∃ w6, w6 = wr.alloc (.cells #[.string (bs x.line), .string (bs x.it), .slice ra nw rc] 82) := ⟨_, rfl⟩
          obtain ⟨C, hC⟩ : ∃ C, C = wr.heap.size := ⟨_, rfl⟩
          have hbr6 : Below wr.heap.size wr w6 := by rw [hw6]; exact below_box _
          have RC : Hid (Blk w6 C 82 [.string (bs x.line), .string (bs x.it), .slice ra nw rc]) := by
            show Blk _ _ _ _
            rw [hw6]
            exact blk_new hC
          have I6 := Lib.hid (HI.out.below hbr6)
          have hb06 := below_trans HB03.out I6.out.md.bel
          have hwl : x.words.length = nw := by rw [hwx]; exact HNW.out.symm
          have HT6 : ∀ w', Below w6.heap.size w6 w' → IsTexts w' (.slice ra x.words.length rc) (x.words.map bs) := fun w' hb' => by
            rw [hwl, hwx]
            exact IsTexts.below HT3.out (below_trans I6.out.md.bel hb')
          have HO : Hid (Calls Tryd.prog 39 #[.agg #[.bool r.each, .int .i64 r.when, .int .i64 r.iff.k, .int .i64 r.iff.n, .string (bs r.iff.s), .slice ai r.iff.a.length ci, .string (bs r.s), .int .i64 r.key.k, .int .i64 r.key.n, .string (bs r.key.s), .slice ak r.key.a.length ck, .int .i64 r.val.k, .int .i64 r.val.n, .string (bs r.val.s), .slice av r.val.a.length cv], .agg #[.string (bs x.line), .string (bs x.it), .slice ra nw rc]] w6 fun e w' => e = .returned (.bool (holdsB r x)) ∧ Below w6.heap.size w6 w') := by
            have h := holds_any r ai ak av ci ck cv x ra rc w6 (HT6 _ (Below.refl _ _)) (XI.out.lower hb06) HR.out rcx (HE.out.lower hb06)
            unfold Rl.value recV at h
            rw [hwl] at h
            exact h
          have PO : Hid (∀ w', Below w6.heap.size w6 w' → Calls Tryd.prog 40 #[.agg #[.bool r.each, .int .i64 r.when, .int .i64 r.iff.k, .int .i64 r.iff.n, .string (bs r.iff.s), .slice ai r.iff.a.length ci, .string (bs r.s), .int .i64 r.key.k, .int .i64 r.key.n, .string (bs r.key.s), .slice ak r.key.a.length ck, .int .i64 r.val.k, .int .i64 r.val.n, .string (bs r.val.s), .slice av r.val.a.length cv], .agg #[.string (bs x.line), .string (bs x.it), .slice ra nw rc], .int .i64 fo] w' fun e w'' => e = .returned (.agg #[.string (pairL r fo x).1, .int .i64 (pairL r fo x).2]) ∧ Below w'.heap.size w' w'') := fun w' hb' => by
            have h := pairOf_any r ai ak av ci ck cv fo x ra rc w' (HT6 _ hb') (XK.out.lower (below_trans hb06 hb')) (XV.out.lower (below_trans hb06 hb')) HR.out rcx (HE.out.lower (below_trans hb06 hb'))
            unfold Rl.value recV at h
            rw [hwl] at h
            exact h
          have HTK := Lib.hid (ruleP_take r fo L k x hx)
          have HAK : (acc ++ ((L.take k).filter (holdsB r)).map (pairL r fo)).length ≤ 500005 := by
            rw [List.length_append, List.length_map]
            have h1 := List.length_filter_le (holdsB r) (L.take k)
            have h2 := List.length_take_le' k L
            have h3 := HLN2.out
            have h4 := HAL2.out
            omega
          have HAA : Hid (acc ++ ((L.take (k + 1)).filter (holdsB r)).map (pairL r fo) = (acc ++ ((L.take k).filter (holdsB r)).map (pairL r fo)) ++ (if holdsB r x = true then [pairL r fo x] else [])) := by
            show _ = _
            rw [HTK.out, List.append_assoc]
          generalize acc ++ ((L.take k).filter (holdsB r)).map (pairL r fo) = ack at *
          generalize pairL r fo x = pp at *
          generalize holdsB r x = hb at *
          generalize bs x.line = xl at *
          generalize bs x.it = xt at *
          obtain ⟨q0, q1, q2, q3, q4, q5, q6, q7, q8, q9, q10, q11, q12, q13, q14⟩ := ruleAt I6.out.rule
          obtain ⟨z0, z1, z2⟩ : w6.cell? ⟨C, 0, none⟩ = some (.string xl) ∧ w6.cell? ⟨C, 1, none⟩ = some (.string xt) ∧ w6.cell? ⟨C, 2, none⟩ = some (.slice ra nw rc) := ⟨RC.out.at rfl, RC.out.at rfl, RC.out.at rfl⟩
          have HW6 := Lib.hid hw6
          have HCC := Lib.hid hC
          clear hw6 hC hbr6 hb06 HT6 hwl rcx hwx hx hcell HTK HI
          go_upto_region 11 with fail
          rw [← HW6.out, ← HCC.out]
          clear HW6 HCC s0 s1 s2
          go_wp2_with (go_at_call 39; refine Hid.out ?_)
          refine Lib.hid ?_
          refine HO.out.mono ?_
          rintro _ w7 ⟨rfl, hb67⟩
          have I7 := Lib.hid (I6.out.below hb67)
          have RC7 := Lib.hid (RC.out.blw hb67)
          have PO7 := Lib.hid (PO.out w7 hb67)
          clear HO PO RC I6 hb67 q0 q1 q2 q3 q4 q5 q6 q7 q8 q9 q10 q11 q12 q13 q14 z0 z1 z2
          cases hb with
          | false =>
            have HAA2 : Hid (acc ++ ((L.take (k + 1)).filter (holdsB r)).map (pairL r fo) = ack) := by
              show _ = _
              rw [HAA.out]; simp
            clear HAA
            go_wp2
            go_roundg (m - (k + 1))
            case measure => have := HGK.out; have := HKM.out; omega
            case rel => exact ⟨k + 1, rfl, HKM.out, by have := HLN2.out; have := HMM.out; have := HKM.out; go_num, by rw [HAA2.out]; exact I7.out⟩
          | true =>
            have HAA2 : Hid (acc ++ ((L.take (k + 1)).filter (holdsB r)).map (pairL r fo) = ack ++ [pp]) := by
              show _ = _
              rw [HAA.out]; simp
            clear HAA
            obtain ⟨pk, pv⟩ := pp
            obtain ⟨q0, q1, q2, q3, q4, q5, q6, q7, q8, q9, q10, q11, q12, q13, q14⟩ := ruleAt I7.out.rule
            obtain ⟨z0, z1, z2⟩ : w7.cell? ⟨C, 0, none⟩ = some (.string xl) ∧ w7.cell? ⟨C, 1, none⟩ = some (.string xt) ∧ w7.cell? ⟨C, 2, none⟩ = some (.slice ra nw rc) := ⟨RC7.out.at rfl, RC7.out.at rfl, RC7.out.at rfl⟩
            have kf := (JB3.out.blw I7.out.md.bel).at (i := 1) (v := .int .i64 fo) rfl
            go_wp2_with (go_at_call 40; refine Hid.out ?_)
            refine Lib.hid ?_
            refine PO7.out.mono ?_
            rintro _ w8 ⟨rfl, hb78⟩
            have I8 := Lib.hid (I7.out.below hb78)
            clear PO7 RC7 I7 hb78 q0 q1 q2 q3 q4 q5 q6 q7 q8 q9 q10 q11 q12 q13 q14 z0 z1 z2 kf
            dsimp only
            go_wp2_with (at_builtin; refine Hid.out ?_)
            refine Lib.hid ?_
            refine wpList_append_own _ rfl (.tmp 34) (.tmp 40) 22 rfl w3.heap.size 25 ip (.agg #[.string ⟨#[]⟩, .int .i64 0]) 2 24 Tryd.underlying22 hp0 hp1 hp2 hp3 rfl (by decide) _ ack.length (Pp.cellsP ack) rfl (I8.out.md.row.alloc _) ⟨w8.heap.size, 0, none⟩ 1 1 [.string pk, .int .i64 pv] rfl rfl ?c1 ?c5 ?c2 ?c3 ?c4 ?_
            case c1 => exact lit_cells rfl (show 2 ≤ maxLen by decide)
            case c5 => intro u hu; simp at hu; rcases hu with rfl | rfl <;> rfl
            case c2 => unfold maxLen; omega
            case c3 => omega
            case c4 => have := I8.out.md.bel.size; simp; omega
            intro v2 w9 hown9 hg9 _
            have I9 : Hid (Mi w3 w9 B (ruleCells r ai ak av ci ck cv) (.slice (some ⟨rb, roff, none⟩) m uc) (.slice ra nw rc) L v2 (ack ++ [(pk, pv)])) := by
              refine ⟨⟨?_, ?_⟩, ?_, ?_⟩
              · rw [List.length_append, Pp.cellsP_append]
                exact hown9
              · have hs := I8.out.md.bel.size
                exact (I8.out.md.bel.alloc (by omega) _).grown hg9 (by simp; omega) (fun q hq => (I8.out.md.row.lt q hq).1)
              · exact blk_ow (I8.out.rule.blw (below_box _)) (I8.out.md.row.alloc _) (by decide) hg9
              · exact ow_grown (I8.out.recs.alloc _) (I8.out.md.row.alloc _) (by decide) hg9
            clear hown9 hg9 I8
            go_wp2
            go_roundg (m - (k + 1))
            case measure => have := HGK.out; have := HKM.out; omega
            case rel => exact ⟨k + 1, rfl, HKM.out, by have := HLN2.out; have := HMM.out; have := HKM.out; go_num, by rw [HAA2.out]; exact I9.out⟩
        · have HMD : Hid (Mk w3 wr u5 (rulesP (l.take (i + 1)) fo line)) := by
            have h := HI.out.md
            rw [List.take_of_length_le (by have := HMM.out; omega), ← HRP.out] at h
            exact h
          clear HI
          go_wp2
          go_roundg (n - (i + 1))
          case measure => have := HGI.out; omega
          case rel => exact ⟨i + 1, rfl, by omega, by go_num, HMD⟩
    · go_wp2
      have HFIN : Hid (l.take i = l) := List.take_of_length_le (by have := HN.out; omega)
      rw [HFIN.out] at HM
      have HL1 := Lib.hid (ow_low HM.out.row HB03.out.size)
      have HL2 := Lib.hid (below_trans HB03.out HM.out.bel)
      go_ret
      exact ⟨_, rfl, HL1.out, HL2.out⟩
end Go.Proofs.YtgkpnjnollfdaaaDoor
/- Mapper: what a job makes of lines; a run that may go on; what Step does. -/
namespace Go.Proofs.YtgkpnjnollfdaaaDoor
open Go.ChangeShapes Go.WideShapes Go.ChangeAt Go.RowKit
/-- What a job makes of lines. -/
def madeOf (j : Jb) (lines : List (List UInt8)) : List (ByteArray × Int) := lines.flatMap fun l => rulesP j.rules j.fold l
theorem madeOf_append (j : Jb) (a b : List (List UInt8)) : madeOf j (a ++ b) = madeOf j a ++ madeOf j b := by simp [madeOf]
theorem madeOf_len (j : Jb) (lines : List (List UInt8)) (h4 : j.rules.length ≤ 4) (hl : ∀ x ∈ lines, x.length ≤ 1000) : (madeOf j lines).length ≤ lines.length * 4004 := by
  induction lines with
  | nil => simp [madeOf]
  | cons x l ih =>
    have h1 := rulesP_len j.rules j.fold x
    have h2 := hl x (by simp)
    have h3 := Nat.mul_le_mul h4 (show x.length + 1 ≤ 1001 by omega)
    have h5 := ih fun y hy => hl y (by simp [hy])
    have e : madeOf j (x :: l) = rulesP j.rules j.fold x ++ madeOf j l := by simp [madeOf]
    rw [e, List.length_append, List.length_cons, Nat.succ_mul]
    omega
/-- A run that may go on. -/
structure MRin (w : World) (R : Nat) (j : Jb) (lines : List (List UInt8)) : Prop where
  fault : jobFault j = 0
  wt : rulesWt j.rules ≤ 1000000000
  many : lines.length ≤ 60
  long : ∀ x ∈ lines, x.length ≤ 1000
  env : ∀ w', Below R w w' → EnvS w'
/-- What Step does. -/
def StepDoes : Prop := ∀ (R done : Nat) (n : Int) (j : Jb) (rv lv mv : Value) (lines : List (List UInt8)) (w : World),
    IsMR w R j rv lv lines done mv (madeOf j (lines.take done)) → MRin w R j lines → done ≤ lines.length → -9223372036854775808 ≤ n → n ≤ 9223372036854775807 →
    Calls Tryd.prog 19 #[.pointer (some ⟨R, 0, none⟩), .int .i64 n] w fun e w' => ∃ (d' : Nat) (mv' : Value), d' = done + min n.toNat (lines.length - done) ∧ e = .returned (.bool (decide (d' = lines.length))) ∧ IsMR w' R j rv lv lines d' mv' (madeOf j (lines.take d')) ∧ FrM w w' R mv.ownBlock ∧ (mv'.ownBlock = mv.ownBlock ∨ ∀ b, mv'.ownBlock = some b → w.heap.size ≤ b)
/-- All lines at once. -/
theorem step_all (S : StepDoes) (R : Nat) (n : Int) (j : Jb) (rv lv : Value) (lines : List (List UInt8)) (w : World) (h : IsMR w R j rv lv lines 0 (.slice none 0 0) []) (hi : MRin w R j lines) (hn : 60 ≤ n) (hn1 : n ≤ 9223372036854775807) :
    Calls Tryd.prog 19 #[.pointer (some ⟨R, 0, none⟩), .int .i64 n] w fun e w' => e = .returned (.bool true) ∧ ∃ mv', IsMR w' R j rv lv lines lines.length mv' (madeOf j lines) ∧ FrM w w' R none ∧ ∀ b, mv'.ownBlock = some b → w.heap.size ≤ b := by
  refine (S R 0 n j rv lv (.slice none 0 0) lines w h hi (Nat.zero_le _) (by omega) hn1).mono ?_
  rintro e w' ⟨d', mv', hd, rfl, hr, hF, ho⟩
  have hm := hi.many
  have e : d' = lines.length := by rw [hd]; omega
  subst e
  rw [List.take_length] at hr
  refine ⟨by simp, mv', hr, hF, fun b hb => ?_⟩
  rcases ho with h1 | h1
  · rw [h1] at hb; cases hb
  · exact h1 b hb
end Go.Proofs.YtgkpnjnollfdaaaDoor
/- Contracts of pair.Sum and pair.Slice. -/
namespace Go.Proofs.YtgkpnjnollfdaaaDoor.Pp
open Go.ChangeShapes Go.WideShapes Go.ChangeAt Go.RowKit
theorem snocB (s : ByteArray) (k : Nat) (h : k < s.size) : s.data.toList.take (k + 1) = s.data.toList.take k ++ [s[k]] := by
  rw [List.take_succ_eq_append_getElem (by simpa using h)]; rfl
def stp (h : Int) (c : UInt8) : Int := bits BinOp.xor IntKind.u32 h ((c.toNat : Int) % 4294967296) * 16777619 % 4294967296
def ksum (l : List UInt8) : Int := l.foldl stp 2166136261
theorem ksum_snoc (l : List UInt8) (c : UInt8) : ksum (l ++ [c]) = bits BinOp.xor IntKind.u32 (ksum l) ((c.toNat : Int) % 4294967296) * 16777619 % 4294967296 := by
  unfold ksum; rw [List.foldl_append]; rfl
theorem stp_bd (h : Int) (c : UInt8) : 0 ≤ stp h c ∧ stp h c < 4294967296 := by
  unfold stp; omega
theorem ksum_bd (l : List UInt8) : 0 ≤ ksum l ∧ ksum l < 4294967296 := by
  unfold ksum
  rcases List.eq_nil_or_concat l with rfl | ⟨l, c, rfl⟩
  · simp
  · rw [List.concat_eq_append, List.foldl_append]; exact stp_bd _ _
theorem ret_int {k : IntKind} {a b : Int} (h : a = b) : Ending.returned (.int k a) = .returned (.int k b) := by rw [h]

set_option maxHeartbeats 400000 in
theorem sum_any (s : ByteArray) (w : World) (hs : s.size ≤ maxLen) :
    Calls Tryd.prog 47 #[.string s] w fun e w' => e = .returned (.int .u32 (ksum s.data.toList)) ∧ w' = w := by
  unfold maxLen at hs
  go_enter Tryd.func47, Tryd.ntmps47
  go_wp2
  go_loop [3, 4, 7] (fun h _ j => ∃ k : Nat, k ≤ s.size ∧ j = .int .i64 k ∧ h = .int .u32 (ksum (s.data.toList.take k))) (fun _ _ i => s.size - (intOf i).toNat)
  case atStart => exact ⟨0, Nat.zero_le _, rfl, rfl⟩
  case round =>
    obtain ⟨k, hk, rfl, rfl⟩ := hrel
    by_cases hlt : k < s.size
    · have HS : Hid (ksum (s.data.toList.take (k + 1)) = bits BinOp.xor IntKind.u32 (ksum (s.data.toList.take k)) ((s[k].toNat : Int) % 4294967296) * 16777619 % 4294967296) := by
        rw [snocB s k hlt]; exact ksum_snoc _ _
      go_wp2
      go_round
      case rel => exact ⟨k + 1, by omega, by go_num, by rw [HS.out]⟩
      case measure => simp [intOf]; omega
    · go_wp2
      go_ret
      exact ⟨ret_int (by rw [List.take_of_length_le (by simp; omega)]), rfl⟩
set_option maxHeartbeats 400000 in
theorem slice_any (s : ByteArray) (n : Int) (w : World) (hs : s.size ≤ maxLen) (h1 : 1 ≤ n) (h2 : n ≤ 1000) :
    Calls Tryd.prog 26 #[.string s, .int .i64 n] w fun e w' => e = .returned (.int .i64 (ksum s.data.toList % n)) ∧ w' = w := by
  have hb := ksum_bd s.data.toList
  have hm := Int.emod_nonneg (ksum s.data.toList) (show n ≠ 0 by omega)
  have hm2 := Int.emod_lt_of_pos (ksum s.data.toList) (show 0 < n by omega)
  go_enter Tryd.func26, Tryd.ntmps26
  go_wp2_with (go_at_call 47; refine (sum_any _ _ hs).mono ?_; rintro e w' ⟨rfl, rfl⟩)
  go_ret
  exact ⟨rfl, rfl⟩
end Go.Proofs.YtgkpnjnollfdaaaDoor.Pp
/- Contracts of order.Merge. Written by tpl/mk_mrg.py. -/
namespace Go.Proofs.YtgkpnjnollfdaaaDoor.Pp
open Go.ChangeShapes Go.WideShapes Go.ChangeAt Go.RowKit
open Stable
/-- A slice value of slices of pairs. -/
def IsLists (w : World) (v : Value) (ls : List (List (ByteArray × Int))) : Prop :=
  ∃ a cap, v = .slice a ls.length cap ∧ ∀ i (h : i < ls.length), ∃ b off u, a = some ⟨b, off, none⟩ ∧ w.cell? ⟨b, off + i, none⟩ = some u ∧ IsPairs w u ls[i]
def lsAt (ls : List (List (ByteArray × Int))) (k : Nat) : List (ByteArray × Int) := ls[k]?.getD []
def flatT (ls : List (List (ByteArray × Int))) (k : Nat) : List (ByteArray × Int) := (ls.take k).flatten
theorem isLists_at {w : World} {ao : Option Addr} {n cap : Nat} {ls : List (List (ByteArray × Int))} (h : IsLists w (.slice ao n cap) ls) (k : Nat) (hk : k < ls.length) : ∃ b off u, ao = some ⟨b, off, none⟩ ∧ w.cell? ⟨b, off + k, none⟩ = some u ∧ IsPairs w u (lsAt ls k) := by
  obtain ⟨a, c, e, hc⟩ := h
  injection e with e1
  obtain ⟨b, off, u, ea, c0, hu⟩ := hc k hk
  refine ⟨b, off, u, e1.trans ea, c0, ?_⟩
  unfold lsAt
  rw [List.getElem?_eq_getElem hk]
  exact hu
theorem flatT_succ (ls : List (List (ByteArray × Int))) (k : Nat) (h : k < ls.length) : flatT ls (k + 1) = flatT ls k ++ lsAt ls k := by
  unfold flatT lsAt
  rw [List.take_succ_eq_append_getElem h, List.flatten_append, List.getElem?_eq_getElem h]
  simp
theorem flatT_le (ls : List (List (ByteArray × Int))) (k : Nat) : (flatT ls k).length ≤ ls.flatten.length := by
  have h : ls.flatten = flatT ls k ++ (ls.drop k).flatten := by unfold flatT; rw [← List.flatten_append, List.take_append_drop]
  rw [h, List.length_append]
  omega
set_option maxRecDepth 100000 in
set_option maxHeartbeats 1000000 in
theorem merge_any (v : Value) (ls : List (List (ByteArray × Int))) (w : World) (h : IsLists w v ls) (hl : ls.length ≤ 1000000) (hs : ls.flatten.length ≤ 1000000) :
    Calls Tryd.prog 13 #[v] w fun e w' => ∃ u Z, e = .returned u ∧ Sorted Z ∧ SE ls.flatten Z ∧ Z.length = ls.flatten.length ∧ IsPairs w' u Z ∧ Below w.heap.size w w' := by
  have H := Lib.hid h
  have HSZ := Lib.hid hs
  obtain ⟨ao, cap, hv, _⟩ := h
  obtain ⟨n, hn⟩ : ∃ n, n = ls.length := ⟨_, rfl⟩
  subst hv
  rw [← hn] at H hl ⊢
  have HN := Lib.hid hn
  clear hn hs
  go_enter Tryd.func13, Tryd.ntmps13
  go_wp2_with fail
  go_loopw [3, 8] (fun av kv wr => ∃ (k : Nat), kv = .int .i64 k ∧ k ≤ n ∧ Below w.heap.size w wr ∧ Hid (wr.ownsRow w.heap.size 25 2 av (flatT ls k).length (cellsP (flatT ls k)))) (fun _ kv _ => n - (intOf kv).toNat)
  case atStart => exact ⟨0, by go_num, Nat.zero_le _, Below.refl _ _, owns_nil _ _⟩
  case round =>
    obtain ⟨k, rfl, hkn, hb, HO⟩ := hrel
    by_cases hlt : k < n
    · obtain ⟨b, off, u, ea, c0, hu⟩ := isLists_at H.out k (by have := HN.out; omega)
      subst ea
      have k0 := (hb.cell (block_lt c0)).trans c0
      have HU := Lib.hid (isPairs_below hu hb)
      obtain ⟨au, cu, eu, _⟩ := hu
      generalize (lsAt ls k).length = nu at eu
      subst eu
      clear c0
      go_wp2_with (at_builtin; refine Hid.out ?_)
      refine Lib.hid ?_
      refine wpList_append_pairs (w0 := w) rfl (.tmp 12) (.tmp 13) rfl _ (flatT ls k) rfl HO.out _ (lsAt ls k) rfl HU.out (by have h1 := flatT_le ls (k + 1); rw [flatT_succ ls k (by have := HN.out; omega), List.length_append] at h1; have := HSZ.out; omega) hb ?_
      intro v2 w2 hown2 hb2
      rw [← flatT_succ ls k (by have := HN.out; omega)] at hown2
      have HO2 := Lib.hid hown2
      clear hown2 k0 HU HO hb
      go_wp2
      go_roundw
      case rel => exact ⟨k + 1, by go_num, by omega, hb2, HO2⟩
      case measure => simp [intOf]; omega
    · have hk : flatT ls k = ls.flatten := by unfold flatT; rw [List.take_of_length_le (by have := HN.out; omega)]
      rw [hk] at HO
      have C1 := Lib.hid (sort_any _ ls.flatten wr (owns_isPairs HO.out) HSZ.out)
      clear HO hk
      go_wp2_with (go_at_call 11; refine Hid.out ?_)
      refine Lib.hid ?_
      refine C1.out.mono ?_
      rintro _ w2 ⟨u, Z, rfl, z1, z2, z3, z4, hb2⟩
      have HB := hb.trans (hb2.mono hb.size)
      have HZ := Lib.hid z3
      clear C1 hb2 z3
      go_wp2
      go_ret
      exact ⟨u, Z, rfl, z1, z2, HZ.out, z4, HB⟩
end Go.Proofs.YtgkpnjnollfdaaaDoor.Pp
/- Mapper: a list of lists, each of its own; a run's slices, plain. -/
namespace Go.Proofs.YtgkpnjnollfdaaaDoor
open Go.ChangeShapes Go.WideShapes Go.ChangeAt Go.RowKit
/-- In which slice a key lies. -/
def sliceN (many : Int) (k : List UInt8) : Nat := (Pp.ksum k % many).toNat
theorem sliceN_lt {many : Int} (h : 1 ≤ many) (k : List UInt8) : (sliceN many k : Int) = Pp.ksum k % many ∧ sliceN many k < many.toNat := by
  have h1 := Int.emod_nonneg (Pp.ksum k) (show many ≠ 0 by omega)
  have h2 := Int.emod_lt_of_pos (Pp.ksum k) (show 0 < many by omega)
  unfold sliceN
  omega
/-- The pairs of a slice. -/
def inSlice (many : Int) (k : Nat) (l : List (ByteArray × Int)) : List (ByteArray × Int) := l.filter fun p => decide (sliceN many (Pp.Stable.key p) = k)
theorem inSlice_snoc (many : Int) (k : Nat) (l : List (ByteArray × Int)) (p : ByteArray × Int) : inSlice many k (l ++ [p]) = if sliceN many (Pp.Stable.key p) = k then inSlice many k l ++ [p] else inSlice many k l := by
  unfold inSlice
  rw [List.filter_append]
  by_cases h : sliceN many (Pp.Stable.key p) = k
  · rw [if_pos h, List.filter_cons_of_pos (by simp [h])]; rfl
  · rw [if_neg h, List.filter_cons_of_neg (by simp [h])]; simp
/-- Lists, each of its own: the row of them, where each lies; nothing else of what was there has turned. -/
structure SL (w wr : World) (g : Nat) (vs : List Value) (ls : List (List (ByteArray × Int))) : Prop where
  lst : Blk wr g 22 vs
  low : g < w.heap.size
  len : vs.length = ls.length
  each : ∀ (k : Nat) (v : Value) (l : List (ByteArray × Int)), vs[k]? = some v → ls[k]? = some l → wr.ownsRow w.heap.size 25 2 v l.length (Pp.cellsP l)
  apart : ∀ (i j : Nat) (vi vj : Value), i ≠ j → vs[i]? = some vi → vs[j]? = some vj → ∀ g, vi.ownBlock = some g → vj.ownBlock ≠ some g
  only : Only g w wr
theorem SL.below {w wr w' : World} {g : Nat} {vs : List Value} {ls : List (List (ByteArray × Int))} (h : SL w wr g vs ls) (hb : Below wr.heap.size wr w') : SL w w' g vs ls :=
  ⟨h.lst.blw hb, h.low, h.len, fun k v l hv hl => ow_below (h.each k v l hv hl) hb, h.apart, h.only.trans (Only.of_below hb)⟩
theorem only_cell {g : Nat} {w w' : World} {a : Addr} {v : Value} (h : Only g w w') (hc : w.cell? a = some v) (hne : a.block ≠ g) : w'.cell? a = some v := by
  rw [World.cell?_of_block (h.block a.block (World.block_lt_of_cell? w a hc) (fun e => hne (Option.some.inj e)))]
  exact hc
/-- One of them has grown, and stands there anew. -/
theorem SL.put {w wr w' : World} {g i : Nat} {vs : List Value} {ls : List (List (ByteArray × Int))} {v v' : Value} {l l' : List (ByteArray × Int)} (h : SL w wr g vs ls) (hv : vs[i]? = some v) (hl : ls[i]? = some l)
    (ho : w'.ownsRow w.heap.size 25 2 v' l'.length (Pp.cellsP l')) (hg : wr.grownBy w' v.ownBlock) (hat : v'.ownBlock = v.ownBlock ∨ v'.ownBlock = none ∨ ∃ b, v'.ownBlock = some b ∧ wr.heap.size ≤ b) :
    SL w (w'.setCell ⟨g, i, none⟩ v') g (vs.set i v') (ls.set i l') := by
  have hr := h.each i v l hv hl
  have hgw := h.lst.lt
  have lst' : Blk w' g 22 vs := blk_ow h.lst hr (by decide) hg
  have old : ∀ (k : Nat) (u : Value), vs[k]? = some u → ∀ b, u.ownBlock = some b → w.heap.size ≤ b ∧ b < wr.heap.size := fun k u hu b hb => by
    obtain ⟨m, hm⟩ : ∃ m, ls[k]? = some m := ⟨ls[k]'(by rw [← h.len]; exact (List.getElem?_eq_some_iff.1 hu).1), by simp⟩
    exact (h.each k u m hu hm).lt b hb
  refine ⟨lst'.set i v', h.low, by simp [h.len], fun k u m hu hm => ?_, fun a b va vb hab hva hvb q hq => ?_, ?_⟩
  · by_cases e : k = i
    · subst e
      have hk := (List.getElem?_eq_some_iff.1 hv).1
      have hk2 := (List.getElem?_eq_some_iff.1 hl).1
      rw [List.getElem?_set, if_pos rfl, if_pos hk, Option.some.injEq] at hu
      rw [List.getElem?_set, if_pos rfl, if_pos hk2, Option.some.injEq] at hm
      subst hu hm
      exact ow_other ho lst' (by decide)
    · rw [List.getElem?_set, if_neg (fun h => e h.symm)] at hu hm
      have r := h.each k u m hu hm
      have r' : w'.ownsRow w.heap.size 25 2 u m.length (Pp.cellsP m) := r.kept hg (by
        cases hub : u.ownBlock with
        | none => exact .inl rfl
        | some b =>
          right
          intro e2
          exact h.apart k i u v e hu hv b hub e2.symm)
      exact ow_other r' lst' (by decide)
  · rw [List.getElem?_set] at hva hvb
    have newOld : ∀ (k : Nat) (u : Value), k ≠ i → vs[k]? = some u → ∀ q, v'.ownBlock = some q → u.ownBlock ≠ some q := fun k u hk hu q hq e => by
      rcases hat with h1 | h1 | ⟨b, h1, h2⟩
      · rw [h1] at hq
        exact h.apart i k v u (fun e => hk e.symm) hv hu q hq e
      · rw [h1] at hq; cases hq
      · rw [h1] at hq
        injection hq with hq
        have := (old k u hu q e).2
        omega
    by_cases ea : i = a
    · rw [if_pos ea] at hva
      split at hva
      · rw [Option.some.injEq] at hva
        subst hva
        rw [if_neg (by omega)] at hvb
        exact newOld b vb (by omega) hvb q hq
      · cases hva
    · rw [if_neg ea] at hva
      by_cases eb : i = b
      · rw [if_pos eb] at hvb
        split at hvb
        · rw [Option.some.injEq] at hvb
          subst hvb
          intro e
          exact newOld a va (by omega) hva q e hq
        · cases hvb
      · rw [if_neg eb] at hvb
        exact h.apart a b va vb hab hva hvb q hq
  · have b1 : Only g w w' := ⟨hg.os.trans h.only.os, hg.tape.trans h.only.tape, hg.output.trans h.only.output, Nat.le_trans h.only.size hg.size, fun k hk hne => (hg.block k (Nat.lt_of_lt_of_le hk h.only.size) (fun e => by have := (hr.lt k e.symm).1; omega)).trans (h.only.block k hk hne)⟩
    exact b1.setCell i v'
theorem SL.isLists {w wr : World} {g n cap : Nat} {vs : List Value} {ls : List (List (ByteArray × Int))} (h : SL w wr g vs ls) (hn : n = ls.length) : Pp.IsLists wr (.slice (some ⟨g, 0, none⟩) n cap) ls := by
  subst hn
  refine ⟨some ⟨g, 0, none⟩, cap, rfl, fun i hi => ?_⟩
  have hv : vs[i]? = some (vs[i]'(by rw [h.len]; exact hi)) := by simp
  refine ⟨g, 0, _, rfl, ?_, Pp.owns_isPairs (h.each i _ ls[i] hv (by simp))⟩
  rw [Nat.zero_add]
  exact h.lst.at hv
end Go.Proofs.YtgkpnjnollfdaaaDoor
/- Contract of fold.Groups, its row its own. -/
namespace Go.Proofs.YtgkpnjnollfdaaaDoor.Pp
open Go.ChangeShapes Go.WideShapes Go.ChangeAt Go.RowKit
open Grp
set_option maxRecDepth 100000 in
set_option maxHeartbeats 2000000 in
theorem groups_own (kind : Int) (v : Value) (l : List (ByteArray × Int)) (w : World) (h : IsPairs w v l) (hl : l.length ≤ 1000000) :
    Calls Tryd.prog 45 #[.int .i64 kind, v] w fun e w' => ∃ u, e = .returned u ∧ w'.ownsRow w.heap.size 25 2 u (grp kind l).length (cellsP (grp kind l)) ∧ Below w.heap.size w w' := by
  obtain ⟨ao, cap0, rfl, hc0⟩ := h
  have HC := Lib.hid hc0
  clear hc0
  obtain ⟨n, hn⟩ : ∃ n, n = l.length := ⟨_, rfl⟩
  rw [← hn] at hl ⊢
  have HN := Lib.hid hn
  clear hn
  go_enter Tryd.func45, Tryd.ntmps45
  go_wp2_with fail
  go_loopw [5, 11] (fun gv kv wr => ∃ (k : Nat), kv = .int .i64 k ∧ k ≤ n ∧ Below w.heap.size w wr ∧ Hid (wr.ownsRow w.heap.size 25 2 gv (grp kind (l.take k)).length (cellsP (grp kind (l.take k))))) (fun _ kv _ => n - (intOf kv).toNat)
  case atStart => exact ⟨0, by go_num, Nat.zero_le _, Below.refl _ _, owns_nil _ _⟩
  case round =>
    obtain ⟨k, rfl, hkn, hb, HO⟩ := hrel
    by_cases hlt : k < n
    · have hlt' : k < l.length := by have := HN.out; omega
      obtain ⟨b, off, ea, c0, c1⟩ := HC.out k hlt'
      subst ea
      have HG : Hid (grp kind (l.take (k + 1)) = Grp.step kind (grp kind (l.take k)) l[k]) := by
        show _ = _
        rw [List.take_succ_eq_append_getElem hlt', grp_snoc]
      have hgl : (grp kind (l.take k)).length ≤ k := by
        have h1 := grp_len kind (l.take k)
        have h2 := List.length_take_le k l
        omega
      replace c0 := (hb.cell (block_lt c0)).trans c0
      replace c1 := (hb.cell (block_lt c1)).trans c1
      generalize l[k] = p at c0 c1 HG
      obtain ⟨G, hG⟩ : ∃ G, G = grp kind (l.take k) := ⟨_, rfl⟩
      rw [← hG] at HO HG hgl
      clear hG
      obtain ⟨G2, hG2⟩ : ∃ G2, G2 = grp kind (l.take (k + 1)) := ⟨_, rfl⟩
      rw [← hG2] at HG
      have HG2 := Lib.hid hG2
      clear hG2
      obtain ⟨ps, pv⟩ := p
      rcases List.eq_nil_or_concat G with hG0 | ⟨A, q, hGA⟩
      · subst hG0
        obtain ⟨ga, gc, hgv⟩ : ∃ a c, u5 = .slice a 0 c := by
          rcases owns_row HO.out with ⟨h1, _⟩ | ⟨g, cap, h1, _, _⟩
          · exact ⟨_, _, h1⟩
          · exact ⟨_, _, h1⟩
        subst hgv
        go_wp2
        go_quiet (fail)
        go_wp2_with (at_builtin; refine Hid.out ?_)
        refine Lib.hid ?_
        refine wpList_append_pairs (w0 := w) rfl (.tmp 30) (.tmp 32) rfl _ [] rfl ((owns_drewN (HO.out.alloc _) _).alloc _) (.slice (some ⟨wr.heap.size + 1, 0, none⟩) 1 1) [(ps, pv)] rfl (isPairs_one ps pv _ _ (by simp)) (by simp) (blw_step hb (blw_step (blw_step (blw_box _) (blw_drewN _ _)) (blw_box _))) ?_
        intro v2 w2 hown2 hb2
        have HO2 := Lib.hid hown2
        clear c0 c1 HC HO hown2
        go_wp2
        go_roundw
        case rel => exact ⟨k + 1, by go_num, by omega, hb2, by rw [← HG2.out, HG.out]; exact HO2.out⟩
        case measure => simp [intOf]; omega
      · rw [List.concat_eq_append] at hGA
        subst hGA
        obtain ⟨g, gc, hgv, hbg, hrow⟩ : ∃ g c, u5 = .slice (some ⟨g, 0, none⟩) (A.length + 1) c ∧ w.heap.size ≤ g ∧ Row g (A ++ [q]) wr := by
          rcases owns_row HO.out with ⟨_, h2⟩ | ⟨g, cap, h1, h2, h3⟩
          · simp at h2
          · exact ⟨g, cap, by simpa using h1, h2, h3⟩
        subst hgv
        obtain ⟨q0, q1⟩ := hrow.at A.length (by simp)
        simp only [List.getElem_append_right (Nat.le_refl _), Nat.sub_self, List.getElem_singleton] at q0 q1
        have hgsz := hrow.lt
        have fz := hrow.frozen (A.length * 2 + 1)
        obtain ⟨qs, qv⟩ := q
        simp only at q0 q1
        simp only [List.length_append, List.length_cons, List.length_nil] at hgl
        obtain ⟨m, hm⟩ : ∃ m, m = A.length := ⟨_, rfl⟩
        rw [← hm] at q0 q1 fz hgl
        have HM := Lib.hid hm
        have HO' : Hid (wr.ownsRow w.heap.size 25 2 (.slice (some ⟨g, 0, none⟩) (m + 1) gc) (A ++ [(qs, qv)]).length (cellsP (A ++ [(qs, qv)]))) := by rw [hm]; exact HO.out
        rw [← hm]
        clear hm HO hrow
        have hd0 : decide ((m : Int) < 0) = false := decide_eq_false (by omega)
        by_cases hk : qs = ps
        · subst hk
          have T2 := two_any kind qv pv
          have HG3 : Hid (G2 = A ++ [(qs, two kind qv pv)]) := by
            show _ = _
            rw [HG.out, step_same kind A (qs, qv) (qs, pv) rfl]
          clear HG
          generalize two kind qv pv = x at *
          have HT2 := Lib.hid T2
          clear T2
          go_wp2
          go_quiet (fail)
          go_wp2
          obtain ⟨w1, hw1⟩ : ∃ w1, w1 = (wr.alloc (.cells #[.string qs, .int .i64 pv] 25)).drewN nq := ⟨_, rfl⟩
          have p1 : w1.cell? ⟨wr.heap.size, 1, none⟩ = some (.int .i64 pv) := by rw [hw1]; simp
          have hb1 : Below wr.heap.size wr w1 := by rw [hw1]; exact blw_step (blw_box _) (blw_drewN _ _)
          have HO1 : Hid (w1.ownsRow w.heap.size 25 2 (.slice (some ⟨g, 0, none⟩) (m + 1) gc) (A ++ [(qs, qv)]).length (cellsP (A ++ [(qs, qv)]))) := by rw [hw1]; exact owns_drewN (HO'.out.alloc _) _
          rw [← hw1]
          clear hw1 c0 c1 HC HO'
          replace q1 := (hb1.cell (p := ⟨g, m * 2 + 1, none⟩) hgsz).trans q1
          replace fz := (hb1.frozen (p := ⟨g, m * 2 + 1, none⟩) hgsz).trans fz
          go_region_with (go_at_call 64; refine (HT2.out _).mono ?_; rintro _ _ ⟨rfl, rfl⟩)
          all_goals
            have HO2 : Hid ((w1.setCell ⟨g, m * 2 + 1, none⟩ (.int .i64 x)).drew.ownsRow w.heap.size 25 2 (.slice (some ⟨g, 0, none⟩) (m + 1) gc) (A ++ [(qs, x)]).length (cellsP (A ++ [(qs, x)]))) := by
              have h1 := owns_val HO1.out x
              rw [← HM.out] at h1
              exact ⟨h1.1, h1.2⟩
            have hb2 : Below w.heap.size w (w1.setCell ⟨g, m * 2 + 1, none⟩ (.int .i64 x)).drew := blw_drew ((blw_step hb hb1).setCell hbg _)
            clear q1 fz p1 HO1
            generalize (w1.setCell ⟨g, m * 2 + 1, none⟩ (.int .i64 x)).drew = w2 at *
            go_wp2
            go_roundw
            case rel => exact ⟨k + 1, by go_num, by omega, hb2, by rw [← HG2.out, HG3.out]; exact HO2.out⟩
            case measure => simp [intOf]; omega
        · have hE := neq_list hk
          have HG3 : Hid (G2 = A ++ [(qs, qv)] ++ [(ps, pv)]) := by
            show _ = _
            rw [HG.out, step_other kind A (qs, qv) (ps, pv) hk]
          clear HG
          go_wp2
          go_quiet (fail)
          go_wp2_with (at_builtin; refine Hid.out ?_)
          refine Lib.hid ?_
          refine wpList_append_pairs (w0 := w) rfl (.tmp 30) (.tmp 32) rfl _ (A ++ [(qs, qv)]) rfl ((owns_drewN (HO'.out.alloc _) _).alloc _) (.slice (some ⟨wr.heap.size + 1, 0, none⟩) 1 1) [(ps, pv)] rfl (isPairs_one ps pv _ _ (by simp)) (by have := HM.out; simp; omega) (blw_step hb (blw_step (blw_step (blw_box _) (blw_drewN _ _)) (blw_box _))) ?_
          intro v2 w2 hown2 hb2
          have HO2 := Lib.hid hown2
          clear c0 c1 HC HO' hown2 q0 q1 fz hE hk hgsz hbg
          go_wp2
          go_roundw
          case rel => exact ⟨k + 1, by go_num, by omega, hb2, by rw [← HG2.out, HG3.out]; exact HO2.out⟩
          case measure => simp [intOf]; omega
    · have hfin : Hid (wr.ownsRow w.heap.size 25 2 u5 (grp kind l).length (cellsP (grp kind l))) := by
        have h1 := HO.out
        rw [List.take_of_length_le (by have := HN.out; omega)] at h1
        exact h1
      clear HC HO
      go_wp2
      go_ret
      exact ⟨_, rfl, hfin.out, hb⟩
end Go.Proofs.YtgkpnjnollfdaaaDoor.Pp
/- Mapper: Slices. -/
namespace Go.Proofs.YtgkpnjnollfdaaaDoor
open Go.ChangeShapes Go.WideShapes Go.ChangeAt Go.RowKit
/-- A slice, folded if that is wanted early. -/
def finL (early : Bool) (fold : Int) (l : List (ByteArray × Int)) : List (ByteArray × Int) := if early = true then Pp.Grp.grp fold l else l
/-- A run's slices. -/
def slicesOf (fold : Int) (early : Bool) (ns : Nat) (M : List (ByteArray × Int)) : List (List (ByteArray × Int)) := (List.range ns).map fun k => finL early fold (inSlice ns k (Pp.Tot.srt M))
theorem infoLst : (Tryd.prog.info? 22).map (fun i => (i.zero, i.size, i.bytes)) = some (some (.slice none 0 0), 1, 24) := by kernel_rfl
theorem made_nils (ns : Nat) : (madeCells (Value.slice none 0 0).cells (ns * 1)).toList = List.replicate ns (Value.slice none 0 0) := by
  rw [Nat.mul_one, show (Value.slice none 0 0).cells = #[.slice none 0 0] from rfl, toList_madeCells_one]
/-- The parts of a list by their slices. -/
def partsL (ns : Nat) (Z : List (ByteArray × Int)) : List (List (ByteArray × Int)) := (List.range ns).map fun k => inSlice ns k Z
theorem partsL_at {ns k : Nat} (h : k < ns) (Z : List (ByteArray × Int)) : (partsL ns Z)[k]? = some (inSlice ns k Z) := by
  unfold partsL
  rw [List.getElem?_map, List.getElem?_range h]
  rfl
theorem partsL_len (ns : Nat) (Z : List (ByteArray × Int)) : (partsL ns Z).length = ns := by simp [partsL]
theorem partsL_snoc {ns : Nat} (Z : List (ByteArray × Int)) (p : ByteArray × Int) (i : Nat) (hi : sliceN ns (Pp.Stable.key p) = i) (hn : i < ns) : partsL ns (Z ++ [p]) = (partsL ns Z).set i (inSlice ns i Z ++ [p]) := by
  apply List.ext_getElem?
  intro k
  rw [List.getElem?_set, partsL_len]
  by_cases hk : k < ns
  · rw [partsL_at hk, inSlice_snoc, hi]
    by_cases e : i = k
    · subst e; rw [if_pos rfl, if_pos rfl, if_pos hn]
    · rw [if_neg e, if_neg e, partsL_at hk]
  · rw [List.getElem?_eq_none (by rw [partsL_len]; omega), if_neg (by omega), List.getElem?_eq_none (by rw [partsL_len]; omega)]
theorem partsL_nil (ns : Nat) : partsL ns [] = List.replicate ns [] := by
  apply List.ext_getElem?
  intro k
  by_cases hk : k < ns
  · rw [partsL_at hk, List.getElem?_replicate, if_pos hk]; rfl
  · rw [List.getElem?_eq_none (by rw [partsL_len]; omega), List.getElem?_replicate, if_neg hk]
/-- The parts, so many of them folded. -/
def earlyL (fo : Int) (ns : Nat) (Z : List (ByteArray × Int)) (i : Nat) : List (List (ByteArray × Int)) := (List.range ns).map fun k => if k < i then Pp.Grp.grp fo (inSlice ns k Z) else inSlice ns k Z
theorem earlyL_at {fo : Int} {ns k : Nat} (h : k < ns) (Z : List (ByteArray × Int)) (i : Nat) : (earlyL fo ns Z i)[k]? = some (if k < i then Pp.Grp.grp fo (inSlice ns k Z) else inSlice ns k Z) := by
  unfold earlyL
  rw [List.getElem?_map, List.getElem?_range h]
  rfl
theorem earlyL_len (fo : Int) (ns : Nat) (Z : List (ByteArray × Int)) (i : Nat) : (earlyL fo ns Z i).length = ns := by simp [earlyL]
theorem earlyL_zero (fo : Int) (ns : Nat) (Z : List (ByteArray × Int)) : earlyL fo ns Z 0 = partsL ns Z := by simp [earlyL, partsL]
theorem earlyL_succ {fo : Int} {ns i : Nat} (h : i < ns) (Z : List (ByteArray × Int)) : earlyL fo ns Z (i + 1) = (earlyL fo ns Z i).set i (Pp.Grp.grp fo (inSlice ns i Z)) := by
  apply List.ext_getElem?
  intro k
  rw [List.getElem?_set, earlyL_len]
  by_cases hk : k < ns
  · rw [earlyL_at hk]
    by_cases e : i = k
    · subst e; rw [if_pos rfl, if_pos hk, if_pos (by omega)]
    · rw [if_neg e, earlyL_at hk]
      by_cases h2 : k < i
      · rw [if_pos h2, if_pos (by omega)]
      · rw [if_neg h2, if_neg (by omega)]
  · rw [List.getElem?_eq_none (by rw [earlyL_len]; omega), if_neg (by omega), List.getElem?_eq_none (by rw [earlyL_len]; omega)]
theorem earlyL_all (fo : Int) (ns : Nat) (M : List (ByteArray × Int)) : earlyL fo ns (Pp.Tot.srt M) ns = slicesOf fo true ns M := by
  unfold earlyL slicesOf finL
  apply List.map_congr_left
  intro k hk
  rw [List.mem_range] at hk
  rw [if_pos hk, if_pos rfl]
/-- What Slices gives: lists, each of its own. -/
def SlicesGive (w : World) (fo : Int) (ea : Bool) (ns : Nat) (M : List (ByteArray × Int)) (r : Ending) (w' : World) : Prop := ∃ g vs w2, r = .returned (.slice (some ⟨g, 0, none⟩) ns ns) ∧ SL w2 w' g vs (slicesOf fo ea ns M) ∧ w.heap.size ≤ g ∧ w.heap.size ≤ w2.heap.size ∧ Below w.heap.size w w'
set_option maxRecDepth 100000 in
set_option maxHeartbeats 4000000 in
theorem slices_own (R done : Nat) (l : List Rl) (fo : Int) (ea : Bool) (ns : Nat) (rv lv mv : Value) (lines : List (List UInt8)) (M : List (ByteArray × Int)) (w : World) (hr : IsMR w R ⟨l, fo, ea, (ns : Int)⟩ rv lv lines done mv M) (hs1 : 1 ≤ ns) (hs2 : ns ≤ 4) (hM : M.length ≤ 1000000) (hk : ∀ p ∈ M, p.1.size ≤ 1000) :
    Calls Tryd.prog 20 #[.pointer (some ⟨R, 0, none⟩)] w fun e w' => SlicesGive w fo ea ns M e w' := by
  obtain ⟨i0, hi0, hz0, hz1, hz2⟩ := info_parts infoLst
  have hRl := hr.blk.lt
  have HR := Lib.hid hr
  have c3 := hr.blk.at (i := 3) (v := .int .i64 (ns : Int)) rfl
  clear hr
  go_enter Tryd.func20, Tryd.ntmps20
  go_wp2_with (at_make; refine Hid.out ?_)
  refine Lib.hid ?_
  refine wpList_make_full w rfl (.tmp 12) (.tmp 12) 34 rfl w.heap.size 22 i0 _ 1 Tryd.underlying34 hi0 hz0 hz1 _ _ _ _ ns rfl rfl rfl rfl (by rw [hz2]; omega) (by unfold maxLen; omega) (Nat.le_refl _) ?_
  intro w1 hown hgrow
  have hb1 : Below w.heap.size w w1 := ⟨hgrow.os, hgrow.tape, hgrow.output, hgrow.size, fun k hk => hgrow.block k hk (by simp)⟩
  obtain ⟨hblk, -⟩ := owns_blk hown
  rw [made_nils ns] at hblk
  obtain ⟨g, hg⟩ : ∃ g, g = w.heap.size := ⟨_, rfl⟩
  rw [← hg] at hblk
  have R1 := HR.out.blw hb1
  have c6 := R1.blk.at (i := 6) (v := mv) rfl
  have hmv := Pp.owns_isPairs R1.row
  have SF := Lib.hid (Pp.sort_full mv M w1 hmv hM)
  obtain ⟨ma, mc, emv⟩ := id hmv
  have emv1 := emv.1
  subst emv1
  have HBLK := Lib.hid hblk
  have HB1 := Lib.hid hb1
  have HGG := Lib.hid hg
  have HK := Lib.hid hk
  have HRI := Lib.hid hz0
  rw [← hg]
  clear hown hgrow hb1 hblk hmv emv hg hk hz0 hz1 hz2 hi0 HRI c3 R1
  go_wp2_with (go_at_call 11; refine Hid.out ?_)
  refine Lib.hid ?_
  refine SF.out.mono ?_
  rintro _ w2 ⟨u, Z, rfl, hso, hse, hzl, hzp, hb12, gu, rfl⟩
  obtain rfl := Pp.Tot.srt_eq hso hse
  obtain ⟨n, hn⟩ : ∃ n, n = M.length := ⟨_, rfl⟩
  have hn1 : n ≤ 1000000 := by omega
  rw [← hn] at hzl hzp ⊢
  have S0 : Hid (SL w2 w2 g (List.replicate ns (Value.slice none 0 0)) (partsL ns ((Pp.Tot.srt M).take 0))) := by
    refine ⟨HBLK.out.blw hb12, Nat.lt_of_lt_of_le HBLK.out.lt hb12.size, by rw [partsL_len, List.length_replicate], fun k v l hv hl => ?_, fun i j vi vj _ hvi _ q hq => ?_, Only.refl _ _⟩
    · rw [List.take_zero, partsL_nil, List.getElem?_replicate] at hl
      rw [List.getElem?_replicate] at hv
      split at hv
      · rename_i h
        rw [if_pos h, Option.some.injEq] at hl
        rw [Option.some.injEq] at hv
        subst hv hl
        exact World.ownsRow_nil _ _ _ _
      · cases hv
    · rw [List.getElem?_replicate] at hvi
      split at hvi
      · rw [Option.some.injEq] at hvi
        subst hvi
        cases hq
      · cases hvi
  have HZK : Hid (∀ (k : Nat) (p : ByteArray × Int), (Pp.Tot.srt M)[k]? = some p → p.1.size ≤ 1000) := fun k p hp => HK.out p (Pp.Tot.srt_mem.1 (List.mem_of_getElem? hp))
  have HRw2 := Lib.hid (HR.out.blw (below_trans HB1.out hb12))
  have hRg : R < g := by rw [HGG.out]; exact hRl
  have HB2 := Lib.hid (below_trans HB1.out hb12)
  have HZP := Lib.hid hzp
  have HZL := Lib.hid hzl
  have HN := Lib.hid hn
  have HGB : Hid (∀ k, k < n → gu ≠ g) := fun k hk e => by
    obtain ⟨a', c', e1, hc⟩ := HZP.out
    obtain ⟨b, off, e2, c0, -⟩ := hc k (by rw [HZL.out]; exact hk)
    injection e1 with e1
    rw [← e1] at e2
    injection e2 with e2
    injection e2 with e2 e3
    subst e2 e3
    rw [e] at c0
    rw [S0.out.lst.cell, List.getElem?_replicate] at c0
    split at c0 <;> cases c0
  obtain ⟨Z, hZ⟩ : ∃ Z, Z = Pp.Tot.srt M := ⟨_, rfl⟩
  have HZE : Hid (Pp.Tot.srt M = Z) := hZ.symm
  rw [← hZ] at S0 HZK HZP HZL
  clear hZ hso hse hzl hzp hb12 hn SF c6 HBLK HB1 HR HK
  dsimp only
  go_wp2
  go_loopg [20] n (fun gg iv wr => ∃ (k : Nat) (vs : List Value), gg = n - k ∧ k ≤ n ∧ iv = .int .i64 k ∧ Hid (SL w2 wr g vs (partsL ns (Z.take k))))
  case atStart => exact ⟨0, _, rfl, Nat.zero_le _, rfl, S0⟩
  case round =>
    clear S0
    obtain ⟨k, vs, hgk, hk, rfl, HS⟩ := hrel
    have HGK := Lib.hid hgk
    clear hgk
    by_cases hlt : k < n
    · have hkz : k < Z.length := by rw [HZL.out]; exact hlt
      obtain ⟨a', c', e1, hc⟩ := HZP.out
      obtain ⟨b, off, e2, c0, c1⟩ := hc k hkz
      rw [Value.slice.injEq] at e1
      obtain ⟨e1, -, -⟩ := e1
      rw [← e1, Option.some.injEq, Addr.mk.injEq] at e2
      obtain ⟨e2, e3, -⟩ := e2
      rw [← e2, ← e3] at c0 c1
      simp only [Nat.zero_add] at c0 c1
      clear e1 e2 e3
      have hgn := HGB.out k hlt
      replace c0 := only_cell HS.out.only c0 hgn
      replace c1 := only_cell HS.out.only c1 hgn
      have HPK : Hid (Z[k].1.size ≤ 1000) := HZK.out k Z[k] (by simp)
      have HSN : Hid (Z.take (k + 1) = Z.take k ++ [Z[k]]) := List.take_succ_eq_append_getElem hkz
      obtain ⟨i, hi⟩ : ∃ i, i = sliceN ns (Pp.Stable.key Z[k]) := ⟨_, rfl⟩
      obtain ⟨hi1, hi2⟩ := sliceN_lt (many := (ns : Int)) (by omega) (Pp.Stable.key Z[k])
      rw [← hi] at hi1 hi2
      have hin : i < ns := by simpa using hi2
      have SLC : Hid (∀ w', Calls Tryd.prog 26 #[.string Z[k].1, .int .i64 (ns : Int)] w' fun e w'' => e = .returned (.int .i64 (i : Int)) ∧ w'' = w') := fun w' => by
        have h := Pp.slice_any Z[k].1 (ns : Int) w' (by unfold maxLen; have := HPK.out; omega) (by omega) (by omega)
        have e : Pp.ksum Z[k].1.data.toList % (ns : Int) = (i : Int) := by
          rw [hi1]
          unfold Pp.Stable.key
          rw [ByteArray.toList_eq]
        rw [e] at h
        exact h
      have HI := Lib.hid hi
      generalize Z[k] = p at *
      obtain ⟨ps, pv⟩ := p
      simp only at c0 c1 SLC HPK
      obtain ⟨w3, hw3⟩ : ∃ w3, w3 = wr.alloc (.cells #[.string ps, .int .i64 pv] 25) := ⟨_, rfl⟩
      obtain ⟨Pb, hPb⟩ : ∃ Pb, Pb = wr.heap.size := ⟨_, rfl⟩
      have PB : Blk w3 Pb 25 [.string ps, .int .i64 pv] := by rw [hw3]; exact blk_new hPb
      have hb3 : Below wr.heap.size wr w3 := by rw [hw3]; exact below_box _
      have S3 := Lib.hid (HS.out.below hb3)
      have hR3 : w3.cell? ⟨R, 3, none⟩ = some (.int .i64 (ns : Int)) := only_cell S3.out.only (HRw2.out.blk.at (i := 3) (v := .int .i64 (ns : Int)) rfl) (by simp; omega)
      have b0 := PB.at (i := 0) (v := .string ps) rfl
      have HPB := Lib.hid PB
      have HW3 := Lib.hid hw3
      have HPP := Lib.hid hPb
      clear hw3 hPb PB hb3 hc hi hi1 hi2 HS
      go_upto_region 5 with fail
      rw [← HW3.out, ← HPP.out]
      clear HW3 HPP c0 c1
      go_quiet ((go_at_call 26; exact Calls.quiet_of_same (SLC.out _)))
      obtain ⟨w4, hw4⟩ : ∃ w4, w4 = w3.drewN nq := ⟨_, rfl⟩
      have hb34 : Below w3.heap.size w3 w4 := by rw [hw4]; exact below_drewN _ _
      rw [← hw4]
      have S4 := Lib.hid (S3.out.below hb34)
      have PB4 := Lib.hid (HPB.out.blw hb34)
      obtain ⟨vi, hvi⟩ : ∃ vi, vs[i]? = some vi := ⟨vs[i]'(by rw [S4.out.len, partsL_len]; exact hin), by simp⟩
      have hLi := partsL_at hin (Z.take k)
      have hown := S4.out.each i vi _ hvi hLi
      have HLL : (inSlice ns i (Z.take k)).length ≤ 1000000 := by
        unfold inSlice
        have h1 := List.length_filter_le (fun p => decide (sliceN ns (Pp.Stable.key p) = i)) (Z.take k)
        have h2 := List.length_take_le' k Z
        have := HZL.out
        omega
      have HLK : (inSlice ns i (Z.take k)).length + 1 ≤ 1000000 := by
        unfold inSlice
        have h1 := List.length_filter_le (fun p => decide (sliceN ns (Pp.Stable.key p) = i)) (Z.take k)
        have h2 : (Z.take k).length ≤ k := List.length_take_le k Z
        have := HZL.out
        omega
      have HPS : Hid (partsL ns (Z.take (k + 1)) = (partsL ns (Z.take k)).set i (inSlice ns i (Z.take k) ++ [(ps, pv)])) := by
        show _ = _
        rw [HSN.out]
        exact partsL_snoc _ _ i HI.out.symm hin
      obtain ⟨via, vic, evi⟩ : ∃ va vc, vi = .slice va (inSlice ns i (Z.take k)).length vc := by
        rcases row_slice hown with ⟨h1, h2⟩ | ⟨g', c, h1, _⟩
        · exact ⟨_, _, by rw [h1, h2]⟩
        · exact ⟨_, _, h1⟩
      subst evi
      have HOWN := Lib.hid hown
      have HVI := Lib.hid hvi
      have HLI := Lib.hid hLi
      have HLKK := Lib.hid HLK
      generalize inSlice ns i (Z.take k) = L at *
      obtain ⟨ni, hni⟩ : ∃ ni, ni = L.length := ⟨_, rfl⟩
      rw [← hni] at HOWN HVI hvi
      have HNI := Lib.hid hni
      have l0 := S4.out.lst.at hvi
      have l0a : (w4.alloc (.cells #[.string ps, .int .i64 pv] 25)).cell? ⟨g, i, none⟩ = some (.slice via ni vic) := cell_below l0 (below_box _)
      have p0 := PB4.out.at (i := 0) (v := .string ps) rfl
      have p1 := PB4.out.at (i := 1) (v := .int .i64 pv) rfl
      have hsz4 := S4.out.only.size
      have HSZ4 := Lib.hid hsz4
      clear hw4 hb34 S3 HPB hLi hown hni HLL HLK b0 hR3 hvi hsz4
      have HOWN4 : Hid (∀ wc, Below w4.heap.size w4 wc → wc.ownsRow w2.heap.size 25 2 (.slice via ni vic) ni (Pp.cellsP L)) := fun wc hb => ow_below HOWN.out hb
      have HPUT : Hid (∀ (wc w5 : World) (va : Option Addr) (vc : Nat), Below w4.heap.size w4 wc → w5.ownsRow w2.heap.size 25 2 (.slice va (ni + 1) vc) (ni + 1) (Pp.cellsP (L ++ [(ps, pv)])) → wc.grownBy w5 (Value.slice via ni vic).ownBlock → ((Value.slice va (ni + 1) vc).ownBlock = (Value.slice via ni vic).ownBlock ∨ (Value.slice va (ni + 1) vc).ownBlock = some wc.heap.size) → (w5.cell? ⟨g, i, none⟩ = some (.slice via ni vic) ∧ w5.frozen? ⟨g, i, none⟩ = false) ∧ Hid (SL w2 (w5.setCell ⟨g, i, none⟩ (.slice va (ni + 1) vc)) g (vs.set i (.slice va (ni + 1) vc)) (partsL ns (Z.take (k + 1))))) := fun wc w5 va vc hb ho hg hat => by
        have S5 := S4.out.below hb
        have hbk := blk_ow S5.lst (HOWN4.out wc hb) (by decide) hg
        refine ⟨⟨hbk.at HVI.out, hbk.frozen i⟩, ?_⟩
        show SL _ _ _ _ _
        rw [HPS.out]
        refine S5.put HVI.out HLI.out (by rw [List.length_append, ← HNI.out]; exact ho) hg ?_
        rcases hat with h | h
        · exact .inl h
        · exact .inr (.inr ⟨_, h, Nat.le_refl _⟩)
      go_wp2
      go_region_law (first | (refine step_append_prs rfl (.tmp 37) (.tmp 39) rfl (base := w2.heap.size) (n := ni) (v := .slice via ni vic) (xv := .slice (some ⟨w4.heap.size, 0, none⟩) 1 1) (A := L) (B := [(ps, pv)]) (N := ni + 1) (by simp [Act.eval]) (HOWN4.out _ (by first | exact below_box _ | exact below_trans (Pp.blw_drew (Below.refl _ w4)) (below_box _) | exact Pp.blw_drew (below_box _))) HNI.out (by simp [Act.eval]) (by first | exact Pp.isPairs_one ps pv 1 _ (by simp) | exact Pp.isPairs_below (Pp.isPairs_one ps pv 1 _ (by simp)) (Pp.blw_drew (Below.refl _ _))) HLKK.out (by have := HSZ4.out; simp; omega) (by rw [List.length_append, ← HNI.out]; rfl) ?_; intro va vc w5 hown5 hgrow5 hat5; obtain ⟨⟨l5, f5⟩, HP5⟩ := HPUT.out _ w5 va vc (by first | exact below_box _ | exact below_trans (Pp.blw_drew (Below.refl _ w4)) (below_box _) | exact Pp.blw_drew (below_box _)) hown5 hgrow5 hat5; clear hown5 hgrow5 hat5) | fail)
      all_goals
        generalize w5.setCell ⟨g, i, none⟩ (.slice va (ni + 1) vc) = w6 at *
        clear l0 l0a p0 p1 l5 f5 HPUT HOWN4 HOWN S4 PB4 SLC HPS
        (try simp only [Exit.inBlock, Exit.then])
        go_wp2
        go_roundg (n - (k + 1))
        case measure => have := HGK.out; omega
        case rel => exact ⟨k + 1, _, rfl, by omega, by go_num, HP5⟩
    · have hkn : k = n := by omega
      have HF0 : Hid (Z.take k = Z) := List.take_of_length_le (by have := HZL.out; omega)
      rw [HF0.out] at HS
      have hR2 : wr.cell? ⟨R, 2, none⟩ = some (.bool ea) := only_cell HS.out.only (HRw2.out.blk.at (i := 2) (v := .bool ea) rfl) (by simp; omega)
      have HBW : Hid (Below w.heap.size w wr) := ⟨HS.out.only.os.trans HB2.out.os, HS.out.only.tape.trans HB2.out.tape, HS.out.only.output.trans HB2.out.output, Nat.le_trans HB2.out.size HS.out.only.size, fun q hq => (HS.out.only.block q (Nat.lt_of_lt_of_le hq HB2.out.size) (fun e => by injection e with e; have := HGG.out; omega)).trans (HB2.out.block q hq)⟩
      clear hkn HF0
      cases ea with
      | false =>
        have HE : Hid (slicesOf fo false ns M = partsL ns Z) := by
          show _ = _
          unfold slicesOf
          rw [HZE.out]
          rfl
        go_wp2
        go_ret
        exact ⟨g, vs, w2, rfl, by rw [HE.out]; exact HS.out, Nat.le_of_eq HGG.out.symm, HB2.out.size, HBW.out⟩
      | true =>
        rw [← earlyL_zero fo] at HS
        have HIL : Hid (∀ k, (inSlice ns k Z).length ≤ 1000000) := fun k => by
          unfold inSlice
          have h1 := List.length_filter_le (fun p => decide (sliceN ns (Pp.Stable.key p) = k)) Z
          have := HZL.out
          omega
        have HFE : Hid (earlyL fo ns Z ns = slicesOf fo true ns M) := by
          show _ = _
          rw [← HZE.out]
          exact earlyL_all fo ns M
        go_wp2
        clear hR2 hlt HGK hk
        go_loopg [50] ns (fun gg iv wq => ∃ (i : Nat) (vs : List Value), gg = ns - i ∧ i ≤ ns ∧ iv = .int .i64 i ∧ Hid (SL w2 wq g vs (earlyL fo ns Z i)))
        case atStart => exact ⟨0, _, rfl, Nat.zero_le _, rfl, HS⟩
        case round =>
          clear HS HBW
          obtain ⟨i, vs, hgi, hi, rfl, HS⟩ := hrel
          have HGI := Lib.hid hgi
          clear hgi
          by_cases hlt : i < ns
          · obtain ⟨vi, hvi⟩ : ∃ vi, vs[i]? = some vi := ⟨vs[i]'(by rw [HS.out.len, earlyL_len]; exact hlt), by simp⟩
            have hLi := earlyL_at (fo := fo) hlt Z i
            rw [if_neg (Nat.lt_irrefl i)] at hLi
            have hown := HS.out.each i vi _ hvi hLi
            obtain ⟨via, vic, evi⟩ : ∃ va vc, vi = .slice va (inSlice ns i Z).length vc := by
              rcases row_slice hown with ⟨h1, h2⟩ | ⟨g', c, h1, _⟩
              · exact ⟨_, _, by rw [h1, h2]⟩
              · exact ⟨_, _, h1⟩
            subst evi
            have HSU : Hid (earlyL fo ns Z (i + 1) = (earlyL fo ns Z i).set i (Pp.Grp.grp fo (inSlice ns i Z))) := earlyL_succ hlt Z
            have hli := HIL.out i
            have GR : Hid (∀ wc, Below wr.heap.size wr wc → Calls Tryd.prog 45 #[.int .i64 fo, .slice via (inSlice ns i Z).length vic] wc fun e w' => ∃ ua uc, e = .returned (.slice ua (Pp.Grp.grp fo (inSlice ns i Z)).length uc) ∧ w'.ownsRow wc.heap.size 25 2 (.slice ua (Pp.Grp.grp fo (inSlice ns i Z)).length uc) (Pp.Grp.grp fo (inSlice ns i Z)).length (Pp.cellsP (Pp.Grp.grp fo (inSlice ns i Z))) ∧ Below wc.heap.size wc w') := fun wc hb => by
              refine (Pp.groups_own fo _ (inSlice ns i Z) wc (Pp.isPairs_below (Pp.owns_isPairs hown) hb) hli).mono ?_
              rintro e w' ⟨u, rfl, h1, h2⟩
              obtain ⟨ua, uc, rfl⟩ : ∃ va vc, u = .slice va (Pp.Grp.grp fo (inSlice ns i Z)).length vc := by
                rcases row_slice h1 with ⟨h3, h4⟩ | ⟨g', c, h3, _⟩
                · exact ⟨_, _, by rw [h3, h4]⟩
                · exact ⟨_, _, h3⟩
              exact ⟨ua, uc, rfl, h1, h2⟩
            have HSC := Lib.hid HS.out
            have HVI := Lib.hid hvi
            have HLI := Lib.hid hLi
            have PUT : Hid (∀ (wc w' : World) (ua : Option Addr) (uc : Nat), Below wr.heap.size wr wc → w'.ownsRow wc.heap.size 25 2 (.slice ua (Pp.Grp.grp fo (inSlice ns i Z)).length uc) (Pp.Grp.grp fo (inSlice ns i Z)).length (Pp.cellsP (Pp.Grp.grp fo (inSlice ns i Z))) → Below wc.heap.size wc w' → (w'.cell? ⟨g, i, none⟩ = some (.slice via (inSlice ns i Z).length vic) ∧ w'.frozen? ⟨g, i, none⟩ = false) ∧ Hid (SL w2 (w'.setCell ⟨g, i, none⟩ (.slice ua (Pp.Grp.grp fo (inSlice ns i Z)).length uc)) g (vs.set i (.slice ua (Pp.Grp.grp fo (inSlice ns i Z)).length uc)) (earlyL fo ns Z (i + 1)))) := fun wc w' ua uc hb ho hb2 => by
              have S5 := HSC.out.below hb
              have hbk := S5.lst.blw hb2
              refine ⟨⟨hbk.at HVI.out, hbk.frozen i⟩, ?_⟩
              show SL _ _ _ _ _
              rw [HSU.out]
              refine S5.put HVI.out HLI.out (ow_low ho S5.only.size) ⟨hb2.os, hb2.tape, hb2.output, hb2.size, fun k hk _ => hb2.block k hk⟩ ?_
              cases hq : (Value.slice ua (Pp.Grp.grp fo (inSlice ns i Z)).length uc).ownBlock with
              | none => exact .inr (.inl rfl)
              | some b => exact .inr (.inr ⟨b, rfl, (ho.lt b hq).1⟩)
            have l0 := HS.out.lst.at hvi
            have hR1 : wr.cell? ⟨R, 1, none⟩ = some (.int .i64 fo) := only_cell HS.out.only (HRw2.out.blk.at (i := 1) (v := .int .i64 fo) rfl) (by simp; omega)
            generalize (Pp.Grp.grp fo (inSlice ns i Z)).length = gl at *
            generalize (inSlice ns i Z).length = il at *
            clear hown hvi hLi HS HSC HVI HLI HSU hli
            go_upto_region 12 with fail
            go_region_with (go_at_call 45; refine (GR.out _ (by first | exact Below.refl _ _ | exact Pp.blw_drew (Below.refl _ wr))).mono ?_; rintro _ w9 ⟨ua, uc, rfl, ho, hb9⟩; obtain ⟨⟨l9, f9⟩, HP9⟩ := PUT.out _ w9 ua uc (by first | exact Below.refl _ _ | exact Pp.blw_drew (Below.refl _ wr)) ho hb9; clear ho hb9 l0 hR1)
            all_goals
              generalize w9.setCell ⟨g, i, none⟩ (.slice ua gl uc) = w10 at *
              clear l9 f9 PUT GR
              (try simp only [Exit.inBlock, Exit.then])
              go_wp2
              go_roundg (ns - (i + 1))
              case measure => have := HGI.out; omega
              case rel => exact ⟨i + 1, _, rfl, by omega, by go_num, HP9⟩
          · have him : i = ns := by omega
            have HL : Hid (SL w2 wr g vs (slicesOf fo true ns M)) := by
              have h := HS.out
              rw [him, HFE.out] at h
              exact h
            have HBW : Hid (Below w.heap.size w wr) := ⟨HS.out.only.os.trans HB2.out.os, HS.out.only.tape.trans HB2.out.tape, HS.out.only.output.trans HB2.out.output, Nat.le_trans HB2.out.size HS.out.only.size, fun q hq => (HS.out.only.block q (Nat.lt_of_lt_of_le hq HB2.out.size) (fun e => by injection e with e; have := HGG.out; omega)).trans (HB2.out.block q hq)⟩
            clear him
            go_wp2
            go_ret
            exact ⟨g, vs, w2, rfl, HL.out, Nat.le_of_eq HGG.out.symm, HB2.out.size, HBW.out⟩
theorem slices_any (R done : Nat) (l : List Rl) (fo : Int) (ea : Bool) (ns : Nat) (rv lv mv : Value) (lines : List (List UInt8)) (M : List (ByteArray × Int)) (w : World) (hr : IsMR w R ⟨l, fo, ea, (ns : Int)⟩ rv lv lines done mv M) (hs1 : 1 ≤ ns) (hs2 : ns ≤ 4) (hM : M.length ≤ 1000000) (hk : ∀ p ∈ M, p.1.size ≤ 1000) :
    Calls Tryd.prog 20 #[.pointer (some ⟨R, 0, none⟩)] w fun e w' => ∃ u, e = .returned u ∧ Pp.IsLists w' u (slicesOf fo ea ns M) ∧ Below w.heap.size w w' :=
  (slices_own R done l fo ea ns rv lv mv lines M w hr hs1 hs2 hM hk).mono fun _ _ ⟨g, _, _, h1, h2, _, _, h5⟩ => ⟨_, h1, h2.isLists (by simp [slicesOf]), h5⟩
end Go.Proofs.YtgkpnjnollfdaaaDoor
/- Contract of LightTexts. -/
namespace Go.Proofs.YtgkpnjnollfdaaaDoor
open Go.ChangeShapes Go.WideShapes Go.ChangeAt Go.RowKit
def lightT (l : List ByteArray) (most : Int) : Bool := l.all fun t => decide ((t.size : Int) ≤ most)
theorem lightT_step (l : List ByteArray) (most : Int) (k : Nat) (h : k < l.length) : lightT (l.take (k + 1)) most = (lightT (l.take k) most && decide ((l[k].size : Int) ≤ most)) := by
  unfold lightT
  rw [List.take_succ_eq_append_getElem h, List.all_append]
  simp
theorem lightT_out (l : List ByteArray) (most : Int) (k : Nat) (h : k < l.length) (h6 : most < (l[k].size : Int)) : lightT l most = false := by
  unfold lightT
  rw [List.all_eq_false]
  exact ⟨l[k], List.getElem_mem h, by simp; omega⟩
set_option maxRecDepth 100000 in
set_option maxHeartbeats 400000 in
theorem lightTexts_any (v : Value) (l : List ByteArray) (many most : Int) (w : World) (h : IsTexts w v l) (hl : l.length ≤ maxLen) :
    Calls Tryd.prog 16 #[v, .int .i64 many, .int .i64 most] w fun e w' => e = .returned (.bool (decide ((l.length : Int) ≤ many) && lightT l most)) ∧ w' = w := by
  unfold maxLen at hl
  obtain ⟨a, cap, rfl, hc⟩ := h
  by_cases hm : (l.length : Int) ≤ many
  · go_enter Tryd.func16, Tryd.ntmps16
    go_wp2
    go_loop [7] (fun i => ∃ k : Nat, k ≤ l.length ∧ i = .int .i64 k ∧ lightT (l.take k) most = true) (fun i => l.length - (intOf i).toNat)
    case atStart => exact ⟨0, Nat.zero_le _, rfl, rfl⟩
    case round =>
      obtain ⟨k, hk, rfl, hp⟩ := hrel
      have HP := Lib.hid hp
      clear hp
      by_cases hlt : k < l.length
      · obtain ⟨b, off, rfl, c0⟩ := hc k hlt
        clear hc
        by_cases h6 : (l[k].size : Int) ≤ most
        · go_wp2
          go_round
          case rel => exact ⟨k + 1, by omega, by go_num, by rw [lightT_step l most k hlt, HP.out]; simpa using h6⟩
          case measure => simp [intOf]; omega
        · go_wp2
          go_ret
          exact ⟨ret_bool (by simp [lightT_out l most k hlt (by omega)]), rfl⟩
      · clear hc
        go_wp2
        go_ret
        have hp := HP.out
        rw [List.take_of_length_le (by omega)] at hp
        exact ⟨ret_bool (by simp [hp]), rfl⟩
  · go_enter Tryd.func16, Tryd.ntmps16
    go_wp2
    go_ret
    exact ⟨ret_bool (by rw [show decide ((l.length : Int) ≤ many) = false from decide_eq_false (by omega), Bool.false_and]), rfl⟩
end Go.Proofs.YtgkpnjnollfdaaaDoor
/- Mapper: the closed fact ready; the walk of TopRules. -/
namespace Go.Proofs.YtgkpnjnollfdaaaDoor
open Go.ChangeShapes Go.WideShapes Go.ChangeAt Go.RowKit
def litRl : Rl := ⟨false, 0, .mk 0 0 [] [], [], .mk 2 0 [] [], .mk 9 0 [] []⟩
def litJb : Jb := ⟨[litRl], 1, false, 1⟩
theorem nilEx (w : World) (k : Int) : IsEx w (.slice none 0 0) (.mk k 0 [] []) :=
  IsEx.mk k 0 [] none 0 [] 0 0 (fun _ => undef) (fun h => by simp at h) (fun i x hx => by simp at hx) (fun i x hx => by simp at hx)
theorem litJb_fault : jobFault litJb = 0 := by decide +kernel
theorem litJb_pairs : rulesP litJb.rules litJb.fold [97, 32, 98] = [(⟨#[97, 32, 98]⟩, 2)] := by decide +kernel
theorem litJb_wt : rulesWt litJb.rules ≤ 1000000000 := by decide +kernel
theorem isRules_sub {w : World} {b off n cap i : Nat} {l : List Rl} {r : Rl} (h : IsRules w (.slice (some ⟨b, off, none⟩) n cap) l) (hr : l[i]? = some r) (cap' : Nat) : IsRules w (.slice (some ⟨b, off + i * 15, none⟩) 1 cap') [r] := by
  obtain ⟨a, cap0, b0, off0, AI, AK, AV, e, ha, hc⟩ := h
  have hi := (List.getElem?_eq_some_iff.1 hr).1
  have ha' := ha (by omega)
  injection e with e1 e2 e3
  rw [ha'] at e1
  injection e1 with e1
  injection e1 with e1 e4
  subst e1 e4
  refine ⟨_, cap', b, off + i * 15, fun k => AI (i + k), fun k => AK (i + k), fun k => AV (i + k), rfl, fun _ => rfl, fun k x hx => ?_⟩
  have hk : k = 0 ∧ r = x := by
    cases k with
    | zero => simpa using hx
    | succ k => simp at hx
  obtain ⟨rfl, rfl⟩ := hk
  have := hc i r hr
  simpa using this
set_option maxRecDepth 100000 in
set_option maxHeartbeats 1000000 in
theorem ready_any (w : World) (E : EnvS w) : Calls Tryd.prog 25 #[] w fun e w' => e = .returned (.bool true) ∧ Below w.heap.size w w' := by
  obtain ⟨w1, hw1⟩ : ∃ w1, w1 = w.alloc (.cells #[.bool false, .int .i64 0, .int .i64 0, .int .i64 0, .string ⟨#[]⟩, .slice none 0 0, .string ⟨#[]⟩, .int .i64 2, .int .i64 0, .string ⟨#[]⟩, .slice none 0 0, .int .i64 9, .int .i64 0, .string ⟨#[]⟩, .slice none 0 0] 43) := ⟨_, rfl⟩
  have hB : Blk w1 w.heap.size 43 [.bool false, .int .i64 0, .int .i64 0, .int .i64 0, .string ⟨#[]⟩, .slice none 0 0, .string ⟨#[]⟩, .int .i64 2, .int .i64 0, .string ⟨#[]⟩, .slice none 0 0, .int .i64 9, .int .i64 0, .string ⟨#[]⟩, .slice none 0 0] := by rw [hw1]; exact blk_new rfl
  obtain ⟨w2, hw2⟩ : ∃ w2, w2 = w1.alloc (.cells #[.slice (some ⟨w.heap.size, 0, none⟩) 1 1, .int .i64 1, .bool false, .int .i64 1] 37) := ⟨_, rfl⟩
  have hs1 : w1.heap.size = w.heap.size + 1 := by rw [hw1]; simp
  have hb1 : Below w.heap.size w w1 := by rw [hw1]; exact below_box _
  have hb12 : Below w1.heap.size w1 w2 := by rw [hw2]; exact below_box _
  have hb2 := below_trans hb1 hb12
  have hR : IsRules w2 (.slice (some ⟨w.heap.size, 0, none⟩) 1 1) litJb.rules := by
    have hB2 := hB.blw hb12
    refine ⟨_, 1, w.heap.size, 0, fun _ => .slice none 0 0, fun _ => .slice none 0 0, fun _ => .slice none 0 0, rfl, fun _ => rfl, fun i x hx => ?_⟩
    have hk : i = 0 ∧ litRl = x := by
      cases i with
      | zero => simpa [litJb] using hx
      | succ i => simp [litJb] at hx
    obtain ⟨rfl, rfl⟩ := hk
    refine ⟨⟨hB2.at rfl, hB2.at rfl, hB2.at rfl, hB2.at rfl, hB2.at rfl, hB2.at rfl, hB2.at rfl, hB2.at rfl, hB2.at rfl, hB2.at rfl, hB2.at rfl, hB2.at rfl, hB2.at rfl, hB2.at rfl, hB2.at rfl⟩, nilEx _ _, nilEx _ _, nilEx _ _⟩
  have JB2 : Blk w2 (w.heap.size + 1) 37 [.slice (some ⟨w.heap.size, 0, none⟩) 1 1, .int .i64 1, .bool false, .int .i64 1] := by rw [hw2]; exact blk_new hs1.symm
  have P := Lib.hid (pairs_any litJb _ [97, 32, 98] w2 hR litJb_wt litJb_fault (by decide) (E.lower hb2))
  rw [litJb_pairs] at P
  have k0 := JB2.at (i := 0) (v := .slice (some ⟨w.heap.size, 0, none⟩) 1 1) rfl
  have k1 := JB2.at (i := 1) (v := .int .i64 1) rfl
  have k2 := JB2.at (i := 2) (v := .bool false) rfl
  have k3 := JB2.at (i := 3) (v := .int .i64 1) rfl
  rw [hw1] at hw2
  have HW2 := Lib.hid hw2
  have HB2 := Lib.hid hb2
  clear hw1 hw2 hB hs1 hb1 hb12 hb2 hR JB2 E
  go_enter Tryd.func25, Tryd.ntmps25
  go_upto_region 2 with fail
  rw [← HW2.out]
  clear HW2
  go_wp2_with (go_at_call 14; refine Hid.out ?_)
  refine Lib.hid ?_
  refine P.out.mono ?_
  clear P
  rintro _ w3 ⟨u, rfl, hrow, hb3⟩
  have hP := Pp.owns_isPairs hrow
  have SP := Lib.hid (Pp.samePairs_any u (.slice (some ⟨w3.heap.size, 0, none⟩) 1 1) [(⟨#[97, 32, 98]⟩, 2)] [(⟨#[97, 32, 98]⟩, 2)] (w3.alloc (.cells #[.string ⟨#[97, 32, 98]⟩, .int .i64 2] 25)) (Pp.isPairs_below hP (below_box _)) (Pp.isPairs_one _ _ _ _ rfl) (by decide))
  rw [decide_eq_true rfl] at SP
  have hb := below_trans HB2.out hb3
  obtain ⟨ua, uc, rfl, -⟩ := hP
  clear hrow hb3
  dsimp only
  go_wp2_with (go_at_call 12; refine Hid.out ?_)
  refine Lib.hid ?_
  refine SP.out.mono ?_
  rintro _ w4 ⟨rfl, nd, hd⟩
  have hb4 : Below w.heap.size w w4 := by rw [hd]; exact below_trans (below_trans hb (below_box _)) (below_drewN _ _)
  clear hd SP
  go_wp2
  go_ret
  exact ⟨rfl, hb4⟩
end Go.Proofs.YtgkpnjnollfdaaaDoor
/- Mapper: plain facts of jobs that may be, of what they make, of slices. -/
namespace Go.Proofs.YtgkpnjnollfdaaaDoor
open Go.ChangeShapes Go.WideShapes Go.ChangeAt Go.RowKit
theorem rule_small {x : Rl} (hx : ruleFault x = 0) : x.wt ≤ 2000 := by
  have h := rlIn_of hx
  have h1 := fault_wt h.key
  have h2 := fault_wt h.val
  have h0 : whenFault x = 0 := by
    unfold ruleFault at hx
    by_cases h3 : whenFault x ≠ 0
    · rw [if_pos h3] at hx; exact absurd hx h3
    · exact Decidable.not_not.1 h3
  have h3 : x.iff.wt ≤ 630 ∧ x.s.length ≤ 20 := by
    rcases h.when with h4 | ⟨h4, h5⟩
    · unfold whenFault at h0
      rw [if_pos h4] at h0
      have h6 : (x.iff.zero && x.s.isEmpty) = true := by
        cases h7 : (x.iff.zero && x.s.isEmpty) with
        | true => rfl
        | false => rw [h7] at h0; simp at h0
      simp only [Bool.and_eq_true, Ex.zero, decide_eq_true_eq, List.isEmpty_iff] at h6
      refine ⟨?_, by rw [h6.2]; simp⟩
      cases he : x.iff with
      | mk k n s a =>
        rw [he] at h6
        simp only [Ex.s, Ex.a] at h6
        rw [h6.1.1.2, List.eq_nil_of_length_eq_zero h6.1.2]
        simp [Ex.wt, Ex.wt.wtL]
    · refine ⟨fault_wt h5, ?_⟩
      unfold whenFault at h0
      rw [if_neg (by omega), if_pos h4] at h0
      by_cases h6 : fitsB x.s 20 = true
      · unfold fitsB at h6
        simp only [Bool.and_eq_true, decide_eq_true_eq] at h6
        exact h6.1
      · rw [if_neg h6] at h0; omega
  unfold Rl.wt
  omega
theorem job_small {j : Jb} (h : jobFault j = 0) : rulesWt j.rules ≤ 8000 := by
  obtain ⟨_, h4, _, _, _, _, hf⟩ := jobFault_parts h
  have hall := rulesFault_all hf
  have gen : ∀ l : List Rl, (∀ x ∈ l, ruleFault x = 0) → rulesWt l ≤ l.length * 2000 := by
    intro l
    induction l with
    | nil => intro _; simp [rulesWt]
    | cons x l ih =>
      intro hl
      have h1 := rule_small (hl x (by simp))
      have h2 := ih fun y hy => hl y (by simp [hy])
      unfold rulesWt at h2 ⊢
      simp only [List.map_cons, List.sum_cons, List.length_cons]
      omega
  have := gen j.rules hall
  omega
theorem made_key {j : Jb} {lines : List (List UInt8)} {p : ByteArray × Int} (h : p ∈ madeOf j lines) : p.1.size ≤ 20 := by
  unfold madeOf rulesP ruleP at h
  simp only [List.mem_flatMap, List.mem_map] at h
  obtain ⟨_, _, r, _, x, _, rfl⟩ := h
  unfold pairL
  simp only [bs_size, List.length_take]
  omega
theorem sum_slices (ns : Nat) (h1 : 1 ≤ ns) (Z : List (ByteArray × Int)) : ((List.range ns).map fun k => (inSlice ns k Z).length).sum = Z.length := by
  have one : ∀ (m i : Nat), i < m → ((List.range m).map fun k => if i = k then 1 else 0).sum = 1 := by
    intro m
    induction m with
    | zero => intro i hi; omega
    | succ m ih =>
      intro i hi
      rw [List.range_succ, List.map_append, List.sum_append]
      by_cases e : i = m
      · subst e
        have z : ∀ q, q ≤ i → ((List.range q).map fun k => if i = k then 1 else 0).sum = 0 := by
          intro q
          induction q with
          | zero => intro _; rfl
          | succ q ihq =>
            intro hq
            rw [List.range_succ, List.map_append, List.sum_append, ihq (by omega)]
            simp; omega
        rw [z i (Nat.le_refl _)]
        simp
      · rw [ih i (by omega)]
        simp [e]
  have add : ∀ (m : Nat) (f g : Nat → Nat), ((List.range m).map fun k => f k + g k).sum = ((List.range m).map f).sum + ((List.range m).map g).sum := by
    intro m f g
    induction m with
    | zero => rfl
    | succ m ih => simp only [List.range_succ, List.map_append, List.sum_append, ih, List.map_cons, List.map_nil, List.sum_cons, List.sum_nil]; omega
  induction Z with
  | nil =>
    have : (fun k => (inSlice (ns : Int) k ([] : List (ByteArray × Int))).length) = fun _ => 0 := by funext k; rfl
    rw [this]
    have z : ∀ m, ((List.range m).map fun _ => 0).sum = 0 := by intro m; induction m with
      | zero => rfl
      | succ m ih => simp [List.range_succ, ih]
    rw [z]; rfl
  | cons p Z ih =>
    have hs := (sliceN_lt (many := (ns : Int)) (by omega) (Pp.Stable.key p)).2
    have e : (fun k => (inSlice (ns : Int) k (p :: Z)).length) = fun k => (if sliceN ns (Pp.Stable.key p) = k then 1 else 0) + (inSlice (ns : Int) k Z).length := by
      funext k
      unfold inSlice
      by_cases h : sliceN ns (Pp.Stable.key p) = k
      · rw [List.filter_cons_of_pos (by simp [h]), if_pos h, List.length_cons]; omega
      · rw [List.filter_cons_of_neg (by simp [h]), if_neg h]; omega
    rw [e, add, ih, one ns _ (by simpa using hs), List.length_cons]
    omega
theorem slicesOf_at {fo : Int} {ea : Bool} {ns k : Nat} (h : k < ns) (M : List (ByteArray × Int)) : (slicesOf fo ea ns M)[k]? = some (finL ea fo (inSlice ns k (Pp.Tot.srt M))) := by
  unfold slicesOf
  rw [List.getElem?_map, List.getElem?_range h]
  rfl
theorem grp_mem_key {kind : Int} {l : List (ByteArray × Int)} {p : ByteArray × Int} (h : p ∈ Pp.Grp.grp kind l) : ∃ q ∈ l, Pp.Stable.key q = Pp.Stable.key p := by
  by_cases hq : ∃ q ∈ l, Pp.Stable.key q = Pp.Stable.key p
  · exact hq
  · have h1 := Pp.Tot.tot_none kind (Pp.Stable.key p) l (fun q hq2 e => hq ⟨q, hq2, e⟩)
    have h2 := Pp.Tot.tot_some kind h
    rw [Pp.Tot.tot_grp] at h2
    exact absurd h1 h2
/-- Each pair of a slice lies in the one of its key; the keys rise; folded, each is there once. -/
theorem slice_key {fo : Int} {ea : Bool} {ns k : Nat} {Z : List (ByteArray × Int)} {p : ByteArray × Int} (h : p ∈ finL ea fo (inSlice ns k Z)) : sliceN ns (Pp.Stable.key p) = k := by
  unfold finL at h
  split at h
  · obtain ⟨q, hq, e⟩ := grp_mem_key h
    unfold inSlice at hq
    rw [List.mem_filter] at hq
    rw [← e]
    exact of_decide_eq_true hq.2
  · unfold inSlice at h
    rw [List.mem_filter] at h
    exact of_decide_eq_true h.2
theorem slice_rises {fo : Int} {ns k : Nat} (M : List (ByteArray × Int)) : Pp.Tot.Rises (finL true fo (inSlice ns k (Pp.Tot.srt M))) := by
  unfold finL inSlice
  rw [if_pos rfl]
  exact Pp.Tot.rises_grp fo _ (Pp.Tot.Sorted.filter (Pp.Tot.srt_sorted M) _)
theorem slice_sorted {fo : Int} {ea : Bool} {ns k : Nat} (M : List (ByteArray × Int)) : Pp.Stable.Sorted (finL ea fo (inSlice ns k (Pp.Tot.srt M))) := by
  cases ea with
  | true => exact Pp.Tot.Rises.sorted (slice_rises M)
  | false => exact Pp.Tot.Sorted.filter (Pp.Tot.srt_sorted M) _
theorem fin_len {fo : Int} {ea : Bool} (l : List (ByteArray × Int)) : (finL ea fo l).length ≤ l.length ∧ (ea = false → (finL ea fo l).length = l.length) := by
  unfold finL
  cases ea with
  | true => exact ⟨Pp.Grp.grp_len fo l, fun h => by cases h⟩
  | false => exact ⟨Nat.le_refl _, fun _ => rfl⟩
/-- How many pairs are in the first so many slices. -/
def upto (fo : Int) (ea : Bool) (ns : Nat) (M : List (ByteArray × Int)) (k : Nat) : Nat := ((List.range k).map fun i => (finL ea fo (inSlice ns i (Pp.Tot.srt M))).length).sum
theorem upto_succ (fo : Int) (ea : Bool) (ns : Nat) (M : List (ByteArray × Int)) (k : Nat) : upto fo ea ns M (k + 1) = upto fo ea ns M k + (finL ea fo (inSlice ns k (Pp.Tot.srt M))).length := by
  unfold upto
  rw [List.range_succ, List.map_append, List.sum_append]
  simp
theorem upto_le (fo : Int) (ea : Bool) (ns : Nat) (h1 : 1 ≤ ns) (M : List (ByteArray × Int)) : upto fo ea ns M ns ≤ M.length ∧ (ea = false → upto fo ea ns M ns = M.length) := by
  have hs := sum_slices ns h1 (Pp.Tot.srt M)
  rw [Pp.Tot.srt_len] at hs
  have le : ∀ m, upto fo ea ns M m ≤ ((List.range m).map fun k => (inSlice (ns : Int) k (Pp.Tot.srt M)).length).sum ∧ (ea = false → upto fo ea ns M m = ((List.range m).map fun k => (inSlice (ns : Int) k (Pp.Tot.srt M)).length).sum) := by
    intro m
    induction m with
    | zero => exact ⟨Nat.le_refl _, fun _ => rfl⟩
    | succ m ih =>
      have h2 := fin_len (fo := fo) (ea := ea) (inSlice ns m (Pp.Tot.srt M))
      rw [upto_succ, List.range_succ, List.map_append, List.sum_append]
      simp only [List.map_cons, List.map_nil, List.sum_cons, List.sum_nil, Nat.add_zero]
      exact ⟨Nat.add_le_add ih.1 h2.1, fun h => by rw [ih.2 h, h2.2 h]⟩
  obtain ⟨h2, h3⟩ := le ns
  rw [hs] at h2 h3
  exact ⟨h2, h3⟩
end Go.Proofs.YtgkpnjnollfdaaaDoor
/- Mapper: New, and what its run holds lies in blocks of its own; a run survives another one's steps. Written by tpl/mk_n5b.py. -/
namespace Go.Proofs.YtgkpnjnollfdaaaDoor
open Go.ChangeShapes Go.WideShapes Go.ChangeAt Go.RowKit
/-- What a run holds, told apart: it stands wherever the blocks from B to R stay. -/
structure MRheld (B : Nat) (w : World) (R : Nat) (j : Jb) (rv lv : Value) (lines : List (List UInt8)) : Prop where
  low : B ≤ R
  rules : ∀ w', Keeps B R w w' → IsRules w' rv j.rules
  lines : ∀ w', Keeps B R w w' → IsTexts w' lv (lines.map bs)
theorem keeps_frm {w w' : World} {S B R : Nat} (h : FrM w w' S none) (hR : R ≤ w.heap.size) (hS : S < B ∨ R ≤ S) : Keeps B R w w' := fun k h1 h2 => h.block k (by omega) (by omega) (by simp)
theorem MRheld.keeps {w w' : World} {R B : Nat} {j : Jb} {rv lv : Value} {lines : List (List UInt8)} (h : MRheld B w R j rv lv lines) (k : Keeps B R w w') : MRheld B w' R j rv lv lines := ⟨h.low, fun w2 h2 => h.rules w2 (k.trans h2), fun w2 h2 => h.lines w2 (k.trans h2)⟩
theorem ow_kept {w w' : World} {base : Nat} {e : TypeId} {size : Nat} {v : Value} {n : Nat} {xs : List Value} (h : w.ownsRow base e size v n xs) (hb : ∀ g, v.ownBlock = some g → w'.heap[g]? = w.heap[g]?) : w'.ownsRow base e size v n xs := by
  refine ⟨h.1, ?_⟩
  rcases h.2 with h0 | ⟨g, cap, cur, hv, hb', hg, rest⟩
  · exact .inl h0
  · exact .inr ⟨g, cap, cur, hv, hb', (hb g (by rw [hv]; rfl)).trans hg, rest⟩
theorem IsMR.hop {w w' : World} {R S B : Nat} {j : Jb} {rv lv mv : Value} {lines : List (List UInt8)} {done : Nat} {made : List (ByteArray × Int)} (h : IsMR w R j rv lv lines done mv made) (hh : MRheld B w R j rv lv lines) (hF : FrM w w' S none) (hS : S < B ∨ R < S) (hm : ∀ g, mv.ownBlock = some g → g ≠ S) :
    IsMR w' R j rv lv lines done mv made ∧ MRheld B w' R j rv lv lines := by
  have hRl := h.blk.lt
  have hlow := hh.low
  have hk := keeps_frm (B := B) hF (Nat.le_of_lt hRl) (by omega)
  have hk2 := hh.keeps hk
  exact ⟨⟨(hF.block R hRl (by omega) (by simp)).trans h.blk, fun w2 h2 => hk2.rules w2 (fun k _ hk => h2.block k hk), fun w2 h2 => hk2.lines w2 (fun k _ hk => h2.block k hk), ow_kept h.row (fun g hg => hF.block g (h.row.lt g hg).2 (hm g hg) (by simp))⟩, hk2⟩
theorem IsMR.stay {w w' : World} {R B : Nat} {j : Jb} {rv lv mv : Value} {lines : List (List UInt8)} {done : Nat} {made : List (ByteArray × Int)} (h : IsMR w R j rv lv lines done mv made) (hh : MRheld B w R j rv lv lines) (hb : Below w.heap.size w w') :
    IsMR w' R j rv lv lines done mv made ∧ MRheld B w' R j rv lv lines := ⟨h.blw hb, hh.keeps (Keeps.of_below hb (Nat.le_of_lt h.blk.lt))⟩
/-- What New hands back. -/
def MadeNew2 (w : World) (j : Jb) (lines : List (List UInt8)) (r : Ending) (w' : World) : Prop :=
  ∃ R rv lv, r = .returned (.tuple #[.pointer (some ⟨R, 0, none⟩), .nilIface]) ∧ IsMR w' R j rv lv lines 0 (.slice none 0 0) [] ∧ MRheld w.heap.size w' R j rv lv lines ∧ Below w.heap.size w w'
set_option maxRecDepth 100000 in
set_option maxHeartbeats 1000000 in
theorem new_ok2 (j : Jb) (rv lv : Value) (lines : List (List UInt8)) (w : World) (h : IsRules w rv j.rules) (hw : rulesWt j.rules ≤ 1000000) (hf : jobFault j = 0) (ht : IsTexts w lv (lines.map bs)) (hn : lines.length ≤ 60) (E : EnvS w) :
    Calls Tryd.prog 18 #[j.value rv, lv] w (MadeNew2 w j lines) := by
  have CK := Lib.hid (fun w h E => jobCheck_any j rv w h (by omega) E)
  have CJ := Lib.hid (fun w h => copyJob_any j rv w h hw)
  have H := Lib.hid h
  have HT := Lib.hid ht
  obtain ⟨a, cap, rfl⟩ := h.slice
  obtain ⟨la, lc, rfl, -⟩ := ht
  have HE := Lib.hid E
  rw [hf, show errV 0 = .nilIface from rfl] at CK
  clear h E hf
  obtain ⟨ln, hln⟩ : ∃ ln, ln = (lines.map bs).length := ⟨_, rfl⟩
  rw [← hln] at HT ⊢
  have hn2 : ln ≤ 60 := by rw [hln, List.length_map]; exact hn
  have CL : Hid (∀ w', Below w.heap.size w w' → Calls Tryd.prog 44 #[.slice la ln lc] w' fun e w'' => ∃ v, e = .returned v ∧ w''.ownsRow w'.heap.size 9 1 v ln (strs lines) ∧ Below w'.heap.size w' w'') := fun w' hb' => by
    obtain ⟨h1, h2⟩ := texts_src (IsTexts.below HT.out hb')
    exact cloneS_any la ln lc (strs lines) w' (by rw [hln]; simp [strs]) h1 h2 (strs_one lines) (by omega)
  have HLN := Lib.hid hln
  clear hln hn
  unfold CopyJ at CJ
  obtain ⟨l, fo, ea, sl⟩ := j
  simp only [Jb.value] at *
  obtain ⟨n, hnn⟩ : ∃ n, n = l.length := ⟨_, rfl⟩
  rw [← hnn] at H CK CJ ⊢
  have HNN := Lib.hid hnn
  clear hnn
  go_enter Tryd.func18, Tryd.ntmps18
  go_wp2_with (go_at_call 17; refine Hid.out ?_)
  refine Lib.hid ?_
  refine (CK.out _ (H.out.lower (below_box _)) (HE.out.lower (below_box _))).mono ?_
  rintro _ w1 ⟨rfl, hb1⟩
  have JB := Lib.hid ((blk_new (w := w) (cs := #[.slice a n cap, .int .i64 fo, .bool ea, .int .i64 sl]) (t := 37) rfl).blw hb1)
  have hb01 := below_trans (below_box _) hb1
  have k0 := JB.out.at (i := 0) (v := .slice a n cap) rfl
  have k1 := JB.out.at (i := 1) (v := .int .i64 fo) rfl
  have k2 := JB.out.at (i := 2) (v := .bool ea) rfl
  have k3 := JB.out.at (i := 3) (v := .int .i64 sl) rfl
  clear hb1 CK
  go_wp2_with (go_at_call 43; refine Hid.out ?_)
  refine Lib.hid ?_
  refine (CJ.out w1 (H.out.lower hb01)).mono ?_
  rintro _ w2 ⟨va, vc, rfl, HR, hb12⟩
  have hb02 := below_trans hb01 hb12
  have HRU := Lib.hid HR
  clear k0 k1 k2 k3 JB CJ HR
  dsimp only
  go_wp2_with (go_at_call 44; refine Hid.out ?_)
  refine Lib.hid ?_
  refine (CL.out w2 hb02).mono ?_
  rintro _ w3 ⟨v, rfl, hrow, hb23⟩
  have hb03 := below_trans hb02 hb23
  have HROW := Lib.hid hrow
  have HB23 := Lib.hid hb23
  clear CL hrow hb23
  obtain ⟨w4, hw4⟩ : ∃ w4, w4 = w3.alloc (.cells #[.slice va n vc, .int .i64 fo, .bool ea, .int .i64 sl, v, .int .i64 0, .slice none 0 0] 93) := ⟨_, rfl⟩
  obtain ⟨R, hR⟩ : ∃ R, R = w3.heap.size := ⟨_, rfl⟩
  have hb34 : Below w3.heap.size w3 w4 := by rw [hw4]; exact below_box _
  have HF : Hid (IsMR w4 R ⟨l, fo, ea, sl⟩ (.slice va n vc) v lines 0 (.slice none 0 0) []) := by
    refine ⟨?_, fun w' h' => ?_, fun w' h' => ?_, World.ownsRow_nil _ _ _ _⟩
    · rw [hw4]; exact blk_new hR
    · rw [hR] at h'
      have hbb : Below w3.heap.size w3 w' := hb34.trans h'
      exact HRU.out w' (fun k _ hk => (hbb.block k (Nat.lt_of_lt_of_le hk HB23.out.size)).trans (HB23.out.block k hk))
    · rw [hR] at h'
      have hbb : Below w3.heap.size w3 w' := hb34.trans h'
      have h := HROW.out
      rw [HLN.out, List.length_map] at h
      exact IsTexts.below (isTexts_of h) hbb
  have HH : Hid (MRheld w.heap.size w4 R ⟨l, fo, ea, sl⟩ (.slice va n vc) v lines) := by
    have hb24 : Below w2.heap.size w2 w4 := below_trans HB23.out hb34
    have hz1 := hb01.size
    have hz2 := hb02.size
    have hz3 := HB23.out.size
    have hz4 := hb12.size
    refine ⟨by omega, fun w' h' => ?_, fun w' h' => ?_⟩
    · exact HRU.out w' ((Keeps.of_below hb24 (Nat.le_refl _)).trans (h'.sub hz1 (by omega)))
    · have h := ow_kept (w' := w') HROW.out (fun g hg => by
        have h5 := HROW.out.lt g hg
        exact (h' g (by omega) (by omega)).trans (hb34.block g h5.2))
      rw [HLN.out, List.length_map] at h
      exact isTexts_of h
  have HB := Lib.hid (below_trans hb03 hb34)
  have HW := Lib.hid hw4
  have HRR := Lib.hid hR
  obtain ⟨vla, vlc, ev⟩ : ∃ vla vlc, v = .slice vla ln vlc := by
    rcases row_slice HROW.out with ⟨h1, h2⟩ | ⟨g, c, h1, _⟩
    · exact ⟨_, _, by rw [h1, h2]⟩
    · exact ⟨_, _, h1⟩
  subst ev
  clear hw4 hR hb34 hb03 hb01 hb02 hb12 HROW HB23 HRU
  dsimp only
  go_wp2
  rw [← HW.out, ← HRR.out]
  go_ret2
  exact ⟨R, _, _, rfl, HF.out, HH.out, HB.out⟩
end Go.Proofs.YtgkpnjnollfdaaaDoor
/- TopParts: plain facts: slices of a whole are those of its parts, merged; a part of a list of texts. -/
namespace Go.Proofs.YtgkpnjnollfdaaaDoor
open Go.ChangeShapes Go.WideShapes Go.ChangeAt Go.RowKit
theorem inSlice_append (many : Int) (k : Nat) (a b : List (ByteArray × Int)) : inSlice many k (a ++ b) = inSlice many k a ++ inSlice many k b := by unfold inSlice; rw [List.filter_append]
theorem merge_slices (many : Int) (k : Nat) (A B Z : List (ByteArray × Int)) (hs : Pp.Stable.Sorted Z) (he : Pp.Stable.SE (inSlice many k (Pp.Tot.srt A) ++ inSlice many k (Pp.Tot.srt B)) Z) : Z = inSlice many k (Pp.Tot.srt (A ++ B)) := by
  have h1 : Pp.Stable.SE (Pp.Tot.srt A ++ Pp.Tot.srt B) (Pp.Tot.srt (A ++ B)) := ((Pp.Tot.se_srt A).append (Pp.Tot.se_srt B)).trans (Pp.Tot.srt_se (A ++ B))
  have h2 := Pp.Tot.SE.filter h1 (fun kk => decide (sliceN many kk = k))
  rw [← inSlice_append] at he
  have h3 : Pp.Stable.Sorted (inSlice many k (Pp.Tot.srt (A ++ B))) := Pp.Tot.Sorted.filter (Pp.Tot.srt_sorted _) _
  exact Pp.Stable.sorted_unique _ _ hs h3 (he.symm.trans h2)
theorem fault_early (l : List Rl) (fo : Int) (e e' : Bool) (sl : Int) : jobFault ⟨l, fo, e, sl⟩ = jobFault ⟨l, fo, e', sl⟩ := rfl
theorem made_early (l : List Rl) (fo : Int) (e e' : Bool) (sl : Int) (lines : List (List UInt8)) : madeOf ⟨l, fo, e, sl⟩ lines = madeOf ⟨l, fo, e', sl⟩ lines := rfl
theorem texts_take {w : World} {a : Option Addr} {n c c' k : Nat} {l : List (List UInt8)} (h : IsTexts w (.slice a n c) (l.map bs)) (hk : k ≤ l.length) : IsTexts w (.slice a k c') ((l.take k).map bs) := by
  obtain ⟨a', cap, e, hc⟩ := h
  injection e with e1 e2 e3
  subst e1
  refine ⟨a, c', by simp [Nat.min_eq_left hk], fun i hi => ?_⟩
  have hi2 : i < k := by simp at hi; omega
  obtain ⟨b, off, ea, c0⟩ := hc i (by simp; omega)
  exact ⟨b, off, ea, by simpa using c0⟩
theorem texts_drop {w : World} {b off n c c' k : Nat} {l : List (List UInt8)} (h : IsTexts w (.slice (some ⟨b, off, none⟩) n c) (l.map bs)) : IsTexts w (.slice (some ⟨b, off + k, none⟩) (l.length - k) c') ((l.drop k).map bs) := by
  obtain ⟨a', cap, e, hc⟩ := h
  injection e with e1 e2 e3
  subst e1
  refine ⟨some ⟨b, off + k, none⟩, c', by simp, fun i hi => ?_⟩
  have hi2 : k + i < (l.map bs).length := by simp at hi ⊢; omega
  obtain ⟨b', off', ea, c0⟩ := hc (k + i) hi2
  rw [Option.some.injEq, Addr.mk.injEq] at ea
  obtain ⟨rfl, rfl, -⟩ := ea
  refine ⟨b, off + k, rfl, ?_⟩
  rw [Nat.add_assoc, c0]
  simp
theorem lists_below {w w' : World} {v : Value} {ls : List (List (ByteArray × Int))} (h : Pp.IsLists w v ls) (hb : Below w.heap.size w w') : Pp.IsLists w' v ls := by
  obtain ⟨a, cap, rfl, hc⟩ := h
  refine ⟨a, cap, rfl, fun i hi => ?_⟩
  obtain ⟨b, off, u, e, c0, hu⟩ := hc i hi
  exact ⟨b, off, u, e, cell_below c0 hb, Pp.isPairs_below hu hb⟩
theorem lsAt_slices {fo : Int} {ns i : Nat} (h : i < ns) (M : List (ByteArray × Int)) : Pp.lsAt (slicesOf fo false ns M) i = inSlice ns i (Pp.Tot.srt M) := by
  unfold Pp.lsAt
  rw [slicesOf_at h]
  rfl
theorem slice_at {w : World} {a : Option Addr} {c ns : Nat} {fo : Int} {M : List (ByteArray × Int)} (h : Pp.IsLists w (.slice a ns c) (slicesOf fo false ns M)) (i : Nat) (hi : i < ns) : ∃ b off u, a = some ⟨b, off, none⟩ ∧ w.cell? ⟨b, off + i, none⟩ = some u ∧ Pp.IsPairs w u (inSlice ns i (Pp.Tot.srt M)) := by
  have h1 := Pp.isLists_at h i (by simp [slicesOf]; exact hi)
  rw [lsAt_slices hi] at h1
  exact h1
theorem inSlice_len (many : Int) (k : Nat) (M : List (ByteArray × Int)) : (inSlice many k (Pp.Tot.srt M)).length ≤ M.length := by
  unfold inSlice
  exact Nat.le_trans (List.length_filter_le _ _) (Nat.le_of_eq (Pp.Tot.srt_len M))
set_option maxRecDepth 100000 in
theorem merge_two {u1 u2 : Value} {L1 L2 L3 : List (ByteArray × Int)} {w' w2 : World} (hw2 : Below (w'.alloc (.cells #[u1, u2] 22)).heap.size (w'.alloc (.cells #[u1, u2] 22)) w2) (h1 : Pp.IsPairs w' u1 L1) (h2 : Pp.IsPairs w' u2 L2) (hl1 : L1.length ≤ 400000) (hl2 : L2.length ≤ 400000) (hM : ∀ Z, Pp.Stable.Sorted Z → Pp.Stable.SE (L1 ++ L2) Z → Z = L3) :
    Calls Tryd.prog 13 #[.slice (some ⟨w'.heap.size, 0, none⟩) 2 2] w2 fun e w'' => ∃ ma mc, e = .returned (.slice ma L3.length mc) ∧ Pp.IsPairs w'' (.slice ma L3.length mc) L3 ∧ Below w'.heap.size w' w'' := by
  have hB : Blk w2 w'.heap.size 22 [u1, u2] := (blk_new rfl).blw hw2
  have hb : Below w'.heap.size w' w2 := below_trans (below_box _) hw2
  have hL : Pp.IsLists w2 (.slice (some ⟨w'.heap.size, 0, none⟩) 2 2) [L1, L2] := by
    refine ⟨_, 2, rfl, fun i hi => ?_⟩
    match i, hi with
    | 0, _ => exact ⟨_, 0, u1, rfl, hB.at rfl, Pp.isPairs_below h1 hb⟩
    | 1, _ => exact ⟨_, 0, u2, rfl, hB.at rfl, Pp.isPairs_below h2 hb⟩
  refine (Pp.merge_any _ [L1, L2] _ hL (by simp) (by simp; omega)).mono ?_
  rintro e w'' ⟨u, Z, rfl, hs, he, _, hp, hb2⟩
  have e3 : Z = L3 := hM Z hs (by simpa using he)
  subst e3
  obtain ⟨ma, mc, rfl, hq⟩ := id hp
  exact ⟨ma, mc, rfl, hp, below_trans hb hb2⟩
theorem and1023 (x : Int) : 0 ≤ bits .and .i64 x 1023 ∧ bits .and .i64 x 1023 ≤ 1023 := by
  have h2 : (BitVec.ofInt 64 (1023 : Int)).toNat = 1023 := by decide
  have e : bits .and .i64 x 1023 = IntKind.i64.wrap ((BitVec.ofInt 64 x &&& BitVec.ofInt 64 1023).toNat : Int) := rfl
  have hle : (BitVec.ofInt 64 x &&& BitVec.ofInt 64 1023).toNat ≤ 1023 := by
    rw [BitVec.toNat_and, h2]; exact Nat.and_le_right
  rw [e, wrap_small _ (by omega) (by omega)]
  omega
end Go.Proofs.YtgkpnjnollfdaaaDoor
