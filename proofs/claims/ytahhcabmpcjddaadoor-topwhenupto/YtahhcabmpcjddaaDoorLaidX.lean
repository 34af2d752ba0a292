/- What the rows list of the table of kinds gives, and a world in which it is so. -/
import Derived.Test.YtahhcabmpcjddaaDoorLaidE
import Derived.Test.YtahhcabmpcjddaaDoorExM
import Derived.OpenShut
namespace Go.Proofs.YtahhcabmpcjddaaDoor
open Go.ChangeShapes Go.WideShapes Go.ChangeAt Go.RowKit
namespace Laid
theorem c5 : Tryd.prog.cellsOf 133 = 5 := by kernel_rfl
theorem ci : Tryd.prog.cellsOf 3 = 1 := by kernel_rfl
theorem cb : Tryd.prog.cellsOf 4 = 1 := by kernel_rfl
def shD (k : Nat) : DataW Unit := .agg [.lit (.int .i64 (lowK k)), .lit (.int .i64 (highK k)), .lit (.int .i64 (bytesK k)), .lit (.int .i64 (partsK k)), .lit (.bool (textsK k))]
theorem shapes_datum : (Rows.laid_threshfloor_expr_shapes : DataW Unit) = .agg ((List.range 11).map shD) := by kernel_rfl
set_option maxRecDepth 100000 in
theorem shape_elem {H : Type} {enc : TypeId × Value → H} {w : World} {base : Nat} {sp : Nat → Bool} {held : Bool} {fuel : Nat} {cs : List Value} {a0 a1 a2 a3 : Int} {a4 : Bool} {p : List MemPlace}
    (h : DataW.trod enc Tryd.prog w base sp held fuel 133 cs = some (.agg [.lit (.int .i64 a0), .lit (.int .i64 a1), .lit (.int .i64 a2), .lit (.int .i64 a3), .lit (.bool a4)], p)) : cs = [.int .i64 a0, .int .i64 a1, .int .i64 a2, .int .i64 a3, .bool a4] := by
  obtain ⟨xs, n', hn', hxy, hcl, hxl, hf⟩ := DataW.trod_struct Tryd.underlying133 h
  rw [c5] at hcl
  match xs, hxl, cs, hcl with
  | [y0, y1, y2, y3, y4], _, [v0, v1, v2, v3, v4], _ =>
    have g0 := hf 0 _ rfl
    have g1 := hf 1 _ rfl
    have g2 := hf 2 _ rfl
    have g3 := hf 3 _ rfl
    have g4 := hf 4 _ rfl
    simp [ci, cb] at g0 g1 g2 g3 g4
    obtain ⟨k0, e0, rfl, _⟩ := DataW.trod_int Tryd.underlying3 g0
    obtain ⟨k1, e1, rfl, _⟩ := DataW.trod_int Tryd.underlying3 g1
    obtain ⟨k2, e2, rfl, _⟩ := DataW.trod_int Tryd.underlying3 g2
    obtain ⟨k3, e3, rfl, _⟩ := DataW.trod_int Tryd.underlying3 g3
    obtain ⟨k4, e4, rfl⟩ := DataW.trod_bool Tryd.underlying4 g4
    simp at hxy e0 e1 e2 e3 e4
    obtain ⟨⟨rfl, rfl, rfl, rfl, rfl⟩, _⟩ := hxy
    rw [e0, e1, e2, e3, e4]
theorem gSh : Tryd.prog.globalNamed "threshfloor/expr.shapes" = some 1 := by kernel_rfl
theorem tSh : (Tryd.prog.globals[1]?).map (·.type) = some 144 := by kernel_rfl
theorem envS_of {W : World} {rest : List (String × DataW Unit)} (hs : W.ShapedOpen Tryd.prog) (h : laidMet Tryd.prog (("threshfloor/expr.shapes", Rows.laid_threshfloor_expr_shapes) :: rest) W) : EnvS W := by
  refine ⟨env0_of hs, ?_⟩
  obtain ⟨ps, ⟨g', t', cs, fuel, p, q, hg', ht', hvar, hd, _, _⟩, _⟩ := h
  obtain rfl := Option.some.inj (gSh.symm.trans hg')
  obtain rfl := Option.some.inj (tSh.symm.trans ht')
  rw [shapes_datum] at hd
  obtain ⟨xs, m, _, ex, hlen, hl, hel⟩ := DataW.trod_array Tryd.underlying144 hd
  intro k hk
  have hx : xs[k]?.map (·.1) = some (shD k) := by
    have h1 : (DataW.agg ((List.range 11).map shD) : DataW Unit) = .agg (xs.map (·.1)) := congrArg Prod.fst ex
    injection h1 with h1
    rw [← List.getElem?_map, ← h1, List.getElem?_map, List.getElem?_range (by omega)]
    rfl
  cases hy : xs[k]? with
  | none => rw [hy] at hx; cases hx
  | some y =>
    rw [hy] at hx
    obtain ⟨yd, yp⟩ := y
    simp only [Option.map_some, Option.some.injEq] at hx
    subst hx
    have he := hel k (by omega)
    rw [hy, c5] at he
    have hc := shape_elem he
    have cell : ∀ j v, [Value.int .i64 (lowK k), .int .i64 (highK k), .int .i64 (bytesK k), .int .i64 (partsK k), .bool (textsK k)][j]? = some v → W.cell? ⟨1, k * 5 + j, none⟩ = some v := by
      intro j v hv
      rw [World.var?_cell gSh hvar (k * 5 + j)]
      rw [← hc] at hv
      have hj : j < 5 := by
        have := (List.getElem?_eq_some_iff.1 hv).1
        simp at this
        omega
      rw [List.getElem?_take, if_pos hj, List.getElem?_drop] at hv
      simpa using hv
    exact ⟨cell 0 _ rfl, cell 1 _ rfl, cell 2 _ rfl, cell 3 _ rfl, cell 4 _ rfl⟩
/-- A world with the decoder's tables and that of kinds laid. -/
def laidX (w : World) : World := put (laidU w) 1 (tabOf Rows.laid_threshfloor_expr_shapes)
end Laid
end Go.Proofs.YtahhcabmpcjddaaDoor
