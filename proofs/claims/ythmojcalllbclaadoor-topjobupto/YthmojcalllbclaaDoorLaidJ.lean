/- What the row of the law of jobs lists gives, and a world in which it is so. -/
import Derived.Test.YthmojcalllbclaaDoorLaidX
import Derived.Test.YthmojcalllbclaaDoorRdM
namespace Go.Proofs.YthmojcalllbclaaDoor
open Go.ChangeShapes Go.WideShapes Go.ChangeAt Go.RowKit
namespace Laid
def wordsOf : DataW Unit → ByteArray
  | .iface _ (.ptr (.agg [.lit (.string b)])) => ⟨b.toArray⟩
  | _ => ByteArray.empty
/-- The two errors' own blocks. -/
def errBlocks : Array Obj := #[.cells #[.string (wordsOf Rows.laid_strconv_ErrRange)] 142, .cells #[.string (wordsOf Rows.laid_strconv_ErrSyntax)] 142]
/-- A world with the listed variables laid as their initialisers lay them. -/
def laidJ (low : Nat) (w : World) : World :=
  put (put (put (put (put (put (laidX w) 8 (tabOf Rows.laid_math_bits_deBruijn32tab)) 9 (tabOf Rows.laid_math_bits_deBruijn64tab)) 5 (tabOf Rows.laid_internal_strconv_uint64pow10))
    7 #[.iface 140 (.pointer (some ⟨low, 0, none⟩))]) 6 #[.iface 140 (.pointer (some ⟨low + 1, 0, none⟩))]) 0 (tabOf Rows.laid_threshfloor_job_folds)
theorem pow_datum : (Rows.laid_internal_strconv_uint64pow10 : DataW Unit) = Lib.tabData .u64 Lib.pow10Tab := by kernel_rfl
theorem gPow : Tryd.prog.globalNamed "internal/strconv.uint64pow10" = some 5 := by kernel_rfl
theorem gSyn : Tryd.prog.globalNamed "strconv.ErrSyntax" = some 6 := by kernel_rfl
theorem gRng : Tryd.prog.globalNamed "strconv.ErrRange" = some 7 := by kernel_rfl
theorem gFo : Tryd.prog.globalNamed "threshfloor/job.folds" = some 0 := by kernel_rfl
theorem tSyn : (Tryd.prog.globals[6]?).map (·.type) = some 35 := by kernel_rfl
theorem tRng : (Tryd.prog.globals[7]?).map (·.type) = some 35 := by kernel_rfl
theorem tPow : (Tryd.prog.globals[5]?).map (·.type) = some 130 := by kernel_rfl
theorem tFo : (Tryd.prog.globals[0]?).map (·.type) = some 71 := by kernel_rfl
theorem cPow : Tryd.prog.cellsOf 130 = 20 := by kernel_rfl
theorem cU64 : Tryd.prog.cellsOf 109 = 1 := by kernel_rfl
theorem cErr : Tryd.prog.cellsOf 142 = 1 := by kernel_rfl
theorem cStr : Tryd.prog.cellsOf 9 = 1 := by kernel_rfl
theorem star : "*" ++ "errors.errorString" = "*errors.errorString" := by decide
theorem onlyErr (u : TypeId) (h : Tryd.prog.typeName? 3 u = some "*errors.errorString") : u = 140 :=
  typeName_ptr_named (nm := "errors.errorString") (by rw [star]; kernel_rfl) (by kernel_rfl) (by decide) u (by rw [star]; exact h)
theorem folds_datum : (Rows.laid_threshfloor_job_folds : DataW Unit) = .agg ((List.range 5).map fun k => .lit (.string (foldL k))) := by kernel_rfl
theorem fo_of {W : World} {rest : List (String × DataW Unit)} (h : laidMet Tryd.prog (("threshfloor/job.folds", Rows.laid_threshfloor_job_folds) :: rest) W) : ∀ k : Nat, k ≤ 4 → W.cell? ⟨0, k, none⟩ = some (.string (bs (foldL k))) := by
  obtain ⟨ps, ⟨g', t', cs, fuel, p, q, hg', ht', hvar, hd, _, _⟩, _⟩ := h
  obtain rfl := Option.some.inj (gFo.symm.trans hg')
  obtain rfl := Option.some.inj (tFo.symm.trans ht')
  rw [folds_datum] at hd
  obtain ⟨xs, m, _, ex, hlen, hl, hel⟩ := DataW.trod_array Tryd.underlying71 hd
  intro k hk
  have hx : xs[k]?.map (·.1) = some (.lit (.string (foldL k))) := by
    have h1 : (DataW.agg ((List.range 5).map fun k => .lit (.string (foldL k))) : DataW Unit) = .agg (xs.map (·.1)) := congrArg Prod.fst ex
    injection h1 with h1
    rw [← List.getElem?_map, ← h1, List.getElem?_map, List.getElem?_range (by omega)]
    rfl
  cases hy : xs[k]? with
  | none => rw [hy] at hx; cases hx
  | some y =>
    rw [hy] at hx
    obtain ⟨yd, yp⟩ := y
    simp only [Option.map_some, Option.some.injEq] at hx
    subst hx
    have he := hel k (by omega)
    rw [hy, cStr] at he
    obtain ⟨s, e0, e1, _⟩ := DataW.trod_string Tryd.underlying9 he
    rw [World.var?_cell gFo hvar k]
    have e2 : s.data.toList = foldL k := by
      have := congrArg Prod.fst e1
      injection this with this
      injection this with this
      exact this.symm
    have e3 : cs[k]? = some (.string s) := by
      have := congrArg (·[0]?) e0
      simpa using this
    rw [← e2, bs_of]
    exact e3
theorem envR_of {W : World} {x y z u : String × DataW Unit} (hL : laidMet Tryd.prog [x, y, ("internal/strconv.uint64pow10", Rows.laid_internal_strconv_uint64pow10), z, ("strconv.ErrRange", Rows.laid_strconv_ErrRange), ("strconv.ErrSyntax", Rows.laid_strconv_ErrSyntax), ("threshfloor/expr.shapes", Rows.laid_threshfloor_expr_shapes), ("threshfloor/job.folds", Rows.laid_threshfloor_job_folds), u] W) (hs : W.ShapedOpen Tryd.prog) : EnvR W := by
  have h3 := hL.tail.tail
  have h5 := h3.tail.tail
  rw [pow_datum] at h3
  refine ⟨⟨⟨envS_of hs h5.tail.tail, Lib.tabIs_of_head gPow tPow Tryd.underlying130 Tryd.underlying109 cU64 cPow h3⟩, fo_of h5.tail.tail.tail⟩, ?_, ?_⟩
  · obtain ⟨a, s, hv, -, -, -⟩ := laid_sentinel h5.tail gSyn tSyn Tryd.underlying35 onlyErr Tryd.underlying140 Tryd.underlying142 rfl rfl Tryd.underlying9 cErr cStr
    exact ⟨_, _, by have h0 := World.var?_cell gSyn hv 0; simpa using h0⟩
  · obtain ⟨a, s, hv, -, -, -⟩ := laid_sentinel h5 gRng tRng Tryd.underlying35 onlyErr Tryd.underlying140 Tryd.underlying142 rfl rfl Tryd.underlying9 cErr cStr
    exact ⟨_, _, by have h0 := World.var?_cell gRng hv 0; simpa using h0⟩
end Laid
end Go.Proofs.YthmojcalllbclaaDoor
