/- What the rows list of the library's variables gives, and a world in which it is so. -/
import Derived.Test.YtapflhndpcgdiaaDoorCards
import Derived.Test.YtapflhndpcgdiaaDoorRead
import Derived.Deep.DeepHandedRow
import Derived.Lib.LaidTab
import Derived.Stop.LaidErr
import Derived.Shelf.Vars
namespace Go.Proofs.YtapflhndpcgdiaaDoor
open Go.ChangeShapes Go.WideShapes Go.ChangeAt Go.RowKit
namespace Laid

def litV : DataW Unit → Value
  | .lit (.int k n) => .int k n
  | _ => .bool false
def tabOf : DataW Unit → Array Value
  | .agg l => (l.map litV).toArray
  | _ => #[]
def wordsOf : DataW Unit → ByteArray
  | .iface _ (.ptr (.agg [.lit (.string b)])) => ⟨b.toArray⟩
  | _ => ByteArray.empty
def put (w : World) (g : Nat) (cs : Array Value) : World :=
  { w with heap := w.heap.modify g fun
      | .cells _ t frozen => .cells cs t frozen
      | o => o }
/-- The two errors' own blocks. -/
def errBlocks : Array Obj := #[.cells #[.string (wordsOf Rows.laid_strconv_ErrRange)] 122, .cells #[.string (wordsOf Rows.laid_strconv_ErrSyntax)] 122]
/-- A world with the listed variables laid as their initialisers lay them. -/
def laid (low : Nat) (w : World) : World :=
  put (put (put (put (put w 4 (tabOf Rows.laid_math_bits_deBruijn32tab)) 5 (tabOf Rows.laid_math_bits_deBruijn64tab)) 1 (tabOf Rows.laid_internal_strconv_uint64pow10))
    3 #[.iface 120 (.pointer (some ⟨low, 0, none⟩))]) 2 #[.iface 120 (.pointer (some ⟨low + 1, 0, none⟩))]

theorem pow_datum : (Rows.laid_internal_strconv_uint64pow10 : DataW Unit) = Lib.tabData .u64 Lib.pow10Tab := by kernel_rfl
theorem gPow : Tryd.prog.globalNamed "internal/strconv.uint64pow10" = some 1 := by kernel_rfl
theorem gSyn : Tryd.prog.globalNamed "strconv.ErrSyntax" = some 2 := by kernel_rfl
theorem gRng : Tryd.prog.globalNamed "strconv.ErrRange" = some 3 := by kernel_rfl
theorem tSyn : (Tryd.prog.globals[2]?).map (·.type) = some 27 := by kernel_rfl
theorem tRng : (Tryd.prog.globals[3]?).map (·.type) = some 27 := by kernel_rfl
theorem tPow : (Tryd.prog.globals[1]?).map (·.type) = some 107 := by kernel_rfl
theorem cPow : Tryd.prog.cellsOf 107 = 20 := by kernel_rfl
theorem cU64 : Tryd.prog.cellsOf 60 = 1 := by kernel_rfl
theorem cErr : Tryd.prog.cellsOf 122 = 1 := by kernel_rfl
theorem cStr : Tryd.prog.cellsOf 9 = 1 := by kernel_rfl
theorem star : "*" ++ "errors.errorString" = "*errors.errorString" := by decide
theorem onlyErr (u : TypeId) (h : Tryd.prog.typeName? 3 u = some "*errors.errorString") : u = 120 :=
  typeName_ptr_named (nm := "errors.errorString") (by rw [star]; kernel_rfl) (by kernel_rfl) (by decide) u (by rw [star]; exact h)
theorem env_of {W : World} {x y : String × DataW Unit} (hL : laidMet Tryd.prog [x, y, ("internal/strconv.uint64pow10", Rows.laid_internal_strconv_uint64pow10), ("strconv.ErrRange", Rows.laid_strconv_ErrRange), ("strconv.ErrSyntax", Rows.laid_strconv_ErrSyntax)] W) (hs : W.ShapedOpen Tryd.prog) : Env W := by
  have h3 := hL.tail.tail
  rw [pow_datum] at h3
  refine ⟨Lib.tabIs_of_head gPow tPow Tryd.underlying107 Tryd.underlying60 cU64 cPow h3, ?_, ?_, ?_⟩
  · exact cell_of_shapedOpen_int (g := 0) (t := 3) (zero := #[.int .i64 0]) (k := .i64) hs (by decide +kernel) (by kernel_rfl) rfl (by kernel_rfl) (by kernel_rfl) Tryd.underlying3
  · obtain ⟨a, s, hv, -, -, -⟩ := laid_sentinel h3.tail.tail gSyn tSyn Tryd.underlying27 onlyErr Tryd.underlying120 Tryd.underlying122 rfl rfl Tryd.underlying9 cErr cStr
    exact ⟨_, _, by have h0 := World.var?_cell gSyn hv 0; simpa using h0⟩
  · obtain ⟨a, s, hv, -, -, -⟩ := laid_sentinel h3.tail gRng tRng Tryd.underlying27 onlyErr Tryd.underlying120 Tryd.underlying122 rfl rfl Tryd.underlying9 cErr cStr
    exact ⟨_, _, by have h0 := World.var?_cell gRng hv 0; simpa using h0⟩
end Laid
end Go.Proofs.YtapflhndpcgdiaaDoor
