/- A world in which the listed variables hold what their initialisers lay, for the laws of expressions. -/
import Derived.Test.YtahhcabmpcjddaaDoorCards
import Derived.Test.YtahhcabmpcjddaaDoorTxt
import Derived.Deep.DeepHandedRow
import Derived.Lib.LaidTab
import Derived.Stop.LaidErr
import Derived.Shelf.Vars
namespace Go.Proofs.YtahhcabmpcjddaaDoor
open Go.ChangeShapes Go.WideShapes Go.ChangeAt Go.RowKit
namespace Laid
def litV : DataW Unit → Value
  | .lit (.int k n) => .int k n
  | .lit (.bool b) => .bool b
  | .lit (.string b) => .string ⟨b.toArray⟩
  | _ => .bool false
def rowOf : DataW Unit → List Value
  | .agg m => m.map litV
  | d => [litV d]
def tabOf : DataW Unit → Array Value
  | .agg l => (l.flatMap rowOf).toArray
  | _ => #[]
def put (w : World) (g : Nat) (cs : Array Value) : World :=
  { w with heap := w.heap.modify g fun
      | .cells _ t frozen => .cells cs t frozen
      | o => o }
theorem env0_of {W : World} (hs : W.ShapedOpen Tryd.prog) : Env0 W :=
  ⟨cell_of_shapedOpen_int (g := 0) (t := 3) (zero := #[.int .i64 0]) (k := .i64) hs (by decide +kernel) (by kernel_rfl) rfl (by kernel_rfl) (by kernel_rfl) Tryd.underlying3⟩
/-- A world with the decoder's tables laid. -/
def laidU (w : World) : World := put (put w 8 (tabOf Rows.laid_unicode_utf8_acceptRanges)) 7 (tabOf Rows.laid_unicode_utf8_first)
end Laid
end Go.Proofs.YtahhcabmpcjddaaDoor
