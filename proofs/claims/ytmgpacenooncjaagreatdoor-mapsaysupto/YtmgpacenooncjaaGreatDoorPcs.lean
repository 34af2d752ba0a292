/- Pieces of a function's code, by their numbers. -/
import Derived.Test.YtmgpacenooncjaaGreatDoorRows
import Derived.WalkKit
import Derived.ProofKit
import Derived.WalkLawsBesides
import Derived.Lib.Hide
import Derived.Deep.DeepCutAuto
import Derived.Deep.CutBlock
namespace Go.Proofs.YtmgpacenooncjaaGreatDoor
open Go.ChangeShapes Go.WideShapes Go.ChangeAt Go.RowKit
/-- The block of that number in a piece of code. -/
def findBlock (n : Nat) : Code → Option Code
  | .block k c => if k = n then some (.block k c) else findBlock n c
  | .loop c => findBlock n c
  | .scope c => findBlock n c
  | .seq a b => match findBlock n a with
    | some c => some c
    | none => findBlock n b
  | .cond _ a b => match findBlock n a with
    | some c => some c
    | none => findBlock n b
  | _ => none
/-- The region of that number in a piece of code. -/
def findRegion (n : Nat) : Code → Option Code
  | .region k l b => if k = n then some (.region k l b) else none
  | .block _ c => findRegion n c
  | .loop c => findRegion n c
  | .scope c => findRegion n c
  | .seq a b => match findRegion n a with
    | some c => some c
    | none => findRegion n b
  | .cond _ a b => match findRegion n a with
    | some c => some c
    | none => findRegion n b
  | _ => none
def regionIn (o : Option Code) (n : Nat) : Code := ((o.bind (findRegion n)).getD .skip)
def pieceIn (o : Option Code) (n : Nat) : Code := ((o.bind (findBlock n)).getD .skip)
theorem wp_norm {c : Code} {K : Act → World → Prop} {Q0 : Exit → Act → World → Prop} {a : Act} {w : World} (h : c.wp Tryz.prog (Exit.then K fun _ _ _ => False) a w) : c.wp Tryz.prog (Exit.then K Q0) a w :=
  wp_mono h fun e a w hq => by
    cases e with
    | normal => exact hq
    | exit id => exact False.elim hq
    | goto l => exact False.elim hq
    | ret => exact False.elim hq
    | panic ch => exact False.elim hq
    | outgrown => exact False.elim hq
end Go.Proofs.YtmgpacenooncjaaGreatDoor
