/-
  DERIVED. GIVEN WITH THE SEED: THE CARDS: each row of YthmojcalllbclaaDoorRows.lean that lists a variable, with what it lists TIED to the program's text (the seventh form; the later family's looks); each row that meets fmt, with fmt's text TOLD by the authors' own Lean function (tested against real Go, not proved from fmt's source: count such statements apart). THE CARD IS WHAT COUNTS. Prove the row's statement (the work); the ties are given (YthmojcalllbclaaDoorTie.lean); close each card by the builder's one call (the guide's Derived/Test/ToyasCard.lean, 'card_holds'). Laid BY PROGRAM, IN A SANDBOX (cutbox-door.mjs). By AI agents, Wed Nov 11 2026. No macro, syntax, notation, axiom, sorry.
-/
import Derived.Test.YthmojcalllbclaaDoorRows
import GoSem.ClaimSeven
namespace Go.Proofs.YthmojcalllbclaaDoor
namespace Rows

/-- THE TIED CARD OF 'threshfloortop.TopWords'. -/
def topWordsCard : Claim7 := { stood := { row := topWordsRow, standIns := [], harness := (true, "c8a019e1498688e60d96627a8efbddb9c34af1f2ce39b58b22a7ac39ec0a9f44"), looks := true }, kinds := [], alts := [], laidByText := true, laidKinds := [.data, .pinned], laidTests := true, laidLooks := .later }
def TopWordsCardSaid : Prop := Claim7.holds Tryd.pinned (.plain (OpenSpec.ofChange topWordsSpec)) topWordsCard

/-- THE TIED CARD OF 'threshfloortop.TopExpr'. -/
def topExprCard : Claim7 := { stood := { row := topExprRow, standIns := [], harness := (true, "c8a019e1498688e60d96627a8efbddb9c34af1f2ce39b58b22a7ac39ec0a9f44"), looks := true }, kinds := [], alts := [], laidByText := true, laidKinds := [.data, .data, .pinned], laidTests := true, laidLooks := .later }
def TopExprCardSaid : Prop := Claim7.holds Tryd.pinned (.plain (OpenSpec.ofChange topExprSpec)) topExprCard

/-- THE TIED CARD OF 'threshfloortop.TopJob'. -/
def topJobCard : Claim7 := { stood := { row := topJobRow, standIns := [], harness := (true, "c8a019e1498688e60d96627a8efbddb9c34af1f2ce39b58b22a7ac39ec0a9f44"), looks := true }, kinds := [], alts := [], laidByText := true, laidKinds := [.data, .data, .data, .data, .sentinel, .sentinel, .data, .data, .pinned], laidTests := true, laidLooks := .later }
def TopJobCardSaid : Prop := Claim7.holds Tryd.pinned (.plain (OpenSpec.ofChange topJobSpec)) topJobCard

/-- THE SECOND FORM's CARD OF 'threshfloortop.TopWords'. -/
def topWordsUptoCard : Claim7 := { stood := { row := topWordsUptoRow, standIns := [], harness := (true, "c8a019e1498688e60d96627a8efbddb9c34af1f2ce39b58b22a7ac39ec0a9f44"), looks := true }, kinds := [], alts := [], laidByText := true, laidKinds := [.data, .pinned], laidTests := true, laidLooks := .later }
def TopWordsUptoCardSaid : Prop := Claim7.holds Tryd.pinned (.plain (OpenSpec.upto topWordsSpec)) topWordsUptoCard

/-- THE SECOND FORM's CARD OF 'threshfloortop.TopExpr'. -/
def topExprUptoCard : Claim7 := { stood := { row := topExprUptoRow, standIns := [], harness := (true, "c8a019e1498688e60d96627a8efbddb9c34af1f2ce39b58b22a7ac39ec0a9f44"), looks := true }, kinds := [], alts := [], laidByText := true, laidKinds := [.data, .data, .pinned], laidTests := true, laidLooks := .later }
def TopExprUptoCardSaid : Prop := Claim7.holds Tryd.pinned (.plain (OpenSpec.upto topExprSpec)) topExprUptoCard

/-- THE SECOND FORM's CARD OF 'threshfloortop.TopJob'. -/
def topJobUptoCard : Claim7 := { stood := { row := topJobUptoRow, standIns := [], harness := (true, "c8a019e1498688e60d96627a8efbddb9c34af1f2ce39b58b22a7ac39ec0a9f44"), looks := true }, kinds := [], alts := [], laidByText := true, laidKinds := [.data, .data, .data, .data, .sentinel, .sentinel, .data, .data, .pinned], laidTests := true, laidLooks := .later }
def TopJobUptoCardSaid : Prop := Claim7.holds Tryd.pinned (.plain (OpenSpec.upto topJobSpec)) topJobUptoCard
end Rows
end Go.Proofs.YthmojcalllbclaaDoor
