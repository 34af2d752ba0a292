/-
  DERIVED. GIVEN WITH THE SEED: THE CARDS: each row of YtahklpihbkdclaaDoorRows.lean that lists a variable, with what it lists TIED to the program's text (the seventh form; the later family's looks); each row that meets fmt, with fmt's text TOLD by the authors' own Lean function (tested against real Go, not proved from fmt's source: count such statements apart). THE CARD IS WHAT COUNTS. Prove the row's statement (the work); the ties are given (YtahklpihbkdclaaDoorTie.lean); close each card by the builder's one call (the guide's Derived/Test/ToyasCard.lean, 'card_holds'). Laid BY PROGRAM, IN A SANDBOX (cutbox-door.mjs). By AI agents, Wed Nov 11 2026. No macro, syntax, notation, axiom, sorry.
-/
import Derived.Test.YtahklpihbkdclaaDoorRows
import GoSem.ClaimSeven
namespace Go.Proofs.YtahklpihbkdclaaDoor
namespace Rows

/-- THE TIED CARD OF 'threshfloorlaw.Names'. -/
def namesCard : Claim7 := { stood := { row := namesRow, standIns := [], harness := (true, "2e0b02b838a9aba9fe875eb7514bec0da57e73893609e4e8c345215dff63156e"), looks := true }, kinds := [], alts := [], laidByText := true, laidKinds := [.data, .data, .data], laidTests := true, laidLooks := .later }
def NamesCardSaid : Prop := Claim7.holds Tryd.pinned (.plain (OpenSpec.ofChange namesSpec)) namesCard

/-- THE TIED CARD OF 'threshfloorlaw.PairSays'. -/
def pairSaysCard : Claim7 := { stood := { row := pairSaysRow, standIns := [], harness := (true, "2e0b02b838a9aba9fe875eb7514bec0da57e73893609e4e8c345215dff63156e"), looks := true }, kinds := [], alts := [], laidByText := true, laidKinds := [.data, .data, .data, .sentinel, .sentinel], laidTests := true, laidLooks := .later }
def PairSaysCardSaid : Prop := Claim7.holds Tryd.pinned (.plain (OpenSpec.ofChange pairSaysSpec)) pairSaysCard

/-- THE TIED CARD OF 'threshfloortop.TopPairs'. -/
def topPairsCard : Claim7 := { stood := { row := topPairsRow, standIns := [], harness := (true, "2e0b02b838a9aba9fe875eb7514bec0da57e73893609e4e8c345215dff63156e"), looks := true }, kinds := [], alts := [], laidByText := true, laidKinds := [.data, .data, .data, .sentinel, .sentinel], laidTests := true, laidLooks := .later }
def TopPairsCardSaid : Prop := Claim7.holds Tryd.pinned (.plain (OpenSpec.ofChange topPairsSpec)) topPairsCard

/-- THE TIED CARD OF 'threshfloorlaw.ExprSays'. -/
def exprSaysCard : Claim7 := { stood := { row := exprSaysRow, standIns := [], harness := (true, "2e0b02b838a9aba9fe875eb7514bec0da57e73893609e4e8c345215dff63156e"), looks := true }, kinds := [], alts := [], laidByText := true, laidKinds := [.data, .data, .pinned], laidTests := true, laidLooks := .later }
def ExprSaysCardSaid : Prop := Claim7.holds Tryd.pinned (.plain (OpenSpec.ofChange exprSaysSpec)) exprSaysCard

/-- THE SECOND FORM's CARD OF 'threshfloorlaw.Names'. -/
def namesUptoCard : Claim7 := { stood := { row := namesUptoRow, standIns := [], harness := (true, "2e0b02b838a9aba9fe875eb7514bec0da57e73893609e4e8c345215dff63156e"), looks := true }, kinds := [], alts := [], laidByText := true, laidKinds := [.data, .data, .data], laidTests := true, laidLooks := .later }
def NamesUptoCardSaid : Prop := Claim7.holds Tryd.pinned (.plain (OpenSpec.upto namesSpec)) namesUptoCard

/-- THE SECOND FORM's CARD OF 'threshfloorlaw.PairSays'. -/
def pairSaysUptoCard : Claim7 := { stood := { row := pairSaysUptoRow, standIns := [], harness := (true, "2e0b02b838a9aba9fe875eb7514bec0da57e73893609e4e8c345215dff63156e"), looks := true }, kinds := [], alts := [], laidByText := true, laidKinds := [.data, .data, .data, .sentinel, .sentinel], laidTests := true, laidLooks := .later }
def PairSaysUptoCardSaid : Prop := Claim7.holds Tryd.pinned (.plain (OpenSpec.upto pairSaysSpec)) pairSaysUptoCard

/-- THE SECOND FORM's CARD OF 'threshfloortop.TopPairs'. -/
def topPairsUptoCard : Claim7 := { stood := { row := topPairsUptoRow, standIns := [], harness := (true, "2e0b02b838a9aba9fe875eb7514bec0da57e73893609e4e8c345215dff63156e"), looks := true }, kinds := [], alts := [], laidByText := true, laidKinds := [.data, .data, .data, .sentinel, .sentinel], laidTests := true, laidLooks := .later }
def TopPairsUptoCardSaid : Prop := Claim7.holds Tryd.pinned (.plain (OpenSpec.upto topPairsSpec)) topPairsUptoCard

/-- THE SECOND FORM's CARD OF 'threshfloorlaw.ExprSays'. -/
def exprSaysUptoCard : Claim7 := { stood := { row := exprSaysUptoRow, standIns := [], harness := (true, "2e0b02b838a9aba9fe875eb7514bec0da57e73893609e4e8c345215dff63156e"), looks := true }, kinds := [], alts := [], laidByText := true, laidKinds := [.data, .data, .pinned], laidTests := true, laidLooks := .later }
def ExprSaysUptoCardSaid : Prop := Claim7.holds Tryd.pinned (.plain (OpenSpec.upto exprSaysSpec)) exprSaysUptoCard
end Rows
end Go.Proofs.YtahklpihbkdclaaDoor
