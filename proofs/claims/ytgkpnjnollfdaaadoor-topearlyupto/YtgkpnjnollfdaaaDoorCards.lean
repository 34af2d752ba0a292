/-
  DERIVED. GIVEN WITH THE SEED: THE CARDS: each row of YtgkpnjnollfdaaaDoorRows.lean that lists a variable, with what it lists TIED to the program's text (the seventh form; the later family's looks); each row that meets fmt, with fmt's text TOLD by the authors' own Lean function (tested against real Go, not proved from fmt's source: count such statements apart). THE CARD IS WHAT COUNTS. Prove the row's statement (the work); the ties are given (YtgkpnjnollfdaaaDoorTie.lean); close each card by the builder's one call (the guide's Derived/Test/ToyasCard.lean, 'card_holds'). Laid BY PROGRAM, IN A SANDBOX (cutbox-door.mjs). By AI agents, Wed Nov 11 2026. No macro, syntax, notation, axiom, sorry.
-/
import Derived.Test.YtgkpnjnollfdaaaDoorRows
import GoSem.ClaimSeven
namespace Go.Proofs.YtgkpnjnollfdaaaDoor
namespace Rows

/-- THE TIED CARD OF 'threshfloortop.TopPairs'. -/
def topPairsCard : Claim7 := { stood := { row := topPairsRow, standIns := [], harness := (true, "841476797a59aa2a066341f7744018a73db188f67040a727ba2a5efcf7dd9d48"), looks := true }, kinds := [], alts := [], laidByText := true, laidKinds := [.data, .data, .data, .sentinel, .sentinel], laidTests := true, laidLooks := .later }
def TopPairsCardSaid : Prop := Claim7.holds Tryd.pinned (.plain (OpenSpec.ofChange topPairsSpec)) topPairsCard

/-- THE TIED CARD OF 'threshfloortop.TopParts'. -/
def topPartsCard : Claim7 := { stood := { row := topPartsRow, standIns := [], harness := (true, "841476797a59aa2a066341f7744018a73db188f67040a727ba2a5efcf7dd9d48"), looks := true }, kinds := [], alts := [], laidByText := true, laidKinds := [.data, .data, .pinned], laidTests := true, laidLooks := .later }
def TopPartsCardSaid : Prop := Claim7.holds Tryd.pinned (.plain (OpenSpec.ofChange topPartsSpec)) topPartsCard

/-- THE TIED CARD OF 'threshfloortop.TopEarly'. -/
def topEarlyCard : Claim7 := { stood := { row := topEarlyRow, standIns := [], harness := (true, "841476797a59aa2a066341f7744018a73db188f67040a727ba2a5efcf7dd9d48"), looks := true }, kinds := [], alts := [], laidByText := true, laidKinds := [.data, .data, .data, .data, .data, .pinned], laidTests := true, laidLooks := .later }
def TopEarlyCardSaid : Prop := Claim7.holds Tryd.pinned (.plain (OpenSpec.ofChange topEarlySpec)) topEarlyCard

/-- THE TIED CARD OF 'threshfloortop.TopSlices'. -/
def topSlicesCard : Claim7 := { stood := { row := topSlicesRow, standIns := [], harness := (true, "841476797a59aa2a066341f7744018a73db188f67040a727ba2a5efcf7dd9d48"), looks := true }, kinds := [], alts := [], laidByText := true, laidKinds := [.data, .data, .pinned], laidTests := true, laidLooks := .later }
def TopSlicesCardSaid : Prop := Claim7.holds Tryd.pinned (.plain (OpenSpec.ofChange topSlicesSpec)) topSlicesCard

/-- THE TIED CARD OF 'threshfloortop.TopRise'. -/
def topRiseCard : Claim7 := { stood := { row := topRiseRow, standIns := [], harness := (true, "841476797a59aa2a066341f7744018a73db188f67040a727ba2a5efcf7dd9d48"), looks := true }, kinds := [], alts := [], laidByText := true, laidKinds := [.data, .data, .data, .sentinel, .sentinel], laidTests := true, laidLooks := .later }
def TopRiseCardSaid : Prop := Claim7.holds Tryd.pinned (.plain (OpenSpec.ofChange topRiseSpec)) topRiseCard

/-- THE SECOND FORM's CARD OF 'threshfloortop.TopPairs'. -/
def topPairsUptoCard : Claim7 := { stood := { row := topPairsUptoRow, standIns := [], harness := (true, "841476797a59aa2a066341f7744018a73db188f67040a727ba2a5efcf7dd9d48"), looks := true }, kinds := [], alts := [], laidByText := true, laidKinds := [.data, .data, .data, .sentinel, .sentinel], laidTests := true, laidLooks := .later }
def TopPairsUptoCardSaid : Prop := Claim7.holds Tryd.pinned (.plain (OpenSpec.upto topPairsSpec)) topPairsUptoCard

/-- THE SECOND FORM's CARD OF 'threshfloortop.TopParts'. -/
def topPartsUptoCard : Claim7 := { stood := { row := topPartsUptoRow, standIns := [], harness := (true, "841476797a59aa2a066341f7744018a73db188f67040a727ba2a5efcf7dd9d48"), looks := true }, kinds := [], alts := [], laidByText := true, laidKinds := [.data, .data, .pinned], laidTests := true, laidLooks := .later }
def TopPartsUptoCardSaid : Prop := Claim7.holds Tryd.pinned (.plain (OpenSpec.upto topPartsSpec)) topPartsUptoCard

/-- THE SECOND FORM's CARD OF 'threshfloortop.TopEarly'. -/
def topEarlyUptoCard : Claim7 := { stood := { row := topEarlyUptoRow, standIns := [], harness := (true, "841476797a59aa2a066341f7744018a73db188f67040a727ba2a5efcf7dd9d48"), looks := true }, kinds := [], alts := [], laidByText := true, laidKinds := [.data, .data, .data, .data, .data, .pinned], laidTests := true, laidLooks := .later }
def TopEarlyUptoCardSaid : Prop := Claim7.holds Tryd.pinned (.plain (OpenSpec.upto topEarlySpec)) topEarlyUptoCard

/-- THE SECOND FORM's CARD OF 'threshfloortop.TopSlices'. -/
def topSlicesUptoCard : Claim7 := { stood := { row := topSlicesUptoRow, standIns := [], harness := (true, "841476797a59aa2a066341f7744018a73db188f67040a727ba2a5efcf7dd9d48"), looks := true }, kinds := [], alts := [], laidByText := true, laidKinds := [.data, .data, .pinned], laidTests := true, laidLooks := .later }
def TopSlicesUptoCardSaid : Prop := Claim7.holds Tryd.pinned (.plain (OpenSpec.upto topSlicesSpec)) topSlicesUptoCard

/-- THE SECOND FORM's CARD OF 'threshfloortop.TopRise'. -/
def topRiseUptoCard : Claim7 := { stood := { row := topRiseUptoRow, standIns := [], harness := (true, "841476797a59aa2a066341f7744018a73db188f67040a727ba2a5efcf7dd9d48"), looks := true }, kinds := [], alts := [], laidByText := true, laidKinds := [.data, .data, .data, .sentinel, .sentinel], laidTests := true, laidLooks := .later }
def TopRiseUptoCardSaid : Prop := Claim7.holds Tryd.pinned (.plain (OpenSpec.upto topRiseSpec)) topRiseUptoCard
end Rows
end Go.Proofs.YtgkpnjnollfdaaaDoor
