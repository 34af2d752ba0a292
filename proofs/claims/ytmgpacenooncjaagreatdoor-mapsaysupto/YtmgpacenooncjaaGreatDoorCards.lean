/-
  DERIVED. GIVEN WITH THE SEED: THE CARDS: each row of YtmgpacenooncjaaGreatDoorRows.lean that lists a variable, with what it lists TIED to the program's text (the seventh form; the later family's looks); each row that meets fmt, with fmt's text TOLD by the authors' own Lean function (tested against real Go, not proved from fmt's source: count such statements apart). THE CARD IS WHAT COUNTS. Prove the row's statement (the work); the ties are given (YtmgpacenooncjaaGreatDoorTie.lean); close each card by the builder's one call (the guide's Derived/Test/ToyasCard.lean, 'card_holds'). Laid BY PROGRAM, IN A SANDBOX (cutbox-door.mjs). By AI agents, Wed Nov 11 2026. No macro, syntax, notation, axiom, sorry.
-/
import Derived.Test.YtmgpacenooncjaaGreatDoorRows
import GoSem.ClaimSeven
namespace Go.Proofs.YtmgpacenooncjaaGreatDoor
namespace Rows

/-- THE TIED CARD OF 'threshfloorlaw.MapSays'. -/
def mapSaysCard : Claim7 := { stood := { row := mapSaysRow, standIns := [], harness := (true, "11626da781708b36a2646ffac270b30a5c296cfcacfe9cae731435f566fd4499"), looks := true }, kinds := [], alts := [], laidByText := true, laidKinds := [.data, .data, .data, .data, .sentinel, .sentinel, .data, .pinned], laidTests := true, laidLooks := .later }
def MapSaysCardSaid : Prop := Claim7.holds Tryz.pinned (.plain (OpenSpec.ofChange mapSaysSpec)) mapSaysCard

/-- THE TIED CARD OF 'threshfloortop.TopStop'. -/
def topStopCard : Claim7 := { stood := { row := topStopRow, standIns := [], harness := (true, "11626da781708b36a2646ffac270b30a5c296cfcacfe9cae731435f566fd4499"), looks := true }, kinds := [], alts := [], laidByText := true, laidKinds := [.data, .data, .data, .data, .sentinel, .sentinel, .data, .pinned], laidTests := true, laidLooks := .later }
def TopStopCardSaid : Prop := Claim7.holds Tryz.pinned (.plain (OpenSpec.ofChange topStopSpec)) topStopCard

/-- THE TIED CARD OF 'threshfloortop.TopPlain'. -/
def topPlainCard : Claim7 := { stood := { row := topPlainRow, standIns := [], harness := (true, "11626da781708b36a2646ffac270b30a5c296cfcacfe9cae731435f566fd4499"), looks := true }, kinds := [], alts := [], laidByText := true, laidKinds := [.data, .data, .data, .data, .data, .pinned], laidTests := true, laidLooks := .later }
def TopPlainCardSaid : Prop := Claim7.holds Tryz.pinned (.plain (OpenSpec.ofChange topPlainSpec)) topPlainCard

/-- THE SECOND FORM's CARD OF 'threshfloorlaw.MapSays'. -/
def mapSaysUptoCard : Claim7 := { stood := { row := mapSaysUptoRow, standIns := [], harness := (true, "11626da781708b36a2646ffac270b30a5c296cfcacfe9cae731435f566fd4499"), looks := true }, kinds := [], alts := [], laidByText := true, laidKinds := [.data, .data, .data, .data, .sentinel, .sentinel, .data, .pinned], laidTests := true, laidLooks := .later }
def MapSaysUptoCardSaid : Prop := Claim7.holds Tryz.pinned (.plain (OpenSpec.upto mapSaysSpec)) mapSaysUptoCard

/-- THE SECOND FORM's CARD OF 'threshfloortop.TopStop'. -/
def topStopUptoCard : Claim7 := { stood := { row := topStopUptoRow, standIns := [], harness := (true, "11626da781708b36a2646ffac270b30a5c296cfcacfe9cae731435f566fd4499"), looks := true }, kinds := [], alts := [], laidByText := true, laidKinds := [.data, .data, .data, .data, .sentinel, .sentinel, .data, .pinned], laidTests := true, laidLooks := .later }
def TopStopUptoCardSaid : Prop := Claim7.holds Tryz.pinned (.plain (OpenSpec.upto topStopSpec)) topStopUptoCard

/-- THE SECOND FORM's CARD OF 'threshfloortop.TopPlain'. -/
def topPlainUptoCard : Claim7 := { stood := { row := topPlainUptoRow, standIns := [], harness := (true, "11626da781708b36a2646ffac270b30a5c296cfcacfe9cae731435f566fd4499"), looks := true }, kinds := [], alts := [], laidByText := true, laidKinds := [.data, .data, .data, .data, .data, .pinned], laidTests := true, laidLooks := .later }
def TopPlainUptoCardSaid : Prop := Claim7.holds Tryz.pinned (.plain (OpenSpec.upto topPlainSpec)) topPlainUptoCard
end Rows
end Go.Proofs.YtmgpacenooncjaaGreatDoor
