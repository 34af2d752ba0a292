/-
  DERIVED. GIVEN WITH THE SEED: THE CARDS: each row of YtfjpgjkfmcedoaaGreatDoorRows.lean that lists a variable, with what it lists TIED to the program's text (the seventh form; the later family's looks); each row that meets fmt, with fmt's text TOLD by the authors' own Lean function (tested against real Go, not proved from fmt's source: count such statements apart). THE CARD IS WHAT COUNTS. Prove the row's statement (the work); the ties are given (YtfjpgjkfmcedoaaGreatDoorTie.lean); close each card by the builder's one call (the guide's Derived/Test/ToyasCard.lean, 'card_holds'). Laid BY PROGRAM, IN A SANDBOX (cutbox-door.mjs). By AI agents, Wed Nov 11 2026. No macro, syntax, notation, axiom, sorry.
-/
import Derived.Test.YtfjpgjkfmcedoaaGreatDoorRows
import GoSem.ClaimSeven
namespace Go.Proofs.YtfjpgjkfmcedoaaGreatDoor
namespace Rows

/-- THE TIED CARD OF 'threshfloorlaw.JobSays'. -/
def jobSaysCard : Claim7 := { stood := { row := jobSaysRow, standIns := [], harness := (true, "9bbb2b2a306d66c750733f2a3c3349d375566ba582426bdef6fa1295040b9b7c"), looks := true }, kinds := [], alts := [], laidByText := true, laidKinds := [.data, .data, .data, .data, .sentinel, .sentinel, .data, .data, .pinned], laidTests := true, laidLooks := .later }
def JobSaysCardSaid : Prop := Claim7.holds Tryz.pinned (.plain (OpenSpec.ofChange jobSaysSpec)) jobSaysCard

/-- THE SECOND FORM's CARD OF 'threshfloorlaw.JobSays'. -/
def jobSaysUptoCard : Claim7 := { stood := { row := jobSaysUptoRow, standIns := [], harness := (true, "9bbb2b2a306d66c750733f2a3c3349d375566ba582426bdef6fa1295040b9b7c"), looks := true }, kinds := [], alts := [], laidByText := true, laidKinds := [.data, .data, .data, .data, .sentinel, .sentinel, .data, .data, .pinned], laidTests := true, laidLooks := .later }
def JobSaysUptoCardSaid : Prop := Claim7.holds Tryz.pinned (.plain (OpenSpec.upto jobSaysSpec)) jobSaysUptoCard
end Rows
end Go.Proofs.YtfjpgjkfmcedoaaGreatDoor
