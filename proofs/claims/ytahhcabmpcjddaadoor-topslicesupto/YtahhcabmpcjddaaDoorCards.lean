/-
  DERIVED. GIVEN WITH THE SEED: THE CARDS: each row of YtahhcabmpcjddaaDoorRows.lean that lists a variable, with what it lists TIED to the program's text (the seventh form; the later family's looks); each row that meets fmt, with fmt's text TOLD by the authors' own Lean function (tested against real Go, not proved from fmt's source: count such statements apart). THE CARD IS WHAT COUNTS. Prove the row's statement (the work); the ties are given (YtahhcabmpcjddaaDoorTie.lean); close each card by the builder's one call (the guide's Derived/Test/ToyasCard.lean, 'card_holds'). Laid BY PROGRAM, IN A SANDBOX (cutbox-door.mjs). By AI agents, Wed Nov 11 2026. No macro, syntax, notation, axiom, sorry.
-/
import Derived.Test.YtahhcabmpcjddaaDoorRows
import GoSem.ClaimSeven
namespace Go.Proofs.YtahhcabmpcjddaaDoor
namespace Rows

/-- THE TIED CARD OF 'threshfloortop.TopEarly'. -/
def topEarlyCard : Claim7 := { stood := { row := topEarlyRow, standIns := [], harness := (true, "5ea41e3ed7544056236fc520efc112bf090d133e01388cf42ffc23fb49024791"), looks := true }, kinds := [], alts := [], laidByText := true, laidKinds := [.data, .data, .data, .data, .data, .pinned], laidTests := true, laidLooks := .later }
def TopEarlyCardSaid : Prop := Claim7.holds Tryd.pinned (.plain (OpenSpec.ofChange topEarlySpec)) topEarlyCard

/-- THE TIED CARD OF 'threshfloortop.TopWhen'. -/
def topWhenCard : Claim7 := { stood := { row := topWhenRow, standIns := [], harness := (true, "5ea41e3ed7544056236fc520efc112bf090d133e01388cf42ffc23fb49024791"), looks := true }, kinds := [], alts := [], laidByText := true, laidKinds := [.data, .data, .pinned], laidTests := true, laidLooks := .later }
def TopWhenCardSaid : Prop := Claim7.holds Tryd.pinned (.plain (OpenSpec.ofChange topWhenSpec)) topWhenCard

/-- THE TIED CARD OF 'threshfloortop.TopRules'. -/
def topRulesCard : Claim7 := { stood := { row := topRulesRow, standIns := [], harness := (true, "5ea41e3ed7544056236fc520efc112bf090d133e01388cf42ffc23fb49024791"), looks := true }, kinds := [], alts := [], laidByText := true, laidKinds := [.data, .data, .pinned], laidTests := true, laidLooks := .later }
def TopRulesCardSaid : Prop := Claim7.holds Tryd.pinned (.plain (OpenSpec.ofChange topRulesSpec)) topRulesCard

/-- THE TIED CARD OF 'threshfloortop.TopSlices'. -/
def topSlicesCard : Claim7 := { stood := { row := topSlicesRow, standIns := [], harness := (true, "5ea41e3ed7544056236fc520efc112bf090d133e01388cf42ffc23fb49024791"), looks := true }, kinds := [], alts := [], laidByText := true, laidKinds := [.data, .data, .pinned], laidTests := true, laidLooks := .later }
def TopSlicesCardSaid : Prop := Claim7.holds Tryd.pinned (.plain (OpenSpec.ofChange topSlicesSpec)) topSlicesCard

/-- THE TIED CARD OF 'threshfloortop.TopRise'. -/
def topRiseCard : Claim7 := { stood := { row := topRiseRow, standIns := [], harness := (true, "5ea41e3ed7544056236fc520efc112bf090d133e01388cf42ffc23fb49024791"), looks := true }, kinds := [], alts := [], laidByText := true, laidKinds := [.data, .data, .data, .sentinel, .sentinel], laidTests := true, laidLooks := .later }
def TopRiseCardSaid : Prop := Claim7.holds Tryd.pinned (.plain (OpenSpec.ofChange topRiseSpec)) topRiseCard

/-- THE SECOND FORM's CARD OF 'threshfloortop.TopEarly'. -/
def topEarlyUptoCard : Claim7 := { stood := { row := topEarlyUptoRow, standIns := [], harness := (true, "5ea41e3ed7544056236fc520efc112bf090d133e01388cf42ffc23fb49024791"), looks := true }, kinds := [], alts := [], laidByText := true, laidKinds := [.data, .data, .data, .data, .data, .pinned], laidTests := true, laidLooks := .later }
def TopEarlyUptoCardSaid : Prop := Claim7.holds Tryd.pinned (.plain (OpenSpec.upto topEarlySpec)) topEarlyUptoCard

/-- THE SECOND FORM's CARD OF 'threshfloortop.TopWhen'. -/
def topWhenUptoCard : Claim7 := { stood := { row := topWhenUptoRow, standIns := [], harness := (true, "5ea41e3ed7544056236fc520efc112bf090d133e01388cf42ffc23fb49024791"), looks := true }, kinds := [], alts := [], laidByText := true, laidKinds := [.data, .data, .pinned], laidTests := true, laidLooks := .later }
def TopWhenUptoCardSaid : Prop := Claim7.holds Tryd.pinned (.plain (OpenSpec.upto topWhenSpec)) topWhenUptoCard

/-- THE SECOND FORM's CARD OF 'threshfloortop.TopRules'. -/
def topRulesUptoCard : Claim7 := { stood := { row := topRulesUptoRow, standIns := [], harness := (true, "5ea41e3ed7544056236fc520efc112bf090d133e01388cf42ffc23fb49024791"), looks := true }, kinds := [], alts := [], laidByText := true, laidKinds := [.data, .data, .pinned], laidTests := true, laidLooks := .later }
def TopRulesUptoCardSaid : Prop := Claim7.holds Tryd.pinned (.plain (OpenSpec.upto topRulesSpec)) topRulesUptoCard

/-- THE SECOND FORM's CARD OF 'threshfloortop.TopSlices'. -/
def topSlicesUptoCard : Claim7 := { stood := { row := topSlicesUptoRow, standIns := [], harness := (true, "5ea41e3ed7544056236fc520efc112bf090d133e01388cf42ffc23fb49024791"), looks := true }, kinds := [], alts := [], laidByText := true, laidKinds := [.data, .data, .pinned], laidTests := true, laidLooks := .later }
def TopSlicesUptoCardSaid : Prop := Claim7.holds Tryd.pinned (.plain (OpenSpec.upto topSlicesSpec)) topSlicesUptoCard

/-- THE SECOND FORM's CARD OF 'threshfloortop.TopRise'. -/
def topRiseUptoCard : Claim7 := { stood := { row := topRiseUptoRow, standIns := [], harness := (true, "5ea41e3ed7544056236fc520efc112bf090d133e01388cf42ffc23fb49024791"), looks := true }, kinds := [], alts := [], laidByText := true, laidKinds := [.data, .data, .data, .sentinel, .sentinel], laidTests := true, laidLooks := .later }
def TopRiseUptoCardSaid : Prop := Claim7.holds Tryd.pinned (.plain (OpenSpec.upto topRiseSpec)) topRiseUptoCard
end Rows
end Go.Proofs.YtahhcabmpcjddaaDoor
