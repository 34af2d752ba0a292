/-
  DERIVED. GIVEN WITH THE SEED: THE CARDS: each row of YtapflhndpcgdiaaDoorRows.lean that lists a variable, with what it lists TIED to the program's text (the seventh form; the later family's looks); each row that meets fmt, with fmt's text TOLD by the authors' own Lean function (tested against real Go, not proved from fmt's source: count such statements apart). THE CARD IS WHAT COUNTS. Prove the row's statement (the work); the ties are given (YtapflhndpcgdiaaDoorTie.lean); close each card by the builder's one call (the guide's Derived/Test/ToyasCard.lean, 'card_holds'). Laid BY PROGRAM, IN A SANDBOX (cutbox-door.mjs). By AI agents, Wed Nov 11 2026. No macro, syntax, notation, axiom, sorry.
-/
import Derived.Test.YtapflhndpcgdiaaDoorRows
import GoSem.ClaimSeven
namespace Go.Proofs.YtapflhndpcgdiaaDoor
namespace Rows

/-- THE TIED CARD OF 'threshfloorlaw.PairSays'. -/
def pairSaysCard : Claim7 := { stood := { row := pairSaysRow, standIns := [], harness := (true, "20df86a91354aec2a8cc742154270140b9f863dd52564cc5ac183704f59b3f4a"), looks := true }, kinds := [], alts := [], laidByText := true, laidKinds := [.data, .data, .data, .sentinel, .sentinel], laidTests := true, laidLooks := .later }
def PairSaysCardSaid : Prop := Claim7.holds Tryd.pinned (.plain (OpenSpec.ofChange pairSaysSpec)) pairSaysCard

/-- THE TIED CARD OF 'threshfloortop.TopPairs'. -/
def topPairsCard : Claim7 := { stood := { row := topPairsRow, standIns := [], harness := (true, "20df86a91354aec2a8cc742154270140b9f863dd52564cc5ac183704f59b3f4a"), looks := true }, kinds := [], alts := [], laidByText := true, laidKinds := [.data, .data, .data, .sentinel, .sentinel], laidTests := true, laidLooks := .later }
def TopPairsCardSaid : Prop := Claim7.holds Tryd.pinned (.plain (OpenSpec.ofChange topPairsSpec)) topPairsCard

/-- THE TIED CARD OF 'threshfloorlaw.FolderSays'. -/
def folderSaysCard : Claim7 := { stood := { row := folderSaysRow, standIns := [], harness := (true, "20df86a91354aec2a8cc742154270140b9f863dd52564cc5ac183704f59b3f4a"), looks := true }, kinds := [], alts := [], laidByText := true, laidKinds := [.data, .data, .data, .sentinel, .sentinel], laidTests := true, laidLooks := .later }
def FolderSaysCardSaid : Prop := Claim7.holds Tryd.pinned (.plain (OpenSpec.ofChange folderSaysSpec)) folderSaysCard

/-- THE TIED CARD OF 'threshfloortop.TopRise'. -/
def topRiseCard : Claim7 := { stood := { row := topRiseRow, standIns := [], harness := (true, "20df86a91354aec2a8cc742154270140b9f863dd52564cc5ac183704f59b3f4a"), looks := true }, kinds := [], alts := [], laidByText := true, laidKinds := [.data, .data, .data, .sentinel, .sentinel], laidTests := true, laidLooks := .later }
def TopRiseCardSaid : Prop := Claim7.holds Tryd.pinned (.plain (OpenSpec.ofChange topRiseSpec)) topRiseCard

/-- THE SECOND FORM's CARD OF 'threshfloorlaw.PairSays'. -/
def pairSaysUptoCard : Claim7 := { stood := { row := pairSaysUptoRow, standIns := [], harness := (true, "20df86a91354aec2a8cc742154270140b9f863dd52564cc5ac183704f59b3f4a"), looks := true }, kinds := [], alts := [], laidByText := true, laidKinds := [.data, .data, .data, .sentinel, .sentinel], laidTests := true, laidLooks := .later }
def PairSaysUptoCardSaid : Prop := Claim7.holds Tryd.pinned (.plain (OpenSpec.upto pairSaysSpec)) pairSaysUptoCard

/-- THE SECOND FORM's CARD OF 'threshfloortop.TopPairs'. -/
def topPairsUptoCard : Claim7 := { stood := { row := topPairsUptoRow, standIns := [], harness := (true, "20df86a91354aec2a8cc742154270140b9f863dd52564cc5ac183704f59b3f4a"), looks := true }, kinds := [], alts := [], laidByText := true, laidKinds := [.data, .data, .data, .sentinel, .sentinel], laidTests := true, laidLooks := .later }
def TopPairsUptoCardSaid : Prop := Claim7.holds Tryd.pinned (.plain (OpenSpec.upto topPairsSpec)) topPairsUptoCard

/-- THE SECOND FORM's CARD OF 'threshfloorlaw.FolderSays'. -/
def folderSaysUptoCard : Claim7 := { stood := { row := folderSaysUptoRow, standIns := [], harness := (true, "20df86a91354aec2a8cc742154270140b9f863dd52564cc5ac183704f59b3f4a"), looks := true }, kinds := [], alts := [], laidByText := true, laidKinds := [.data, .data, .data, .sentinel, .sentinel], laidTests := true, laidLooks := .later }
def FolderSaysUptoCardSaid : Prop := Claim7.holds Tryd.pinned (.plain (OpenSpec.upto folderSaysSpec)) folderSaysUptoCard

/-- THE SECOND FORM's CARD OF 'threshfloortop.TopRise'. -/
def topRiseUptoCard : Claim7 := { stood := { row := topRiseUptoRow, standIns := [], harness := (true, "20df86a91354aec2a8cc742154270140b9f863dd52564cc5ac183704f59b3f4a"), looks := true }, kinds := [], alts := [], laidByText := true, laidKinds := [.data, .data, .data, .sentinel, .sentinel], laidTests := true, laidLooks := .later }
def TopRiseUptoCardSaid : Prop := Claim7.holds Tryd.pinned (.plain (OpenSpec.upto topRiseSpec)) topRiseUptoCard
end Rows
end Go.Proofs.YtapflhndpcgdiaaDoor
