/-
  DERIVED. GIVEN WITH THE SEED: THE CARDS: each row of YtgmnhodajngchaaGreatDoorRows.lean that lists a variable, with what it lists TIED to the program's text (the seventh form; the later family's looks); each row that meets fmt, with fmt's text TOLD by the authors' own Lean function (tested against real Go, not proved from fmt's source: count such statements apart). THE CARD IS WHAT COUNTS. Prove the row's statement (the work); the ties are given (YtgmnhodajngchaaGreatDoorTie.lean); close each card by the builder's one call (the guide's Derived/Test/ToyasCard.lean, 'card_holds'). Laid BY PROGRAM, IN A SANDBOX (cutbox-door.mjs). By AI agents, Wed Nov 11 2026. No macro, syntax, notation, axiom, sorry.
-/
import Derived.Test.YtgmnhodajngchaaGreatDoorRows
import GoSem.ClaimSeven
namespace Go.Proofs.YtgmnhodajngchaaGreatDoor
namespace Rows

/-- THE TIED CARD OF 'barographlaw15.BlockReads'. -/
def blockReadsCard : Claim7 := { stood := { row := blockReadsRow, standIns := [], harness := (true, "636dc7d8f92fbc49b3d17aa63c3e8ee1e1acd008cfd5f3861efa39bf1ce966f3"), looks := true }, kinds := [], alts := [], laidByText := true, laidKinds := [.data, .data, .wider], laidTests := true, laidLooks := .later }
def BlockReadsCardSaid : Prop := Claim7.holds Tryz.pinned (.plain (OpenSpec.ofChange blockReadsSpec)) blockReadsCard

/-- THE TIED CARD OF 'barographlaw15.BlockBack'. -/
def blockBackCard : Claim7 := { stood := { row := blockBackRow, standIns := [], harness := (true, "636dc7d8f92fbc49b3d17aa63c3e8ee1e1acd008cfd5f3861efa39bf1ce966f3"), looks := true }, kinds := [], alts := [], laidByText := true, laidKinds := [.data, .data, .wider], laidTests := true, laidLooks := .later }
def BlockBackCardSaid : Prop := Claim7.holds Tryz.pinned (.plain (OpenSpec.ofChange blockBackSpec)) blockBackCard

/-- THE TIED CARD OF 'barographlaw15.BlockChanged'. -/
def blockChangedCard : Claim7 := { stood := { row := blockChangedRow, standIns := [], harness := (true, "636dc7d8f92fbc49b3d17aa63c3e8ee1e1acd008cfd5f3861efa39bf1ce966f3"), looks := true }, kinds := [], alts := [], laidByText := true, laidKinds := [.data, .data, .wider], laidTests := true, laidLooks := .later }
def BlockChangedCardSaid : Prop := Claim7.holds Tryz.pinned (.plain (OpenSpec.ofChange blockChangedSpec)) blockChangedCard

/-- THE TIED CARD OF 'barographlaw15.BlockSpan'. -/
def blockSpanCard : Claim7 := { stood := { row := blockSpanRow, standIns := [], harness := (true, "636dc7d8f92fbc49b3d17aa63c3e8ee1e1acd008cfd5f3861efa39bf1ce966f3"), looks := true }, kinds := [], alts := [], laidByText := true, laidKinds := [.data, .data, .wider], laidTests := true, laidLooks := .later }
def BlockSpanCardSaid : Prop := Claim7.holds Tryz.pinned (.plain (OpenSpec.ofChange blockSpanSpec)) blockSpanCard

/-- THE SECOND FORM's CARD OF 'barographlaw15.BlockReads'. -/
def blockReadsUptoCard : Claim7 := { stood := { row := blockReadsUptoRow, standIns := [], harness := (true, "636dc7d8f92fbc49b3d17aa63c3e8ee1e1acd008cfd5f3861efa39bf1ce966f3"), looks := true }, kinds := [], alts := [], laidByText := true, laidKinds := [.data, .data, .wider], laidTests := true, laidLooks := .later }
def BlockReadsUptoCardSaid : Prop := Claim7.holds Tryz.pinned (.plain (OpenSpec.upto blockReadsSpec)) blockReadsUptoCard

/-- THE SECOND FORM's CARD OF 'barographlaw15.BlockBack'. -/
def blockBackUptoCard : Claim7 := { stood := { row := blockBackUptoRow, standIns := [], harness := (true, "636dc7d8f92fbc49b3d17aa63c3e8ee1e1acd008cfd5f3861efa39bf1ce966f3"), looks := true }, kinds := [], alts := [], laidByText := true, laidKinds := [.data, .data, .wider], laidTests := true, laidLooks := .later }
def BlockBackUptoCardSaid : Prop := Claim7.holds Tryz.pinned (.plain (OpenSpec.upto blockBackSpec)) blockBackUptoCard

/-- THE SECOND FORM's CARD OF 'barographlaw15.BlockChanged'. -/
def blockChangedUptoCard : Claim7 := { stood := { row := blockChangedUptoRow, standIns := [], harness := (true, "636dc7d8f92fbc49b3d17aa63c3e8ee1e1acd008cfd5f3861efa39bf1ce966f3"), looks := true }, kinds := [], alts := [], laidByText := true, laidKinds := [.data, .data, .wider], laidTests := true, laidLooks := .later }
def BlockChangedUptoCardSaid : Prop := Claim7.holds Tryz.pinned (.plain (OpenSpec.upto blockChangedSpec)) blockChangedUptoCard

/-- THE SECOND FORM's CARD OF 'barographlaw15.BlockSpan'. -/
def blockSpanUptoCard : Claim7 := { stood := { row := blockSpanUptoRow, standIns := [], harness := (true, "636dc7d8f92fbc49b3d17aa63c3e8ee1e1acd008cfd5f3861efa39bf1ce966f3"), looks := true }, kinds := [], alts := [], laidByText := true, laidKinds := [.data, .data, .wider], laidTests := true, laidLooks := .later }
def BlockSpanUptoCardSaid : Prop := Claim7.holds Tryz.pinned (.plain (OpenSpec.upto blockSpanSpec)) blockSpanUptoCard
end Rows
end Go.Proofs.YtgmnhodajngchaaGreatDoor
