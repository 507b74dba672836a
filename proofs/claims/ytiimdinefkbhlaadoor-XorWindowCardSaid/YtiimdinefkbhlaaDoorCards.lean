/-
  DERIVED. GIVEN WITH THE SEED: THE CARDS: each row of YtiimdinefkbhlaaDoorRows.lean that lists a variable, with what it lists TIED to the program's text (the seventh form; the later family's looks); each row that meets fmt, with fmt's text TOLD by the authors' own Lean function (tested against real Go, not proved from fmt's source: count such statements apart). THE CARD IS WHAT COUNTS. Prove the row's statement (the work); the ties are given (YtiimdinefkbhlaaDoorTie.lean); close each card by the builder's one call (the guide's Derived/Test/ToyasCard.lean, 'card_holds'). Laid BY PROGRAM, IN A SANDBOX (cutbox-door.mjs). By AI agents, Wed Nov 11 2026. No macro, syntax, notation, axiom, sorry.
-/
import Derived.Test.YtiimdinefkbhlaaDoorRows
import GoSem.ClaimSeven
namespace Go.Proofs.YtiimdinefkbhlaaDoor
namespace Rows

/-- THE TIED CARD OF 'barographlaw07.XorWrites'. -/
def xorWritesCard : Claim7 := { stood := { row := xorWritesRow, standIns := [], harness := (true, "f88bb72c3f243d8d3dbfe48f53ca1a5516125d40d01ea8e10c777671bbb5b10c"), looks := false }, kinds := [], alts := [], laidByText := true, laidKinds := [.data], laidTests := true, laidLooks := .later }
def XorWritesCardSaid : Prop := Claim7.holds Tryd.pinned (.plain (OpenSpec.ofChange xorWritesSpec)) xorWritesCard

/-- THE TIED CARD OF 'barographlaw07.XorReads'. -/
def xorReadsCard : Claim7 := { stood := { row := xorReadsRow, standIns := [], harness := (true, "f88bb72c3f243d8d3dbfe48f53ca1a5516125d40d01ea8e10c777671bbb5b10c"), looks := false }, kinds := [], alts := [], laidByText := true, laidKinds := [.data], laidTests := true, laidLooks := .later }
def XorReadsCardSaid : Prop := Claim7.holds Tryd.pinned (.plain (OpenSpec.ofChange xorReadsSpec)) xorReadsCard

/-- THE TIED CARD OF 'barographlaw07.XorBack'. -/
def xorBackCard : Claim7 := { stood := { row := xorBackRow, standIns := [], harness := (true, "f88bb72c3f243d8d3dbfe48f53ca1a5516125d40d01ea8e10c777671bbb5b10c"), looks := false }, kinds := [], alts := [], laidByText := true, laidKinds := [.data], laidTests := true, laidLooks := .later }
def XorBackCardSaid : Prop := Claim7.holds Tryd.pinned (.plain (OpenSpec.ofChange xorBackSpec)) xorBackCard

/-- THE TIED CARD OF 'barographlaw07.XorSame'. -/
def xorSameCard : Claim7 := { stood := { row := xorSameRow, standIns := [], harness := (true, "f88bb72c3f243d8d3dbfe48f53ca1a5516125d40d01ea8e10c777671bbb5b10c"), looks := false }, kinds := [], alts := [], laidByText := true, laidKinds := [.data], laidTests := true, laidLooks := .later }
def XorSameCardSaid : Prop := Claim7.holds Tryd.pinned (.plain (OpenSpec.ofChange xorSameSpec)) xorSameCard

/-- THE TIED CARD OF 'barographlaw07.XorWindow'. -/
def xorWindowCard : Claim7 := { stood := { row := xorWindowRow, standIns := [], harness := (true, "f88bb72c3f243d8d3dbfe48f53ca1a5516125d40d01ea8e10c777671bbb5b10c"), looks := false }, kinds := [], alts := [], laidByText := true, laidKinds := [.data], laidTests := true, laidLooks := .later }
def XorWindowCardSaid : Prop := Claim7.holds Tryd.pinned (.plain (OpenSpec.ofChange xorWindowSpec)) xorWindowCard

/-- THE SECOND FORM's CARD OF 'barographlaw07.XorWrites'. -/
def xorWritesUptoCard : Claim7 := { stood := { row := xorWritesUptoRow, standIns := [], harness := (true, "f88bb72c3f243d8d3dbfe48f53ca1a5516125d40d01ea8e10c777671bbb5b10c"), looks := false }, kinds := [], alts := [], laidByText := true, laidKinds := [.data], laidTests := true, laidLooks := .later }
def XorWritesUptoCardSaid : Prop := Claim7.holds Tryd.pinned (.plain (OpenSpec.upto xorWritesSpec)) xorWritesUptoCard

/-- THE SECOND FORM's CARD OF 'barographlaw07.XorReads'. -/
def xorReadsUptoCard : Claim7 := { stood := { row := xorReadsUptoRow, standIns := [], harness := (true, "f88bb72c3f243d8d3dbfe48f53ca1a5516125d40d01ea8e10c777671bbb5b10c"), looks := false }, kinds := [], alts := [], laidByText := true, laidKinds := [.data], laidTests := true, laidLooks := .later }
def XorReadsUptoCardSaid : Prop := Claim7.holds Tryd.pinned (.plain (OpenSpec.upto xorReadsSpec)) xorReadsUptoCard

/-- THE SECOND FORM's CARD OF 'barographlaw07.XorBack'. -/
def xorBackUptoCard : Claim7 := { stood := { row := xorBackUptoRow, standIns := [], harness := (true, "f88bb72c3f243d8d3dbfe48f53ca1a5516125d40d01ea8e10c777671bbb5b10c"), looks := false }, kinds := [], alts := [], laidByText := true, laidKinds := [.data], laidTests := true, laidLooks := .later }
def XorBackUptoCardSaid : Prop := Claim7.holds Tryd.pinned (.plain (OpenSpec.upto xorBackSpec)) xorBackUptoCard

/-- THE SECOND FORM's CARD OF 'barographlaw07.XorSame'. -/
def xorSameUptoCard : Claim7 := { stood := { row := xorSameUptoRow, standIns := [], harness := (true, "f88bb72c3f243d8d3dbfe48f53ca1a5516125d40d01ea8e10c777671bbb5b10c"), looks := false }, kinds := [], alts := [], laidByText := true, laidKinds := [.data], laidTests := true, laidLooks := .later }
def XorSameUptoCardSaid : Prop := Claim7.holds Tryd.pinned (.plain (OpenSpec.upto xorSameSpec)) xorSameUptoCard

/-- THE SECOND FORM's CARD OF 'barographlaw07.XorWindow'. -/
def xorWindowUptoCard : Claim7 := { stood := { row := xorWindowUptoRow, standIns := [], harness := (true, "f88bb72c3f243d8d3dbfe48f53ca1a5516125d40d01ea8e10c777671bbb5b10c"), looks := false }, kinds := [], alts := [], laidByText := true, laidKinds := [.data], laidTests := true, laidLooks := .later }
def XorWindowUptoCardSaid : Prop := Claim7.holds Tryd.pinned (.plain (OpenSpec.upto xorWindowSpec)) xorWindowUptoCard
end Rows
end Go.Proofs.YtiimdinefkbhlaaDoor
