/-
  DERIVED. GIVEN WITH THE SEED: THE CARDS: each row of YtjoaccfjjihleaaDoorRows.lean that lists a variable, with what it lists TIED to the program's text (the seventh form; the later family's looks); each row that meets fmt, with fmt's text TOLD by the authors' own Lean function (tested against real Go, not proved from fmt's source: count such statements apart). THE CARD IS WHAT COUNTS. Prove the row's statement (the work); the ties are given (YtjoaccfjjihleaaDoorTie.lean); close each card by the builder's one call (the guide's Derived/Test/ToyasCard.lean, 'card_holds'). Laid BY PROGRAM, IN A SANDBOX (cutbox-door.mjs). By AI agents, Wed Nov 11 2026. No macro, syntax, notation, axiom, sorry.
-/
import Derived.Test.YtjoaccfjjihleaaDoorRows
import GoSem.ClaimSeven
namespace Go.Proofs.YtjoaccfjjihleaaDoor
namespace Rows

/-- THE TIED CARD OF 'barographlaw08.TimesWrites'. -/
def timesWritesCard : Claim7 := { stood := { row := timesWritesRow, standIns := [], harness := (true, "59286eb47ad6c24a442d283aab6d95cc65bb82c4fe7a5d398ae7950dabbb91c2"), looks := false }, kinds := [], alts := [], laidByText := true, laidKinds := [.wider], laidTests := true, laidLooks := .later }
def TimesWritesCardSaid : Prop := Claim7.holds Tryd.pinned (.plain (OpenSpec.ofChange timesWritesSpec)) timesWritesCard

/-- THE TIED CARD OF 'barographlaw08.TimesReads'. -/
def timesReadsCard : Claim7 := { stood := { row := timesReadsRow, standIns := [], harness := (true, "59286eb47ad6c24a442d283aab6d95cc65bb82c4fe7a5d398ae7950dabbb91c2"), looks := false }, kinds := [], alts := [], laidByText := true, laidKinds := [.wider], laidTests := true, laidLooks := .later }
def TimesReadsCardSaid : Prop := Claim7.holds Tryd.pinned (.plain (OpenSpec.ofChange timesReadsSpec)) timesReadsCard

/-- THE TIED CARD OF 'barographlaw08.TimesBack'. -/
def timesBackCard : Claim7 := { stood := { row := timesBackRow, standIns := [], harness := (true, "59286eb47ad6c24a442d283aab6d95cc65bb82c4fe7a5d398ae7950dabbb91c2"), looks := false }, kinds := [], alts := [], laidByText := true, laidKinds := [.wider], laidTests := true, laidLooks := .later }
def TimesBackCardSaid : Prop := Claim7.holds Tryd.pinned (.plain (OpenSpec.ofChange timesBackSpec)) timesBackCard

/-- THE TIED CARD OF 'barographlaw08.TimesEven'. -/
def timesEvenCard : Claim7 := { stood := { row := timesEvenRow, standIns := [], harness := (true, "59286eb47ad6c24a442d283aab6d95cc65bb82c4fe7a5d398ae7950dabbb91c2"), looks := false }, kinds := [], alts := [], laidByText := true, laidKinds := [.wider], laidTests := true, laidLooks := .later }
def TimesEvenCardSaid : Prop := Claim7.holds Tryd.pinned (.plain (OpenSpec.ofChange timesEvenSpec)) timesEvenCard

/-- THE TIED CARD OF 'barographlaw08.TimesCost'. -/
def timesCostCard : Claim7 := { stood := { row := timesCostRow, standIns := [], harness := (true, "59286eb47ad6c24a442d283aab6d95cc65bb82c4fe7a5d398ae7950dabbb91c2"), looks := false }, kinds := [], alts := [], laidByText := true, laidKinds := [.wider], laidTests := true, laidLooks := .later }
def TimesCostCardSaid : Prop := Claim7.holds Tryd.pinned (.plain (OpenSpec.ofChange timesCostSpec)) timesCostCard

/-- THE SECOND FORM's CARD OF 'barographlaw08.TimesWrites'. -/
def timesWritesUptoCard : Claim7 := { stood := { row := timesWritesUptoRow, standIns := [], harness := (true, "59286eb47ad6c24a442d283aab6d95cc65bb82c4fe7a5d398ae7950dabbb91c2"), looks := false }, kinds := [], alts := [], laidByText := true, laidKinds := [.wider], laidTests := true, laidLooks := .later }
def TimesWritesUptoCardSaid : Prop := Claim7.holds Tryd.pinned (.plain (OpenSpec.upto timesWritesSpec)) timesWritesUptoCard

/-- THE SECOND FORM's CARD OF 'barographlaw08.TimesReads'. -/
def timesReadsUptoCard : Claim7 := { stood := { row := timesReadsUptoRow, standIns := [], harness := (true, "59286eb47ad6c24a442d283aab6d95cc65bb82c4fe7a5d398ae7950dabbb91c2"), looks := false }, kinds := [], alts := [], laidByText := true, laidKinds := [.wider], laidTests := true, laidLooks := .later }
def TimesReadsUptoCardSaid : Prop := Claim7.holds Tryd.pinned (.plain (OpenSpec.upto timesReadsSpec)) timesReadsUptoCard

/-- THE SECOND FORM's CARD OF 'barographlaw08.TimesBack'. -/
def timesBackUptoCard : Claim7 := { stood := { row := timesBackUptoRow, standIns := [], harness := (true, "59286eb47ad6c24a442d283aab6d95cc65bb82c4fe7a5d398ae7950dabbb91c2"), looks := false }, kinds := [], alts := [], laidByText := true, laidKinds := [.wider], laidTests := true, laidLooks := .later }
def TimesBackUptoCardSaid : Prop := Claim7.holds Tryd.pinned (.plain (OpenSpec.upto timesBackSpec)) timesBackUptoCard

/-- THE SECOND FORM's CARD OF 'barographlaw08.TimesEven'. -/
def timesEvenUptoCard : Claim7 := { stood := { row := timesEvenUptoRow, standIns := [], harness := (true, "59286eb47ad6c24a442d283aab6d95cc65bb82c4fe7a5d398ae7950dabbb91c2"), looks := false }, kinds := [], alts := [], laidByText := true, laidKinds := [.wider], laidTests := true, laidLooks := .later }
def TimesEvenUptoCardSaid : Prop := Claim7.holds Tryd.pinned (.plain (OpenSpec.upto timesEvenSpec)) timesEvenUptoCard

/-- THE SECOND FORM's CARD OF 'barographlaw08.TimesCost'. -/
def timesCostUptoCard : Claim7 := { stood := { row := timesCostUptoRow, standIns := [], harness := (true, "59286eb47ad6c24a442d283aab6d95cc65bb82c4fe7a5d398ae7950dabbb91c2"), looks := false }, kinds := [], alts := [], laidByText := true, laidKinds := [.wider], laidTests := true, laidLooks := .later }
def TimesCostUptoCardSaid : Prop := Claim7.holds Tryd.pinned (.plain (OpenSpec.upto timesCostSpec)) timesCostUptoCard
end Rows
end Go.Proofs.YtjoaccfjjihleaaDoor
