/-
  DERIVED. GIVEN WITH THE SEED: THE CARDS: each row of YtjpgglajcelllaaDoorRows.lean that lists a variable, with what it lists TIED to the program's text (the seventh form; the later family's looks); each row that meets fmt, with fmt's text TOLD by the authors' own Lean function (tested against real Go, not proved from fmt's source: count such statements apart). THE CARD IS WHAT COUNTS. Prove the row's statement (the work); the ties are given (YtjpgglajcelllaaDoorTie.lean); close each card by the builder's one call (the guide's Derived/Test/ToyasCard.lean, 'card_holds'). Laid BY PROGRAM, IN A SANDBOX (cutbox-door.mjs). By AI agents, Wed Nov 11 2026. No macro, syntax, notation, axiom, sorry.
-/
import Derived.Test.YtjpgglajcelllaaDoorRows
import GoSem.ClaimSeven
namespace Go.Proofs.YtjpgglajcelllaaDoor
namespace Rows

/-- THE TIED CARD OF 'barographlaw17.ManifestChecks'. -/
def manifestChecksCard : Claim7 := { stood := { row := manifestChecksRow, standIns := [], harness := (true, "2451a3bfab0ad0b5173726e9c0223e8f76ef04f425737b22f7ddc2554c50cecb"), looks := true }, kinds := [], alts := [], laidByText := true, laidKinds := [.data], laidTests := true, laidLooks := .later }
def ManifestChecksCardSaid : Prop := Claim7.holds Tryd.pinned (.plain (OpenSpec.ofChange manifestChecksSpec)) manifestChecksCard

/-- THE TIED CARD OF 'barographlaw17.ManifestEither'. -/
def manifestEitherCard : Claim7 := { stood := { row := manifestEitherRow, standIns := [], harness := (true, "2451a3bfab0ad0b5173726e9c0223e8f76ef04f425737b22f7ddc2554c50cecb"), looks := true }, kinds := [], alts := [], laidByText := true, laidKinds := [.data], laidTests := true, laidLooks := .later }
def ManifestEitherCardSaid : Prop := Claim7.holds Tryd.pinned (.plain (OpenSpec.ofChange manifestEitherSpec)) manifestEitherCard

/-- THE TIED CARD OF 'barographlaw17.ManifestBack'. -/
def manifestBackCard : Claim7 := { stood := { row := manifestBackRow, standIns := [], harness := (true, "2451a3bfab0ad0b5173726e9c0223e8f76ef04f425737b22f7ddc2554c50cecb"), looks := true }, kinds := [], alts := [], laidByText := true, laidKinds := [.data], laidTests := true, laidLooks := .later }
def ManifestBackCardSaid : Prop := Claim7.holds Tryd.pinned (.plain (OpenSpec.ofChange manifestBackSpec)) manifestBackCard

/-- THE TIED CARD OF 'barographlaw17.ManifestLast'. -/
def manifestLastCard : Claim7 := { stood := { row := manifestLastRow, standIns := [], harness := (true, "2451a3bfab0ad0b5173726e9c0223e8f76ef04f425737b22f7ddc2554c50cecb"), looks := true }, kinds := [], alts := [], laidByText := true, laidKinds := [.data], laidTests := true, laidLooks := .later }
def ManifestLastCardSaid : Prop := Claim7.holds Tryd.pinned (.plain (OpenSpec.ofChange manifestLastSpec)) manifestLastCard

/-- THE TIED CARD OF 'barographlaw17.ManifestTorn'. -/
def manifestTornCard : Claim7 := { stood := { row := manifestTornRow, standIns := [], harness := (true, "2451a3bfab0ad0b5173726e9c0223e8f76ef04f425737b22f7ddc2554c50cecb"), looks := true }, kinds := [], alts := [], laidByText := true, laidKinds := [.data], laidTests := true, laidLooks := .later }
def ManifestTornCardSaid : Prop := Claim7.holds Tryd.pinned (.plain (OpenSpec.ofChange manifestTornSpec)) manifestTornCard

/-- THE SECOND FORM's CARD OF 'barographlaw17.ManifestChecks'. -/
def manifestChecksUptoCard : Claim7 := { stood := { row := manifestChecksUptoRow, standIns := [], harness := (true, "2451a3bfab0ad0b5173726e9c0223e8f76ef04f425737b22f7ddc2554c50cecb"), looks := true }, kinds := [], alts := [], laidByText := true, laidKinds := [.data], laidTests := true, laidLooks := .later }
def ManifestChecksUptoCardSaid : Prop := Claim7.holds Tryd.pinned (.plain (OpenSpec.upto manifestChecksSpec)) manifestChecksUptoCard

/-- THE SECOND FORM's CARD OF 'barographlaw17.ManifestEither'. -/
def manifestEitherUptoCard : Claim7 := { stood := { row := manifestEitherUptoRow, standIns := [], harness := (true, "2451a3bfab0ad0b5173726e9c0223e8f76ef04f425737b22f7ddc2554c50cecb"), looks := true }, kinds := [], alts := [], laidByText := true, laidKinds := [.data], laidTests := true, laidLooks := .later }
def ManifestEitherUptoCardSaid : Prop := Claim7.holds Tryd.pinned (.plain (OpenSpec.upto manifestEitherSpec)) manifestEitherUptoCard

/-- THE SECOND FORM's CARD OF 'barographlaw17.ManifestBack'. -/
def manifestBackUptoCard : Claim7 := { stood := { row := manifestBackUptoRow, standIns := [], harness := (true, "2451a3bfab0ad0b5173726e9c0223e8f76ef04f425737b22f7ddc2554c50cecb"), looks := true }, kinds := [], alts := [], laidByText := true, laidKinds := [.data], laidTests := true, laidLooks := .later }
def ManifestBackUptoCardSaid : Prop := Claim7.holds Tryd.pinned (.plain (OpenSpec.upto manifestBackSpec)) manifestBackUptoCard

/-- THE SECOND FORM's CARD OF 'barographlaw17.ManifestLast'. -/
def manifestLastUptoCard : Claim7 := { stood := { row := manifestLastUptoRow, standIns := [], harness := (true, "2451a3bfab0ad0b5173726e9c0223e8f76ef04f425737b22f7ddc2554c50cecb"), looks := true }, kinds := [], alts := [], laidByText := true, laidKinds := [.data], laidTests := true, laidLooks := .later }
def ManifestLastUptoCardSaid : Prop := Claim7.holds Tryd.pinned (.plain (OpenSpec.upto manifestLastSpec)) manifestLastUptoCard

/-- THE SECOND FORM's CARD OF 'barographlaw17.ManifestTorn'. -/
def manifestTornUptoCard : Claim7 := { stood := { row := manifestTornUptoRow, standIns := [], harness := (true, "2451a3bfab0ad0b5173726e9c0223e8f76ef04f425737b22f7ddc2554c50cecb"), looks := true }, kinds := [], alts := [], laidByText := true, laidKinds := [.data], laidTests := true, laidLooks := .later }
def ManifestTornUptoCardSaid : Prop := Claim7.holds Tryd.pinned (.plain (OpenSpec.upto manifestTornSpec)) manifestTornUptoCard
end Rows
end Go.Proofs.YtjpgglajcelllaaDoor
