/-
  NARROWER THAN 'FOR EVERY INPUT', by the rows' own cells (each row's printed sentence says how): ManifestChecks: laid · ManifestEither: laid · ManifestBack: laid · ManifestLast: laid · ManifestTorn: laid.
  DERIVED. THE GIVEN ROWS OF THIS SEAT. 5 by the template 'for every input the law returns true; each argument reads behind the call as it read before'; 0 by the template 'total and deterministic' (their statements: YtjpgglajcelllaaDoorTotals.lean).
  GIVEN WITH THE SEED: the statements are not yours to turn. If you find one false, say at which input.
  Laid BY PROGRAM, IN A SANDBOX (cutbox-rows.mjs): the forced cells as the released guide's own fill.sh prints them over the translation 7fb8889f1ef59eb2… (all of the seat's roots in one cut). By AI agents, Wed Nov 11 2026. No macro, syntax, notation, axiom, sorry.
-/
import Derived.Test.YtjpgglajcelllaaDoorChecked
import GoSem.Claim
import GoSem.ClaimJoined
import GoSem.ClaimMapViews
import Derived.JoinedTies
import Derived.KernelRfl
namespace Go.Proofs.YtjpgglajcelllaaDoor
/- THE CELL 'sum', in the pinned program and in every row, IS THE sha256 OF THE DUMP (.gsa) THAT YtjpgglajcelllaaDoorProg.lean LOADS. Nothing in Lean hashes anything: it is a label: what it is worth is what the hold of that sum in a sandbox is worth. -/
noncomputable def Tryd.pinned : Pinned := { name := "ytjpgglajcelllaadoor", sum := "7fb8889f1ef59eb257b0a6336a42e9e79f2686c3691a5bd9b7665ffce7081c0b", checked := Tryd.checked }
namespace Rows
def none {H : Type} : Left H := { results := [], args := [] }

/- WHAT THE LISTED PACKAGE-LEVEL VARIABLES READ AS WHEN THE CALL BEGINS. Each datum BY PROGRAM (the guide's laid-datum.mjs) off the statement by which the dump's own 'gosem.cut.vars' lays the variable. In a bare row this is a premise. The card (YtjpgglajcelllaaDoorCards.lean) ties it to the program's text. -/
def laid_barograph_sum_turns {H : Type} : DataW H := .agg [.lit (.int .u32 0), .lit (.int .u32 2197175160)]

/-- 'barographlaw17.ManifestChecks': WHATEVER THE INPUT: true; the input reads as it did. -/
def manifestChecksSpec : ChangeSpec := { name := "manifestChecks", fn := fun _ => fun
  | [d1, d2] => { results := [.lit (.bool true)], args := [d1, d2] }
  | _ => none }
def manifestChecksRow : OpenClaim := { program := "ytjpgglajcelllaadoor", sum := "7fb8889f1ef59eb257b0a6336a42e9e79f2686c3691a5bd9b7665ffce7081c0b", func := "barograph/barographlaw17.ManifestChecks", spec := "manifestChecks", inPlace := ["internal/abi.NoEscape"], unfollowed := true, recurses := true, named := ["barograph/sum.turns"], apart := false, laid := [("barograph/sum.turns", laid_barograph_sum_turns)] }
def ManifestChecksSaid : Prop := manifestChecksRow.holds Tryd.pinned (OpenSpec.ofChange manifestChecksSpec)

/-- ITS FALSE NEIGHBOUR: 'it returns false'. Refute it at one input. -/
def manifestChecksWrong : ChangeSpec := { name := "manifestChecks", fn := fun _ => fun
  | [d1, d2] => { results := [.lit (.bool false)], args := [d1, d2] }
  | _ => none }
def ManifestChecksWrongFalsely : Prop := manifestChecksRow.holds Tryd.pinned (OpenSpec.ofChange manifestChecksWrong)

/-- 'barographlaw17.ManifestEither': WHATEVER THE INPUT: true; the input reads as it did. -/
def manifestEitherSpec : ChangeSpec := { name := "manifestEither", fn := fun _ => fun
  | [d1, d2, d3, d4] => { results := [.lit (.bool true)], args := [d1, d2, d3, d4] }
  | _ => none }
def manifestEitherRow : OpenClaim := { program := "ytjpgglajcelllaadoor", sum := "7fb8889f1ef59eb257b0a6336a42e9e79f2686c3691a5bd9b7665ffce7081c0b", func := "barograph/barographlaw17.ManifestEither", spec := "manifestEither", inPlace := ["internal/abi.NoEscape", "maps.clone"], unfollowed := true, recurses := true, named := ["barograph/sum.turns"], apart := false, laid := [("barograph/sum.turns", laid_barograph_sum_turns)] }
def ManifestEitherSaid : Prop := manifestEitherRow.holds Tryd.pinned (OpenSpec.ofChange manifestEitherSpec)

/-- ITS FALSE NEIGHBOUR: 'it returns false'. Refute it at one input. -/
def manifestEitherWrong : ChangeSpec := { name := "manifestEither", fn := fun _ => fun
  | [d1, d2, d3, d4] => { results := [.lit (.bool false)], args := [d1, d2, d3, d4] }
  | _ => none }
def ManifestEitherWrongFalsely : Prop := manifestEitherRow.holds Tryd.pinned (OpenSpec.ofChange manifestEitherWrong)

/-- 'barographlaw17.ManifestBack': WHATEVER THE INPUT: true; the input reads as it did. -/
def manifestBackSpec : ChangeSpec := { name := "manifestBack", fn := fun _ => fun
  | [d1, d2] => { results := [.lit (.bool true)], args := [d1, d2] }
  | _ => none }
def manifestBackRow : OpenClaim := { program := "ytjpgglajcelllaadoor", sum := "7fb8889f1ef59eb257b0a6336a42e9e79f2686c3691a5bd9b7665ffce7081c0b", func := "barograph/barographlaw17.ManifestBack", spec := "manifestBack", inPlace := ["internal/abi.NoEscape", "maps.clone"], unfollowed := true, recurses := true, named := ["barograph/sum.turns"], apart := false, laid := [("barograph/sum.turns", laid_barograph_sum_turns)] }
def ManifestBackSaid : Prop := manifestBackRow.holds Tryd.pinned (OpenSpec.ofChange manifestBackSpec)

/-- ITS FALSE NEIGHBOUR: 'it returns false'. Refute it at one input. -/
def manifestBackWrong : ChangeSpec := { name := "manifestBack", fn := fun _ => fun
  | [d1, d2] => { results := [.lit (.bool false)], args := [d1, d2] }
  | _ => none }
def ManifestBackWrongFalsely : Prop := manifestBackRow.holds Tryd.pinned (OpenSpec.ofChange manifestBackWrong)

/-- 'barographlaw17.ManifestLast': WHATEVER THE INPUT: true; the input reads as it did. -/
def manifestLastSpec : ChangeSpec := { name := "manifestLast", fn := fun _ => fun
  | [d1, d2] => { results := [.lit (.bool true)], args := [d1, d2] }
  | _ => none }
def manifestLastRow : OpenClaim := { program := "ytjpgglajcelllaadoor", sum := "7fb8889f1ef59eb257b0a6336a42e9e79f2686c3691a5bd9b7665ffce7081c0b", func := "barograph/barographlaw17.ManifestLast", spec := "manifestLast", inPlace := ["internal/abi.NoEscape", "maps.clone"], unfollowed := true, recurses := true, named := ["barograph/sum.turns"], apart := false, laid := [("barograph/sum.turns", laid_barograph_sum_turns)] }
def ManifestLastSaid : Prop := manifestLastRow.holds Tryd.pinned (OpenSpec.ofChange manifestLastSpec)

/-- ITS FALSE NEIGHBOUR: 'it returns false'. Refute it at one input. -/
def manifestLastWrong : ChangeSpec := { name := "manifestLast", fn := fun _ => fun
  | [d1, d2] => { results := [.lit (.bool false)], args := [d1, d2] }
  | _ => none }
def ManifestLastWrongFalsely : Prop := manifestLastRow.holds Tryd.pinned (OpenSpec.ofChange manifestLastWrong)

/-- 'barographlaw17.ManifestTorn': WHATEVER THE INPUT: true; the input reads as it did. -/
def manifestTornSpec : ChangeSpec := { name := "manifestTorn", fn := fun _ => fun
  | [d1, d2, d3, d4] => { results := [.lit (.bool true)], args := [d1, d2, d3, d4] }
  | _ => none }
def manifestTornRow : OpenClaim := { program := "ytjpgglajcelllaadoor", sum := "7fb8889f1ef59eb257b0a6336a42e9e79f2686c3691a5bd9b7665ffce7081c0b", func := "barograph/barographlaw17.ManifestTorn", spec := "manifestTorn", inPlace := ["internal/abi.NoEscape", "maps.clone"], unfollowed := true, recurses := true, named := ["barograph/sum.turns"], apart := false, laid := [("barograph/sum.turns", laid_barograph_sum_turns)] }
def ManifestTornSaid : Prop := manifestTornRow.holds Tryd.pinned (OpenSpec.ofChange manifestTornSpec)

/-- ITS FALSE NEIGHBOUR: 'it returns false'. Refute it at one input. -/
def manifestTornWrong : ChangeSpec := { name := "manifestTorn", fn := fun _ => fun
  | [d1, d2, d3, d4] => { results := [.lit (.bool false)], args := [d1, d2, d3, d4] }
  | _ => none }
def ManifestTornWrongFalsely : Prop := manifestTornRow.holds Tryd.pinned (OpenSpec.ofChange manifestTornWrong)

/- THE SECOND FORM. 'bulk': how many values and letters a reading holds, each counted each time it is reached (what is shared counts as often as it is met; a slice's spare places count too). A statement '..UptoSaid' is the law's where the arguments, and the package variables that the reading takes, are together of bulk at most 1048576: NARROWER than '..Said'. Prove '..Said' where nothing that the law and all that it calls make is longer than what came in: it says more and counts as full. Else prove '..UptoSaid'. A law counts once. -/
mutual
def uptoBulk {H : Type} : DataW H → Nat
  | .lit (.string bytes) => bytes.length + 1
  | .lit _ => 1
  | .nil => 1
  | .ptr d => uptoBulk d + 1
  | .slice elems spare => uptoBulkAll elems + uptoBulkAll spare + 1
  | .agg parts => uptoBulkAll parts + 1
  | .iface _ d => uptoBulk d + 1
  | .map entries => uptoBulkEntries entries + 1
  | .held _ => 1
def uptoBulkAll {H : Type} : List (DataW H) → Nat
  | [] => 0
  | d :: r => uptoBulk d + uptoBulkAll r
def uptoBulkEntries {H : Type} : List (Lit × DataW H) → Nat
  | [] => 0
  | x :: r => uptoBulkEntry x + uptoBulkEntries r
def uptoBulkEntry {H : Type} : Lit × DataW H → Nat
  | (.string bytes, d) => bytes.length + uptoBulk d + 1
  | (_, d) => uptoBulk d + 1
 end
def uptoSmall : (H : Type) → List (DataW H) → Bool := fun _ ds => decide (uptoBulkAll ds ≤ 1048576)
def OpenSpec.upto (s : _root_.Go.ChangeSpec) : _root_.Go.OpenSpec := { _root_.Go.OpenSpec.ofChange s with cond := some uptoSmall }

/-- 'barographlaw17.ManifestChecks', WHERE WHAT IT READS IS OF BULK AT MOST 1048576: true; the input reads as it did. -/
def manifestChecksUptoRow : OpenClaim := { program := "ytjpgglajcelllaadoor", sum := "7fb8889f1ef59eb257b0a6336a42e9e79f2686c3691a5bd9b7665ffce7081c0b", func := "barograph/barographlaw17.ManifestChecks", spec := "manifestChecks", inPlace := ["internal/abi.NoEscape"], unfollowed := true, recurses := true, named := ["barograph/sum.turns"], apart := false, laid := [("barograph/sum.turns", laid_barograph_sum_turns)], narrowed := true }
def ManifestChecksUptoSaid : Prop := manifestChecksUptoRow.holds Tryd.pinned (OpenSpec.upto manifestChecksSpec)

/-- 'barographlaw17.ManifestEither', WHERE WHAT IT READS IS OF BULK AT MOST 1048576: true; the input reads as it did. -/
def manifestEitherUptoRow : OpenClaim := { program := "ytjpgglajcelllaadoor", sum := "7fb8889f1ef59eb257b0a6336a42e9e79f2686c3691a5bd9b7665ffce7081c0b", func := "barograph/barographlaw17.ManifestEither", spec := "manifestEither", inPlace := ["internal/abi.NoEscape", "maps.clone"], unfollowed := true, recurses := true, named := ["barograph/sum.turns"], apart := false, laid := [("barograph/sum.turns", laid_barograph_sum_turns)], narrowed := true }
def ManifestEitherUptoSaid : Prop := manifestEitherUptoRow.holds Tryd.pinned (OpenSpec.upto manifestEitherSpec)

/-- 'barographlaw17.ManifestBack', WHERE WHAT IT READS IS OF BULK AT MOST 1048576: true; the input reads as it did. -/
def manifestBackUptoRow : OpenClaim := { program := "ytjpgglajcelllaadoor", sum := "7fb8889f1ef59eb257b0a6336a42e9e79f2686c3691a5bd9b7665ffce7081c0b", func := "barograph/barographlaw17.ManifestBack", spec := "manifestBack", inPlace := ["internal/abi.NoEscape", "maps.clone"], unfollowed := true, recurses := true, named := ["barograph/sum.turns"], apart := false, laid := [("barograph/sum.turns", laid_barograph_sum_turns)], narrowed := true }
def ManifestBackUptoSaid : Prop := manifestBackUptoRow.holds Tryd.pinned (OpenSpec.upto manifestBackSpec)

/-- 'barographlaw17.ManifestLast', WHERE WHAT IT READS IS OF BULK AT MOST 1048576: true; the input reads as it did. -/
def manifestLastUptoRow : OpenClaim := { program := "ytjpgglajcelllaadoor", sum := "7fb8889f1ef59eb257b0a6336a42e9e79f2686c3691a5bd9b7665ffce7081c0b", func := "barograph/barographlaw17.ManifestLast", spec := "manifestLast", inPlace := ["internal/abi.NoEscape", "maps.clone"], unfollowed := true, recurses := true, named := ["barograph/sum.turns"], apart := false, laid := [("barograph/sum.turns", laid_barograph_sum_turns)], narrowed := true }
def ManifestLastUptoSaid : Prop := manifestLastUptoRow.holds Tryd.pinned (OpenSpec.upto manifestLastSpec)

/-- 'barographlaw17.ManifestTorn', WHERE WHAT IT READS IS OF BULK AT MOST 1048576: true; the input reads as it did. -/
def manifestTornUptoRow : OpenClaim := { program := "ytjpgglajcelllaadoor", sum := "7fb8889f1ef59eb257b0a6336a42e9e79f2686c3691a5bd9b7665ffce7081c0b", func := "barograph/barographlaw17.ManifestTorn", spec := "manifestTorn", inPlace := ["internal/abi.NoEscape", "maps.clone"], unfollowed := true, recurses := true, named := ["barograph/sum.turns"], apart := false, laid := [("barograph/sum.turns", laid_barograph_sum_turns)], narrowed := true }
def ManifestTornUptoSaid : Prop := manifestTornUptoRow.holds Tryd.pinned (OpenSpec.upto manifestTornSpec)

end Rows
end Go.Proofs.YtjpgglajcelllaaDoor
