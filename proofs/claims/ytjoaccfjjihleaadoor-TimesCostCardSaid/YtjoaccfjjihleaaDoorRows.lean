/-
  NARROWER THAN 'FOR EVERY INPUT', by the rows' own cells (each row's printed sentence says how): TimesWrites: laid · TimesReads: laid · TimesBack: laid · TimesEven: laid · TimesCost: laid.
  DERIVED. THE GIVEN ROWS OF THIS SEAT. 5 by the template 'for every input the law returns true; each argument reads behind the call as it read before'; 0 by the template 'total and deterministic' (their statements: YtjoaccfjjihleaaDoorTotals.lean).
  GIVEN WITH THE SEED: the statements are not yours to turn. If you find one false, say at which input.
  Laid BY PROGRAM, IN A SANDBOX (cutbox-rows.mjs): the forced cells as the released guide's own fill.sh prints them over the translation bd5de77c17ea0c98… (all of the seat's roots in one cut). By AI agents, Wed Nov 11 2026. No macro, syntax, notation, axiom, sorry.
-/
import Derived.Test.YtjoaccfjjihleaaDoorChecked
import GoSem.Claim
import GoSem.ClaimJoined
import GoSem.ClaimMapViews
import Derived.JoinedTies
import Derived.KernelRfl
namespace Go.Proofs.YtjoaccfjjihleaaDoor
/- THE CELL 'sum', in the pinned program and in every row, IS THE sha256 OF THE DUMP (.gsa) THAT YtjoaccfjjihleaaDoorProg.lean LOADS. Nothing in Lean hashes anything: it is a label: what it is worth is what the hold of that sum in a sandbox is worth. -/
noncomputable def Tryd.pinned : Pinned := { name := "ytjoaccfjjihleaadoor", sum := "bd5de77c17ea0c98525e53d3c1f0f35feb7c7db34810e1a3c9c3a55c9531262c", checked := Tryd.checked }
namespace Rows
def none {H : Type} : Left H := { results := [], args := [] }

/- WHAT THE LISTED PACKAGE-LEVEL VARIABLES READ AS WHEN THE CALL BEGINS. Each datum BY PROGRAM (the guide's laid-datum.mjs) off the statement by which the dump's own 'gosem.cut.vars' lays the variable. In a bare row this is a premise. The card (YtjoaccfjjihleaaDoorCards.lean) ties it to the program's text. -/
def laid_barograph_times_spans {H : Type} : DataW H := .agg [.agg [.lit (.int .i64 0), .lit (.int .i64 0), .lit (.int .i64 0), .lit (.int .i64 0)], .agg [.lit (.int .i64 (-63)), .lit (.int .i64 64), .lit (.int .i64 63), .lit (.int .i64 7)], .agg [.lit (.int .i64 (-255)), .lit (.int .i64 256), .lit (.int .i64 255), .lit (.int .i64 9)], .agg [.lit (.int .i64 (-2047)), .lit (.int .i64 2048), .lit (.int .i64 2047), .lit (.int .i64 12)], .agg [.lit (.int .i64 (-9223372036854775808)), .lit (.int .i64 9223372036854775807), .lit (.int .i64 0), .lit (.int .i64 64)]]

/-- 'barographlaw08.TimesWrites': WHATEVER THE INPUT: true; the input reads as it did. -/
def timesWritesSpec : ChangeSpec := { name := "timesWrites", fn := fun _ => fun
  | [d] => { results := [.lit (.bool true)], args := [d] }
  | _ => none }
def timesWritesRow : OpenClaim := { program := "ytjoaccfjjihleaadoor", sum := "bd5de77c17ea0c98525e53d3c1f0f35feb7c7db34810e1a3c9c3a55c9531262c", func := "barograph/barographlaw08.TimesWrites", spec := "timesWrites", named := ["barograph/times.spans"], apart := false, laid := [("barograph/times.spans", laid_barograph_times_spans)] }
def TimesWritesSaid : Prop := timesWritesRow.holds Tryd.pinned (OpenSpec.ofChange timesWritesSpec)

/-- ITS FALSE NEIGHBOUR: 'it returns false'. Refute it at one input. -/
def timesWritesWrong : ChangeSpec := { name := "timesWrites", fn := fun _ => fun
  | [d] => { results := [.lit (.bool false)], args := [d] }
  | _ => none }
def TimesWritesWrongFalsely : Prop := timesWritesRow.holds Tryd.pinned (OpenSpec.ofChange timesWritesWrong)

/-- 'barographlaw08.TimesReads': WHATEVER THE INPUT: true; the input reads as it did. -/
def timesReadsSpec : ChangeSpec := { name := "timesReads", fn := fun _ => fun
  | [d1, d2] => { results := [.lit (.bool true)], args := [d1, d2] }
  | _ => none }
def timesReadsRow : OpenClaim := { program := "ytjoaccfjjihleaadoor", sum := "bd5de77c17ea0c98525e53d3c1f0f35feb7c7db34810e1a3c9c3a55c9531262c", func := "barograph/barographlaw08.TimesReads", spec := "timesReads", named := ["barograph/times.spans"], apart := false, laid := [("barograph/times.spans", laid_barograph_times_spans)] }
def TimesReadsSaid : Prop := timesReadsRow.holds Tryd.pinned (OpenSpec.ofChange timesReadsSpec)

/-- ITS FALSE NEIGHBOUR: 'it returns false'. Refute it at one input. -/
def timesReadsWrong : ChangeSpec := { name := "timesReads", fn := fun _ => fun
  | [d1, d2] => { results := [.lit (.bool false)], args := [d1, d2] }
  | _ => none }
def TimesReadsWrongFalsely : Prop := timesReadsRow.holds Tryd.pinned (OpenSpec.ofChange timesReadsWrong)

/-- 'barographlaw08.TimesBack': WHATEVER THE INPUT: true; the input reads as it did. -/
def timesBackSpec : ChangeSpec := { name := "timesBack", fn := fun _ => fun
  | [d] => { results := [.lit (.bool true)], args := [d] }
  | _ => none }
def timesBackRow : OpenClaim := { program := "ytjoaccfjjihleaadoor", sum := "bd5de77c17ea0c98525e53d3c1f0f35feb7c7db34810e1a3c9c3a55c9531262c", func := "barograph/barographlaw08.TimesBack", spec := "timesBack", named := ["barograph/times.spans"], apart := false, laid := [("barograph/times.spans", laid_barograph_times_spans)] }
def TimesBackSaid : Prop := timesBackRow.holds Tryd.pinned (OpenSpec.ofChange timesBackSpec)

/-- ITS FALSE NEIGHBOUR: 'it returns false'. Refute it at one input. -/
def timesBackWrong : ChangeSpec := { name := "timesBack", fn := fun _ => fun
  | [d] => { results := [.lit (.bool false)], args := [d] }
  | _ => none }
def TimesBackWrongFalsely : Prop := timesBackRow.holds Tryd.pinned (OpenSpec.ofChange timesBackWrong)

/-- 'barographlaw08.TimesEven': WHATEVER THE INPUT: true; the input reads as it did. -/
def timesEvenSpec : ChangeSpec := { name := "timesEven", fn := fun _ => fun
  | [d1, d2, d3] => { results := [.lit (.bool true)], args := [d1, d2, d3] }
  | _ => none }
def timesEvenRow : OpenClaim := { program := "ytjoaccfjjihleaadoor", sum := "bd5de77c17ea0c98525e53d3c1f0f35feb7c7db34810e1a3c9c3a55c9531262c", func := "barograph/barographlaw08.TimesEven", spec := "timesEven", named := ["barograph/times.spans"], apart := false, laid := [("barograph/times.spans", laid_barograph_times_spans)] }
def TimesEvenSaid : Prop := timesEvenRow.holds Tryd.pinned (OpenSpec.ofChange timesEvenSpec)

/-- ITS FALSE NEIGHBOUR: 'it returns false'. Refute it at one input. -/
def timesEvenWrong : ChangeSpec := { name := "timesEven", fn := fun _ => fun
  | [d1, d2, d3] => { results := [.lit (.bool false)], args := [d1, d2, d3] }
  | _ => none }
def TimesEvenWrongFalsely : Prop := timesEvenRow.holds Tryd.pinned (OpenSpec.ofChange timesEvenWrong)

/-- 'barographlaw08.TimesCost': WHATEVER THE INPUT: true; the input reads as it did. -/
def timesCostSpec : ChangeSpec := { name := "timesCost", fn := fun _ => fun
  | [d1, d2, d3] => { results := [.lit (.bool true)], args := [d1, d2, d3] }
  | _ => none }
def timesCostRow : OpenClaim := { program := "ytjoaccfjjihleaadoor", sum := "bd5de77c17ea0c98525e53d3c1f0f35feb7c7db34810e1a3c9c3a55c9531262c", func := "barograph/barographlaw08.TimesCost", spec := "timesCost", named := ["barograph/times.spans"], apart := false, laid := [("barograph/times.spans", laid_barograph_times_spans)] }
def TimesCostSaid : Prop := timesCostRow.holds Tryd.pinned (OpenSpec.ofChange timesCostSpec)

/-- ITS FALSE NEIGHBOUR: 'it returns false'. Refute it at one input. -/
def timesCostWrong : ChangeSpec := { name := "timesCost", fn := fun _ => fun
  | [d1, d2, d3] => { results := [.lit (.bool false)], args := [d1, d2, d3] }
  | _ => none }
def TimesCostWrongFalsely : Prop := timesCostRow.holds Tryd.pinned (OpenSpec.ofChange timesCostWrong)

/- THE SECOND FORM. 'bulk': how many values and letters a reading holds, each counted each time it is reached (what is shared counts as often as it is met; a slice's spare places count too). A statement '..UptoSaid' is the law's where the arguments, and the package variables that the reading takes, are together of bulk at most 1048576: NARROWER than '..Said'. Prove '..Said' where nothing that the law and all that it calls make is longer than what came in: it says more and counts as full. Else prove '..UptoSaid'. A law counts once. -/
mutual
def uptoBulk {H : Type} : DataW H → Nat
  | .lit (.string bytes) => bytes.length + 1
  | .lit _ => 1
  | .nil => 1
  | .ptr d => uptoBulk d + 1
  | .slice elems spare => uptoBulkAll elems + uptoBulkAll spare + 1
  | .agg parts => uptoBulkAll parts + 1
  | .iface _ d => uptoBulk d + 1
  | .map entries => uptoBulkEntries entries + 1
  | .held _ => 1
def uptoBulkAll {H : Type} : List (DataW H) → Nat
  | [] => 0
  | d :: r => uptoBulk d + uptoBulkAll r
def uptoBulkEntries {H : Type} : List (Lit × DataW H) → Nat
  | [] => 0
  | x :: r => uptoBulkEntry x + uptoBulkEntries r
def uptoBulkEntry {H : Type} : Lit × DataW H → Nat
  | (.string bytes, d) => bytes.length + uptoBulk d + 1
  | (_, d) => uptoBulk d + 1
 end
def uptoSmall : (H : Type) → List (DataW H) → Bool := fun _ ds => decide (uptoBulkAll ds ≤ 1048576)
def OpenSpec.upto (s : _root_.Go.ChangeSpec) : _root_.Go.OpenSpec := { _root_.Go.OpenSpec.ofChange s with cond := some uptoSmall }

/-- 'barographlaw08.TimesWrites', WHERE WHAT IT READS IS OF BULK AT MOST 1048576: true; the input reads as it did. -/
def timesWritesUptoRow : OpenClaim := { program := "ytjoaccfjjihleaadoor", sum := "bd5de77c17ea0c98525e53d3c1f0f35feb7c7db34810e1a3c9c3a55c9531262c", func := "barograph/barographlaw08.TimesWrites", spec := "timesWrites", named := ["barograph/times.spans"], apart := false, laid := [("barograph/times.spans", laid_barograph_times_spans)], narrowed := true }
def TimesWritesUptoSaid : Prop := timesWritesUptoRow.holds Tryd.pinned (OpenSpec.upto timesWritesSpec)

/-- 'barographlaw08.TimesReads', WHERE WHAT IT READS IS OF BULK AT MOST 1048576: true; the input reads as it did. -/
def timesReadsUptoRow : OpenClaim := { program := "ytjoaccfjjihleaadoor", sum := "bd5de77c17ea0c98525e53d3c1f0f35feb7c7db34810e1a3c9c3a55c9531262c", func := "barograph/barographlaw08.TimesReads", spec := "timesReads", named := ["barograph/times.spans"], apart := false, laid := [("barograph/times.spans", laid_barograph_times_spans)], narrowed := true }
def TimesReadsUptoSaid : Prop := timesReadsUptoRow.holds Tryd.pinned (OpenSpec.upto timesReadsSpec)

/-- 'barographlaw08.TimesBack', WHERE WHAT IT READS IS OF BULK AT MOST 1048576: true; the input reads as it did. -/
def timesBackUptoRow : OpenClaim := { program := "ytjoaccfjjihleaadoor", sum := "bd5de77c17ea0c98525e53d3c1f0f35feb7c7db34810e1a3c9c3a55c9531262c", func := "barograph/barographlaw08.TimesBack", spec := "timesBack", named := ["barograph/times.spans"], apart := false, laid := [("barograph/times.spans", laid_barograph_times_spans)], narrowed := true }
def TimesBackUptoSaid : Prop := timesBackUptoRow.holds Tryd.pinned (OpenSpec.upto timesBackSpec)

/-- 'barographlaw08.TimesEven', WHERE WHAT IT READS IS OF BULK AT MOST 1048576: true; the input reads as it did. -/
def timesEvenUptoRow : OpenClaim := { program := "ytjoaccfjjihleaadoor", sum := "bd5de77c17ea0c98525e53d3c1f0f35feb7c7db34810e1a3c9c3a55c9531262c", func := "barograph/barographlaw08.TimesEven", spec := "timesEven", named := ["barograph/times.spans"], apart := false, laid := [("barograph/times.spans", laid_barograph_times_spans)], narrowed := true }
def TimesEvenUptoSaid : Prop := timesEvenUptoRow.holds Tryd.pinned (OpenSpec.upto timesEvenSpec)

/-- 'barographlaw08.TimesCost', WHERE WHAT IT READS IS OF BULK AT MOST 1048576: true; the input reads as it did. -/
def timesCostUptoRow : OpenClaim := { program := "ytjoaccfjjihleaadoor", sum := "bd5de77c17ea0c98525e53d3c1f0f35feb7c7db34810e1a3c9c3a55c9531262c", func := "barograph/barographlaw08.TimesCost", spec := "timesCost", named := ["barograph/times.spans"], apart := false, laid := [("barograph/times.spans", laid_barograph_times_spans)], narrowed := true }
def TimesCostUptoSaid : Prop := timesCostUptoRow.holds Tryd.pinned (OpenSpec.upto timesCostSpec)

end Rows
end Go.Proofs.YtjoaccfjjihleaaDoor
