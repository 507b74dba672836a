/-
  NARROWER THAN 'FOR EVERY INPUT', by the rows' own cells (each row's printed sentence says how): BlockReads: laid · BlockBack: laid · BlockChanged: laid · BlockSpan: laid.
  DERIVED. THE GIVEN ROWS OF THIS SEAT. 4 by the template 'for every input the law returns true; each argument reads behind the call as it read before'; 0 by the template 'total and deterministic' (their statements: YtgmnhodajngchaaGreatDoorTotals.lean).
  GIVEN WITH THE SEED: the statements are not yours to turn. If you find one false, say at which input.
  Laid BY PROGRAM, IN A SANDBOX (cutbox-rows.mjs): the forced cells as the released guide's own fill.sh prints them over the translation e980d7ab2b715c35… (all of the seat's roots in one cut). By AI agents, Wed Nov 11 2026. No macro, syntax, notation, axiom, sorry.
-/
import Derived.Test.YtgmnhodajngchaaGreatDoorChecked
import GoSem.Claim
import GoSem.ClaimJoined
import GoSem.ClaimMapViews
import Derived.JoinedTies
import Derived.KernelRfl
namespace Go.Proofs.YtgmnhodajngchaaGreatDoor
/- THE CELL 'sum', in the pinned program and in every row, IS THE sha256 OF THE DUMP (.gsa) THAT YtgmnhodajngchaaGreatDoorProg.lean LOADS. Nothing in Lean hashes anything: it is a label: what it is worth is what the hold of that sum in a sandbox is worth. -/
noncomputable def Tryz.pinned : Pinned := { name := "ytgmnhodajngchaagreatdoor", sum := "e980d7ab2b715c3551a680074c35423cf4558be7d29eed6b2cbd203329c72775", checked := Tryz.checked }
namespace Rows
def none {H : Type} : Left H := { results := [], args := [] }

/- WHAT THE LISTED PACKAGE-LEVEL VARIABLES READ AS WHEN THE CALL BEGINS. Each datum BY PROGRAM (the guide's laid-datum.mjs) off the statement by which the dump's own 'gosem.cut.vars' lays the variable. In a bare row this is a premise. The card (YtgmnhodajngchaaGreatDoorCards.lean) ties it to the program's text. -/
def laid_barograph_sum_turns {H : Type} : DataW H := .agg [.lit (.int .u32 0), .lit (.int .u32 2197175160)]
def laid_math_bits_deBruijn64tab {H : Type} : DataW H := .agg [.lit (.int .u8 0), .lit (.int .u8 1), .lit (.int .u8 56), .lit (.int .u8 2), .lit (.int .u8 57), .lit (.int .u8 49), .lit (.int .u8 28), .lit (.int .u8 3), .lit (.int .u8 61), .lit (.int .u8 58), .lit (.int .u8 42), .lit (.int .u8 50), .lit (.int .u8 38), .lit (.int .u8 29), .lit (.int .u8 17), .lit (.int .u8 4), .lit (.int .u8 62), .lit (.int .u8 47), .lit (.int .u8 59), .lit (.int .u8 36), .lit (.int .u8 45), .lit (.int .u8 43), .lit (.int .u8 51), .lit (.int .u8 22), .lit (.int .u8 53), .lit (.int .u8 39), .lit (.int .u8 33), .lit (.int .u8 30), .lit (.int .u8 24), .lit (.int .u8 18), .lit (.int .u8 12), .lit (.int .u8 5), .lit (.int .u8 63), .lit (.int .u8 55), .lit (.int .u8 48), .lit (.int .u8 27), .lit (.int .u8 60), .lit (.int .u8 41), .lit (.int .u8 37), .lit (.int .u8 16), .lit (.int .u8 46), .lit (.int .u8 35), .lit (.int .u8 44), .lit (.int .u8 21), .lit (.int .u8 52), .lit (.int .u8 32), .lit (.int .u8 23), .lit (.int .u8 11), .lit (.int .u8 54), .lit (.int .u8 26), .lit (.int .u8 40), .lit (.int .u8 15), .lit (.int .u8 34), .lit (.int .u8 20), .lit (.int .u8 31), .lit (.int .u8 10), .lit (.int .u8 25), .lit (.int .u8 14), .lit (.int .u8 19), .lit (.int .u8 9), .lit (.int .u8 13), .lit (.int .u8 8), .lit (.int .u8 7), .lit (.int .u8 6)]
def laid_barograph_times_spans {H : Type} : DataW H := .agg [.agg [.lit (.int .i64 0), .lit (.int .i64 0), .lit (.int .i64 0), .lit (.int .i64 0)], .agg [.lit (.int .i64 (-63)), .lit (.int .i64 64), .lit (.int .i64 63), .lit (.int .i64 7)], .agg [.lit (.int .i64 (-255)), .lit (.int .i64 256), .lit (.int .i64 255), .lit (.int .i64 9)], .agg [.lit (.int .i64 (-2047)), .lit (.int .i64 2048), .lit (.int .i64 2047), .lit (.int .i64 12)], .agg [.lit (.int .i64 (-9223372036854775808)), .lit (.int .i64 9223372036854775807), .lit (.int .i64 0), .lit (.int .i64 64)]]

/-- 'barographlaw15.BlockReads': WHATEVER THE INPUT: true; the input reads as it did. -/
def blockReadsSpec : ChangeSpec := { name := "blockReads", fn := fun _ => fun
  | [d] => { results := [.lit (.bool true)], args := [d] }
  | _ => none }
def blockReadsRow : OpenClaim := { program := "ytgmnhodajngchaagreatdoor", sum := "e980d7ab2b715c3551a680074c35423cf4558be7d29eed6b2cbd203329c72775", func := "barograph/barographlaw15.BlockReads", spec := "blockReads", inPlace := ["internal/bytealg.abigen_runtime_cmpstring"], unfollowed := true, recurses := true, named := ["barograph/sum.turns", "barograph/times.spans", "math/bits.deBruijn64tab"], apart := false, laid := [("barograph/sum.turns", laid_barograph_sum_turns), ("math/bits.deBruijn64tab", laid_math_bits_deBruijn64tab), ("barograph/times.spans", laid_barograph_times_spans)] }
def BlockReadsSaid : Prop := blockReadsRow.holds Tryz.pinned (OpenSpec.ofChange blockReadsSpec)

/-- ITS FALSE NEIGHBOUR: 'it returns false'. Refute it at one input. -/
def blockReadsWrong : ChangeSpec := { name := "blockReads", fn := fun _ => fun
  | [d] => { results := [.lit (.bool false)], args := [d] }
  | _ => none }
def BlockReadsWrongFalsely : Prop := blockReadsRow.holds Tryz.pinned (OpenSpec.ofChange blockReadsWrong)

/-- 'barographlaw15.BlockBack': WHATEVER THE INPUT: true; the input reads as it did. -/
def blockBackSpec : ChangeSpec := { name := "blockBack", fn := fun _ => fun
  | [d1, d2] => { results := [.lit (.bool true)], args := [d1, d2] }
  | _ => none }
def blockBackRow : OpenClaim := { program := "ytgmnhodajngchaagreatdoor", sum := "e980d7ab2b715c3551a680074c35423cf4558be7d29eed6b2cbd203329c72775", func := "barograph/barographlaw15.BlockBack", spec := "blockBack", inPlace := ["internal/bytealg.abigen_runtime_cmpstring", "slices.overlaps[barograph/block.Row]", "internal/abi.NoEscape"], unfollowed := true, recurses := true, named := ["barograph/times.spans", "math/bits.deBruijn64tab", "barograph/sum.turns"], apart := false, laid := [("barograph/sum.turns", laid_barograph_sum_turns), ("math/bits.deBruijn64tab", laid_math_bits_deBruijn64tab), ("barograph/times.spans", laid_barograph_times_spans)] }
def BlockBackSaid : Prop := blockBackRow.holds Tryz.pinned (OpenSpec.ofChange blockBackSpec)

/-- ITS FALSE NEIGHBOUR: 'it returns false'. Refute it at one input. -/
def blockBackWrong : ChangeSpec := { name := "blockBack", fn := fun _ => fun
  | [d1, d2] => { results := [.lit (.bool false)], args := [d1, d2] }
  | _ => none }
def BlockBackWrongFalsely : Prop := blockBackRow.holds Tryz.pinned (OpenSpec.ofChange blockBackWrong)

/-- 'barographlaw15.BlockChanged': WHATEVER THE INPUT: true; the input reads as it did. -/
def blockChangedSpec : ChangeSpec := { name := "blockChanged", fn := fun _ => fun
  | [d1, d2, d3, d4] => { results := [.lit (.bool true)], args := [d1, d2, d3, d4] }
  | _ => none }
def blockChangedRow : OpenClaim := { program := "ytgmnhodajngchaagreatdoor", sum := "e980d7ab2b715c3551a680074c35423cf4558be7d29eed6b2cbd203329c72775", func := "barograph/barographlaw15.BlockChanged", spec := "blockChanged", inPlace := ["internal/bytealg.abigen_runtime_cmpstring", "slices.overlaps[barograph/block.Row]", "internal/abi.NoEscape"], unfollowed := true, recurses := true, named := ["barograph/times.spans", "math/bits.deBruijn64tab", "barograph/sum.turns"], apart := false, laid := [("barograph/sum.turns", laid_barograph_sum_turns), ("math/bits.deBruijn64tab", laid_math_bits_deBruijn64tab), ("barograph/times.spans", laid_barograph_times_spans)] }
def BlockChangedSaid : Prop := blockChangedRow.holds Tryz.pinned (OpenSpec.ofChange blockChangedSpec)

/-- ITS FALSE NEIGHBOUR: 'it returns false'. Refute it at one input. -/
def blockChangedWrong : ChangeSpec := { name := "blockChanged", fn := fun _ => fun
  | [d1, d2, d3, d4] => { results := [.lit (.bool false)], args := [d1, d2, d3, d4] }
  | _ => none }
def BlockChangedWrongFalsely : Prop := blockChangedRow.holds Tryz.pinned (OpenSpec.ofChange blockChangedWrong)

/-- 'barographlaw15.BlockSpan': WHATEVER THE INPUT: true; the input reads as it did. -/
def blockSpanSpec : ChangeSpec := { name := "blockSpan", fn := fun _ => fun
  | [d1, d2] => { results := [.lit (.bool true)], args := [d1, d2] }
  | _ => none }
def blockSpanRow : OpenClaim := { program := "ytgmnhodajngchaagreatdoor", sum := "e980d7ab2b715c3551a680074c35423cf4558be7d29eed6b2cbd203329c72775", func := "barograph/barographlaw15.BlockSpan", spec := "blockSpan", inPlace := ["internal/bytealg.abigen_runtime_cmpstring", "slices.overlaps[barograph/block.Row]", "internal/abi.NoEscape"], unfollowed := true, recurses := true, named := ["barograph/times.spans", "math/bits.deBruijn64tab", "barograph/sum.turns"], apart := false, laid := [("barograph/sum.turns", laid_barograph_sum_turns), ("math/bits.deBruijn64tab", laid_math_bits_deBruijn64tab), ("barograph/times.spans", laid_barograph_times_spans)] }
def BlockSpanSaid : Prop := blockSpanRow.holds Tryz.pinned (OpenSpec.ofChange blockSpanSpec)

/-- ITS FALSE NEIGHBOUR: 'it returns false'. Refute it at one input. -/
def blockSpanWrong : ChangeSpec := { name := "blockSpan", fn := fun _ => fun
  | [d1, d2] => { results := [.lit (.bool false)], args := [d1, d2] }
  | _ => none }
def BlockSpanWrongFalsely : Prop := blockSpanRow.holds Tryz.pinned (OpenSpec.ofChange blockSpanWrong)

/- THE SECOND FORM. 'bulk': how many values and letters a reading holds, each counted each time it is reached (what is shared counts as often as it is met; a slice's spare places count too). A statement '..UptoSaid' is the law's where the arguments, and the package variables that the reading takes, are together of bulk at most 1048576: NARROWER than '..Said'. Prove '..Said' where nothing that the law and all that it calls make is longer than what came in: it says more and counts as full. Else prove '..UptoSaid'. A law counts once. -/
mutual
def uptoBulk {H : Type} : DataW H → Nat
  | .lit (.string bytes) => bytes.length + 1
  | .lit _ => 1
  | .nil => 1
  | .ptr d => uptoBulk d + 1
  | .slice elems spare => uptoBulkAll elems + uptoBulkAll spare + 1
  | .agg parts => uptoBulkAll parts + 1
  | .iface _ d => uptoBulk d + 1
  | .map entries => uptoBulkEntries entries + 1
  | .held _ => 1
def uptoBulkAll {H : Type} : List (DataW H) → Nat
  | [] => 0
  | d :: r => uptoBulk d + uptoBulkAll r
def uptoBulkEntries {H : Type} : List (Lit × DataW H) → Nat
  | [] => 0
  | x :: r => uptoBulkEntry x + uptoBulkEntries r
def uptoBulkEntry {H : Type} : Lit × DataW H → Nat
  | (.string bytes, d) => bytes.length + uptoBulk d + 1
  | (_, d) => uptoBulk d + 1
 end
def uptoSmall : (H : Type) → List (DataW H) → Bool := fun _ ds => decide (uptoBulkAll ds ≤ 1048576)
def OpenSpec.upto (s : _root_.Go.ChangeSpec) : _root_.Go.OpenSpec := { _root_.Go.OpenSpec.ofChange s with cond := some uptoSmall }

/-- 'barographlaw15.BlockReads', WHERE WHAT IT READS IS OF BULK AT MOST 1048576: true; the input reads as it did. -/
def blockReadsUptoRow : OpenClaim := { program := "ytgmnhodajngchaagreatdoor", sum := "e980d7ab2b715c3551a680074c35423cf4558be7d29eed6b2cbd203329c72775", func := "barograph/barographlaw15.BlockReads", spec := "blockReads", inPlace := ["internal/bytealg.abigen_runtime_cmpstring"], unfollowed := true, recurses := true, named := ["barograph/sum.turns", "barograph/times.spans", "math/bits.deBruijn64tab"], apart := false, laid := [("barograph/sum.turns", laid_barograph_sum_turns), ("math/bits.deBruijn64tab", laid_math_bits_deBruijn64tab), ("barograph/times.spans", laid_barograph_times_spans)], narrowed := true }
def BlockReadsUptoSaid : Prop := blockReadsUptoRow.holds Tryz.pinned (OpenSpec.upto blockReadsSpec)

/-- 'barographlaw15.BlockBack', WHERE WHAT IT READS IS OF BULK AT MOST 1048576: true; the input reads as it did. -/
def blockBackUptoRow : OpenClaim := { program := "ytgmnhodajngchaagreatdoor", sum := "e980d7ab2b715c3551a680074c35423cf4558be7d29eed6b2cbd203329c72775", func := "barograph/barographlaw15.BlockBack", spec := "blockBack", inPlace := ["internal/bytealg.abigen_runtime_cmpstring", "slices.overlaps[barograph/block.Row]", "internal/abi.NoEscape"], unfollowed := true, recurses := true, named := ["barograph/times.spans", "math/bits.deBruijn64tab", "barograph/sum.turns"], apart := false, laid := [("barograph/sum.turns", laid_barograph_sum_turns), ("math/bits.deBruijn64tab", laid_math_bits_deBruijn64tab), ("barograph/times.spans", laid_barograph_times_spans)], narrowed := true }
def BlockBackUptoSaid : Prop := blockBackUptoRow.holds Tryz.pinned (OpenSpec.upto blockBackSpec)

/-- 'barographlaw15.BlockChanged', WHERE WHAT IT READS IS OF BULK AT MOST 1048576: true; the input reads as it did. -/
def blockChangedUptoRow : OpenClaim := { program := "ytgmnhodajngchaagreatdoor", sum := "e980d7ab2b715c3551a680074c35423cf4558be7d29eed6b2cbd203329c72775", func := "barograph/barographlaw15.BlockChanged", spec := "blockChanged", inPlace := ["internal/bytealg.abigen_runtime_cmpstring", "slices.overlaps[barograph/block.Row]", "internal/abi.NoEscape"], unfollowed := true, recurses := true, named := ["barograph/times.spans", "math/bits.deBruijn64tab", "barograph/sum.turns"], apart := false, laid := [("barograph/sum.turns", laid_barograph_sum_turns), ("math/bits.deBruijn64tab", laid_math_bits_deBruijn64tab), ("barograph/times.spans", laid_barograph_times_spans)], narrowed := true }
def BlockChangedUptoSaid : Prop := blockChangedUptoRow.holds Tryz.pinned (OpenSpec.upto blockChangedSpec)

/-- 'barographlaw15.BlockSpan', WHERE WHAT IT READS IS OF BULK AT MOST 1048576: true; the input reads as it did. -/
def blockSpanUptoRow : OpenClaim := { program := "ytgmnhodajngchaagreatdoor", sum := "e980d7ab2b715c3551a680074c35423cf4558be7d29eed6b2cbd203329c72775", func := "barograph/barographlaw15.BlockSpan", spec := "blockSpan", inPlace := ["internal/bytealg.abigen_runtime_cmpstring", "slices.overlaps[barograph/block.Row]", "internal/abi.NoEscape"], unfollowed := true, recurses := true, named := ["barograph/times.spans", "math/bits.deBruijn64tab", "barograph/sum.turns"], apart := false, laid := [("barograph/sum.turns", laid_barograph_sum_turns), ("math/bits.deBruijn64tab", laid_math_bits_deBruijn64tab), ("barograph/times.spans", laid_barograph_times_spans)], narrowed := true }
def BlockSpanUptoSaid : Prop := blockSpanUptoRow.holds Tryz.pinned (OpenSpec.upto blockSpanSpec)

end Rows
end Go.Proofs.YtgmnhodajngchaaGreatDoor
