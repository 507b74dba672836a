/-
  No cell of these rows narrows 'for every input' (looked for: loops, veiled, ifaces, maps, wideKeys, modest, calm, conditions, laid).
  DERIVED. THE GIVEN ROWS OF THIS SEAT. 5 by the template 'for every input the law returns true; each argument reads behind the call as it read before'; 0 by the template 'total and deterministic' (their statements: YtfheehlfodoimaaTotals.lean).
  GIVEN WITH THE SEED: the statements are not yours to turn. If you find one false, say at which input.
  Laid BY PROGRAM, IN A SANDBOX (cutbox-rows.mjs): the forced cells as the released guide's own fill.sh prints them over the translation 8fd44ad7f9afb222… (all of the seat's roots in one cut). By AI agents, Wed Nov 11 2026. No macro, syntax, notation, axiom, sorry.
-/
import Derived.Test.YtfheehlfodoimaaChecked
import GoSem.Claim
import GoSem.ClaimJoined
import GoSem.ClaimMapViews
import Derived.JoinedTies
import Derived.KernelRfl
namespace Go.Proofs.Ytfheehlfodoimaa
/- THE CELL 'sum', in the pinned program and in every row, IS THE sha256 OF THE DUMP (.gsa) THAT YtfheehlfodoimaaProg.lean LOADS. Nothing in Lean hashes anything: it is a label: what it is worth is what the hold of that sum in a sandbox is worth. -/
noncomputable def Try.pinned : Pinned := { name := "ytfheehlfodoimaa", sum := "8fd44ad7f9afb2222fd8101ce9999cb6bb40fc7ea5acf231b7c4cc2399ca82c4", checked := Try.checked }
namespace Rows
def none {H : Type} : Left H := { results := [], args := [] }

/-- 'barographlaw13.HeadHistory': WHATEVER THE INPUT: true; the input reads as it did. -/
def headHistorySpec : ChangeSpec := { name := "headHistory", fn := fun _ => fun
  | [d1, d2] => { results := [.lit (.bool true)], args := [d1, d2] }
  | _ => none }
def headHistoryRow : OpenClaim := { program := "ytfheehlfodoimaa", sum := "8fd44ad7f9afb2222fd8101ce9999cb6bb40fc7ea5acf231b7c4cc2399ca82c4", func := "barograph/barographlaw13.HeadHistory", spec := "headHistory", inPlace := ["internal/bytealg.abigen_runtime_cmpstring"], unfollowed := true, recurses := true, apart := false }
def HeadHistorySaid : Prop := headHistoryRow.holds Try.pinned (OpenSpec.ofChange headHistorySpec)

/-- ITS FALSE NEIGHBOUR: 'it returns false'. Refute it at one input. -/
def headHistoryWrong : ChangeSpec := { name := "headHistory", fn := fun _ => fun
  | [d1, d2] => { results := [.lit (.bool false)], args := [d1, d2] }
  | _ => none }
def HeadHistoryWrongFalsely : Prop := headHistoryRow.holds Try.pinned (OpenSpec.ofChange headHistoryWrong)

/-- 'barographlaw13.HeadDeletes': WHATEVER THE INPUT: true; the input reads as it did. -/
def headDeletesSpec : ChangeSpec := { name := "headDeletes", fn := fun _ => fun
  | [d1, d2, d3] => { results := [.lit (.bool true)], args := [d1, d2, d3] }
  | _ => none }
def headDeletesRow : OpenClaim := { program := "ytfheehlfodoimaa", sum := "8fd44ad7f9afb2222fd8101ce9999cb6bb40fc7ea5acf231b7c4cc2399ca82c4", func := "barograph/barographlaw13.HeadDeletes", spec := "headDeletes", inPlace := ["internal/bytealg.abigen_runtime_cmpstring"], unfollowed := true, recurses := true, apart := false }
def HeadDeletesSaid : Prop := headDeletesRow.holds Try.pinned (OpenSpec.ofChange headDeletesSpec)

/-- ITS FALSE NEIGHBOUR: 'it returns false'. Refute it at one input. -/
def headDeletesWrong : ChangeSpec := { name := "headDeletes", fn := fun _ => fun
  | [d1, d2, d3] => { results := [.lit (.bool false)], args := [d1, d2, d3] }
  | _ => none }
def HeadDeletesWrongFalsely : Prop := headDeletesRow.holds Try.pinned (OpenSpec.ofChange headDeletesWrong)

/-- 'barographlaw13.HeadCopies': WHATEVER THE INPUT: true; the input reads as it did. -/
def headCopiesSpec : ChangeSpec := { name := "headCopies", fn := fun _ => fun
  | [d1, d2, d3] => { results := [.lit (.bool true)], args := [d1, d2, d3] }
  | _ => none }
def headCopiesRow : OpenClaim := { program := "ytfheehlfodoimaa", sum := "8fd44ad7f9afb2222fd8101ce9999cb6bb40fc7ea5acf231b7c4cc2399ca82c4", func := "barograph/barographlaw13.HeadCopies", spec := "headCopies", inPlace := ["internal/bytealg.abigen_runtime_cmpstring"], unfollowed := true, recurses := true, apart := false }
def HeadCopiesSaid : Prop := headCopiesRow.holds Try.pinned (OpenSpec.ofChange headCopiesSpec)

/-- ITS FALSE NEIGHBOUR: 'it returns false'. Refute it at one input. -/
def headCopiesWrong : ChangeSpec := { name := "headCopies", fn := fun _ => fun
  | [d1, d2, d3] => { results := [.lit (.bool false)], args := [d1, d2, d3] }
  | _ => none }
def HeadCopiesWrongFalsely : Prop := headCopiesRow.holds Try.pinned (OpenSpec.ofChange headCopiesWrong)

/-- 'barographlaw13.HeadWhole': WHATEVER THE INPUT: true; the input reads as it did. -/
def headWholeSpec : ChangeSpec := { name := "headWhole", fn := fun _ => fun
  | [d1, d2, d3] => { results := [.lit (.bool true)], args := [d1, d2, d3] }
  | _ => none }
def headWholeRow : OpenClaim := { program := "ytfheehlfodoimaa", sum := "8fd44ad7f9afb2222fd8101ce9999cb6bb40fc7ea5acf231b7c4cc2399ca82c4", func := "barograph/barographlaw13.HeadWhole", spec := "headWhole", inPlace := ["internal/bytealg.abigen_runtime_cmpstring"], unfollowed := true, recurses := true, apart := false }
def HeadWholeSaid : Prop := headWholeRow.holds Try.pinned (OpenSpec.ofChange headWholeSpec)

/-- ITS FALSE NEIGHBOUR: 'it returns false'. Refute it at one input. -/
def headWholeWrong : ChangeSpec := { name := "headWhole", fn := fun _ => fun
  | [d1, d2, d3] => { results := [.lit (.bool false)], args := [d1, d2, d3] }
  | _ => none }
def HeadWholeWrongFalsely : Prop := headWholeRow.holds Try.pinned (OpenSpec.ofChange headWholeWrong)

/-- 'barographlaw13.HeadTops': WHATEVER THE INPUT: true; the input reads as it did. -/
def headTopsSpec : ChangeSpec := { name := "headTops", fn := fun _ => fun
  | [d] => { results := [.lit (.bool true)], args := [d] }
  | _ => none }
def headTopsRow : OpenClaim := { program := "ytfheehlfodoimaa", sum := "8fd44ad7f9afb2222fd8101ce9999cb6bb40fc7ea5acf231b7c4cc2399ca82c4", func := "barograph/barographlaw13.HeadTops", spec := "headTops", inPlace := ["internal/bytealg.abigen_runtime_cmpstring"], unfollowed := true, recurses := true, apart := false }
def HeadTopsSaid : Prop := headTopsRow.holds Try.pinned (OpenSpec.ofChange headTopsSpec)

/-- ITS FALSE NEIGHBOUR: 'it returns false'. Refute it at one input. -/
def headTopsWrong : ChangeSpec := { name := "headTops", fn := fun _ => fun
  | [d] => { results := [.lit (.bool false)], args := [d] }
  | _ => none }
def HeadTopsWrongFalsely : Prop := headTopsRow.holds Try.pinned (OpenSpec.ofChange headTopsWrong)

/- THE SECOND FORM. 'bulk': how many values and letters a reading holds, each counted each time it is reached (what is shared counts as often as it is met; a slice's spare places count too). A statement '..UptoSaid' is the law's where the arguments, and the package variables that the reading takes, are together of bulk at most 1048576: NARROWER than '..Said'. Prove '..Said' where nothing that the law and all that it calls make is longer than what came in: it says more and counts as full. Else prove '..UptoSaid'. A law counts once. -/
mutual
def uptoBulk {H : Type} : DataW H → Nat
  | .lit (.string bytes) => bytes.length + 1
  | .lit _ => 1
  | .nil => 1
  | .ptr d => uptoBulk d + 1
  | .slice elems spare => uptoBulkAll elems + uptoBulkAll spare + 1
  | .agg parts => uptoBulkAll parts + 1
  | .iface _ d => uptoBulk d + 1
  | .map entries => uptoBulkEntries entries + 1
  | .held _ => 1
def uptoBulkAll {H : Type} : List (DataW H) → Nat
  | [] => 0
  | d :: r => uptoBulk d + uptoBulkAll r
def uptoBulkEntries {H : Type} : List (Lit × DataW H) → Nat
  | [] => 0
  | x :: r => uptoBulkEntry x + uptoBulkEntries r
def uptoBulkEntry {H : Type} : Lit × DataW H → Nat
  | (.string bytes, d) => bytes.length + uptoBulk d + 1
  | (_, d) => uptoBulk d + 1
 end
def uptoSmall : (H : Type) → List (DataW H) → Bool := fun _ ds => decide (uptoBulkAll ds ≤ 1048576)
def OpenSpec.upto (s : _root_.Go.ChangeSpec) : _root_.Go.OpenSpec := { _root_.Go.OpenSpec.ofChange s with cond := some uptoSmall }

/-- 'barographlaw13.HeadHistory', WHERE WHAT IT READS IS OF BULK AT MOST 1048576: true; the input reads as it did. -/
def headHistoryUptoRow : OpenClaim := { program := "ytfheehlfodoimaa", sum := "8fd44ad7f9afb2222fd8101ce9999cb6bb40fc7ea5acf231b7c4cc2399ca82c4", func := "barograph/barographlaw13.HeadHistory", spec := "headHistory", inPlace := ["internal/bytealg.abigen_runtime_cmpstring"], unfollowed := true, recurses := true, apart := false, narrowed := true }
def HeadHistoryUptoSaid : Prop := headHistoryUptoRow.holds Try.pinned (OpenSpec.upto headHistorySpec)

/-- 'barographlaw13.HeadDeletes', WHERE WHAT IT READS IS OF BULK AT MOST 1048576: true; the input reads as it did. -/
def headDeletesUptoRow : OpenClaim := { program := "ytfheehlfodoimaa", sum := "8fd44ad7f9afb2222fd8101ce9999cb6bb40fc7ea5acf231b7c4cc2399ca82c4", func := "barograph/barographlaw13.HeadDeletes", spec := "headDeletes", inPlace := ["internal/bytealg.abigen_runtime_cmpstring"], unfollowed := true, recurses := true, apart := false, narrowed := true }
def HeadDeletesUptoSaid : Prop := headDeletesUptoRow.holds Try.pinned (OpenSpec.upto headDeletesSpec)

/-- 'barographlaw13.HeadCopies', WHERE WHAT IT READS IS OF BULK AT MOST 1048576: true; the input reads as it did. -/
def headCopiesUptoRow : OpenClaim := { program := "ytfheehlfodoimaa", sum := "8fd44ad7f9afb2222fd8101ce9999cb6bb40fc7ea5acf231b7c4cc2399ca82c4", func := "barograph/barographlaw13.HeadCopies", spec := "headCopies", inPlace := ["internal/bytealg.abigen_runtime_cmpstring"], unfollowed := true, recurses := true, apart := false, narrowed := true }
def HeadCopiesUptoSaid : Prop := headCopiesUptoRow.holds Try.pinned (OpenSpec.upto headCopiesSpec)

/-- 'barographlaw13.HeadWhole', WHERE WHAT IT READS IS OF BULK AT MOST 1048576: true; the input reads as it did. -/
def headWholeUptoRow : OpenClaim := { program := "ytfheehlfodoimaa", sum := "8fd44ad7f9afb2222fd8101ce9999cb6bb40fc7ea5acf231b7c4cc2399ca82c4", func := "barograph/barographlaw13.HeadWhole", spec := "headWhole", inPlace := ["internal/bytealg.abigen_runtime_cmpstring"], unfollowed := true, recurses := true, apart := false, narrowed := true }
def HeadWholeUptoSaid : Prop := headWholeUptoRow.holds Try.pinned (OpenSpec.upto headWholeSpec)

/-- 'barographlaw13.HeadTops', WHERE WHAT IT READS IS OF BULK AT MOST 1048576: true; the input reads as it did. -/
def headTopsUptoRow : OpenClaim := { program := "ytfheehlfodoimaa", sum := "8fd44ad7f9afb2222fd8101ce9999cb6bb40fc7ea5acf231b7c4cc2399ca82c4", func := "barograph/barographlaw13.HeadTops", spec := "headTops", inPlace := ["internal/bytealg.abigen_runtime_cmpstring"], unfollowed := true, recurses := true, apart := false, narrowed := true }
def HeadTopsUptoSaid : Prop := headTopsUptoRow.holds Try.pinned (OpenSpec.upto headTopsSpec)

end Rows
end Go.Proofs.Ytfheehlfodoimaa
