/- Parts: ArgNums. -/
import Derived.Test.YtgmnhodajngchaaGreatDoorRows
import Derived.Below
import Derived.Deep.SlicePairs
import Derived.SizedLaws
import Derived.ChangeSlices
import Derived.ProofKit
import Derived.OpenShut
import Derived.WalkKit
set_option maxRecDepth 100000
set_option linter.unusedVariables false
namespace Go.Proofs.YtgmnhodajngchaaGreatDoor
section
open Go.RowKit Go.ChangeShapes Go.WideShapes
namespace Arg
theorem addr_plain (b off j : Nat) : (⟨b, off, none⟩ : Addr).add j = ⟨b, off + j, none⟩ := by unfold Addr.add; split <;> simp_all
end Arg
end
end Go.Proofs.YtgmnhodajngchaaGreatDoor
