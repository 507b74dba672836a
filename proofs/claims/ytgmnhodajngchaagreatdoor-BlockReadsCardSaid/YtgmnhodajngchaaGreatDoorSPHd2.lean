/- Parts: PHd2. -/
import Derived.Test.YtgmnhodajngchaaGreatDoorSPHd1
import Derived.Deep.RegionHeld3
import Derived.Deep.RegionLaw
set_option maxRecDepth 100000
set_option linter.unusedVariables false
namespace Go.Proofs.YtgmnhodajngchaaGreatDoor
section
section
open Go.RowKit Go.Sort
namespace Hd
open Bit Dsk Ob Dig
theorem typ_ne {w : World} {T T' : TypeId} (hT : T ≠ T') {g g' : Nat} {cs cs' : Array Value} (h1 : w.heap[g]? = some (.cells cs T (0, 0))) (h2 : w.heap[g']? = some (.cells cs' T' (0, 0))) : g ≠ g' := fun e => by
 subst e
 rw [h1] at h2
 injection h2 with h2
 injection h2 with _ h2 _
 exact hT h2
end Hd
end
section
open Go.RowKit Go.Sort
namespace Hd
open Bit Dsk Ob Dig
end Hd
end
end
end Go.Proofs.YtgmnhodajngchaaGreatDoor
