/- Manifests (layer 17): ManifestChecks. Written by wip/tools/mflaw1.py. -/
import Derived.Test.YtjpgglajcelllaaDoorEMfPDec
import Derived.Test.YtjpgglajcelllaaDoorEMfEnc
import Derived.Test.YtjpgglajcelllaaDoorEMfTo
import Derived.Test.YtjpgglajcelllaaDoorEMfSame
import Derived.Lib.QuietBelow
set_option maxRecDepth 100000
namespace Go.Proofs.YtjpgglajcelllaaDoor
open Go.RowKit Go.Sort
namespace Mf
open Bit Dsk Ob Dig
set_option linter.unusedVariables false
theorem newGet (w : World) (d : Nat) (os : Array Go.Obj) : New0 w (grow (redrawn w d) os) := newOf (below_regrown w d os)
theorem view_at {w : World} {S : Nat → Prop} {a : Option Addr} {n c : Nat} {m : M} (h : NView w S (.slice a n c) m.blocks) : n = m.blocks.length := by
  obtain ⟨A, c', h1, -⟩ := Rw.View.shape h
  simp only [Value.slice.injEq] at h1
  exact h1.2.1
theorem belowC {P : Program} {f : FuncId} {args : Array Value} {w : World} {Q : Ending → Prop} (h : Calls P f args w fun e w' => Q e ∧ New0 w w') : Calls P f args w fun e w' => Q e ∧ Below w.heap.size w w' := h.mono fun e w' ⟨h1, h2⟩ => ⟨h1, belowOf h2⟩
end Mf
end Go.Proofs.YtjpgglajcelllaaDoor
