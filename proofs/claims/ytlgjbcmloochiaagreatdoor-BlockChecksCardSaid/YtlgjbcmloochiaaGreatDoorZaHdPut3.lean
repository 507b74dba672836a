/- The document's head (layer 13): put, walked: the labels are not in. -/
import Derived.Test.YtlgjbcmloochiaaGreatDoorZaPHd2
import Derived.Test.YtlgjbcmloochiaaGreatDoorZaPHeld
set_option maxRecDepth 100000
namespace Go.Proofs.YtlgjbcmloochiaaGreatDoor
open Go.RowKit Go.Sort
open Bit Dsk Ob Dig
namespace Rw
end Rw
namespace Hd
set_option linter.unusedVariables false
set_option linter.unusedSimpArgs false

theorem cell_two (W : World) (a b : Obj) : ((W.alloc a).alloc b).drew.heap[W.heap.size]? = some a ∧ ((W.alloc a).alloc b).drew.heap[W.heap.size + 1]? = some b := by
  have h1 := cell_new (W.alloc a) b
  have h2 : (W.alloc a).heap.size = W.heap.size + 1 := Array.size_push _
  refine ⟨?_, by rw [h2] at h1; exact h1⟩
  have h3 := ((Upon.refl (fun _ => False) (W.alloc a)).alloc b).block W.heap.size (by omega) (fun f => f)
  exact h3.trans (cell_new W a)
end Hd
end Go.Proofs.YtlgjbcmloochiaaGreatDoor
