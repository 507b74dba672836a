/- What the tied condition gives the walks of layer 15: the three laid tables. -/
import Derived.Test.YtlgjbcmloochiaaGreatDoorZaBkEnc2
import Derived.Test.YtlgjbcmloochiaaGreatDoorZaPCk2
import Derived.ProofKit
import Derived.LaidMore
import Derived.Lib.LaidTab
import Derived.Stop.Joined
set_option maxRecDepth 100000
namespace Go.Proofs.YtlgjbcmloochiaaGreatDoor
namespace Bk
def laidL : List (String × DataW Unit) := [("barograph/sum.turns", Rows.laid_barograph_sum_turns), ("math/bits.deBruijn64tab", Rows.laid_math_bits_deBruijn64tab), ("barograph/times.spans", Rows.laid_barograph_times_spans)]
theorem tab_of_laid {W : World} (h : laidMetH Tryz.prog laidL W) : TabA W := by
  rw [MakeChecks.laidMetH_plain _ _ _ (by kernel_rfl)] at h
  have hg : Tryz.prog.globalNamed "barograph/sum.turns" = some 0 := by kernel_rfl
  have hT : Lib.TabIs Tryz.prog W "barograph/sum.turns" .u32 [0, 2197175160] :=
    Lib.tabIs_of_head (t := 279) (e := 98) (n := 2) hg (by kernel_rfl) (by kernel_rfl) (by kernel_rfl) (by kernel_rfl) (by kernel_rfl) h
  have h0 := hT.cell hg 0 (by decide)
  exact ⟨⟨Tm.tab_of_head h.tail.tail, Xr.tab_of_head h.tail⟩, ⟨h0, hT.cell hg 1 (by decide), World.block_lt_of_cell? W _ h0⟩⟩
theorem door_met (os : Os) (args : Array Value) : laidMetH Tryz.prog laidL ((World.doorLaid Tryz.prog 400 os).forCall (fun _ _ => 0) ⟨#[], args, []⟩).memory :=
  laidMetH_of_parts3 (fuel := 8) (laidMet_of_run' 8 (by kernel_rfl) (by kernel_rfl)) (by kernel_rfl) (by kernel_rfl)
end Bk
end Go.Proofs.YtlgjbcmloochiaaGreatDoor
