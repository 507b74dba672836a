/- What the tied condition gives the walks: the two cells of the table of two numbers. -/
import Derived.Test.YtjpgglajcelllaaDoorEPSum
import Derived.ProofKit
import Derived.LaidMore
import Derived.Lib.LaidTab
import Derived.Stop.Joined
set_option maxRecDepth 100000
namespace Go.Proofs.YtjpgglajcelllaaDoor
namespace Crc
def laidL : List (String × DataW Unit) := [("barograph/sum.turns", Rows.laid_barograph_sum_turns)]
theorem pos_of_cell {W : World} {o : Nat} {v : Value} (h : W.cell? ⟨0, o, none⟩ = some v) : 0 < W.heap.size := by
  rcases Nat.eq_zero_or_pos W.heap.size with h0 | h0
  · have e : W.heap = #[] := Array.size_eq_zero_iff.1 h0
    simp [World.cell?, e] at h
  · exact h0
theorem tab_of_laid {W : World} (h : laidMetH Tryd.prog laidL W) : Tab W := by
  rw [MakeChecks.laidMetH_plain _ _ _ (by kernel_rfl)] at h
  have hg : Tryd.prog.globalNamed "barograph/sum.turns" = some 0 := by kernel_rfl
  have hT : Lib.TabIs Tryd.prog W "barograph/sum.turns" .u32 [0, 2197175160] :=
    Lib.tabIs_of_head (t := 153) (e := 116) (n := 2) hg (by kernel_rfl) (by kernel_rfl) (by kernel_rfl) (by kernel_rfl) (by kernel_rfl) h
  have h0 := hT.cell hg 0 (by decide)
  exact ⟨h0, hT.cell hg 1 (by decide), pos_of_cell h0⟩
theorem door_met (os : Os) (args : Array Value) : laidMetH Tryd.prog laidL ((World.doorLaid Tryd.prog 400 os).forCall (fun _ _ => 0) ⟨#[], args, []⟩).memory :=
  laidMetH_of_parts3 (fuel := 8) (laidMet_of_run' 8 (by kernel_rfl) (by kernel_rfl)) (by kernel_rfl) (by kernel_rfl)
end Crc
end Go.Proofs.YtjpgglajcelllaaDoor
