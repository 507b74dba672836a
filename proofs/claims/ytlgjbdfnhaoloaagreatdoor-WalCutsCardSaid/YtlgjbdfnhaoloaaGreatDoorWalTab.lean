/- What the tied condition gives the walks of layer 5: the cells of the laid variables. -/
import Derived.Test.YtlgjbdfnhaoloaaGreatDoorPWal1
import Derived.ProofKit
import Derived.LaidMore
import Derived.Lib.LaidTab
import Derived.Stop.Joined
import Derived.Stop.LaidErr
namespace Go.Proofs.YtlgjbdfnhaoloaaGreatDoor
open Go.ChangeShapes
namespace Wal
def laidL : List (String × DataW Unit) := [("barograph/sum.turns", Rows.laid_barograph_sum_turns), ("math/bits.deBruijn32tab", Rows.laid_math_bits_deBruijn32tab), ("math/bits.deBruijn64tab", Rows.laid_math_bits_deBruijn64tab), ("internal/strconv.uint64pow10", Rows.laid_internal_strconv_uint64pow10), ("strconv.ErrRange", Rows.laid_strconv_ErrRange), ("strconv.ErrSyntax", Rows.laid_strconv_ErrSyntax)]
theorem lt_of_cell {W : World} {b o : Nat} {v : Value} (h : W.cell? ⟨b, o, none⟩ = some v) : b < W.heap.size := World.block_lt_of_cell? W _ h
theorem starE : "*" ++ "errors.errorString" = "*errors.errorString" := by decide
theorem one_name (u : TypeId) (h : Tryz.prog.typeName? 3 u = some "*errors.errorString") : u = 159 :=
  typeName_ptr_named (nm := "errors.errorString") (by rw [starE]; kernel_rfl) (by kernel_rfl) (by decide) u (by rw [starE]; exact h)
theorem tab_of_laid {W : World} (h : laidMetH Tryz.prog laidL W) : Env W.heap.size W := by
  rw [MakeChecks.laidMetH_plain _ _ _ (by kernel_rfl)] at h
  have hg : Tryz.prog.globalNamed "barograph/sum.turns" = some 0 := by kernel_rfl
  have hT : Lib.TabIs Tryz.prog W "barograph/sum.turns" .u32 [0, 2197175160] :=
    Lib.tabIs_of_head (t := 131) (e := 88) (n := 2) hg (by kernel_rfl) (by kernel_rfl) (by kernel_rfl) (by kernel_rfl) (by kernel_rfl) h
  have h3 := h.tail.tail.tail
  have hgp : Tryz.prog.globalNamed "internal/strconv.uint64pow10" = some 3 := by kernel_rfl
  have hP : Lib.TabIs Tryz.prog W "internal/strconv.uint64pow10" .u64 Lib.pow10Tab :=
    Lib.tabIs_of_head (t := 163) (e := 33) (n := 20) hgp (by kernel_rfl) (by kernel_rfl) (by kernel_rfl) (by kernel_rfl) (by kernel_rfl) h3
  have h4 := h3.tail
  have hgr : Tryz.prog.globalNamed "strconv.ErrRange" = some 2 := by kernel_rfl
  obtain ⟨a, s, hv, -, -, -⟩ := laid_sentinel (ti := 94) (tp := 159) (te := 161) (ts := 9) h4 hgr (by kernel_rfl) Tryz.underlying94 one_name (by kernel_rfl) Tryz.underlying161 rfl rfl (by kernel_rfl) (by kernel_rfl) (by kernel_rfl)
  have h5 := h4.tail
  have hgs : Tryz.prog.globalNamed "strconv.ErrSyntax" = some 1 := by kernel_rfl
  obtain ⟨a2, s2, hv2, -, -, -⟩ := laid_sentinel (ti := 94) (tp := 159) (te := 161) (ts := 9) h5 hgs (by kernel_rfl) Tryz.underlying94 one_name (by kernel_rfl) Tryz.underlying161 rfl rfl (by kernel_rfl) (by kernel_rfl) (by kernel_rfl)
  have c0 := hT.cell hg 0 (by decide)
  have c3 := hP.cell hgp 0 (by decide)
  have cr := World.var?_cell hgr hv 0
  have cs := World.var?_cell hgs hv2 0
  simp at cr cs
  exact ⟨⟨c0, hT.cell hg 1 (by decide), lt_of_cell c0⟩, hP, ⟨_, _, cs⟩, ⟨_, _, cr⟩, lt_of_cell c0, lt_of_cell cs, lt_of_cell cr, lt_of_cell c3, Nat.le_refl _⟩
theorem door_met (os : Os) (args : Array Value) : laidMetH Tryz.prog laidL ((World.doorLaid Tryz.prog 400 os).forCall (fun _ _ => 0) ⟨#[], args, []⟩).memory :=
  laidMetH_of_parts3 (fuel := 8) (laidMet_of_run' 8 (by kernel_rfl) (by kernel_rfl)) (by kernel_rfl) (by kernel_rfl)
end Wal
end Go.Proofs.YtlgjbdfnhaoloaaGreatDoor
