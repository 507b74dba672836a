/- What the two laid tables give the walks of layer 9; a row of points among the arguments. -/
import Derived.Test.YtadlkfdjdjaakaaDoorCkRef2
import Derived.Test.YtadlkfdjdjaakaaDoorPTm2
import Derived.Test.YtadlkfdjdjaakaaDoorPXor2
import Derived.Deep.SlicePairs
import Derived.Stop.LaidErr
set_option maxRecDepth 100000
namespace Go.Proofs.YtadlkfdjdjaakaaDoor
open Go.RowKit Go.ChangeShapes Go.WideShapes
namespace Ck
open Bit Dsk Ob Dig
set_option linter.unusedVariables false

/-- Both tables. -/
structure Tab (w : World) : Prop where
  t : Tm.Tab w
  v : Xr.Tab w
theorem Tab.new {w w' : World} (h : Tab w) (hu : New0 w w') : Tab w' := ⟨h.t.upon hu fun f => f, h.v.upon hu fun f => f⟩
/-- A row of points that came in. -/
def IsPts (v : Value) (w : World) : Prop := ∃ l, View w All v l ∧ ∀ p ∈ l, PtIn p
theorem open_points {H : Type} {enc : TypeId × Value → H} {W : World} {base : Nat} {v : Value} {d : DataW H} {p : List MemPlace}
    (hv : Value.okWide Tryd.prog W .any base 22 v) (h : DataW.Trod enc Tryd.prog W 0 (fun _ => true) true 22 v d p) : IsPts v W := by
  obtain ⟨a0, len0, cap0, rfl⟩ := okWide_slice Tryd.underlying22 hv
  obtain ⟨fuel, hf⟩ := h
  have hf2 : DataW.trod enc Tryd.prog W 0 (fun _ => true) true fuel 22 [.slice a0 len0 cap0] = some (d, p) := hf
  rcases Go.Deep.open_slice_pairs Tryd.underlying22 Tryd.underlying36 (by kernel_rfl) rfl rfl (by kernel_rfl) (by kernel_rfl) hf2 with ⟨hcs, _⟩ | ⟨a, len, cap, m, n, V0, V1, D0, D1, P0, P1, hcs, hb, hl, hm, hmm, _, hall⟩
  · simp only [List.cons.injEq, Value.slice.injEq, and_true] at hcs
    obtain ⟨rfl, rfl, rfl⟩ := hcs
    exact ⟨[], ⟨none, 0, rfl, Nat.le_refl _, Nat.zero_le _, fun h => absurd h (by simp)⟩, fun p hp => by simp at hp⟩
  · simp only [List.cons.injEq, Value.slice.injEq, and_true] at hcs
    obtain ⟨rfl, rfl, rfl⟩ := hcs
    have hlm : len0 ≤ m := by rw [hmm]; simp; exact hl
    have hfact : ∀ i, i < len0 → ∃ x y : Int, V0 i = .int .i64 x ∧ V1 i = .int .u64 y ∧ (-9223372036854775808 ≤ x ∧ x ≤ 9223372036854775807) ∧ 0 ≤ y ∧ y ≤ 18446744073709551615 := fun i hi => by
      obtain ⟨h0, h1, t0, t1⟩ := hall i (by omega)
      obtain ⟨x, hx, _, hw⟩ := DataW.trod_int Tryd.underlying2 t0
      obtain ⟨y, hy, _, hw1⟩ := DataW.trod_int Tryd.underlying34 t1
      simp only [List.cons.injEq, and_true] at hx hy
      exact ⟨x, y, hx, hy, Arg.wf_i64 hw, Arg.wf_u64 hw1⟩
    have hfs : ((List.range len0).map fun i => ((intOf (V0 i), (intOf (V1 i)).toNat) : Pt)).length = len0 := by simp
    refine ⟨(List.range len0).map fun i => (intOf (V0 i), (intOf (V1 i)).toNat), ⟨some a, cap0, by rw [hfs], by rw [hfs]; exact hl, hm, fun hpos => ?_⟩, fun q hq => ?_⟩
    · rw [hfs] at hpos
      obtain ⟨b, off, spot⟩ := a
      have hspot : spot = none := by
        have := World.cell?_spot (hall 0 (by omega)).1
        simpa [Addr.add] using this
      subst hspot
      refine ⟨b, off, rfl, trivial, fun i hi => ?_⟩
      rw [hfs] at hi
      obtain ⟨h0, h1, -, -⟩ := hall i (by omega)
      obtain ⟨x, y, hx, hy, -, hy0, -⟩ := hfact i hi
      rw [hx] at h0
      rw [hy] at h1
      rw [Arg.addr_plain] at h0 h1
      simp only [List.getElem_map, List.getElem_range, hx, hy, intOf]
      exact ⟨h0, by rw [← Nat.add_assoc] at h1; rw [h1, Int.toNat_of_nonneg hy0]⟩
    · obtain ⟨i, hi, rfl⟩ := List.mem_map.1 hq
      obtain ⟨x, y, hx, hy, hxb, hy0, hy1⟩ := hfact i (List.mem_range.1 hi)
      simp only [hx, hy, intOf]
      exact ⟨hxb, by show y.toNat < _; omega⟩
/-! ### from the card's condition -/
def laidL : List (String × DataW Unit) := [("math/bits.deBruijn64tab", Rows.laid_math_bits_deBruijn64tab), ("barograph/times.spans", Rows.laid_barograph_times_spans)]
theorem tab_of_laid {W : World} (h : laidMetH Tryd.prog laidL W) : Tab W := by
  rw [MakeChecks.laidMetH_plain _ _ _ (by kernel_rfl)] at h
  exact ⟨Tm.tab_of_head h.tail, Xr.tab_of_head h⟩
theorem door_met (os : Os) (args : Array Value) : laidMetH Tryd.prog laidL ((World.doorLaid Tryd.prog 400 os).forCall (fun _ _ => 0) ⟨#[], args, []⟩).memory :=
  laidMetH_of_parts3 (fuel := 8) (laidMet_of_run' 8 (by kernel_rfl) (by kernel_rfl)) (by kernel_rfl) (by kernel_rfl)
end Ck
end Go.Proofs.YtadlkfdjdjaakaaDoor
