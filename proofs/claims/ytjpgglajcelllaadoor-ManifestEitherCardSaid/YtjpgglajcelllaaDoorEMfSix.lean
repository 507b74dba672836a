/- Six cells in a block (layer 17). Written by wip/tools/mfsix.py. Names no function of the program. -/
import Derived.Test.YtjpgglajcelllaaDoorEMfRow
set_option maxRecDepth 100000
namespace Go.Proofs.YtjpgglajcelllaaDoor
open Go.RowKit
namespace Mf
open Bit Dsk Ob Dig
set_option linter.unusedVariables false
structure Sv where
  a : Value
  b : Value
  c : Value
  d : Value
  e : Value
  f : Value
def Six (T : TypeId) (g : Nat) (v : Sv) (w : World) : Prop := w.heap[g]? = some (.cells #[v.a, v.b, v.c, v.d, v.e, v.f] T (0, 0))
section
variable {T : TypeId} {g : Nat} {v : Sv} {w w' : World}
theorem Six.cells (h : Six T g v w) : w.cell? ⟨g, 0, none⟩ = some v.a ∧ w.cell? ⟨g, 1, none⟩ = some v.b ∧ w.cell? ⟨g, 2, none⟩ = some v.c ∧ w.cell? ⟨g, 3, none⟩ = some v.d ∧ w.cell? ⟨g, 4, none⟩ = some v.e ∧ w.cell? ⟨g, 5, none⟩ = some v.f :=
  ⟨by rw [Lib.cell_of_heap h]; rfl, by rw [Lib.cell_of_heap h]; rfl, by rw [Lib.cell_of_heap h]; rfl, by rw [Lib.cell_of_heap h]; rfl, by rw [Lib.cell_of_heap h]; rfl, by rw [Lib.cell_of_heap h]; rfl⟩
theorem Six.frozen (h : Six T g v w) (i : Nat) : w.frozen? ⟨g, i, none⟩ = false := by
  unfold Six at h
  simp [World.frozen?, h]
theorem Six.lt (h : Six T g v w) : g < w.heap.size := (Array.getElem?_eq_some_iff.1 h).1
theorem Six.new (h : Six T g v w) (hu : New0 w w') : Six T g v w' := (hu.block g h.lt fun f => f).trans h
theorem Six.upon {U : Nat → Prop} (h : Six T g v w) (hu : Upon U w w') (hn : ¬ U g) : Six T g v w' := (hu.block g h.lt hn).trans h
theorem Six.grown {row : Option Nat} (h : Six T g v w) (hg : w.grownBy w' row) (hn : row ≠ some g) : Six T g v w' := (hg.block g h.lt (fun e => hn e.symm)).trans h
theorem Six.set0 (h : Six T g v w) (x : Value) : Six T g { v with a := x } (w.setCell ⟨g, 0, none⟩ x) := by unfold Six at *; simp [World.setCell, Array.getElem?_modify, h]
theorem Six.set1 (h : Six T g v w) (x : Value) : Six T g { v with b := x } (w.setCell ⟨g, 1, none⟩ x) := by unfold Six at *; simp [World.setCell, Array.getElem?_modify, h]
theorem Six.set2 (h : Six T g v w) (x : Value) : Six T g { v with c := x } (w.setCell ⟨g, 2, none⟩ x) := by unfold Six at *; simp [World.setCell, Array.getElem?_modify, h]
theorem Six.set3 (h : Six T g v w) (x : Value) : Six T g { v with d := x } (w.setCell ⟨g, 3, none⟩ x) := by unfold Six at *; simp [World.setCell, Array.getElem?_modify, h]
theorem Six.set4 (h : Six T g v w) (x : Value) : Six T g { v with e := x } (w.setCell ⟨g, 4, none⟩ x) := by unfold Six at *; simp [World.setCell, Array.getElem?_modify, h]
theorem Six.set5 (h : Six T g v w) (x : Value) : Six T g { v with f := x } (w.setCell ⟨g, 5, none⟩ x) := by unfold Six at *; simp [World.setCell, Array.getElem?_modify, h]
/-- All six, written one after the other. -/
def setSix (g : Nat) (v : Sv) (w : World) : World := (((((w.setCell ⟨g, 0, none⟩ v.a).setCell ⟨g, 1, none⟩ v.b).setCell ⟨g, 2, none⟩ v.c).setCell ⟨g, 3, none⟩ v.d).setCell ⟨g, 4, none⟩ v.e).setCell ⟨g, 5, none⟩ v.f
theorem Six.setAll (h : Six T g v w) (x : Sv) : Six T g x (setSix g x w) := (((((h.set0 x.a).set1 x.b).set2 x.c).set3 x.d).set4 x.e).set5 x.f
/-- What a walk that writes all six asks. -/
theorem Six.roads (h : Six T g v w) (x : Sv) :
    ((w.setCell ⟨g, 0, none⟩ x.a).cell? ⟨g, 1, none⟩ = some v.b ∧ (w.setCell ⟨g, 0, none⟩ x.a).frozen? ⟨g, 1, none⟩ = false) ∧
    (((w.setCell ⟨g, 0, none⟩ x.a).setCell ⟨g, 1, none⟩ x.b).cell? ⟨g, 2, none⟩ = some v.c ∧ ((w.setCell ⟨g, 0, none⟩ x.a).setCell ⟨g, 1, none⟩ x.b).frozen? ⟨g, 2, none⟩ = false) ∧
    ((((w.setCell ⟨g, 0, none⟩ x.a).setCell ⟨g, 1, none⟩ x.b).setCell ⟨g, 2, none⟩ x.c).cell? ⟨g, 3, none⟩ = some v.d ∧ (((w.setCell ⟨g, 0, none⟩ x.a).setCell ⟨g, 1, none⟩ x.b).setCell ⟨g, 2, none⟩ x.c).frozen? ⟨g, 3, none⟩ = false) ∧
    (((((w.setCell ⟨g, 0, none⟩ x.a).setCell ⟨g, 1, none⟩ x.b).setCell ⟨g, 2, none⟩ x.c).setCell ⟨g, 3, none⟩ x.d).cell? ⟨g, 4, none⟩ = some v.e ∧ ((((w.setCell ⟨g, 0, none⟩ x.a).setCell ⟨g, 1, none⟩ x.b).setCell ⟨g, 2, none⟩ x.c).setCell ⟨g, 3, none⟩ x.d).frozen? ⟨g, 4, none⟩ = false) ∧
    ((((((w.setCell ⟨g, 0, none⟩ x.a).setCell ⟨g, 1, none⟩ x.b).setCell ⟨g, 2, none⟩ x.c).setCell ⟨g, 3, none⟩ x.d).setCell ⟨g, 4, none⟩ x.e).cell? ⟨g, 5, none⟩ = some v.f ∧ (((((w.setCell ⟨g, 0, none⟩ x.a).setCell ⟨g, 1, none⟩ x.b).setCell ⟨g, 2, none⟩ x.c).setCell ⟨g, 3, none⟩ x.d).setCell ⟨g, 4, none⟩ x.e).frozen? ⟨g, 5, none⟩ = false) := by
  have h1 := h.set0 x.a
  have h2 := h1.set1 x.b
  have h3 := h2.set2 x.c
  have h4 := h3.set3 x.d
  have h5 := h4.set4 x.e
  exact ⟨⟨h1.cells.2.1, h1.frozen 1⟩, ⟨h2.cells.2.2.1, h2.frozen 2⟩, ⟨h3.cells.2.2.2.1, h3.frozen 3⟩, ⟨h4.cells.2.2.2.2.1, h4.frozen 4⟩, ⟨h5.cells.2.2.2.2.2, h5.frozen 5⟩⟩
theorem upon_setSix {S : Nat → Prop} {w0 : World} (h : Upon S w0 w) (hg : S g ∨ w0.heap.size ≤ g) : Upon S w0 (setSix g v w) :=
  Upon.setCell (p := ⟨g, 5, none⟩) (Upon.setCell (p := ⟨g, 4, none⟩) (Upon.setCell (p := ⟨g, 3, none⟩) (Upon.setCell (p := ⟨g, 2, none⟩) (Upon.setCell (p := ⟨g, 1, none⟩) (Upon.setCell (p := ⟨g, 0, none⟩) (h) hg _) hg _) hg _) hg _) hg _) hg _
theorem six_new (T : TypeId) (w : World) (v : Sv) : Six T w.heap.size v (w.alloc (.cells #[v.a, v.b, v.c, v.d, v.e, v.f] T (0, 0))) := cell_new w _
end
/-- What is there ahead of a result. -/
def svZ : Sv := ⟨.int .i64 0, .int .i64 0, .int .i64 0, .int .i64 0, .int .i64 0, .slice none 0 0⟩
end Mf
end Go.Proofs.YtjpgglajcelllaaDoor
