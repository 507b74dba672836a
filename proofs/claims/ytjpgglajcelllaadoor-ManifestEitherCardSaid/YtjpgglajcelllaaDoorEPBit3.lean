/- Parts, put together: BitK, BitRow. -/
import Derived.Test.YtjpgglajcelllaaDoorEPBit2
import Derived.Test.YtjpgglajcelllaaDoorEPObj
import Derived.Lib.QuietBelow
import Derived.StillTailTactics

/- The program's reader of bits as a row of bits that are left. -/
section
set_option maxRecDepth 100000
namespace Go.Proofs.YtjpgglajcelllaaDoor
open Go.RowKit Go.Sort
namespace Bit
open Dsk Ob
set_option linter.unusedVariables false
end Bit
end Go.Proofs.YtjpgglajcelllaaDoor
end
/- Rows of bits of a call's own; what a call leaves alone beside an object; a local struct of two cells beside an object. -/
section
set_option maxRecDepth 100000
namespace Go.Proofs.YtjpgglajcelllaaDoor
open Go.RowKit Go.Sort
namespace Bit
open Dsk Ob
set_option linter.unusedVariables false
/-- A step that may drop blocks. -/
structure Fall (I : Ob.Rel) (S : Nat → Prop) (w w' : World) : Prop where
  obj : ∃ S', I w' S' ∧ ∀ b, S' b → S b ∨ w.heap.size ≤ b
  upon : Upon S w w'
theorem Fall.of {I J : Ob.Rel} {S : Nat → Prop} {w w' : World} (h : ObjStep I S w w') (k : ∀ S', I w' S' → ∃ S'', J w' S'' ∧ ∀ b, S'' b → S' b) : Fall J S w w' := by
  obtain ⟨⟨S', h1, h2, h3⟩, hu⟩ := h
  obtain ⟨S'', k1, k2⟩ := k S' h1
  exact ⟨⟨S'', k1, fun b hb => h3 b (k2 b hb)⟩, hu⟩
theorem Fall.step {I : Ob.Rel} {S : Nat → Prop} {w w' : World} (h : ObjStep I S w w') : Fall I S w w' := Fall.of h fun S' h => ⟨S', h, fun _ h => h⟩
theorem Fall.left {I J : Ob.Rel} (hJ : Thing J) {w : World} {S : Nat → Prop} (h : Tens I J w S) : ∃ A, I w A ∧ ∀ (I' : Ob.Rel) (w' : World), Fall I' A w w' → Fall (Tens I' J) S w w' := by
  obtain ⟨A, B, h1, h2, h3, h4⟩ := h
  refine ⟨A, h1, fun I' w' ⟨⟨A', k1, k3⟩, ku⟩ => ⟨⟨fun b => A' b ∨ B b, ⟨A', B, k1, ?_, ?_, fun b => Iff.rfl⟩, ?_⟩, ?_⟩⟩
  · exact hJ.kept w w' B h2 (fun b hb => ku.block b (hJ.lt w B h2 b hb) (fun ha => h3 b ha hb)) ku.size
  · intro b ha hb
    rcases k3 b ha with h | h
    · exact h3 b h hb
    · have := hJ.lt w B h2 b hb; omega
  · intro b hb
    rcases hb with hb | hb
    · exact (k3 b hb).imp (fun h => (h4 b).2 (.inl h)) id
    · exact .inl ((h4 b).2 (.inr hb))
  · exact ku.mono fun b _ hb => (h4 b).2 (.inl hb)
abbrev New0 (w w' : World) : Prop := Upon (fun _ => False) w w'
theorem New0.cell {w w' : World} (h : New0 w w') {b o : Nat} {v : Value} (hc : w.cell? ⟨b, o, none⟩ = some v) : w'.cell? ⟨b, o, none⟩ = some v :=
  ((h.below (Nat.le_refl _) fun _ f => f.elim).cell (p := ⟨b, o, none⟩) (World.block_lt_of_cell? w _ hc)).trans hc
/-- The cells of a new window, whatever is done beside it. -/
structure Boxed (g : Nat) (a b : Value) (w : World) : Prop where
  c0 : w.cell? ⟨g, 0, none⟩ = some a
  c1 : w.cell? ⟨g, 1, none⟩ = some b
  f0 : w.frozen? ⟨g, 0, none⟩ = false
  f1 : w.frozen? ⟨g, 1, none⟩ = false
theorem Boxed.of {g : Nat} {a b : Value} {w : World} {T : TypeId} (h : w.heap[g]? = some (.cells #[a, b] T (0, 0))) : Boxed g a b w :=
  ⟨(cell2 h).1, (cell2 h).2.1, (cell2 h).2.2 0, (cell2 h).2.2 1⟩
theorem World.set_other {w : World} {g : Nat} {o o2 : Nat} {v x : Value} (hne : o2 ≠ o) (h : w.cell? ⟨g, o, none⟩ = some x) : (w.setCell ⟨g, o2, none⟩ v).cell? ⟨g, o, none⟩ = some x :=
  (World.cell?_setCell_other w _ _ _ (by intro e; injection e with _ e2; exact hne (by first | exact e2 | exact e2.symm))).trans h
/-- Both cells are written. -/
theorem Boxed.set {g : Nat} {a b : Value} {w : World} (h : Boxed g a b w) (x y : Value) : (w.setCell ⟨g, 0, none⟩ x).cell? ⟨g, 1, none⟩ = some b ∧ (w.setCell ⟨g, 0, none⟩ x).frozen? ⟨g, 1, none⟩ = false ∧ ((w.setCell ⟨g, 0, none⟩ x).setCell ⟨g, 1, none⟩ y).cell? ⟨g, 0, none⟩ = some x ∧ ((w.setCell ⟨g, 0, none⟩ x).setCell ⟨g, 1, none⟩ y).cell? ⟨g, 1, none⟩ = some y := by
  have h1 : (w.setCell ⟨g, 0, none⟩ x).cell? ⟨g, 1, none⟩ = some b := World.set_other (by decide) h.c1
  refine ⟨h1, ?_, World.set_other (by decide) (World.cell?_setCell_same w _ _ h.c0), World.cell?_setCell_same _ _ _ h1⟩
  exact (World.frozen?_setCell w _ _ _).trans h.f1
theorem belowOf {w w' : World} (h : New0 w w') : Below w.heap.size w w' := h.below (Nat.le_refl _) fun _ f => f.elim
theorem newOf {w w' : World} (h : Below w.heap.size w w') : New0 w w' := Upon.of_below h _
end Bit
end Go.Proofs.YtjpgglajcelllaaDoor
end
