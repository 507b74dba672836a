/- Layer 13: the law HeadHistory. -/
import Derived.Test.YtfheehlfodoimaaGreatHdLaw2
import Derived.Deep.RegionHeld3
set_option maxRecDepth 100000
namespace Go.Proofs.YtfheehlfodoimaaGreat
open Go.RowKit Go.Sort
namespace Hd
open Bit Dsk Ob Dig
set_option linter.unusedVariables false
set_option linter.unusedSimpArgs false

theorem ph_new {p : Nat} {g : H} {w w' : World} {S : Nat → Prop} (h : IsPH p g w S) (hu : New0 w w') : IsPH p g w' S := (thingPH p g).kept w w' S h (fun b hb => hu.block b ((thingPH p g).lt w S h b hb) (fun f => f)) hu.size
/-- A query in a box. -/
def AskB (g : Nat) (m : Value) (a b : Int) (w : World) : Prop := w.cell? ⟨g, 0, none⟩ = some m ∧ w.cell? ⟨g, 1, none⟩ = some (.int .i64 a) ∧ w.cell? ⟨g, 2, none⟩ = some (.int .i64 b)
theorem AskB.new {g : Nat} {m : Value} {a b : Int} {w w' : World} (h : AskB g m a b w) (hu : New0 w w') : AskB g m a b w' := ⟨Lb.New0.cells hu h.1, Lb.New0.cells hu h.2.1, Lb.New0.cells hu h.2.2⟩
theorem askB (w : World) (m : Value) (a b : Int) : AskB w.heap.size m a b (w.alloc (.cells #[m, .int .i64 a, .int .i64 b] 44 (0, 0))) := by
  have h := cell_new w (.cells #[m, .int .i64 a, .int .i64 b] 44 (0, 0))
  exact ⟨by rw [Lib.cell_of_heap h]; rfl, by rw [Lib.cell_of_heap h]; rfl, by rw [Lib.cell_of_heap h]; rfl⟩
theorem upBel {w w' : World} (hu : New0 w w') : Below w.heap.size w w' := below_of_upon (Below.refl _ _) hu
end Hd
end Go.Proofs.YtfheehlfodoimaaGreat
