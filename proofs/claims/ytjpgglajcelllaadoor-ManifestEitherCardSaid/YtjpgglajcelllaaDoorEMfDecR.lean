/- The document's manifests (layer 17): Decode. Written by wip/tools/mfdecr.py. -/
import Derived.Test.YtjpgglajcelllaaDoorEMfRefE
import Derived.Test.YtjpgglajcelllaaDoorEMfGrow
set_option maxRecDepth 100000
namespace Go.Proofs.YtjpgglajcelllaaDoor
open Go.RowKit
namespace Mf
open Bit Dsk Ob Dig
set_option linter.unusedVariables false
set_option linter.unusedSimpArgs false
/-! ### the reader, in its one block -/
section
variable {p : Nat} {s : ByteArray} {e : Nat} {w : World}
end
/-! ### plainly: the document's way -/
/-- What Decode tells. -/
def DecE (w : World) (s : ByteArray) (e : Ending) (w' : World) : Prop := ∃ (m : M) (x : Int) (u : Rw.Sl), e = .returned (.tuple #[mv m u, .int .i64 x]) ∧ Dec s m x ∧ NView w' (Lb.Nw w) u.v m.blocks ∧ Bnd m ∧ New0 w w'
theorem bnd_zero : Bnd zero := ⟨⟨by decide, by decide, by decide, by decide, by decide⟩, fun b hb => by cases hb⟩
theorem DecE.no {w w' : World} {s : ByteArray} (h : Dec s zero 3) (hu : New0 w w') : DecE w s (.returned (.tuple #[.agg #[.int .i64 0, .int .i64 0, .int .i64 0, .int .i64 0, .int .i64 0, .slice none 0 0], .int .i64 3])) w' :=
  ⟨zero, 3, ⟨none, 0, 0⟩, rfl, h, Rw.View.noth _ _ _, bnd_zero, hu⟩
end Mf
end Go.Proofs.YtjpgglajcelllaaDoor
