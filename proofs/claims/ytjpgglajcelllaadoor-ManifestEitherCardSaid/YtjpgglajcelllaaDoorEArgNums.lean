/- A row of numbers, a row of pairs of numbers among the arguments, opened: each cell holds what was read. Names no function of the program. -/
import Derived.Test.YtjpgglajcelllaaDoorRows
import Derived.Below
import Derived.Deep.SlicePairs
import Derived.SizedLaws
import Derived.ChangeSlices
import Derived.ProofKit
import Derived.OpenShut
import Derived.WalkKit
set_option maxRecDepth 100000
namespace Go.Proofs.YtjpgglajcelllaaDoor
open Go.RowKit Go.ChangeShapes Go.WideShapes
set_option linter.unusedVariables false
namespace Arg
/-- A row of numbers that came in. -/
def NumsAt (k : IntKind) (zs : List Int) (A : Option Addr) (w : World) : Prop :=
  0 < zs.length → ∃ b off, A = some ⟨b, off, none⟩ ∧ b < w.heap.size ∧ ∀ i (h : i < zs.length), w.cell? ⟨b, off + i, none⟩ = some (.int k zs[i]) ∧ (Lit.int k zs[i]).wf = true
/-- A row of pairs of numbers that came in. -/
def PairsAt (k1 k2 : IntKind) (ps : List (Int × Int)) (A : Option Addr) (w : World) : Prop :=
  0 < ps.length → ∃ b off, A = some ⟨b, off, none⟩ ∧ b < w.heap.size ∧ ∀ i (h : i < ps.length), w.cell? ⟨b, off + i * 2, none⟩ = some (.int k1 ps[i].1) ∧ w.cell? ⟨b, off + i * 2 + 1, none⟩ = some (.int k2 ps[i].2) ∧
    (Lit.int k1 ps[i].1).wf = true ∧ (Lit.int k2 ps[i].2).wf = true
theorem NumsAt.below {k : IntKind} {zs : List Int} {A : Option Addr} {w w' : World} (h : NumsAt k zs A w) (hb : Below w.heap.size w w') : NumsAt k zs A w' := fun hp =>
  let ⟨b, off, h1, h2, h3⟩ := h hp
  ⟨b, off, h1, Nat.lt_of_lt_of_le h2 hb.size, fun i hi => ⟨(hb.cell (p := ⟨b, off + i, none⟩) h2).trans (h3 i hi).1, (h3 i hi).2⟩⟩
theorem PairsAt.below {k1 k2 : IntKind} {ps : List (Int × Int)} {A : Option Addr} {w w' : World} (h : PairsAt k1 k2 ps A w) (hb : Below w.heap.size w w') : PairsAt k1 k2 ps A w' := fun hp =>
  let ⟨b, off, h1, h2, h3⟩ := h hp
  ⟨b, off, h1, Nat.lt_of_lt_of_le h2 hb.size, fun i hi => ⟨(hb.cell (p := ⟨b, off + i * 2, none⟩) h2).trans (h3 i hi).1, (hb.cell (p := ⟨b, off + i * 2 + 1, none⟩) h2).trans (h3 i hi).2.1, (h3 i hi).2.2⟩⟩
theorem addr_plain (b off j : Nat) : (⟨b, off, none⟩ : Addr).add j = ⟨b, off + j, none⟩ := by unfold Addr.add; split <;> simp_all
end Arg
end Go.Proofs.YtjpgglajcelllaaDoor
