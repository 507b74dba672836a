/- Parts, put together: BitPure, BitW, BitW2, BitR, BitLaws, BitFill, BitBack. -/
import Derived.Test.YtjpgglajcelllaaDoorRows
import Derived.Laws.BitsLemmas
import Derived.Laws.Bits64
import Derived.IntWalk
import Derived.Test.YtjpgglajcelllaaDoorEPObj
import Derived.WalkKit
import Derived.WalkSpells
import Derived.WalkLawsBesides
import Derived.Handy
import Derived.Below
import Derived.OneCell
import Derived.Lib.Hide
import Derived.Lib.UnsafeStr
import Derived.Lib.Strings
import Derived.RegionTactic
import Derived.BigRegion
import Derived.StillTailTactics
import Derived.Deep.QuietTactic
import Derived.BigQuiet
import Derived.Deep.Cut
import Derived.Deep.DeepCutAuto
import Derived.Outline
import Derived.Deep.AppendLies
import Derived.Laws.IdiomStrings
import Derived.Lib.BufferRead
import Derived.Test.YtjpgglajcelllaaDoorEArgNums
set_option maxRecDepth 100000
/- Bits as plain data (layer 6): a number's lowest bits, a number of bits, bits in bytes and read again. Names no function of the program. -/
section
namespace Go.Proofs.YtjpgglajcelllaaDoor
namespace Bit
/-! ### bits in bytes -/
/-- How many bytes so many bits need. -/
def nb (n : Nat) : Nat := (n + 7) / 8
/-! ### bits of bytes -/
end Bit
end Go.Proofs.YtjpgglajcelllaaDoor
end
/- The writer of bits (layer 6) in memory as plain data, and what each of its calls does. -/
section
namespace Go.Proofs.YtjpgglajcelllaaDoor
open Go.RowKit
namespace Bit
open Dsk Ob
theorem cell2 {w : World} {q : Nat} {a b : Value} {T : TypeId} (h : w.heap[q]? = some (.cells #[a, b] T (0, 0))) :
    w.cell? ⟨q, 0, none⟩ = some a ∧ w.cell? ⟨q, 1, none⟩ = some b ∧ ∀ o, w.frozen? ⟨q, o, none⟩ = false := by
  refine ⟨?_, ?_, fun o => Lib.frozen_of_heap h o⟩ <;> (rw [Lib.cell_of_heap h]; rfl)
/-! ### NewWriter, Len, shift -/
/-! ### putBit -/
end Bit
end Go.Proofs.YtjpgglajcelllaaDoor
end
/- The writer of bits (layer 6): Put and Text. -/
section
namespace Go.Proofs.YtjpgglajcelllaaDoor
open Go.RowKit
namespace Bit
open Dsk Ob
/-- How many bits are written for a count n. -/
def cnt (n : Int) : Nat := (min n 64).toNat
/-! ### Text -/
end Bit
end Go.Proofs.YtjpgglajcelllaaDoor
end
/- The reader of bits (layer 6) in memory as plain data, and what each of its calls does. -/
section
namespace Go.Proofs.YtjpgglajcelllaaDoor
open Go.RowKit
namespace Bit
open Dsk Ob
theorem cell3 {w : World} {q : Nat} {a b c : Value} {T : TypeId} (h : w.heap[q]? = some (.cells #[a, b, c] T (0, 0))) :
    w.cell? ⟨q, 0, none⟩ = some a ∧ w.cell? ⟨q, 1, none⟩ = some b ∧ w.cell? ⟨q, 2, none⟩ = some c ∧ ∀ o, w.frozen? ⟨q, o, none⟩ = false := by
  refine ⟨?_, ?_, ?_, fun o => Lib.frozen_of_heap h o⟩ <;> (rw [Lib.cell_of_heap h]; rfl)
/-! ### NewReader -/
/-! ### Left, getBit -/
/-! The bit. -/
/-! ### Get -/
end Bit
end Go.Proofs.YtjpgglajcelllaaDoor
end
/- The statements' own 'works' of layer 6, and objects that a call has made. -/
section
namespace Go.Proofs.YtjpgglajcelllaaDoor
open Go.RowKit
namespace Bit
open Dsk Ob
end Bit
end Go.Proofs.YtjpgglajcelllaaDoor
end
/- BitsFill, walked: what fills the last byte is 0. -/
section
namespace Go.Proofs.YtjpgglajcelllaaDoor
open Go.RowKit
namespace Bit
open Dsk Ob
set_option linter.unusedVariables false
end Bit
end Go.Proofs.YtjpgglajcelllaaDoor
end
/- BitsBack, walked: numbers that are written are read again. -/
section
namespace Go.Proofs.YtjpgglajcelllaaDoor
open Go.RowKit
namespace Bit
open Dsk Ob Arg
set_option linter.unusedVariables false
end Bit
end Go.Proofs.YtjpgglajcelllaaDoor
end
