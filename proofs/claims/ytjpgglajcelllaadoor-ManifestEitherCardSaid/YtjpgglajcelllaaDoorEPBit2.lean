/- Parts, put together: BitRef, BitRefT, BitWrites, BitRefR, BitRefG, BitReads. -/
import Derived.Test.YtjpgglajcelllaaDoorEPBit1
import Derived.Deep.AppendLies
import Derived.Deep.RegionLaw
import Derived.Lib.QuietBelow
set_option maxRecDepth 100000
/- The document's own writer of bits (layer 6) in memory as plain data, and what each of its calls does. -/
section
namespace Go.Proofs.YtjpgglajcelllaaDoor
open Go.RowKit
namespace Bit
open Dsk Ob
set_option linter.unusedVariables false
/-- A row of yes and no. -/
abbrev boolCells (L : List Bool) : List Value := L.map Value.bool
structure RwM (T : TypeId) (w : World) (S : Nat → Prop) (q : Nat) (L : List Bool) (v : Value) : Prop where
  cell : w.heap[q]? = some (.cells #[v] T (0, 0))
  row : w.ownsRow 0 4 1 v L.length (boolCells L)
  s_q : S q
  s_v : ∀ b, v.ownBlock = some b → S b
  lt : ∀ b, S b → b < w.heap.size
theorem ne_of_bool {T : TypeId} (hT : T ≠ 4) {w : World} {q g : Nat} {c d : Array Value} {f k : Nat × Nat} (h1 : w.heap[q]? = some (.cells c T f)) (h2 : w.heap[g]? = some (.cells d 4 k)) : g ≠ q := by
  rintro rfl
  rw [h1] at h2
  simp at h2
  exact hT h2.2.1
theorem own_block_of {w : World} {e : TypeId} {v : Value} {n : Nat} {xs : List Value} {g : Nat} (h : w.ownsRow 0 e 1 v n xs) (hg : v.ownBlock = some g) : ∃ c, w.heap[g]? = some (.cells c e (0, 0)) := by
  rcases h.2 with ⟨hv, _⟩ | ⟨g', cap', cur, hv, _, hgg, _⟩
  · rw [hv] at hg; cases hg
  · rw [hv] at hg; cases hg; exact ⟨_, hgg⟩
/-- One bit more: append, and the store into the field. -/
theorem RwM.more {T : TypeId} (hT : T ≠ 4) {w w' : World} {S : Nat → Prop} {q g cap : Nat} {L : List Bool} {v : Value} {o : Obj} {b : Bool} (h : RwM T w S q L v)
    (hown : w'.ownsRow 0 4 1 (.slice (some ⟨g, 0, none⟩) (L.length + 1) cap) (L.length + 1) (boolCells L ++ [.bool b])) (hg : (w.alloc o).grownBy w' v.ownBlock) (hS : v.ownBlock = some g ∨ g = w.heap.size + 1) :
    w'.heap[q]? = some (.cells #[v] T (0, 0)) ∧ ∀ w2, w2 = w'.setCell ⟨q, 0, none⟩ (.slice (some ⟨g, 0, none⟩) (L.length + 1) cap) → ObjStep (fun w S => ∃ v, RwM T w S q (L ++ [b]) v) S w w2 := by
  have hvq : some q ≠ v.ownBlock := by
    intro e3
    obtain ⟨c, hc⟩ := own_block_of h.row e3.symm
    exact ne_of_bool hT h.cell hc rfl
  have hql : q < w.heap.size := h.lt q h.s_q
  have hq : w'.heap[q]? = some (.cells #[v] T (0, 0)) := by
    rw [hg.block q (by simp; omega) hvq, Below.heap_alloc _ _ _ hql]; exact h.cell
  obtain ⟨c, hgc⟩ := own_block_of hown rfl
  have hgq : g ≠ q := ne_of_bool hT hq hgc
  have hgl : g < w'.heap.size := (Array.getElem?_eq_some_iff.1 hgc).1
  have hws : w.heap.size ≤ w'.heap.size := by have := hg.size; simp at this; omega
  have hSn : S g ∨ w.heap.size ≤ g := hS.elim (fun e => .inl (h.s_v g e)) (fun e => .inr (by omega))
  refine ⟨hq, fun w2 e2 => ?_⟩
  subst e2
  refine ⟨⟨fun x => S x ∨ x = g, ⟨.slice (some ⟨g, 0, none⟩) (L.length + 1) cap, ?_, ?_, .inl h.s_q, ?_, ?_⟩, fun x hx => .inl hx, fun x hx => ?_⟩, ?_⟩
  · simp [World.setCell, Array.getElem?_modify, hq]
  · rw [show (L ++ [b]).length = L.length + 1 from List.length_append, show boolCells (L ++ [b]) = boolCells L ++ [.bool b] by simp [boolCells]]
    exact ownsRow_kept hown fun x hx => Below.heap_setCell _ _ _ _ fun e3 => hgq ((Option.some.inj hx).trans e3)
  · intro x hx; exact .inr (Option.some.inj hx).symm
  · intro x hx
    have : (w'.setCell ⟨q, 0, none⟩ (.slice (some ⟨g, 0, none⟩) (L.length + 1) cap)).heap.size = w'.heap.size := by simp [World.setCell]
    rw [this]
    rcases hx with h2 | h2
    · exact Nat.lt_of_lt_of_le (h.lt x h2) hws
    · rw [h2]; exact hgl
  · rcases hx with h2 | h2
    · exact .inl h2
    · rw [h2]; exact hSn
  · exact (((Upon.refl S w).alloc o).grown hg (fun k hk => .inl (h.s_v k hk))).setCell (p := ⟨q, 0, none⟩) (.inl h.s_q) _
end Bit
end Go.Proofs.YtjpgglajcelllaaDoor
end
/- The document's own writer of bits: its text. -/
section
namespace Go.Proofs.YtjpgglajcelllaaDoor
open Go.RowKit
namespace Bit
open Dsk Ob
set_option linter.unusedVariables false
end Bit
end Go.Proofs.YtjpgglajcelllaaDoor
end
/- BitsWrites, walked: whatever bits are written, how many and the text are what the document says. -/
section
namespace Go.Proofs.YtjpgglajcelllaaDoor
open Go.RowKit Go.Sort
namespace Bit
open Dsk Ob Arg
set_option linter.unusedVariables false
end Bit
end Go.Proofs.YtjpgglajcelllaaDoor
end
/- The document's own reader of bits (layer 6): NewReader. -/
section
namespace Go.Proofs.YtjpgglajcelllaaDoor
open Go.RowKit
namespace Bit
open Dsk Ob
set_option linter.unusedVariables false
end Bit
end Go.Proofs.YtjpgglajcelllaaDoor
end
/- The document's own reader of bits (layer 6): Get. -/
section
namespace Go.Proofs.YtjpgglajcelllaaDoor
open Go.RowKit
namespace Bit
open Dsk Ob
set_option linter.unusedVariables false
/-- A row of bits behind a view: its cells, and its block among S. -/
def ViewAt (w : World) (S : Nat → Prop) (v : Value) (K : List Bool) : Prop :=
  (v = .slice none 0 0 ∧ K = []) ∨ ∃ g off cap, v = .slice (some ⟨g, off, none⟩) K.length cap ∧ K.length ≤ cap ∧ cap < 9223372036854775808 ∧ S g ∧ ∀ i (h : i < K.length), w.cell? ⟨g, off + i, none⟩ = some (.bool K[i])
theorem ViewAt.kept {w w' : World} {S : Nat → Prop} {v : Value} {K : List Bool} (h : ViewAt w S v K) (hk : ∀ b, S b → w'.heap[b]? = w.heap[b]?) : ViewAt w' S v K := by
  rcases h with h | ⟨g, off, cap, h1, h2, hc, h3, h4⟩
  · exact .inl h
  · exact .inr ⟨g, off, cap, h1, h2, hc, h3, fun i hi => (World.cell?_of_block (hk g h3)).trans (h4 i hi)⟩
end Bit
end Go.Proofs.YtjpgglajcelllaaDoor
end
/- BitsReads, walked: whatever is read of any text, bits by bits, is what the document says. -/
section
namespace Go.Proofs.YtjpgglajcelllaaDoor
open Go.RowKit Go.Sort
namespace Bit
open Dsk Ob Arg
set_option linter.unusedVariables false
end Bit
end Go.Proofs.YtjpgglajcelllaaDoor
end
