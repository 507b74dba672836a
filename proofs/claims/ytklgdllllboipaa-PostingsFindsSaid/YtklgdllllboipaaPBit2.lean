/- Parts, put together: BitRef, BitRefT, BitWrites, BitRefR, BitRefG, BitReads. -/
import Derived.Test.YtklgdllllboipaaPBit1
import Derived.Deep.AppendLies
import Derived.Deep.RegionLaw
import Derived.Lib.QuietBelow
set_option maxRecDepth 100000

/- The document's own writer of bits (layer 6) in memory as plain data, and what each of its calls does. -/
section
namespace Go.Proofs.Ytklgdllllboipaa
open Go.RowKit
namespace Bit
open Dsk Ob
set_option linter.unusedVariables false

/-- A row of yes and no. -/
abbrev boolCells (L : List Bool) : List Value := L.map Value.bool
structure RwM (T : TypeId) (w : World) (S : Nat → Prop) (q : Nat) (L : List Bool) (v : Value) : Prop where
  cell : w.heap[q]? = some (.cells #[v] T (0, 0))
  row : w.ownsRow 0 4 1 v L.length (boolCells L)
  s_q : S q
  s_v : ∀ b, v.ownBlock = some b → S b
  lt : ∀ b, S b → b < w.heap.size
theorem infoBool : (Try.prog.info? 4).map (fun i => (i.zero, i.size, i.bytes)) = some (some (.bool false), 1, 1) := by kernel_rfl
theorem ne_of_bool {T : TypeId} (hT : T ≠ 4) {w : World} {q g : Nat} {c d : Array Value} {f k : Nat × Nat} (h1 : w.heap[q]? = some (.cells c T f)) (h2 : w.heap[g]? = some (.cells d 4 k)) : g ≠ q := by
  rintro rfl
  rw [h1] at h2
  simp at h2
  exact hT h2.2.1
theorem own_block_of {w : World} {e : TypeId} {v : Value} {n : Nat} {xs : List Value} {g : Nat} (h : w.ownsRow 0 e 1 v n xs) (hg : v.ownBlock = some g) : ∃ c, w.heap[g]? = some (.cells c e (0, 0)) := by
  rcases h.2 with ⟨hv, _⟩ | ⟨g', cap', cur, hv, _, hgg, _⟩
  · rw [hv] at hg; cases hg
  · rw [hv] at hg; cases hg; exact ⟨_, hgg⟩
/-- One bit more: append, and the store into the field. -/
theorem RwM.more {T : TypeId} (hT : T ≠ 4) {w w' : World} {S : Nat → Prop} {q g cap : Nat} {L : List Bool} {v : Value} {o : Obj} {b : Bool} (h : RwM T w S q L v)
    (hown : w'.ownsRow 0 4 1 (.slice (some ⟨g, 0, none⟩) (L.length + 1) cap) (L.length + 1) (boolCells L ++ [.bool b])) (hg : (w.alloc o).grownBy w' v.ownBlock) (hS : v.ownBlock = some g ∨ g = w.heap.size + 1) :
    w'.heap[q]? = some (.cells #[v] T (0, 0)) ∧ ∀ w2, w2 = w'.setCell ⟨q, 0, none⟩ (.slice (some ⟨g, 0, none⟩) (L.length + 1) cap) → ObjStep (fun w S => ∃ v, RwM T w S q (L ++ [b]) v) S w w2 := by
  have hvq : some q ≠ v.ownBlock := by
    intro e3
    obtain ⟨c, hc⟩ := own_block_of h.row e3.symm
    exact ne_of_bool hT h.cell hc rfl
  have hql : q < w.heap.size := h.lt q h.s_q
  have hq : w'.heap[q]? = some (.cells #[v] T (0, 0)) := by
    rw [hg.block q (by simp; omega) hvq, Below.heap_alloc _ _ _ hql]; exact h.cell
  obtain ⟨c, hgc⟩ := own_block_of hown rfl
  have hgq : g ≠ q := ne_of_bool hT hq hgc
  have hgl : g < w'.heap.size := (Array.getElem?_eq_some_iff.1 hgc).1
  have hws : w.heap.size ≤ w'.heap.size := by have := hg.size; simp at this; omega
  have hSn : S g ∨ w.heap.size ≤ g := hS.elim (fun e => .inl (h.s_v g e)) (fun e => .inr (by omega))
  refine ⟨hq, fun w2 e2 => ?_⟩
  subst e2
  refine ⟨⟨fun x => S x ∨ x = g, ⟨.slice (some ⟨g, 0, none⟩) (L.length + 1) cap, ?_, ?_, .inl h.s_q, ?_, ?_⟩, fun x hx => .inl hx, fun x hx => ?_⟩, ?_⟩
  · simp [World.setCell, Array.getElem?_modify, hq]
  · rw [show (L ++ [b]).length = L.length + 1 from List.length_append, show boolCells (L ++ [b]) = boolCells L ++ [.bool b] by simp [boolCells]]
    exact ownsRow_kept hown fun x hx => Below.heap_setCell _ _ _ _ fun e3 => hgq ((Option.some.inj hx).trans e3)
  · intro x hx; exact .inr (Option.some.inj hx).symm
  · intro x hx
    have : (w'.setCell ⟨q, 0, none⟩ (.slice (some ⟨g, 0, none⟩) (L.length + 1) cap)).heap.size = w'.heap.size := by simp [World.setCell]
    rw [this]
    rcases hx with h2 | h2
    · exact Nat.lt_of_lt_of_le (h.lt x h2) hws
    · rw [h2]; exact hgl
  · rcases hx with h2 | h2
    · exact .inl h2
    · rw [h2]; exact hSn
  · exact (((Upon.refl S w).alloc o).grown hg (fun k hk => .inl (h.s_v k hk))).setCell (p := ⟨q, 0, none⟩) (.inl h.s_q) _
theorem step_of_drew {I : Rel} {S : Nat → Prop} {w w' : World} (h : ObjStep I S w.drew w') : ObjStep I S w w' := ⟨h.obj, ⟨h.upon.os, h.upon.tape, h.upon.output, h.upon.size, h.upon.block⟩⟩
theorem bit_eq (v j : Nat) : ((((v : Int) / 2 ^ j).tmod 2) == 1) = v.testBit j := by
  rw [Int.tmod_eq_emod_of_nonneg (Int.ediv_nonneg (Int.natCast_nonneg _) (Int.le_of_lt (Int.pow_pos (by decide))))]
  rw [Nat.testBit_eq_decide_div_mod_eq]
  have e : ((v : Int) / 2 ^ j % 2) = ((v / 2 ^ j % 2 : Nat) : Int) := by rw [Int.natCast_emod, Int.natCast_ediv, Int.natCast_pow]; rfl
  rw [e]
  by_cases h : v / 2 ^ j % 2 = 1
  · rw [h]; rfl
  · rw [decide_eq_false h, beq_eq_false_iff_ne]; omega

end Bit
end Go.Proofs.Ytklgdllllboipaa
end

/- The document's own writer of bits: its text. -/
section
namespace Go.Proofs.Ytklgdllllboipaa
open Go.RowKit
namespace Bit
open Dsk Ob
set_option linter.unusedVariables false

theorem pk_nil (j : Nat) : pk [] j = 0 := by unfold pk; rw [chunk_behind [] j (by simp)]; simp [numOf]
theorem packTo_nil (m : Nat) : Lib.byteCells (packTo m []) = List.replicate m (.int .u8 0) := by
  unfold packTo Lib.byteCells
  apply List.ext_getElem
  · simp
  · intro i h1 h2
    simp [pk_nil]
theorem packTo_false (m : Nat) (L : List Bool) : packTo m (L ++ [false]) = packTo m L := by
  unfold packTo
  apply List.map_congr_left
  intro j _
  by_cases h : j = L.length / 8
  · subst h; rw [pk_at]; simp
  · rw [pk_other L false j h]
theorem div_pow (k : Nat) (h : k < 8) : (128 : Nat) / 2 ^ k = 2 ^ (7 - k) := by
  have e : (128 : Nat) = 2 ^ (7 - k) * 2 ^ k := by rw [← Nat.pow_add, show 7 - k + k = 7 by omega]
  rw [e, Nat.mul_div_cancel _ (Nat.two_pow_pos k)]
theorem add_bit (L : List Bool) : IntKind.u8.wrap (((pk L (L.length / 8) : Nat) : Int) + 128 / 2 ^ (L.length % 8)) = ((pk L (L.length / 8) + true.toNat * 2 ^ (7 - L.length % 8) : Nat) : Int) := by
  have h8 : L.length % 8 < 8 := Nat.mod_lt _ (by decide)
  have e1 : (128 : Int) / 2 ^ (L.length % 8) = ((2 ^ (7 - L.length % 8) : Nat) : Int) := by
    rw [← div_pow _ h8]; rw [Int.natCast_ediv, Int.natCast_pow]; rfl
  have h := pk_lt (L ++ [true]) (L.length / 8)
  rw [pk_at] at h
  have e2 : true.toNat * 2 ^ (7 - L.length % 8) = 2 ^ (7 - L.length % 8) := by simp
  rw [e1, e2]
  rw [e2] at h
  generalize 2 ^ (7 - L.length % 8) = p at *
  rw [IntKind.wrap_u8]
  omega

end Bit
end Go.Proofs.Ytklgdllllboipaa
end

/- BitsWrites, walked: whatever bits are written, how many and the text are what the document says. -/
section
namespace Go.Proofs.Ytklgdllllboipaa
open Go.RowKit Go.Sort
namespace Bit
open Dsk Ob Arg
set_option linter.unusedVariables false

theorem Own.calm {I : Rel} (hI : Thing I) {w0 w : World} (h : Own I w0 w) (d : Nat) (os : Array Go.Obj) : Own I w0 (grow (redrawn w d) os) := Own.upon0 hI h (Upon.of_below (below_regrown w d os) _)
theorem below_refl' (w : World) : Below w.heap.size w w := Below.refl _ _
def wrL (ps : List (Int × Int)) : List Bool := ps.flatMap fun p => bitsOf p.1.toNat (cnt p.2)
theorem cnt_le (n : Int) : cnt n ≤ 64 := by unfold cnt; omega
theorem wrL_snoc (ps : List (Int × Int)) (k : Nat) (h : k < ps.length) : wrL (ps.take (k + 1)) = wrL (ps.take k) ++ bitsOf ps[k].1.toNat (cnt ps[k].2) := by
  rw [List.take_succ_eq_append_getElem h]
  unfold wrL
  rw [List.flatMap_append]
  simp
theorem wrL_le (ps : List (Int × Int)) (k : Nat) : (wrL (ps.take k)).length ≤ 64 * k := by
  induction k with
  | zero => simp [wrL]
  | succ k ih =>
    by_cases h : k < ps.length
    · rw [wrL_snoc ps k h, List.length_append, bitsOf_length]
      have := cnt_le ps[k].2
      omega
    · rw [List.take_of_length_le (by omega)] at ih ⊢
      omega

end Bit
end Go.Proofs.Ytklgdllllboipaa
end

/- The document's own reader of bits (layer 6): NewReader. -/
section
namespace Go.Proofs.Ytklgdllllboipaa
open Go.RowKit
namespace Bit
open Dsk Ob
set_option linter.unusedVariables false

theorem bit_eq8 (s : ByteArray) (k : Nat) (h : k / 8 < s.size) : ((((s[k / 8]).toNat : Int) / 2 ^ (7 - k % 8)).tmod 2 == 1) = bitAt s.data.toList k := by
  rw [bit_eq]
  unfold bitAt
  rw [Nat.testBit_eq_decide_div_mod_eq, List.getD_eq_getElem?_getD, List.getElem?_eq_getElem (by simpa using h)]
  rfl
end Bit
end Go.Proofs.Ytklgdllllboipaa
end

/- The document's own reader of bits (layer 6): Get. -/
section
namespace Go.Proofs.Ytklgdllllboipaa
open Go.RowKit
namespace Bit
open Dsk Ob
set_option linter.unusedVariables false

/-- A row of bits behind a view: its cells, and its block among S. -/
def ViewAt (w : World) (S : Nat → Prop) (v : Value) (K : List Bool) : Prop :=
  (v = .slice none 0 0 ∧ K = []) ∨ ∃ g off cap, v = .slice (some ⟨g, off, none⟩) K.length cap ∧ K.length ≤ cap ∧ cap < 9223372036854775808 ∧ S g ∧ ∀ i (h : i < K.length), w.cell? ⟨g, off + i, none⟩ = some (.bool K[i])
theorem ViewAt.kept {w w' : World} {S : Nat → Prop} {v : Value} {K : List Bool} (h : ViewAt w S v K) (hk : ∀ b, S b → w'.heap[b]? = w.heap[b]?) : ViewAt w' S v K := by
  rcases h with h | ⟨g, off, cap, h1, h2, hc, h3, h4⟩
  · exact .inl h
  · exact .inr ⟨g, off, cap, h1, h2, hc, h3, fun i hi => (World.cell?_of_block (hk g h3)).trans (h4 i hi)⟩


theorem numOf_step (K : List Bool) (k : Nat) (h : k < K.length) : numOf (K.take (k + 1)) = 2 * numOf (K.take k) + (K[k]).toNat := by
  rw [List.take_succ_eq_append_getElem h, numOf_snoc]
theorem numOf_small (K : List Bool) (k : Nat) (h : k < 64) : numOf (K.take k) < 9223372036854775808 := by
  have h1 := numOf_lt (K.take k)
  have h2 : 2 ^ (K.take k).length ≤ 2 ^ 63 := Nat.pow_le_pow_right (by decide) (by rw [List.length_take]; omega)
  omega

end Bit
end Go.Proofs.Ytklgdllllboipaa
end

/- BitsReads, walked: whatever is read of any text, bits by bits, is what the document says. -/
section
namespace Go.Proofs.Ytklgdllllboipaa
open Go.RowKit Go.Sort
namespace Bit
open Dsk Ob Arg
set_option linter.unusedVariables false

/-- Are so many bits read, of so many that are left? -/
def rdOk (d : Nat) (n : Int) : Bool := decide (0 ≤ n ∧ n ≤ 64 ∧ n ≤ (d : Int))
def rdN (d : Nat) (n : Int) : Nat := if rdOk d n then n.toNat else 0
def rdV (s : List UInt8) (a e : Nat) (n : Int) : Nat := numOf (bitsAt s a (rdN (e - a) n))
theorem rdN_le (d : Nat) (n : Int) : rdN d n ≤ d := by
  unfold rdN rdOk
  split
  · rename_i h; have := of_decide_eq_true h; omega
  · omega
theorem bitsAt_take (s : List UInt8) (a d m : Nat) (h : m ≤ d) : (bitsAt s a d).take m = bitsAt s a m := by
  obtain ⟨r, rfl⟩ := Nat.exists_eq_add_of_le h
  rw [bitsAt_add, List.take_left' (bitsAt_length _ _ _)]
theorem bitsAt_drop (s : List UInt8) (a d m : Nat) (h : m ≤ d) : (bitsAt s a d).drop m = bitsAt s (a + m) (d - m) := by
  obtain ⟨r, rfl⟩ := Nat.exists_eq_add_of_le h
  rw [bitsAt_add, List.drop_left' (bitsAt_length _ _ _), Nat.add_sub_cancel_left]

theorem open_ints3 {H : Type} {enc : TypeId × Value → H} {W : World} {base : Nat} {v : Value} {d : DataW H} {p : List MemPlace} (hv : Value.okWide Try.prog W .any base 22 v)
    (h : DataW.Trod enc Try.prog W 0 (fun _ => true) true 22 v d p) : IsNums .i64 v W :=
  open_nums Try.underlying22 Try.underlying3 (by kernel_rfl) hv h
end Bit
end Go.Proofs.Ytklgdllllboipaa
end
