/- Parts, put together: BitPure, BitW, BitW2, BitR, BitLaws, BitFill, BitBack. -/
import Derived.Test.YtlgjbcmloochiaaGreatDoorRows
import Derived.Laws.BitsLemmas
import Derived.Laws.Bits64
import Derived.IntWalk
import Derived.Test.YtlgjbcmloochiaaGreatDoorZaPObj
import Derived.WalkKit
import Derived.WalkSpells
import Derived.WalkLawsBesides
import Derived.Handy
import Derived.Below
import Derived.OneCell
import Derived.Lib.Hide
import Derived.Lib.UnsafeStr
import Derived.Lib.Strings
import Derived.RegionTactic
import Derived.BigRegion
import Derived.StillTailTactics
import Derived.Deep.QuietTactic
import Derived.BigQuiet
import Derived.Deep.Cut
import Derived.Deep.DeepCutAuto
import Derived.Outline
import Derived.Deep.AppendLies
import Derived.Laws.IdiomStrings
import Derived.Lib.BufferRead
import Derived.Test.YtlgjbcmloochiaaGreatDoorZaArgNums
set_option maxRecDepth 100000

/- Bits as plain data (layer 6): a number's lowest bits, a number of bits, bits in bytes and read again. Names no function of the program. -/
section
namespace Go.Proofs.YtlgjbcmloochiaaGreatDoor
namespace Bit

/-- The lowest n bits of v, the highest of them first. -/
def bitsOf (v : Nat) : Nat → List Bool
  | 0 => []
  | n + 1 => v.testBit n :: bitsOf v n
/-- The number of bits, the highest first. -/
def numOf (l : List Bool) : Nat := l.foldl (fun v b => 2 * v + b.toNat) 0

theorem bitsOf_length (v n : Nat) : (bitsOf v n).length = n := by
  induction n with
  | zero => rfl
  | succ n ih => simp [bitsOf, ih]
theorem numOf_snoc (l : List Bool) (b : Bool) : numOf (l ++ [b]) = 2 * numOf l + b.toNat := by simp [numOf]
theorem numOf_foldl (l : List Bool) (x : Nat) : l.foldl (fun v b => 2 * v + b.toNat) x = x * 2 ^ l.length + numOf l := by
  induction l generalizing x with
  | nil => simp [numOf]
  | cons b l ih =>
    show l.foldl _ (2 * x + b.toNat) = _
    have h2 : numOf (b :: l) = b.toNat * 2 ^ l.length + numOf l := by
      show l.foldl _ (2 * 0 + b.toNat) = _
      rw [ih]; simp
    rw [ih, h2, List.length_cons, Nat.pow_succ, Nat.add_mul]
    have : 2 * x * 2 ^ l.length = x * (2 ^ l.length * 2) := by rw [Nat.mul_comm 2 x, Nat.mul_assoc, Nat.mul_comm 2]
    omega
theorem numOf_append (a b : List Bool) : numOf (a ++ b) = numOf a * 2 ^ b.length + numOf b := by
  unfold numOf
  rw [List.foldl_append, numOf_foldl]; rfl
theorem numOf_cons (b : Bool) (l : List Bool) : numOf (b :: l) = b.toNat * 2 ^ l.length + numOf l := by
  have := numOf_append [b] l
  simpa [numOf] using this
theorem bool_le (b : Bool) : b.toNat ≤ 1 := by cases b <;> decide
theorem numOf_lt (l : List Bool) : numOf l < 2 ^ l.length := by
  induction l with
  | nil => simp [numOf]
  | cons b l ih =>
    rw [numOf_cons, List.length_cons, Nat.pow_succ]
    have := Nat.mul_le_mul_right (2 ^ l.length) (bool_le b)
    omega
theorem testBit_bool (v n : Nat) : (v.testBit n).toNat = v / 2 ^ n % 2 := by
  rw [Nat.testBit_eq_decide_div_mod_eq]
  by_cases h : v / 2 ^ n % 2 = 1
  · rw [h]; simp
  · rw [decide_eq_false h]; simp; omega
theorem numOf_bitsOf (v n : Nat) : numOf (bitsOf v n) = v % 2 ^ n := by
  induction n with
  | zero => simp [bitsOf, numOf, Nat.mod_one]
  | succ n ih =>
    rw [bitsOf, numOf_cons, ih, bitsOf_length, testBit_bool, Nat.pow_succ, Nat.mod_mul]
    rw [Nat.mul_comm, Nat.add_comm]
/-- Bit i of the number, from the lowest. -/
theorem numOf_testBit (l : List Bool) (i : Nat) (h : i < l.length) : (numOf l).testBit (l.length - 1 - i) = l[i] := by
  induction l generalizing i with
  | nil => simp at h
  | cons b l ih =>
    rw [numOf_cons, Nat.mul_comm]
    have hl := numOf_lt l
    cases i with
    | zero =>
      rw [Nat.testBit_two_pow_mul_add _ hl]
      simp
      cases b <;> simp
    | succ i =>
      have hi : i < l.length := by simpa using h
      rw [Nat.testBit_two_pow_mul_add _ hl]
      have e : (b :: l).length - 1 - (i + 1) = l.length - 1 - i := by simp only [List.length_cons]; omega
      rw [e, if_pos (by omega), ih i hi]
      simp
theorem testBit_mod2 (l : List Bool) (i : Nat) (h : i < l.length) : numOf l / 2 ^ (l.length - 1 - i) % 2 = (l[i]).toNat := by
  rw [← testBit_bool, numOf_testBit l i h]
theorem bitsOf_getElem (v n i : Nat) (h : i < n) : (bitsOf v n)[i]? = some (v.testBit (n - 1 - i)) := by
  induction n generalizing i with
  | zero => omega
  | succ n ih =>
    cases i with
    | zero => simp [bitsOf]
    | succ i =>
      simp only [bitsOf, List.getElem?_cons_succ]
      rw [ih i (by omega)]
      congr 2
      omega
theorem bitsOf_snoc (v n : Nat) (k : Nat) (h : k < n) : (bitsOf v n).take (k + 1) = (bitsOf v n).take k ++ [v.testBit (n - 1 - k)] := by
  rw [List.take_add_one, bitsOf_getElem v n k h]; rfl

/-! ### bits in bytes -/
def chunkAt (L : List Bool) (j : Nat) : List Bool := (L.drop (8 * j)).take 8
/-- Byte j of bits: filled up with noughts. -/
def pk (L : List Bool) (j : Nat) : Nat := numOf (chunkAt L j) * 2 ^ (8 - (chunkAt L j).length)
def packTo (m : Nat) (L : List Bool) : List UInt8 := (List.range m).map fun j => UInt8.ofNat (pk L j)
/-- How many bytes so many bits need. -/
def nb (n : Nat) : Nat := (n + 7) / 8
def pack (L : List Bool) : List UInt8 := packTo (nb L.length) L

theorem chunk_le (L : List Bool) (j : Nat) : (chunkAt L j).length ≤ 8 := List.length_take_le _ _
theorem pk_lt (L : List Bool) (j : Nat) : pk L j < 256 := by
  unfold pk
  have h1 := numOf_lt (chunkAt L j)
  have h2 := chunk_le L j
  have : numOf (chunkAt L j) * 2 ^ (8 - (chunkAt L j).length) < 2 ^ (chunkAt L j).length * 2 ^ (8 - (chunkAt L j).length) := Nat.mul_lt_mul_of_pos_right h1 (Nat.two_pow_pos _)
  rw [← Nat.pow_add] at this
  have e : (chunkAt L j).length + (8 - (chunkAt L j).length) = 8 := by omega
  rw [e] at this
  exact this
theorem packTo_length (m : Nat) (L : List Bool) : (packTo m L).length = m := by simp [packTo]
theorem pack_length (L : List Bool) : (pack L).length = nb L.length := packTo_length _ _
theorem packTo_getD (m : Nat) (L : List Bool) (j : Nat) (h : j < m) : (packTo m L).getD j 0 = UInt8.ofNat (pk L j) := by
  simp [packTo, List.getD_eq_getElem?_getD, List.getElem?_map, List.getElem?_range h]
theorem packTo_byte (m : Nat) (L : List Bool) (j : Nat) (h : j < m) : ((packTo m L).getD j 0).toNat = pk L j := by
  rw [packTo_getD m L j h, UInt8.toNat_ofNat', Nat.mod_eq_of_lt (pk_lt L j)]

theorem chunk_before (L : List Bool) (b : Bool) (j : Nat) (h : 8 * j + 8 ≤ L.length) : chunkAt (L ++ [b]) j = chunkAt L j := by
  unfold chunkAt
  rw [List.drop_append_of_le_length (by omega), List.take_append_of_le_length (by rw [List.length_drop]; omega)]
theorem chunk_behind (L : List Bool) (j : Nat) (h : L.length ≤ 8 * j) : chunkAt L j = [] := by
  unfold chunkAt
  rw [List.drop_of_length_le h]; rfl
theorem chunk_at (L : List Bool) (b : Bool) : chunkAt (L ++ [b]) (L.length / 8) = chunkAt L (L.length / 8) ++ [b] ∧ (chunkAt L (L.length / 8)).length = L.length % 8 := by
  unfold chunkAt
  have h1 : 8 * (L.length / 8) ≤ L.length := by omega
  rw [List.drop_append_of_le_length h1]
  have h2 : (L.drop (8 * (L.length / 8))).length = L.length % 8 := by rw [List.length_drop]; omega
  rw [List.take_of_length_le (l := L.drop (8 * (L.length / 8))) (by omega), List.take_of_length_le (by rw [List.length_append, h2]; simp; omega)]
  exact ⟨rfl, h2⟩
theorem pk_other (L : List Bool) (b : Bool) (j : Nat) (h : j ≠ L.length / 8) : pk (L ++ [b]) j = pk L j := by
  unfold pk
  by_cases hj : 8 * j + 8 ≤ L.length
  · rw [chunk_before L b j hj]
  · rw [chunk_behind (L ++ [b]) j (by rw [List.length_append, List.length_singleton]; omega), chunk_behind L j (by omega)]
theorem pk_at (L : List Bool) (b : Bool) : pk (L ++ [b]) (L.length / 8) = pk L (L.length / 8) + b.toNat * 2 ^ (7 - L.length % 8) := by
  obtain ⟨h1, h2⟩ := chunk_at L b
  unfold pk
  rw [h1, numOf_snoc, List.length_append, h2]
  have h3 : L.length % 8 < 8 := Nat.mod_lt _ (by decide)
  have e1 : 8 - L.length % 8 = (7 - L.length % 8) + 1 := by omega
  have e2 : 8 - (L.length % 8 + [b].length) = 7 - L.length % 8 := by simp
  rw [e1, e2, Nat.pow_succ, Nat.add_mul]
  have : 2 * numOf (chunkAt L (L.length / 8)) * 2 ^ (7 - L.length % 8) = numOf (chunkAt L (L.length / 8)) * (2 ^ (7 - L.length % 8) * 2) := by
    rw [Nat.mul_comm 2, Nat.mul_assoc, Nat.mul_comm 2]
  omega
theorem pk_dvd (L : List Bool) : pk L (L.length / 8) % 2 ^ (8 - L.length % 8) = 0 := by
  obtain ⟨_, h2⟩ := chunk_at L false
  unfold pk
  rw [h2]
  exact Nat.mul_mod_left _ _
theorem pk_new (L : List Bool) (_ : L.length % 8 = 0) : pk L (L.length / 8) = 0 := by
  unfold pk
  rw [chunk_behind L _ (by omega)]
  simp [numOf]

theorem packTo_snoc (m : Nat) (L : List Bool) (b : Bool) (_ : L.length / 8 < m) :
    packTo m (L ++ [b]) = (packTo m L).set (L.length / 8) (UInt8.ofNat (pk L (L.length / 8) + b.toNat * 2 ^ (7 - L.length % 8))) := by
  apply List.ext_getElem?
  intro j
  by_cases hj : j < m
  · by_cases e : j = L.length / 8
    · subst e
      rw [List.getElem?_set_self (by rw [packTo_length]; exact hj)]
      unfold packTo
      rw [List.getElem?_map, List.getElem?_range hj, Option.map_some, pk_at]
    · rw [List.getElem?_set_ne (Ne.symm e)]
      unfold packTo
      rw [List.getElem?_map, List.getElem?_range hj, List.getElem?_map, List.getElem?_range hj, Option.map_some, Option.map_some, pk_other L b j e]
  · rw [List.getElem?_eq_none (by rw [packTo_length]; omega), List.getElem?_eq_none (by rw [List.length_set, packTo_length]; omega)]
theorem nb_snoc (n : Nat) : nb (n + 1) = if n % 8 = 0 then nb n + 1 else nb n := by
  unfold nb
  split <;> omega
theorem nb_at (n : Nat) : n / 8 < nb (n + 1) := by unfold nb; omega
theorem packTo_more (L : List Bool) (h : L.length % 8 = 0) : packTo (nb (L.length + 1)) L = pack L ++ [0] := by
  unfold pack
  have e : nb (L.length + 1) = nb L.length + 1 := by rw [nb_snoc, if_pos h]
  rw [e]
  unfold packTo
  rw [List.range_succ, List.map_append]
  have e2 : nb L.length = L.length / 8 := by unfold nb; omega
  simp only [List.map_cons, List.map_nil]
  rw [e2, pk_new L h]
  rfl
theorem pack_snoc (L : List Bool) (b : Bool) :
    pack (L ++ [b]) = (packTo (nb (L.length + 1)) L).set (L.length / 8) (UInt8.ofNat (pk L (L.length / 8) + b.toNat * 2 ^ (7 - L.length % 8))) := by
  unfold pack
  rw [List.length_append]
  exact packTo_snoc _ L b (nb_at _)
theorem pack_same (L : List Bool) (h : L.length % 8 ≠ 0) : packTo (nb (L.length + 1)) L = pack L := by
  unfold pack; rw [nb_snoc, if_neg h]

/-- Byte |= bit << place, in Go's numbers. -/
theorem or_byte (L : List Bool) (b : Bool) : bits .or .u8 ((pk L (L.length / 8) : Nat) : Int) ((b.toNat * 2 ^ (7 - L.length % 8) : Nat) : Int) = ((pk L (L.length / 8) + b.toNat * 2 ^ (7 - L.length % 8) : Nat) : Int) := by
  have h1 := pk_lt L (L.length / 8)
  have h2 := pk_dvd L
  have h3 : L.length % 8 < 8 := Nat.mod_lt _ (by decide)
  have h4 : b.toNat * 2 ^ (7 - L.length % 8) < 2 ^ (8 - L.length % 8) := by
    have e1 : 8 - L.length % 8 = (7 - L.length % 8) + 1 := by omega
    rw [e1, Nat.pow_succ]
    have := Nat.mul_le_mul_right (2 ^ (7 - L.length % 8)) (bool_le b)
    have := Nat.two_pow_pos (7 - L.length % 8)
    omega
  have h5 : 2 ^ (8 - L.length % 8) ≤ 2 ^ 8 := Nat.pow_le_pow_right (by decide) (by omega)
  rw [bits_join .u8 8 (by decide) wraps_u8 (8 - L.length % 8) _ _ (Int.natCast_nonneg _) (by exact_mod_cast h2) (by exact_mod_cast h1) (Int.natCast_nonneg _) (by exact_mod_cast h4) (by exact_mod_cast Nat.lt_of_lt_of_le h4 h5)]
  simp

/-! ### bits of bytes -/
/-- Bit i of a text. -/
def bitAt (s : List UInt8) (i : Nat) : Bool := ((s.getD (i / 8) 0).toNat / 2 ^ (7 - i % 8) % 2 == 1)
/-- n bits of a text, from bit a on. -/
def bitsAt (s : List UInt8) (a n : Nat) : List Bool := (List.range n).map fun i => bitAt s (a + i)
theorem bitsAt_length (s : List UInt8) (a n : Nat) : (bitsAt s a n).length = n := by simp [bitsAt]
theorem bitsAt_snoc (s : List UInt8) (a n : Nat) : bitsAt s a (n + 1) = bitsAt s a n ++ [bitAt s (a + n)] := by simp [bitsAt, List.range_succ]
theorem bitAt_num (s : List UInt8) (i : Nat) : (bitAt s i).toNat = (s.getD (i / 8) 0).toNat / 2 ^ (7 - i % 8) % 2 := by
  unfold bitAt
  have : (s.getD (i / 8) 0).toNat / 2 ^ (7 - i % 8) % 2 < 2 := Nat.mod_lt _ (by decide)
  by_cases h : (s.getD (i / 8) 0).toNat / 2 ^ (7 - i % 8) % 2 = 1
  · rw [h]; rfl
  · have h0 : (s.getD (i / 8) 0).toNat / 2 ^ (7 - i % 8) % 2 = 0 := by omega
    rw [h0]; rfl
/-- What was packed is there. -/
theorem bitAt_packTo (m : Nat) (L : List Bool) (i : Nat) (hm : i / 8 < m) (h : i < L.length) : bitAt (packTo m L) i = L[i] := by
  have h1 : (bitAt (packTo m L) i).toNat = (L[i]).toNat := by
    rw [bitAt_num, packTo_byte m L _ hm]
    unfold pk
    have hk : i % 8 < 8 := Nat.mod_lt _ (by decide)
    have hcl : i % 8 < (chunkAt L (i / 8)).length := by
      unfold chunkAt; rw [List.length_take, List.length_drop]; omega
    have hc8 := chunk_le L (i / 8)
    have hce : (chunkAt L (i / 8))[i % 8] = L[i] := by
      apply Option.some.inj
      rw [← List.getElem?_eq_getElem hcl, ← List.getElem?_eq_getElem h]
      unfold chunkAt
      rw [List.getElem?_take_of_lt hk, List.getElem?_drop]
      congr 1
      omega
    rw [← hce, ← testBit_mod2 _ _ hcl]
    have e : 7 - i % 8 = (8 - (chunkAt L (i / 8)).length) + ((chunkAt L (i / 8)).length - 1 - i % 8) := by omega
    rw [e, Nat.pow_add, ← Nat.div_div_eq_div_mul, Nat.mul_div_cancel _ (Nat.two_pow_pos _)]
  cases h2 : bitAt (packTo m L) i <;> cases h3 : L[i] <;> simp_all
theorem bitsAt_pack (L : List Bool) (a n : Nat) (h : a + n ≤ L.length) : bitsAt (pack L) a n = (L.drop a).take n := by
  apply List.ext_getElem
  · simp [bitsAt_length]; omega
  · intro i h1 h2
    rw [bitsAt_length] at h1
    simp only [bitsAt, List.getElem_map, List.getElem_range, List.getElem_take, List.getElem_drop]
    exact bitAt_packTo _ L (a + i) (by unfold nb; omega) (by omega)
end Bit
end Go.Proofs.YtlgjbcmloochiaaGreatDoor
end

/- The writer of bits (layer 6) in memory as plain data, and what each of its calls does. -/
section
namespace Go.Proofs.YtlgjbcmloochiaaGreatDoor
open Go.RowKit
namespace Bit
open Dsk Ob

structure WrM (w : World) (S : Nat → Prop) (q : Nat) (L : List Bool) (v : Value) : Prop where
  cell : w.heap[q]? = some (.cells #[v, .int .i64 (L.length : Int)] 276 (0, 0))
  row : w.ownsRow 0 5 1 v (nb L.length) (Lib.byteCells (pack L))
  s_q : S q
  s_v : ∀ b, v.ownBlock = some b → S b
  lt : ∀ b, S b → b < w.heap.size
/-- The writer at block q, of blocks S, holds the bits L. -/
def IsW (w : World) (S : Nat → Prop) (q : Nat) (L : List Bool) : Prop := ∃ v, WrM w S q L v

theorem WrM.kept {w w' : World} {S : Nat → Prop} {q : Nat} {L : List Bool} {v : Value} (h : WrM w S q L v) (hk : ∀ b, S b → w'.heap[b]? = w.heap[b]?) (hs : w.heap.size ≤ w'.heap.size) : WrM w' S q L v :=
  { h with cell := (hk q h.s_q).trans h.cell, row := ownsRow_kept h.row fun b hb => hk b (h.s_v b hb), lt := fun b hb => Nat.lt_of_lt_of_le (h.lt b hb) hs }
theorem IsW.upon {w w' : World} {S T : Nat → Prop} {q : Nat} {L : List Bool} (h : IsW w S q L) (hu : Upon T w w') (ha : ∀ b, S b → ¬ T b) : IsW w' S q L :=
  let ⟨v, hv⟩ := h; ⟨v, hv.kept (fun b hb => hu.block b (hv.lt b hb) (ha b hb)) hu.size⟩
theorem IsW.lt {w : World} {S : Nat → Prop} {q : Nat} {L : List Bool} (h : IsW w S q L) : ∀ b, S b → b < w.heap.size := let ⟨_, hv⟩ := h; hv.lt

theorem objW (q : Nat) (L : List Bool) : Thing (fun w S => IsW w S q L) := ⟨fun _ _ _ ⟨v, h⟩ hk hs => ⟨v, h.kept hk hs⟩, fun _ _ h => h.lt⟩
abbrev WStep (S : Nat → Prop) (q : Nat) (L : List Bool) (w w' : World) : Prop := ObjStep (fun w S => IsW w S q L) S w w'

theorem ret_int {k : IntKind} {a b : Int} (h : a = b) : Ending.returned (.int k a) = .returned (.int k b) := by rw [h]
theorem infoU8 : (Tryz.prog.info? 5).map (fun i => (i.zero, i.size, i.bytes)) = some (some (.int .u8 0), 1, 1) := by kernel_rfl
theorem cell2 {w : World} {q : Nat} {a b : Value} {T : TypeId} (h : w.heap[q]? = some (.cells #[a, b] T (0, 0))) :
    w.cell? ⟨q, 0, none⟩ = some a ∧ w.cell? ⟨q, 1, none⟩ = some b ∧ ∀ o, w.frozen? ⟨q, o, none⟩ = false := by
  refine ⟨?_, ?_, fun o => Lib.frozen_of_heap h o⟩ <;> (rw [Lib.cell_of_heap h]; rfl)

/-! ### NewWriter, Len, shift -/
def WMade (w : World) (e : Ending) (w' : World) : Prop :=
  ∃ S q, e = .returned (.pointer (some ⟨q, 0, none⟩)) ∧ IsW w' S q [] ∧ (∀ b, S b → w.heap.size ≤ b) ∧ Upon (fun _ => False) w w'
set_option maxHeartbeats 800000 in
theorem newWriter_any (w : World) : Calls Tryz.prog 157 #[] w (WMade w) := by
  have H : Hid (WMade w (.returned (.pointer (some ⟨w.heap.size, 0, none⟩))) (w.alloc (.cells #[.slice none 0 0, .int .i64 0] 276 (0, 0)))) := Lib.hid (by
    refine ⟨fun b => b = w.heap.size, w.heap.size, rfl, ⟨.slice none 0 0, ?_⟩, fun b hb => by rw [hb]; exact Nat.le_refl _, (Upon.refl _ w).alloc _⟩
    exact ⟨cell_new w _, World.ownsRow_nil _ _ _ _, rfl, (fun b h => by cases h), (fun b hb => by rw [hb]; simp)⟩)
  go_enter Tryz.func157, Tryz.ntmps157
  go_wp2
  go_ret
  exact H.out

set_option maxHeartbeats 800000 in
theorem shift_any (n : Nat) (hn : n ≤ 2000000000000000) (w : World) : Calls Tryz.prog 250 #[.int .i64 (n : Int)] w fun e w' => e = .returned (.int .i64 ((7 - n % 8 : Nat) : Int)) ∧ w = w' := by
  go_enter Tryz.func250, Tryz.ntmps250
  go_wp2
  go_ret
  exact ⟨ret_int (by omega), rfl⟩

set_option maxHeartbeats 800000 in
theorem wlen_any (S : Nat → Prop) (q : Nat) (L : List Bool) (w : World) (h : IsW w S q L) :
    Calls Tryz.prog 160 #[.pointer (some ⟨q, 0, none⟩)] w fun e w' => e = .returned (.int .i64 (L.length : Int)) ∧ w = w' := by
  obtain ⟨v, h⟩ := h
  obtain ⟨-, k1, kf⟩ := cell2 h.cell
  clear h kf
  go_enter Tryz.func160, Tryz.ntmps160
  go_wp2
  go_ret
  exact ⟨rfl, rfl⟩

/-! ### putBit -/
/-- What region 2 finds: the byte that the bit goes into. -/
theorem WrM.byte {w : World} {L : List Bool} {v : Value} {m : Nat} (hm : L.length / 8 < m) (h : w.ownsRow 0 5 1 v m (Lib.byteCells (packTo m L))) :
    ∃ g cap, v = .slice (some ⟨g, 0, none⟩) m cap ∧ w.cell? ⟨g, L.length / 8, none⟩ = some (.int .u8 ((pk L (L.length / 8) : Nat) : Int)) ∧ (∀ o, w.frozen? ⟨g, o, none⟩ = false) ∧ g < w.heap.size ∧ (∃ c, w.heap[g]? = some (.cells c 5 (0, 0))) := by
  rcases h.2 with ⟨_, h0⟩ | ⟨g, cap, cur, hv, _, hg, hmc, _, hcs, ht⟩
  · omega
  · refine ⟨g, cap, hv, ?_, fun o => Lib.frozen_of_heap hg o, (Array.getElem?_eq_some_iff.1 hg).1, _, hg⟩
    rw [Lib.cell_of_heap hg]
    have h1 : (cur.toList.take (m * 1))[L.length / 8]? = (Lib.byteCells (packTo m L))[L.length / 8]? := by rw [ht]
    rw [List.getElem?_take_of_lt (by omega)] at h1
    have h2 : (Lib.byteCells (packTo m L))[L.length / 8]? = some (.int .u8 ((pk L (L.length / 8) : Nat) : Int)) := by
      unfold Lib.byteCells packTo
      rw [List.map_map, List.getElem?_map, List.getElem?_range hm]
      simp [UInt8.toNat_ofNat', Nat.mod_eq_of_lt (pk_lt L (L.length / 8))]
    rw [h2] at h1
    simpa using h1
theorem byteCells_set (l : List UInt8) (j : Nat) (b : UInt8) : Lib.byteCells (l.set j b) = (Lib.byteCells l).set j (.int .u8 (b.toNat : Int)) := by
  unfold Lib.byteCells; rw [List.map_set]
theorem row_set {w : World} {g m cap j : Nat} {l : List UInt8} {b : UInt8} (h : w.ownsRow 0 5 1 (.slice (some ⟨g, 0, none⟩) m cap) m (Lib.byteCells l)) :
    (w.setCell ⟨g, j, none⟩ (.int .u8 (b.toNat : Int))).ownsRow 0 5 1 (.slice (some ⟨g, 0, none⟩) m cap) m (Lib.byteCells (l.set j b)) := by
  rcases h.2 with ⟨h0, _⟩ | ⟨g', cap', cur, hv, hb, hg, hmc, hcm, hcs, ht⟩
  · cases h0
  · cases hv
    refine ⟨by rw [byteCells_set, List.length_set]; exact h.1, .inr ⟨g, cap, cur.setIfInBounds j (.int .u8 (b.toNat : Int)), rfl, hb, ?_, hmc, hcm, ?_, ?_⟩⟩
    · simp [World.setCell, Array.getElem?_modify, hg]
    · simpa using hcs
    · rw [byteCells_set, ← ht, Array.toList_setIfInBounds, List.take_set]
/-- What is left when the bit is in. -/
theorem WrM.done {w w1 w2 : World} {S S1 : Nat → Prop} {q g cap : Nat} {L : List Bool} {b : Bool}
    (hq : w1.heap[q]? = some (.cells #[.slice (some ⟨g, 0, none⟩) (nb (L.length + 1)) cap, .int .i64 (L.length : Int)] 276 (0, 0)))
    (hrow : w1.ownsRow 0 5 1 (.slice (some ⟨g, 0, none⟩) (nb (L.length + 1)) cap) (nb (L.length + 1)) (Lib.byteCells (packTo (nb (L.length + 1)) L)))
    (hS1 : ∀ x, S1 x ↔ S x ∨ x = g) (hsq : S q) (hlt : ∀ x, S x → x < w.heap.size) (hg : S g ∨ w.heap.size ≤ g) (hgl : g < w1.heap.size) (hu : Upon S w w1)
    (hw2 : w2 = (w1.setCell ⟨g, L.length / 8, none⟩ (.int .u8 ((pk L (L.length / 8) + b.toNat * 2 ^ (7 - L.length % 8) : Nat) : Int))).setCell ⟨q, 1, none⟩ (.int .i64 ((L.length : Int) + 1))) :
    WStep S q (L ++ [b]) w w2 := by
  have hgq : g ≠ q := by
    rintro rfl
    obtain ⟨c, hc⟩ : ∃ c, w1.heap[g]? = some (.cells c 5 (0, 0)) := by
      rcases hrow.2 with ⟨h0, _⟩ | ⟨g', cap', cur, hv, _, hgg, _⟩
      · cases h0
      · cases hv; exact ⟨_, hgg⟩
    rw [hq] at hc
    simp at hc
  have hpl : pk L (L.length / 8) + b.toNat * 2 ^ (7 - L.length % 8) < 256 := by rw [← pk_at]; exact pk_lt _ _
  have hset := row_set (j := L.length / 8) (b := UInt8.ofNat (pk L (L.length / 8) + b.toNat * 2 ^ (7 - L.length % 8))) hrow
  rw [UInt8.toNat_ofNat', Nat.mod_eq_of_lt hpl, ← pack_snoc] at hset
  subst hw2
  refine ⟨⟨S1, ⟨.slice (some ⟨g, 0, none⟩) (nb (L.length + 1)) cap, ?_, ?_, (hS1 q).2 (.inl hsq), ?_, ?_⟩, fun x hx => (hS1 x).2 (.inl hx), fun x hx => ?_⟩, ?_⟩
  · rw [List.length_append]
    simp [World.setCell, Array.getElem?_modify, hq, hgq]
  · rw [show (L ++ [b]).length = L.length + 1 from List.length_append]
    refine ownsRow_kept hset fun x hx => Below.heap_setCell _ _ _ _ ?_
    exact fun e => hgq ((Option.some.inj hx).trans e)
  · intro x hx
    simp [Value.ownBlock] at hx
    subst hx
    exact (hS1 _).2 (.inr rfl)
  · intro x hx
    have : (((w1.setCell ⟨g, L.length / 8, none⟩ (.int .u8 ((pk L (L.length / 8) + b.toNat * 2 ^ (7 - L.length % 8) : Nat) : Int))).setCell ⟨q, 1, none⟩ (.int .i64 ((L.length : Int) + 1)))).heap.size = w1.heap.size := by simp [World.setCell]
    rw [this]
    rcases (hS1 x).1 hx with h | h
    · exact Nat.lt_of_lt_of_le (hlt x h) hu.size
    · rw [h]; exact hgl
  · rcases (hS1 x).1 hx with h | h
    · exact .inl h
    · rw [h]; exact hg
  · exact (hu.setCell (p := ⟨g, L.length / 8, none⟩) hg _).setCell (p := ⟨q, 1, none⟩) (.inl hsq) _

theorem or_put (L : List Bool) (b : Bool) : bits .or .u8 ((pk L (L.length / 8) : Nat) : Int) (IntKind.u8.wrap (((b.toNat : Nat) : Int) * 2 ^ (7 - L.length % 8))) = ((pk L (L.length / 8) + b.toNat * 2 ^ (7 - L.length % 8) : Nat) : Int) := by
  have h3 : L.length % 8 < 8 := Nat.mod_lt _ (by decide)
  have h2 : 2 ^ (7 - L.length % 8) ≤ 2 ^ 7 := Nat.pow_le_pow_right (by decide) (by omega)
  have h1 := Nat.mul_le_mul (bool_le b) h2
  have e : (((b.toNat : Nat) : Int) * 2 ^ (7 - L.length % 8)) = ((b.toNat * 2 ^ (7 - L.length % 8) : Nat) : Int) := by simp
  rw [e, IntKind.wrap_u8, Int.emod_eq_of_lt (by omega) (by omega), or_byte]
theorem ne_of_types {w : World} {q g : Nat} {c d : Array Value} {f k : Nat × Nat} (h1 : w.heap[q]? = some (.cells c 276 f)) (h2 : w.heap[g]? = some (.cells d 5 k)) : g ≠ q := by
  rintro rfl
  rw [h1] at h2
  simp at h2
/-- Behind the store into the byte the writer's own cells read as before. -/
theorem cell2_behind {w : World} {q g j : Nat} {a b u : Value} (h : w.heap[q]? = some (.cells #[a, b] 276 (0, 0))) (hne : g ≠ q) :
    (w.setCell ⟨g, j, none⟩ u).cell? ⟨q, 1, none⟩ = some b ∧ ∀ o, (w.setCell ⟨g, j, none⟩ u).frozen? ⟨q, o, none⟩ = false := by
  have h' : (w.setCell ⟨g, j, none⟩ u).heap[q]? = some (.cells #[a, b] 276 (0, 0)) := by
    rw [Below.heap_setCell _ _ _ _ (Ne.symm hne)]; exact h
  exact (cell2 h').2

set_option maxHeartbeats 1600000 in
theorem putBit_in (S : Nat → Prop) (q : Nat) (L : List Bool) (b : Bool) (w : World) (h : IsW w S q L) (hL : L.length ≤ 100000000000000) (hne : L.length % 8 ≠ 0) :
    Calls Tryz.prog 230 #[.pointer (some ⟨q, 0, none⟩), .int .u64 (b.toNat : Int)] w fun e w' => e = .returned (.tuple #[]) ∧ WStep S q (L ++ [b]) w w' := by
  obtain ⟨v, h⟩ := h
  have hcell := h.cell
  have hrow := h.row
  rw [← pack_same L hne, show nb L.length = nb (L.length + 1) by rw [nb_snoc, if_neg hne]] at hrow
  obtain ⟨g, cap, rfl, kb, kf, kl, c, hgc⟩ := WrM.byte (nb_at L.length) hrow
  obtain ⟨k0, k1, -⟩ := cell2 hcell
  obtain ⟨P, hP⟩ : ∃ P : Nat, P = pk L (L.length / 8) + b.toNat * 2 ^ (7 - L.length % 8) := ⟨_, rfl⟩
  obtain ⟨n1, n2⟩ := cell2_behind (w := w) (j := L.length / 8) (u := .int .u8 (P : Int)) hcell (ne_of_types hcell hgc)
  have HD : ∀ w2, w2 = (w.drew.setCell ⟨g, L.length / 8, none⟩ (.int .u8 (P : Int))).setCell ⟨q, 1, none⟩ (.int .i64 ((L.length : Int) + 1)) → WStep S q (L ++ [b]) w w2 := fun w2 e =>
    WrM.done (w1 := w.drew) (S1 := S) hcell hrow (fun x => ⟨.inl, fun hx => hx.elim id fun e => by rw [e]; exact h.s_v g rfl⟩) h.s_q h.lt (.inl (h.s_v g rfl)) kl ((Upon.refl S w).drew) (by rw [← hP]; exact e)
  replace HD := Lib.hid HD
  have hor := or_put L b
  rw [← hP] at hor
  clear hP
  have hne2 : (((L.length : Int) % 8) == 0) = false := by rw [beq_eq_false_iff_ne]; omega
  have hidx : (L.length : Int) / 8 < (nb (L.length + 1) : Nat) := by have := nb_at L.length; omega
  have f1 := n2 1
  have f2 := kf (L.length / 8)
  clear h hcell hrow n2 kf hgc
  go_enter Tryz.func230, Tryz.ntmps230
  go_wp2_with fail
  have i1 : IntKind.i64.wrap ((L.length : Int) / 8) = (L.length : Int) / 8 := IntWalk.i64_in _ (by omega)
  have i4 : ((L.length : Int) / 8).toNat = L.length / 8 := by omega
  have i5 : 0 ≤ (L.length : Int) / 8 := by omega
  have i7 : IntKind.u8.wrap ((b.toNat : Nat) : Int) = ((b.toNat : Nat) : Int) := by have := bool_le b; rw [IntKind.wrap_u8]; omega
  have hL' := Lib.hid hL
  clear hL
  go_still_tail 21, (by kernel_rfl)
  still_call ((shift_any L.length (by have := hL'.out; omega) _).mono fun _ _ ⟨he, hw⟩ => ⟨he, hw.symm⟩)
  repeat still_step
  refine wpStill_nil ?_
  change wpList _ _ _ _ _ w.drew
  clear i1 i4 i5 i7 hor hidx hne2
  have hL := hL'.out
  go_wp2_with fail
  go_end0
  exact ⟨rfl, HD.out _ rfl⟩

/-- A byte is begun. -/
theorem WrM.begun {w w' : World} {S : Nat → Prop} {q g cap : Nat} {L : List Bool} {v : Value} {o : Obj} (h : WrM w S q L v) (ha : L.length % 8 = 0)
    (hown : w'.ownsRow 0 5 1 (.slice (some ⟨g, 0, none⟩) (nb L.length + 1) cap) (nb L.length + 1) (Lib.byteCells (pack L) ++ [.int .u8 0])) (hg : (w.alloc o).grownBy w' v.ownBlock) :
    w'.heap[q]? = some (.cells #[v, .int .i64 (L.length : Int)] 276 (0, 0)) ∧ g ≠ q ∧
    (w'.setCell ⟨q, 0, none⟩ (.slice (some ⟨g, 0, none⟩) (nb L.length + 1) cap)).heap[q]? = some (.cells #[.slice (some ⟨g, 0, none⟩) (nb (L.length + 1)) cap, .int .i64 (L.length : Int)] 276 (0, 0)) ∧
      (w'.setCell ⟨q, 0, none⟩ (.slice (some ⟨g, 0, none⟩) (nb L.length + 1) cap)).ownsRow 0 5 1 (.slice (some ⟨g, 0, none⟩) (nb (L.length + 1)) cap) (nb (L.length + 1)) (Lib.byteCells (packTo (nb (L.length + 1)) L)) ∧
      g < (w'.setCell ⟨q, 0, none⟩ (.slice (some ⟨g, 0, none⟩) (nb L.length + 1) cap)).heap.size ∧ Upon S w (w'.setCell ⟨q, 0, none⟩ (.slice (some ⟨g, 0, none⟩) (nb L.length + 1) cap)) := by
  have e : nb (L.length + 1) = nb L.length + 1 := by rw [nb_snoc, if_pos ha]
  rw [e]
  have hrow : w'.ownsRow 0 5 1 (.slice (some ⟨g, 0, none⟩) (nb L.length + 1) cap) (nb L.length + 1) (Lib.byteCells (packTo (nb L.length + 1) L)) := by
    have e3 := packTo_more L ha
    rw [e] at e3
    rw [e3]
    have e2 : Lib.byteCells (pack L ++ [0]) = Lib.byteCells (pack L) ++ [.int .u8 0] := by unfold Lib.byteCells; rw [List.map_append]; rfl
    rw [e2]; exact hown
  have hvq : some q ≠ v.ownBlock := by
    intro e3
    rcases h.row.2 with ⟨hv, _⟩ | ⟨g', cap', cur, hv, _, hgg, _⟩
    · rw [hv] at e3; cases e3
    · rw [hv] at e3
      have e4 : q = g' := Option.some.inj e3
      subst e4
      exact ne_of_types h.cell hgg rfl
  have hql : q < w.heap.size := h.lt q h.s_q
  have hq : w'.heap[q]? = some (.cells #[v, .int .i64 (L.length : Int)] 276 (0, 0)) := by
    rw [hg.block q (by simp; omega) hvq, Below.heap_alloc _ _ _ hql]; exact h.cell
  obtain ⟨g', cap', hv', -, -, hgl, c, hgc⟩ := WrM.byte (show L.length / 8 < nb L.length + 1 by unfold nb; omega) hrow
  cases hv'
  have hgq : g ≠ q := ne_of_types hq hgc
  refine ⟨hq, hgq, ?_, ?_, ?_, ?_⟩
  · simp [World.setCell, Array.getElem?_modify, hq]
  · exact ownsRow_kept hrow fun x hx => Below.heap_setCell _ _ _ _ fun e3 => hgq ((Option.some.inj hx).trans e3)
  · simpa [World.setCell] using hgl
  · exact (((Upon.refl S w).alloc o).grown hg (fun k hk => .inl (h.s_v k hk))).setCell (p := ⟨q, 0, none⟩) (.inl h.s_q) _

set_option maxHeartbeats 1600000 in
theorem putBit_new (S : Nat → Prop) (q : Nat) (L : List Bool) (b : Bool) (w : World) (h : IsW w S q L) (hL : L.length ≤ 100000000000000) (ha : L.length % 8 = 0) :
    Calls Tryz.prog 230 #[.pointer (some ⟨q, 0, none⟩), .int .u64 (b.toNat : Int)] w fun e w' => e = .returned (.tuple #[]) ∧ WStep S q (L ++ [b]) w w' := by
  obtain ⟨v, h⟩ := h
  have hcell := h.cell
  obtain ⟨k0, k1, kz⟩ := cell2 hcell
  have kz0 := kz 0
  have hown := Lib.hid h.row
  have hne2 : (((L.length : Int) % 8) == 0) = true := by rw [beq_iff_eq]; omega
  obtain ⟨i0, hi, hz0, hz1, hz2⟩ := info_parts infoU8
  have hq := h.lt q h.s_q
  replace h := Lib.hid h
  have hnb : nb L.length + 1 ≤ 100000000000000 := by unfold nb; omega
  replace hnb := Lib.hid hnb
  clear hcell kz
  go_enter Tryz.func230, Tryz.ntmps230
  go_wp2_with (at_builtin; refine wpList_append_lies _ rfl _ _ 54 rfl 0 5 i0 (.int .u8 0) 1 1 Tryz.underlying54 hi hz0 hz1 hz2 rfl (by decide) _ _ _ rfl (hown.out.alloc _) ⟨w.heap.size, 0, none⟩ 1 1 [.int .u8 0] rfl rfl ?c1 ?c2 (by decide) ?c3 ?c4 ?c5 _ rfl ?_)
  case c1 => exact World.news_of_block (cell_new w _)
  case c2 => simp [Value.oneCell']
  case c3 => have := hnb.out; unfold maxLen; omega
  case c4 => have := hnb.out; omega
  case c5 => exact Nat.zero_le _
  intro g cap w1 hown1 hgrow hgS _
  obtain ⟨hq1, hgq, hcell, hrow, hgl, hupon⟩ := WrM.begun h.out ha hown1 hgrow
  have hgS2 : S g ∨ w.heap.size ≤ g := hgS.elim (fun e => .inl (h.out.s_v g e)) (fun e => .inr (by rw [e]; simp))
  replace hgS2 := Lib.hid hgS2
  clear hgS
  obtain ⟨j0, -, jz⟩ := cell2 hq1
  have jz0 := jz 0
  obtain ⟨k0', k1', kg⟩ := cell2 hcell
  replace hcell := Lib.hid hcell
  replace hrow := Lib.hid hrow
  replace hupon := Lib.hid hupon
  replace hgl := Lib.hid hgl
  clear jz hq1 hown1 hgrow k0 k1 kz0 hi hz0 hz1 hz2 hown hq
  go_wp2_with fail
  generalize w1.setCell ⟨q, 0, none⟩ (.slice (some ⟨g, 0, none⟩) (nb L.length + 1) cap) = w2 at *
  clear j0 jz0
  obtain ⟨g', cap', hg', kb, kf, -, -⟩ := WrM.byte (nb_at L.length) hrow.out
  cases hg'
  obtain ⟨P, hP⟩ : ∃ P : Nat, P = pk L (L.length / 8) + b.toNat * 2 ^ (7 - L.length % 8) := ⟨_, rfl⟩
  obtain ⟨n1, n2⟩ := cell2_behind (w := w2) (j := L.length / 8) (u := .int .u8 (P : Int)) hcell.out hgq
  have HD : ∀ w3, w3 = (w2.drew.setCell ⟨g, L.length / 8, none⟩ (.int .u8 (P : Int))).setCell ⟨q, 1, none⟩ (.int .i64 ((L.length : Int) + 1)) → WStep S q (L ++ [b]) w w3 := fun w3 e =>
    WrM.done (w1 := w2.drew) (S1 := fun x => S x ∨ x = g) hcell.out hrow.out (fun x => Iff.rfl) h.out.s_q h.out.lt hgS2.out hgl.out hupon.out.drew (by rw [← hP]; exact e)
  replace HD := Lib.hid HD
  have hor := or_put L b
  rw [← hP] at hor
  clear hP
  have hidx : (L.length : Int) / 8 < (nb (L.length + 1) : Nat) := by have := nb_at L.length; omega
  have f1 := n2 1
  have f2 := kf (L.length / 8)
  have f3 := kg 1
  clear ha
  clear h n2 kf hne2 hnb hcell hrow hgl hupon kg
  have i1 : IntKind.i64.wrap ((L.length : Int) / 8) = (L.length : Int) / 8 := IntWalk.i64_in _ (by omega)
  have i4 : ((L.length : Int) / 8).toNat = L.length / 8 := by omega
  have i5 : 0 ≤ (L.length : Int) / 8 := by omega
  have i7 : IntKind.u8.wrap ((b.toNat : Nat) : Int) = ((b.toNat : Nat) : Int) := by have := bool_le b; rw [IntKind.wrap_u8]; omega
  have hL' := Lib.hid hL
  clear hL
  go_still_tail 21, (by kernel_rfl)
  still_call ((shift_any L.length (by have := hL'.out; omega) _).mono fun _ _ ⟨he, hw⟩ => ⟨he, hw.symm⟩)
  repeat still_step
  refine wpStill_nil ?_
  change wpList _ _ _ _ _ w2.drew
  clear i1 i4 i5 i7 hor hidx
  have hL := hL'.out
  go_wp2_with fail
  go_end0
  exact ⟨rfl, HD.out _ rfl⟩

theorem putBit_any (S : Nat → Prop) (q : Nat) (L : List Bool) (b : Bool) (w : World) (h : IsW w S q L) (hL : L.length ≤ 100000000000000) :
    Calls Tryz.prog 230 #[.pointer (some ⟨q, 0, none⟩), .int .u64 (b.toNat : Int)] w fun e w' => e = .returned (.tuple #[]) ∧ WStep S q (L ++ [b]) w w' := by
  by_cases ha : L.length % 8 = 0
  · exact putBit_new S q L b w h hL ha
  · exact putBit_in S q L b w h hL ha
end Bit
end Go.Proofs.YtlgjbcmloochiaaGreatDoor
end

/- The writer of bits (layer 6): Put and Text. -/
section
namespace Go.Proofs.YtlgjbcmloochiaaGreatDoor
open Go.RowKit
namespace Bit
open Dsk Ob

/-- How many bits are written for a count n. -/
def cnt (n : Int) : Nat := (min n 64).toNat
theorem and_one (v k : Nat) (hv : v < 18446744073709551616) : bits .and .u64 ((v : Int) / 2 ^ k) 1 = (((v.testBit k).toNat : Nat) : Int) := by
  have h1 : v / 2 ^ k < 18446744073709551616 := Nat.lt_of_le_of_lt (Nat.div_le_self _ _) hv
  have e : (v : Int) / 2 ^ k = ((v / 2 ^ k : Nat) : Int) := by rw [Int.natCast_ediv, Int.natCast_pow]; rfl
  have := bits_mask .u64 64 (by decide) (fun n h0 h1 => by rw [IntKind.wrap_u64]; omega) 1 (by decide) ((v / 2 ^ k : Nat) : Int) (Int.natCast_nonneg _) (by exact_mod_cast h1)
  rw [e, testBit_bool, Int.natCast_emod]
  exact this

set_option maxHeartbeats 1600000 in
theorem put_in (S : Nat → Prop) (q : Nat) (L : List Bool) (v : Nat) (m : Nat) (w : World) (h : IsW w S q L) (hL : L.length ≤ 90000000000000) (hv : v < 18446744073709551616) (hm2 : m ≤ 64) :
    Calls Tryz.prog 212 #[.pointer (some ⟨q, 0, none⟩), .int .u64 (v : Int), .int .i64 (m : Int)] w fun e w' => e = .returned (.tuple #[]) ∧ WStep S q (L ++ bitsOf v m) w w' := by
  replace hL := Lib.hid hL
  have h0 : Hid (WStep S q (L ++ (bitsOf v m).take 0) w w) := Lib.hid (by rw [List.take_zero, List.append_nil]; exact ObjStep.refl h)
  clear h
  have hv0 := Lib.hid hv
  clear hv
  go_enter Tryz.func212, Tryz.ntmps212
  go_wp2_with fail
  go_loopw [10] (fun i wr => ∃ k : Nat, k ≤ m ∧ i = .int .i64 k ∧ WStep S q (L ++ (bitsOf v m).take k) w wr) (fun i _ => m - (intOf i).toNat)
  case atStart => exact ⟨0, Nat.zero_le _, rfl, h0.out⟩
  case round =>
    obtain ⟨k, hk, rfl, hst⟩ := hrel
    replace hst := Lib.hid hst
    by_cases hlt : k < m
    · have hsn := Lib.hid (bitsOf_snoc v m k hlt)
      go_wp2_with fail
      rw [and_one v (m - 1 - k) hv0.out]
      obtain ⟨S', hw, hgo⟩ := hst.out.get
      have hlen : (L ++ (bitsOf v m).take k).length ≤ 100000000000000 := by
        have := hL.out
        rw [List.length_append, List.length_take, bitsOf_length]; omega
      refine (putBit_any S' q _ _ wr hw hlen).mono ?_
      rintro e w1 ⟨rfl, hs2⟩
      have hs3 : Hid (WStep S q (L ++ (bitsOf v m).take (k + 1)) w w1) := Lib.hid (by
        rw [hsn.out, ← List.append_assoc]; exact hgo _ _ hs2)
      clear hs2 hgo hw hlen hsn hst
      go_wp2_with fail
      go_roundw
      case rel => exact ⟨k + 1, by omega, by go_num, hs3.out⟩
      case measure => simp [intOf]; omega
    · obtain rfl : k = m := by omega
      have hs3 : Hid (WStep S q (L ++ bitsOf v k) w wr) := Lib.hid (by
        have := hst.out
        rwa [List.take_of_length_le (by rw [bitsOf_length]; exact Nat.le_refl _)] at this)
      clear hst h0
      go_wp2_with fail
      go_end0
      exact ⟨rfl, hs3.out⟩
set_option maxHeartbeats 1600000 in
theorem put_over (S : Nat → Prop) (q : Nat) (L : List Bool) (v : Nat) (n : Int) (w : World) (h : IsW w S q L) (hL : L.length ≤ 90000000000000) (hv : v < 18446744073709551616) (hn : 64 < n) :
    Calls Tryz.prog 212 #[.pointer (some ⟨q, 0, none⟩), .int .u64 (v : Int), .int .i64 n] w fun e w' => e = .returned (.tuple #[]) ∧ WStep S q (L ++ bitsOf v 64) w w' := by
  obtain ⟨m, hm64⟩ : ∃ m : Nat, m = 64 := ⟨64, rfl⟩
  rw [← hm64]
  have hm : (64 : Int) = (m : Int) := by rw [hm64]; rfl
  have hm2 : m ≤ 64 := by omega
  clear hm64
  have HM := Lib.hid hm
  clear hm
  replace hL := Lib.hid hL
  have h0 : Hid (WStep S q (L ++ (bitsOf v m).take 0) w w) := Lib.hid (by rw [List.take_zero, List.append_nil]; exact ObjStep.refl h)
  clear h
  have hv0 := Lib.hid hv
  clear hv
  go_enter Tryz.func212, Tryz.ntmps212
  go_wp2_with fail
  clear hn
  rw [HM.out]
  go_loopw [10] (fun i wr => ∃ k : Nat, k ≤ m ∧ i = .int .i64 k ∧ WStep S q (L ++ (bitsOf v m).take k) w wr) (fun i _ => m - (intOf i).toNat)
  case atStart => exact ⟨0, Nat.zero_le _, rfl, h0.out⟩
  case round =>
    obtain ⟨k, hk, rfl, hst⟩ := hrel
    replace hst := Lib.hid hst
    by_cases hlt : k < m
    · have hsn := Lib.hid (bitsOf_snoc v m k hlt)
      go_wp2_with fail
      rw [and_one v (m - 1 - k) hv0.out]
      obtain ⟨S', hw, hgo⟩ := hst.out.get
      have hlen : (L ++ (bitsOf v m).take k).length ≤ 100000000000000 := by
        have := hL.out
        rw [List.length_append, List.length_take, bitsOf_length]; omega
      refine (putBit_any S' q _ _ wr hw hlen).mono ?_
      rintro e w1 ⟨rfl, hs2⟩
      have hs3 : Hid (WStep S q (L ++ (bitsOf v m).take (k + 1)) w w1) := Lib.hid (by
        rw [hsn.out, ← List.append_assoc]; exact hgo _ _ hs2)
      clear hs2 hgo hw hlen hsn hst
      go_wp2_with fail
      go_roundw
      case rel => exact ⟨k + 1, by omega, by go_num, hs3.out⟩
      case measure => simp [intOf]; omega
    · obtain rfl : k = m := by omega
      have hs3 : Hid (WStep S q (L ++ bitsOf v k) w wr) := Lib.hid (by
        have := hst.out
        rwa [List.take_of_length_le (by rw [bitsOf_length]; exact Nat.le_refl _)] at this)
      clear hst h0
      go_wp2_with fail
      go_end0
      exact ⟨rfl, hs3.out⟩

set_option maxHeartbeats 1600000 in
theorem put_none (S : Nat → Prop) (q : Nat) (L : List Bool) (v : Nat) (n : Int) (w : World) (h : IsW w S q L) (hn : n ≤ 0) :
    Calls Tryz.prog 212 #[.pointer (some ⟨q, 0, none⟩), .int .u64 (v : Int), .int .i64 n] w fun e w' => e = .returned (.tuple #[]) ∧ WStep S q L w w' := by
  have h0 : Hid (WStep S q L w w) := Lib.hid (ObjStep.refl h)
  clear h
  go_enter Tryz.func212, Tryz.ntmps212
  go_wp2_with fail
  go_loopw [10] (fun i wr => i = .int .i64 0 ∧ wr = w) (fun i _ => 0)
  case atStart => exact ⟨rfl, rfl⟩
  case round =>
    obtain ⟨rfl, rfl⟩ := hrel
    go_wp2_with fail
    go_end0
    exact ⟨rfl, h0.out⟩
/-- Put: the bits of v, as many as are counted, are behind those that were there. -/
theorem put_any (S : Nat → Prop) (q : Nat) (L : List Bool) (v : Nat) (n : Int) (w : World) (h : IsW w S q L) (hL : L.length ≤ 90000000000000) (hv : v < 18446744073709551616) :
    Calls Tryz.prog 212 #[.pointer (some ⟨q, 0, none⟩), .int .u64 (v : Int), .int .i64 n] w fun e w' => e = .returned (.tuple #[]) ∧ WStep S q (L ++ bitsOf v (cnt n)) w w' := by
  by_cases h0 : n ≤ 0
  · have e : cnt n = 0 := by unfold cnt; omega
    rw [e]
    exact (put_none S q L v n w h h0).mono fun _ _ ⟨h1, h2⟩ => ⟨h1, by simpa [bitsOf] using h2⟩
  · by_cases h1 : n ≤ 64
    · obtain ⟨m, rfl⟩ := Int.eq_ofNat_of_zero_le (show 0 ≤ n by omega)
      have e : cnt (m : Int) = m := by unfold cnt; omega
      rw [e]
      exact put_in S q L v m w h hL hv (by omega)
    · have e : cnt n = 64 := by unfold cnt; omega
      rw [e]
      exact put_over S q L v n w h hL hv (by omega)

/-! ### Text -/
theorem run_text (w : World) (v : Value) (l : List UInt8) (h : w.ownsRow 0 5 1 v l.length (Lib.byteCells l)) :
    (convert 54 9 v).run Tryz.prog w = .ok (.string ⟨l.toArray⟩) w := by
  rcases h.2 with ⟨rfl, h0⟩ | ⟨g, cap, cur, rfl, _, hg, _⟩
  · have : l = [] := List.eq_nil_of_length_eq_zero h0
    subst this
    exact Lib.run_convert_nil_bytes w _ _ _ 0 Tryz.underlying54 Tryz.underlying5 Tryz.underlying9
  · refine run_convert_bytes_back w _ _ 5 _ cap l Tryz.underlying54 Tryz.underlying5 Tryz.underlying9 fun j hj => ?_
    exact h.cells (g := g) rfl j _ (by unfold Lib.byteCells; rw [List.getElem?_map, List.getElem?_eq_getElem hj]; rfl)
set_option maxHeartbeats 1600000 in
theorem text_any (S : Nat → Prop) (q : Nat) (L : List Bool) (w : World) (h : IsW w S q L) :
    Calls Tryz.prog 161 #[.pointer (some ⟨q, 0, none⟩)] w fun e w' => e = .returned (.string ⟨(pack L).toArray⟩) ∧ w = w' := by
  obtain ⟨v, h⟩ := h
  obtain ⟨k0, -, -⟩ := cell2 h.cell
  have hcv := run_text w v (pack L) (by rw [pack_length]; exact h.row)
  clear h
  go_enter Tryz.func161, Tryz.ntmps161
  go_wp2
  go_ret
  exact ⟨rfl, rfl⟩
end Bit
end Go.Proofs.YtlgjbcmloochiaaGreatDoor
end

/- The reader of bits (layer 6) in memory as plain data, and what each of its calls does. -/
section
namespace Go.Proofs.YtlgjbcmloochiaaGreatDoor
open Go.RowKit
namespace Bit
open Dsk Ob

structure RdM (w : World) (S : Nat → Prop) (q : Nat) (s : ByteArray) (a e : Nat) : Prop where
  cell : w.heap[q]? = some (.cells #[.string s, .int .i64 (a : Int), .int .i64 (e : Int)] 321 (0, 0))
  s_q : S q
  lt : ∀ b, S b → b < w.heap.size
  le : a ≤ e
  es : e ≤ 8 * s.size
  sz : s.size ≤ 140737488355328
/-- The reader at block q, of blocks S, reads s; bits a to e are left. -/
def IsR (w : World) (S : Nat → Prop) (q : Nat) (s : ByteArray) (a e : Nat) : Prop := RdM w S q s a e
theorem IsR.kept {w w' : World} {S : Nat → Prop} {q : Nat} {s : ByteArray} {a e : Nat} (h : IsR w S q s a e) (hk : ∀ b, S b → w'.heap[b]? = w.heap[b]?) (hs : w.heap.size ≤ w'.heap.size) : IsR w' S q s a e :=
  { h with cell := (hk q h.s_q).trans h.cell, lt := fun b hb => Nat.lt_of_lt_of_le (h.lt b hb) hs }
theorem IsR.upon {w w' : World} {S T : Nat → Prop} {q : Nat} {s : ByteArray} {a e : Nat} (h : IsR w S q s a e) (hu : Upon T w w') (ha : ∀ b, S b → ¬ T b) : IsR w' S q s a e :=
  h.kept (fun b hb => hu.block b (h.lt b hb) (ha b hb)) hu.size
theorem objR (q : Nat) (s : ByteArray) (a e : Nat) : Thing (fun w S => IsR w S q s a e) := ⟨fun _ _ _ h hk hs => h.kept hk hs, fun _ _ h => h.lt⟩
abbrev RStep (S : Nat → Prop) (q : Nat) (s : ByteArray) (a e : Nat) (w w' : World) : Prop := ObjStep (fun w S => IsR w S q s a e) S w w'
theorem cell3 {w : World} {q : Nat} {a b c : Value} {T : TypeId} (h : w.heap[q]? = some (.cells #[a, b, c] T (0, 0))) :
    w.cell? ⟨q, 0, none⟩ = some a ∧ w.cell? ⟨q, 1, none⟩ = some b ∧ w.cell? ⟨q, 2, none⟩ = some c ∧ ∀ o, w.frozen? ⟨q, o, none⟩ = false := by
  refine ⟨?_, ?_, ?_, fun o => Lib.frozen_of_heap h o⟩ <;> (rw [Lib.cell_of_heap h]; rfl)

/-! ### NewReader -/
def RMade (s : ByteArray) (e : Nat) (w : World) (x : Ending) (w' : World) : Prop :=
  ∃ S q, x = .returned (.pointer (some ⟨q, 0, none⟩)) ∧ IsR w' S q s 0 e ∧ (∀ b, S b → w.heap.size ≤ b) ∧ Upon (fun _ => False) w w'
theorem RMade.mk {s : ByteArray} {e : Nat} {w : World} (he : e ≤ 8 * s.size) (hs : s.size ≤ 140737488355328) :
    RMade s e w (.returned (.pointer (some ⟨w.heap.size, 0, none⟩))) (w.alloc (.cells #[.string s, .int .i64 0, .int .i64 (e : Int)] 321 (0, 0))) :=
  ⟨fun b => b = w.heap.size, w.heap.size, rfl, ⟨cell_new w _, rfl, fun b hb => by rw [hb]; simp, Nat.zero_le _, he, hs⟩, fun b hb => by rw [hb]; exact Nat.le_refl _, (Upon.refl _ w).alloc _⟩

/-! ### Left, getBit -/
set_option maxHeartbeats 1600000 in
theorem left_any (S : Nat → Prop) (q : Nat) (s : ByteArray) (a e : Nat) (w : World) (h : IsR w S q s a e) :
    Calls Tryz.prog 218 #[.pointer (some ⟨q, 0, none⟩)] w fun x w' => x = .returned (.int .i64 ((e - a : Nat) : Int)) ∧ ∃ n, w' = w.drewN n := by
  obtain ⟨-, k1, k2, -⟩ := cell3 h.cell
  have hle := h.le
  have hes := h.es
  have hsz := h.sz
  have he : (e : Int) ≤ 1125899906842624 := by omega
  have hi : IntKind.i64.wrap ((e : Int) - (a : Int)) = ((e - a : Nat) : Int) := by rw [IntWalk.i64_in _ (by omega)]; omega
  clear h hes hsz he
  go_enter Tryz.func218, Tryz.ntmps218
  go_wp2_with fail
  go_quiet (fail)
  go_wp2_with fail
  go_ret
  exact ⟨rfl, _, rfl⟩

theorem shift_q (n : Nat) (hn : n ≤ 2000000000000000) (w : World) : Calls Tryz.prog 250 #[.int .i64 (n : Int)] w fun e w' => e = .returned (.int .i64 ((7 - n % 8 : Nat) : Int)) ∧ w' = w :=
  (shift_any n hn w).mono fun _ _ ⟨he, hw⟩ => ⟨he, hw.symm⟩
/-! The bit. -/
theorem shr_and (c : UInt8) (k : Nat) : bits .and .u8 ((c.toNat : Int) / 2 ^ k) 1 = ((c.toNat / 2 ^ k % 2 : Nat) : Int) := by
  have h1 : c.toNat / 2 ^ k < 256 := Nat.lt_of_le_of_lt (Nat.div_le_self _ _) c.toNat_lt
  have e : (c.toNat : Int) / 2 ^ k = ((c.toNat / 2 ^ k : Nat) : Int) := by rw [Int.natCast_ediv, Int.natCast_pow]; rfl
  have := bits_mask .u8 8 (by decide) wraps_u8 1 (by decide) ((c.toNat / 2 ^ k : Nat) : Int) (Int.natCast_nonneg _) (by exact_mod_cast h1)
  rw [e, Int.natCast_emod]
  exact this
set_option maxHeartbeats 1600000 in
theorem getBit_any (S : Nat → Prop) (q : Nat) (s : ByteArray) (a e : Nat) (w : World) (h : IsR w S q s a e) (hlt : a < e) :
    Calls Tryz.prog 265 #[.pointer (some ⟨q, 0, none⟩)] w fun x w' => x = .returned (.int .u64 ((bitAt s.data.toList a).toNat : Int)) ∧ RStep S q s (a + 1) e w w' := by
  obtain ⟨k0, k1, -, kf⟩ := cell3 h.cell
  have hes := h.es
  have hsz := h.sz
  have ha : (a : Int) ≤ 1125899906842624 := by omega
  have hidx : a / 8 < s.size := by omega
  have HD : Hid (∀ n w', w' = (w.drewN n).setCell ⟨q, 1, none⟩ (.int .i64 ((a : Int) + 1)) → RStep S q s (a + 1) e w w') := Lib.hid fun n w' e1 => by
    subst e1
    refine ⟨⟨S, ⟨?_, h.s_q, fun b hb => by have := h.lt b hb; simpa [World.setCell] using this, by omega, hes, hsz⟩, fun _ h => h, fun _ h => .inl h⟩, (upon_drewN S w n).setCell (p := ⟨q, 1, none⟩) (.inl h.s_q) _⟩
    have hc2 : w.heap[q]? = some (.cells #[.string s, .int .i64 (a : Int), .int .i64 (e : Int)] 321 (0, 0)) := h.cell
    simp [World.setCell, Array.getElem?_modify, hc2]
  have kf1 := kf 1
  obtain ⟨B, hB⟩ : ∃ B : Nat, B = (bitAt s.data.toList a).toNat := ⟨_, rfl⟩
  have hB1 : B ≤ 1 := by rw [hB]; exact bool_le _
  have e1 : bits .and .u8 (((s[a / 8]'hidx).toNat : Int) / 2 ^ (7 - a % 8)) 1 = (B : Int) := by
    rw [shr_and, hB, bitAt_num, List.getD_eq_getElem?_getD, List.getElem?_eq_getElem (by simpa using hidx)]
    rfl
  rw [← hB]
  clear h kf hes hB
  go_enter Tryz.func265, Tryz.ntmps265
  go_wp2_with fail
  have i1 : IntKind.i64.wrap ((a : Int) / 8) = (a : Int) / 8 := IntWalk.i64_in _ (by omega)
  have i2 : (a : Int) / 8 < (s.size : Int) := by omega
  have i3 : 0 ≤ (a : Int) / 8 := by omega
  have i4 : ((a : Int) / 8).toNat = a / 8 := by omega
  have hb : a ≤ 2000000000000000 := by omega
  go_quiet ((go_at_call 250; exact Calls.quiet_of_same (shift_q a hb _)))
  clear i1 hb e1
  go_wp2_with fail
  go_ret
  exact ⟨rfl, HD.out _ _ rfl⟩

/-! ### Get -/
theorem or_bit (V B : Nat) (hV : V < 9223372036854775808) (hB : B ≤ 1) : bits .or .u64 ((V : Int) * 2) (B : Int) = ((2 * V + B : Nat) : Int) := by
  have := bits_join .u64 64 (by decide) (fun n h0 h1 => by rw [IntKind.wrap_u64]; omega) 1 ((V : Int) * 2) (B : Int) (by omega) (by omega) (by omega) (by omega) (by omega) (by omega)
  rw [this]; omega
set_option maxHeartbeats 1600000 in
theorem get_ok (S : Nat → Prop) (q : Nat) (s : ByteArray) (a e m : Nat) (w : World) (h : IsR w S q s a e) (hm : m ≤ 64) (hle : m ≤ e - a) :
    Calls Tryz.prog 260 #[.pointer (some ⟨q, 0, none⟩), .int .i64 (m : Int)] w fun x w' => x = .returned (.tuple #[.int .u64 (numOf (bitsAt s.data.toList a m) : Int), .bool true]) ∧ RStep S q s (a + m) e w w' := by
  have hleft := left_any S q s a e w h
  have hd1 : decide ((m : Int) < 0) = false := by simp
  have hd2 : decide (64 < (m : Int)) = false := by simp; omega
  have hd3 : decide (e - a < m) = false := by simp; omega
  have hle2 : a ≤ e := h.le
  have h0 : Hid (∀ n, RStep S q s (a + 0) e w (w.drewN n)) := Lib.hid fun n => ⟨⟨S, h.kept (fun _ _ => rfl) (Nat.le_refl _), fun _ h => h, fun _ h => .inl h⟩, upon_drewN S w n⟩
  clear h
  go_enter Tryz.func260, Tryz.ntmps260
  go_wp2_with fail
  refine hleft.mono ?_
  rintro x w1 ⟨rfl, n1, rfl⟩
  clear hleft
  go_wp2_with fail
  clear hd1 hd2 hd3
  go_loopw [6, 20] (fun v i wr => ∃ k : Nat, k ≤ m ∧ i = .int .i64 k ∧ v = .int .u64 (numOf (bitsAt s.data.toList a k) : Int) ∧ RStep S q s (a + k) e w wr) (fun _ i _ => m - (intOf i).toNat)
  case atStart => exact ⟨0, Nat.zero_le _, rfl, rfl, h0.out _⟩
  case round =>
    obtain ⟨k, hk, rfl, rfl, hst⟩ := hrel
    by_cases hlt : k < m
    · obtain ⟨S', hw, hgo⟩ := hst.get
      replace hgo := Lib.hid hgo
      have hbit := getBit_any S' q s (a + k) e wr hw (by omega)
      have hV : numOf (bitsAt s.data.toList a k) < 9223372036854775808 := by
        have h1 := numOf_lt (bitsAt s.data.toList a k)
        rw [bitsAt_length] at h1
        have h2 : 2 ^ k ≤ 2 ^ 63 := Nat.pow_le_pow_right (by decide) (by omega)
        omega
      have hnx : Hid (numOf (bitsAt s.data.toList a (k + 1)) = 2 * numOf (bitsAt s.data.toList a k) + (bitAt s.data.toList (a + k)).toNat) := Lib.hid (by rw [bitsAt_snoc, numOf_snoc])
      have hor := or_bit _ _ hV (bool_le (bitAt s.data.toList (a + k)))
      replace hor := Lib.hid hor
      generalize numOf (bitsAt s.data.toList a k) = V at *
      clear hst hw
      go_wp2_with fail
      refine hbit.mono ?_
      rintro x w1 ⟨rfl, hs2⟩
      replace hs2 := Lib.hid hs2
      clear hbit
      have hor' := hor.out
      go_wp2_with fail
      go_roundw
      case rel => exact ⟨k + 1, by omega, by go_num, by rw [hnx.out]; go_num, hgo.out _ _ hs2.out⟩
      case measure => simp [intOf]; omega
    · obtain rfl : k = m := by omega
      replace hst := Lib.hid hst
      clear h0
      go_wp2_with fail
      go_ret2
      exact ⟨rfl, hst.out⟩

set_option maxHeartbeats 1600000 in
theorem get_no (S : Nat → Prop) (q : Nat) (s : ByteArray) (a e : Nat) (n : Int) (w : World) (h : IsR w S q s a e) (hn : n < 0 ∨ 64 < n ∨ (e : Int) - a < n) :
    Calls Tryz.prog 260 #[.pointer (some ⟨q, 0, none⟩), .int .i64 n] w fun x w' => x = .returned (.tuple #[.int .u64 0, .bool false]) ∧ RStep S q s a e w w' := by
  have hleft := left_any S q s a e w h
  have hle2 : a ≤ e := h.le
  have h0 : Hid (∀ n, RStep S q s a e w (w.drewN n)) := Lib.hid fun n => ⟨⟨S, h.kept (fun _ _ => rfl) (Nat.le_refl _), fun _ h => h, fun _ h => .inl h⟩, upon_drewN S w n⟩
  have h00 : Hid (RStep S q s a e w w) := Lib.hid (ObjStep.refl h)
  clear h
  by_cases h1 : n < 0
  · have hd : decide (n < 0) = true := by simpa using h1
    clear hn
    go_enter Tryz.func260, Tryz.ntmps260
    go_wp2_with fail
    go_ret2
    exact ⟨rfl, h00.out⟩
  · by_cases h2 : 64 < n
    · have hd : decide (n < 0) = false := by simpa using h1
      have hd2 : decide (64 < n) = true := by simpa using h2
      clear hn
      go_enter Tryz.func260, Tryz.ntmps260
      go_wp2_with fail
      go_ret2
      exact ⟨rfl, h00.out⟩
    · obtain ⟨m, rfl⟩ := Int.eq_ofNat_of_zero_le (show 0 ≤ n by omega)
      have hd : decide ((m : Int) < 0) = false := by simp
      have hd2 : decide (64 < (m : Int)) = false := by simpa using h2
      have hd3 : decide (e - a < m) = true := by simp; omega
      clear hn
      go_enter Tryz.func260, Tryz.ntmps260
      go_wp2_with fail
      refine hleft.mono ?_
      rintro x w1 ⟨rfl, n1, rfl⟩
      clear hleft
      go_wp2_with fail
      go_ret2
      exact ⟨rfl, h0.out _⟩
end Bit
end Go.Proofs.YtlgjbcmloochiaaGreatDoor
end

/- The statements' own 'works' of layer 6, and objects that a call has made. -/
section
namespace Go.Proofs.YtlgjbcmloochiaaGreatDoor
open Go.RowKit
namespace Bit
open Dsk Ob

theorem WMade.own {w0 w : World} {e : Ending} {w' : World} (hb : Below w0.heap.size w0 w) (h : WMade w e w') : ∃ q, e = .returned (.pointer (some ⟨q, 0, none⟩)) ∧ Own (fun w S => IsW w S q []) w0 w' := by
  obtain ⟨S, q, h1, h2, h3, h4⟩ := h
  exact ⟨q, h1, ⟨S, h2, fun b hS => Nat.le_trans hb.size (h3 b hS)⟩, below_of_upon hb h4⟩
theorem RMade.own {s : ByteArray} {n : Nat} {w0 w : World} {e : Ending} {w' : World} (hb : Below w0.heap.size w0 w) (h : RMade s n w e w') : ∃ q, e = .returned (.pointer (some ⟨q, 0, none⟩)) ∧ Own (fun w S => IsR w S q s 0 n) w0 w' := by
  obtain ⟨S, q, h1, h2, h3, h4⟩ := h
  exact ⟨q, h1, ⟨S, h2, fun b hS => Nat.le_trans hb.size (h3 b hS)⟩, below_of_upon hb h4⟩
abbrev OwnW (w0 : World) (q : Nat) (L : List Bool) (w : World) : Prop := Own (fun w S => IsW w S q L) w0 w
theorem OwnW.put {w0 w : World} {q : Nat} {L L' : List Bool} (h : OwnW w0 q L w) (v : Nat) (n : Int) (hL : L.length ≤ 90000000000000) (hv : v < 18446744073709551616) (e : L ++ bitsOf v (cnt n) = L') :
    Calls Tryz.prog 212 #[.pointer (some ⟨q, 0, none⟩), .int .u64 (v : Int), .int .i64 n] w fun e w' => e = .returned (.tuple #[]) ∧ OwnW w0 q L' w' := by
  subst e
  obtain ⟨S, h1, h2⟩ := h.get
  exact (put_any S q L v n w h1 hL hv).mono fun _ _ ⟨he, hs⟩ => ⟨he, h2 _ _ hs⟩
theorem OwnW.len {w0 w : World} {q : Nat} {L : List Bool} (h : OwnW w0 q L w) {n : Nat} (hn : L.length = n) :
    Calls Tryz.prog 160 #[.pointer (some ⟨q, 0, none⟩)] w fun e w' => e = .returned (.int .i64 (n : Int)) ∧ w = w' := by
  subst hn
  obtain ⟨S, h1, _⟩ := h.get
  exact wlen_any S q L w h1

end Bit
end Go.Proofs.YtlgjbcmloochiaaGreatDoor
end

/- BitsFill, walked: what fills the last byte is 0. -/
section
namespace Go.Proofs.YtlgjbcmloochiaaGreatDoor
open Go.RowKit
namespace Bit
open Dsk Ob
set_option linter.unusedVariables false

theorem mod_mul (v p : Int) : v * p % 256 = v % 256 * p % 256 := by
  conv => lhs; rw [Int.mul_emod]
  conv => rhs; rw [Int.mul_emod, Int.emod_emod]
end Bit
end Go.Proofs.YtlgjbcmloochiaaGreatDoor
end

/- BitsBack, walked: numbers that are written are read again. -/
section
namespace Go.Proofs.YtlgjbcmloochiaaGreatDoor
open Go.RowKit
namespace Bit
open Dsk Ob Arg
set_option linter.unusedVariables false

end Bit
end Go.Proofs.YtlgjbcmloochiaaGreatDoor
end
