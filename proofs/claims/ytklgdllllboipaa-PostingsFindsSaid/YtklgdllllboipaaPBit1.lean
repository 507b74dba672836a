/- Parts, put together: BitPure, BitW, BitW2, BitR, BitLaws, BitFill, BitBack. -/
import Derived.Test.YtklgdllllboipaaRows
import Derived.Laws.BitsLemmas
import Derived.Laws.Bits64
import Derived.IntWalk
import Derived.Test.YtklgdllllboipaaPObj
import Derived.WalkKit
import Derived.WalkSpells
import Derived.WalkLawsBesides
import Derived.Handy
import Derived.Below
import Derived.OneCell
import Derived.Lib.Hide
import Derived.Lib.UnsafeStr
import Derived.Lib.Strings
import Derived.RegionTactic
import Derived.BigRegion
import Derived.StillTailTactics
import Derived.Deep.QuietTactic
import Derived.BigQuiet
import Derived.Deep.Cut
import Derived.Deep.DeepCutAuto
import Derived.Outline
import Derived.Deep.AppendLies
import Derived.Laws.IdiomStrings
import Derived.Lib.BufferRead
import Derived.Test.YtklgdllllboipaaArgNums
set_option maxRecDepth 100000

/- Bits as plain data (layer 6): a number's lowest bits, a number of bits, bits in bytes and read again. Names no function of the program. -/
section
namespace Go.Proofs.Ytklgdllllboipaa
namespace Bit

/-- The lowest n bits of v, the highest of them first. -/
def bitsOf (v : Nat) : Nat → List Bool
  | 0 => []
  | n + 1 => v.testBit n :: bitsOf v n
/-- The number of bits, the highest first. -/
def numOf (l : List Bool) : Nat := l.foldl (fun v b => 2 * v + b.toNat) 0

theorem bitsOf_length (v n : Nat) : (bitsOf v n).length = n := by
  induction n with
  | zero => rfl
  | succ n ih => simp [bitsOf, ih]
theorem numOf_nil : numOf [] = 0 := rfl
theorem numOf_snoc (l : List Bool) (b : Bool) : numOf (l ++ [b]) = 2 * numOf l + b.toNat := by simp [numOf]
theorem numOf_foldl (l : List Bool) (x : Nat) : l.foldl (fun v b => 2 * v + b.toNat) x = x * 2 ^ l.length + numOf l := by
  induction l generalizing x with
  | nil => simp [numOf]
  | cons b l ih =>
    show l.foldl _ (2 * x + b.toNat) = _
    have h2 : numOf (b :: l) = b.toNat * 2 ^ l.length + numOf l := by
      show l.foldl _ (2 * 0 + b.toNat) = _
      rw [ih]; simp
    rw [ih, h2, List.length_cons, Nat.pow_succ, Nat.add_mul]
    have : 2 * x * 2 ^ l.length = x * (2 ^ l.length * 2) := by rw [Nat.mul_comm 2 x, Nat.mul_assoc, Nat.mul_comm 2]
    omega
theorem numOf_append (a b : List Bool) : numOf (a ++ b) = numOf a * 2 ^ b.length + numOf b := by
  unfold numOf
  rw [List.foldl_append, numOf_foldl]; rfl
theorem numOf_cons (b : Bool) (l : List Bool) : numOf (b :: l) = b.toNat * 2 ^ l.length + numOf l := by
  have := numOf_append [b] l
  simpa [numOf] using this
theorem bool_lt (b : Bool) : b.toNat < 2 := by cases b <;> decide
theorem bool_le (b : Bool) : b.toNat ≤ 1 := by cases b <;> decide
theorem numOf_lt (l : List Bool) : numOf l < 2 ^ l.length := by
  induction l with
  | nil => simp [numOf]
  | cons b l ih =>
    rw [numOf_cons, List.length_cons, Nat.pow_succ]
    have := Nat.mul_le_mul_right (2 ^ l.length) (bool_le b)
    omega
theorem testBit_bool (v n : Nat) : (v.testBit n).toNat = v / 2 ^ n % 2 := by
  rw [Nat.testBit_eq_decide_div_mod_eq]
  by_cases h : v / 2 ^ n % 2 = 1
  · rw [h]; simp
  · rw [decide_eq_false h]; simp; omega
theorem numOf_bitsOf (v n : Nat) : numOf (bitsOf v n) = v % 2 ^ n := by
  induction n with
  | zero => simp [bitsOf, numOf, Nat.mod_one]
  | succ n ih =>
    rw [bitsOf, numOf_cons, ih, bitsOf_length, testBit_bool, Nat.pow_succ, Nat.mod_mul]
    rw [Nat.mul_comm, Nat.add_comm]
/-- Bit i of the number, from the lowest. -/
theorem numOf_testBit (l : List Bool) (i : Nat) (h : i < l.length) : (numOf l).testBit (l.length - 1 - i) = l[i] := by
  induction l generalizing i with
  | nil => simp at h
  | cons b l ih =>
    rw [numOf_cons, Nat.mul_comm]
    have hl := numOf_lt l
    cases i with
    | zero =>
      rw [Nat.testBit_two_pow_mul_add _ hl]
      simp
      cases b <;> simp
    | succ i =>
      have hi : i < l.length := by simpa using h
      rw [Nat.testBit_two_pow_mul_add _ hl]
      have e : (b :: l).length - 1 - (i + 1) = l.length - 1 - i := by simp only [List.length_cons]; omega
      rw [e, if_pos (by omega), ih i hi]
      simp
theorem testBit_mod2 (l : List Bool) (i : Nat) (h : i < l.length) : numOf l / 2 ^ (l.length - 1 - i) % 2 = (l[i]).toNat := by
  rw [← testBit_bool, numOf_testBit l i h]
theorem bitsOf_numOf (l : List Bool) : bitsOf (numOf l) l.length = l := by
  apply List.ext_getElem
  · rw [bitsOf_length]
  · intro i h1 h2
    have key : ∀ (v n i : Nat) (h : i < (bitsOf v n).length), (bitsOf v n)[i] = v.testBit (n - 1 - i) := by
      intro v n
      induction n with
      | zero => intro i h; simp [bitsOf] at h
      | succ n ih =>
        intro i h
        cases i with
        | zero => simp [bitsOf]
        | succ i =>
          simp only [bitsOf, List.getElem_cons_succ]
          rw [ih]
          congr 1
          omega
    rw [key, numOf_testBit l i h2]
theorem bitsOf_getElem (v n i : Nat) (h : i < n) : (bitsOf v n)[i]? = some (v.testBit (n - 1 - i)) := by
  induction n generalizing i with
  | zero => omega
  | succ n ih =>
    cases i with
    | zero => simp [bitsOf]
    | succ i =>
      simp only [bitsOf, List.getElem?_cons_succ]
      rw [ih i (by omega)]
      congr 2
      omega
theorem bitsOf_snoc (v n : Nat) (k : Nat) (h : k < n) : (bitsOf v n).take (k + 1) = (bitsOf v n).take k ++ [v.testBit (n - 1 - k)] := by
  rw [List.take_add_one, bitsOf_getElem v n k h]; rfl
theorem bitsOf_mod (v n : Nat) : bitsOf (v % 2 ^ n) n = bitsOf v n := by
  have h := bitsOf_numOf (bitsOf v n)
  rw [numOf_bitsOf, bitsOf_length] at h
  exact h

/-! ### bits in bytes -/
def chunkAt (L : List Bool) (j : Nat) : List Bool := (L.drop (8 * j)).take 8
/-- Byte j of bits: filled up with noughts. -/
def pk (L : List Bool) (j : Nat) : Nat := numOf (chunkAt L j) * 2 ^ (8 - (chunkAt L j).length)
def packTo (m : Nat) (L : List Bool) : List UInt8 := (List.range m).map fun j => UInt8.ofNat (pk L j)
/-- How many bytes so many bits need. -/
def nb (n : Nat) : Nat := (n + 7) / 8
def pack (L : List Bool) : List UInt8 := packTo (nb L.length) L

theorem chunk_le (L : List Bool) (j : Nat) : (chunkAt L j).length ≤ 8 := List.length_take_le _ _
theorem pk_lt (L : List Bool) (j : Nat) : pk L j < 256 := by
  unfold pk
  have h1 := numOf_lt (chunkAt L j)
  have h2 := chunk_le L j
  have : numOf (chunkAt L j) * 2 ^ (8 - (chunkAt L j).length) < 2 ^ (chunkAt L j).length * 2 ^ (8 - (chunkAt L j).length) := Nat.mul_lt_mul_of_pos_right h1 (Nat.two_pow_pos _)
  rw [← Nat.pow_add] at this
  have e : (chunkAt L j).length + (8 - (chunkAt L j).length) = 8 := by omega
  rw [e] at this
  exact this
theorem packTo_length (m : Nat) (L : List Bool) : (packTo m L).length = m := by simp [packTo]
theorem pack_length (L : List Bool) : (pack L).length = nb L.length := packTo_length _ _
theorem packTo_getD (m : Nat) (L : List Bool) (j : Nat) (h : j < m) : (packTo m L).getD j 0 = UInt8.ofNat (pk L j) := by
  simp [packTo, List.getD_eq_getElem?_getD, List.getElem?_map, List.getElem?_range h]
theorem packTo_byte (m : Nat) (L : List Bool) (j : Nat) (h : j < m) : ((packTo m L).getD j 0).toNat = pk L j := by
  rw [packTo_getD m L j h, UInt8.toNat_ofNat', Nat.mod_eq_of_lt (pk_lt L j)]

theorem chunk_before (L : List Bool) (b : Bool) (j : Nat) (h : 8 * j + 8 ≤ L.length) : chunkAt (L ++ [b]) j = chunkAt L j := by
  unfold chunkAt
  rw [List.drop_append_of_le_length (by omega), List.take_append_of_le_length (by rw [List.length_drop]; omega)]
theorem chunk_behind (L : List Bool) (j : Nat) (h : L.length ≤ 8 * j) : chunkAt L j = [] := by
  unfold chunkAt
  rw [List.drop_of_length_le h]; rfl
theorem chunk_at (L : List Bool) (b : Bool) : chunkAt (L ++ [b]) (L.length / 8) = chunkAt L (L.length / 8) ++ [b] ∧ (chunkAt L (L.length / 8)).length = L.length % 8 := by
  unfold chunkAt
  have h1 : 8 * (L.length / 8) ≤ L.length := by omega
  rw [List.drop_append_of_le_length h1]
  have h2 : (L.drop (8 * (L.length / 8))).length = L.length % 8 := by rw [List.length_drop]; omega
  rw [List.take_of_length_le (l := L.drop (8 * (L.length / 8))) (by omega), List.take_of_length_le (by rw [List.length_append, h2]; simp; omega)]
  exact ⟨rfl, h2⟩
theorem pk_other (L : List Bool) (b : Bool) (j : Nat) (h : j ≠ L.length / 8) : pk (L ++ [b]) j = pk L j := by
  unfold pk
  by_cases hj : 8 * j + 8 ≤ L.length
  · rw [chunk_before L b j hj]
  · rw [chunk_behind (L ++ [b]) j (by rw [List.length_append, List.length_singleton]; omega), chunk_behind L j (by omega)]
theorem pk_at (L : List Bool) (b : Bool) : pk (L ++ [b]) (L.length / 8) = pk L (L.length / 8) + b.toNat * 2 ^ (7 - L.length % 8) := by
  obtain ⟨h1, h2⟩ := chunk_at L b
  unfold pk
  rw [h1, numOf_snoc, List.length_append, h2]
  have h3 : L.length % 8 < 8 := Nat.mod_lt _ (by decide)
  have e1 : 8 - L.length % 8 = (7 - L.length % 8) + 1 := by omega
  have e2 : 8 - (L.length % 8 + [b].length) = 7 - L.length % 8 := by simp
  rw [e1, e2, Nat.pow_succ, Nat.add_mul]
  have : 2 * numOf (chunkAt L (L.length / 8)) * 2 ^ (7 - L.length % 8) = numOf (chunkAt L (L.length / 8)) * (2 ^ (7 - L.length % 8) * 2) := by
    rw [Nat.mul_comm 2, Nat.mul_assoc, Nat.mul_comm 2]
  omega
theorem pk_dvd (L : List Bool) : pk L (L.length / 8) % 2 ^ (8 - L.length % 8) = 0 := by
  obtain ⟨_, h2⟩ := chunk_at L false
  unfold pk
  rw [h2]
  exact Nat.mul_mod_left _ _
theorem pk_new (L : List Bool) (_ : L.length % 8 = 0) : pk L (L.length / 8) = 0 := by
  unfold pk
  rw [chunk_behind L _ (by omega)]
  simp [numOf]

theorem packTo_snoc (m : Nat) (L : List Bool) (b : Bool) (_ : L.length / 8 < m) :
    packTo m (L ++ [b]) = (packTo m L).set (L.length / 8) (UInt8.ofNat (pk L (L.length / 8) + b.toNat * 2 ^ (7 - L.length % 8))) := by
  apply List.ext_getElem?
  intro j
  by_cases hj : j < m
  · by_cases e : j = L.length / 8
    · subst e
      rw [List.getElem?_set_self (by rw [packTo_length]; exact hj)]
      unfold packTo
      rw [List.getElem?_map, List.getElem?_range hj, Option.map_some, pk_at]
    · rw [List.getElem?_set_ne (Ne.symm e)]
      unfold packTo
      rw [List.getElem?_map, List.getElem?_range hj, List.getElem?_map, List.getElem?_range hj, Option.map_some, Option.map_some, pk_other L b j e]
  · rw [List.getElem?_eq_none (by rw [packTo_length]; omega), List.getElem?_eq_none (by rw [List.length_set, packTo_length]; omega)]
theorem nb_snoc (n : Nat) : nb (n + 1) = if n % 8 = 0 then nb n + 1 else nb n := by
  unfold nb
  split <;> omega
theorem nb_at (n : Nat) : n / 8 < nb (n + 1) := by unfold nb; omega
theorem packTo_more (L : List Bool) (h : L.length % 8 = 0) : packTo (nb (L.length + 1)) L = pack L ++ [0] := by
  unfold pack
  have e : nb (L.length + 1) = nb L.length + 1 := by rw [nb_snoc, if_pos h]
  rw [e]
  unfold packTo
  rw [List.range_succ, List.map_append]
  have e2 : nb L.length = L.length / 8 := by unfold nb; omega
  simp only [List.map_cons, List.map_nil]
  rw [e2, pk_new L h]
  rfl
theorem pack_snoc (L : List Bool) (b : Bool) :
    pack (L ++ [b]) = (packTo (nb (L.length + 1)) L).set (L.length / 8) (UInt8.ofNat (pk L (L.length / 8) + b.toNat * 2 ^ (7 - L.length % 8))) := by
  unfold pack
  rw [List.length_append]
  exact packTo_snoc _ L b (nb_at _)
theorem pack_same (L : List Bool) (h : L.length % 8 ≠ 0) : packTo (nb (L.length + 1)) L = pack L := by
  unfold pack; rw [nb_snoc, if_neg h]

/-- Byte |= bit << place, in Go's numbers. -/
theorem or_byte (L : List Bool) (b : Bool) : bits .or .u8 ((pk L (L.length / 8) : Nat) : Int) ((b.toNat * 2 ^ (7 - L.length % 8) : Nat) : Int) = ((pk L (L.length / 8) + b.toNat * 2 ^ (7 - L.length % 8) : Nat) : Int) := by
  have h1 := pk_lt L (L.length / 8)
  have h2 := pk_dvd L
  have h3 : L.length % 8 < 8 := Nat.mod_lt _ (by decide)
  have h4 : b.toNat * 2 ^ (7 - L.length % 8) < 2 ^ (8 - L.length % 8) := by
    have e1 : 8 - L.length % 8 = (7 - L.length % 8) + 1 := by omega
    rw [e1, Nat.pow_succ]
    have := Nat.mul_le_mul_right (2 ^ (7 - L.length % 8)) (bool_le b)
    have := Nat.two_pow_pos (7 - L.length % 8)
    omega
  have h5 : 2 ^ (8 - L.length % 8) ≤ 2 ^ 8 := Nat.pow_le_pow_right (by decide) (by omega)
  rw [bits_join .u8 8 (by decide) wraps_u8 (8 - L.length % 8) _ _ (Int.natCast_nonneg _) (by exact_mod_cast h2) (by exact_mod_cast h1) (Int.natCast_nonneg _) (by exact_mod_cast h4) (by exact_mod_cast Nat.lt_of_lt_of_le h4 h5)]
  simp

/-! ### bits of bytes -/
/-- Bit i of a text. -/
def bitAt (s : List UInt8) (i : Nat) : Bool := ((s.getD (i / 8) 0).toNat / 2 ^ (7 - i % 8) % 2 == 1)
/-- n bits of a text, from bit a on. -/
def bitsAt (s : List UInt8) (a n : Nat) : List Bool := (List.range n).map fun i => bitAt s (a + i)
theorem bitsAt_length (s : List UInt8) (a n : Nat) : (bitsAt s a n).length = n := by simp [bitsAt]
theorem bitsAt_snoc (s : List UInt8) (a n : Nat) : bitsAt s a (n + 1) = bitsAt s a n ++ [bitAt s (a + n)] := by simp [bitsAt, List.range_succ]
theorem bitsAt_add (s : List UInt8) (a n m : Nat) : bitsAt s a (n + m) = bitsAt s a n ++ bitsAt s (a + n) m := by
  induction m with
  | zero => simp [bitsAt]
  | succ m ih => rw [← Nat.add_assoc, bitsAt_snoc, ih, bitsAt_snoc, List.append_assoc, Nat.add_assoc]
theorem bitAt_num (s : List UInt8) (i : Nat) : (bitAt s i).toNat = (s.getD (i / 8) 0).toNat / 2 ^ (7 - i % 8) % 2 := by
  unfold bitAt
  have : (s.getD (i / 8) 0).toNat / 2 ^ (7 - i % 8) % 2 < 2 := Nat.mod_lt _ (by decide)
  by_cases h : (s.getD (i / 8) 0).toNat / 2 ^ (7 - i % 8) % 2 = 1
  · rw [h]; rfl
  · have h0 : (s.getD (i / 8) 0).toNat / 2 ^ (7 - i % 8) % 2 = 0 := by omega
    rw [h0]; rfl
/-- What was packed is there. -/
theorem bitAt_packTo (m : Nat) (L : List Bool) (i : Nat) (hm : i / 8 < m) (h : i < L.length) : bitAt (packTo m L) i = L[i] := by
  have h1 : (bitAt (packTo m L) i).toNat = (L[i]).toNat := by
    rw [bitAt_num, packTo_byte m L _ hm]
    unfold pk
    have hk : i % 8 < 8 := Nat.mod_lt _ (by decide)
    have hcl : i % 8 < (chunkAt L (i / 8)).length := by
      unfold chunkAt; rw [List.length_take, List.length_drop]; omega
    have hc8 := chunk_le L (i / 8)
    have hce : (chunkAt L (i / 8))[i % 8] = L[i] := by
      apply Option.some.inj
      rw [← List.getElem?_eq_getElem hcl, ← List.getElem?_eq_getElem h]
      unfold chunkAt
      rw [List.getElem?_take_of_lt hk, List.getElem?_drop]
      congr 1
      omega
    rw [← hce, ← testBit_mod2 _ _ hcl]
    have e : 7 - i % 8 = (8 - (chunkAt L (i / 8)).length) + ((chunkAt L (i / 8)).length - 1 - i % 8) := by omega
    rw [e, Nat.pow_add, ← Nat.div_div_eq_div_mul, Nat.mul_div_cancel _ (Nat.two_pow_pos _)]
  cases h2 : bitAt (packTo m L) i <;> cases h3 : L[i] <;> simp_all
theorem bitsAt_pack (L : List Bool) (a n : Nat) (h : a + n ≤ L.length) : bitsAt (pack L) a n = (L.drop a).take n := by
  apply List.ext_getElem
  · simp [bitsAt_length]; omega
  · intro i h1 h2
    rw [bitsAt_length] at h1
    simp only [bitsAt, List.getElem_map, List.getElem_range, List.getElem_take, List.getElem_drop]
    exact bitAt_packTo _ L (a + i) (by unfold nb; omega) (by omega)
/-- A text's bits, packed, are the text. -/
theorem bitAt_inj (s t : List UInt8) (hl : s.length = t.length) (h : ∀ i, i < 8 * s.length → bitAt s i = bitAt t i) : s = t := by
  apply List.ext_getElem hl
  intro j h1 h2
  apply UInt8.toNat.inj
  have hb1 := (s[j]).toNat_lt
  have hb2 := (t[j]).toNat_lt
  apply Nat.eq_of_testBit_eq
  intro k
  by_cases hk : k < 8
  · have hh := h (8 * j + (7 - k)) (by omega)
    have := congrArg Bool.toNat hh
    rw [bitAt_num, bitAt_num] at this
    have e1 : (8 * j + (7 - k)) / 8 = j := by omega
    have e2 : 7 - (8 * j + (7 - k)) % 8 = k := by omega
    rw [e1, e2, List.getD_eq_getElem?_getD, List.getD_eq_getElem?_getD, List.getElem?_eq_getElem h1, List.getElem?_eq_getElem h2] at this
    simp only [Option.getD_some] at this
    rw [← testBit_bool, ← testBit_bool] at this
    cases hx : (s[j]).toNat.testBit k <;> cases hy : (t[j]).toNat.testBit k <;> simp_all
  · have p8 : 2 ^ 8 ≤ 2 ^ k := Nat.pow_le_pow_right (by decide) (by omega)
    rw [Nat.testBit_lt_two_pow (by omega), Nat.testBit_lt_two_pow (by omega)]
end Bit
end Go.Proofs.Ytklgdllllboipaa
end

/- The writer of bits (layer 6) in memory as plain data, and what each of its calls does. -/
section
namespace Go.Proofs.Ytklgdllllboipaa
open Go.RowKit
namespace Bit
open Dsk Ob




theorem ret_int {k : IntKind} {a b : Int} (h : a = b) : Ending.returned (.int k a) = .returned (.int k b) := by rw [h]
theorem infoU8 : (Try.prog.info? 5).map (fun i => (i.zero, i.size, i.bytes)) = some (some (.int .u8 0), 1, 1) := by kernel_rfl
theorem cell2 {w : World} {q : Nat} {a b : Value} {T : TypeId} (h : w.heap[q]? = some (.cells #[a, b] T (0, 0))) :
    w.cell? ⟨q, 0, none⟩ = some a ∧ w.cell? ⟨q, 1, none⟩ = some b ∧ ∀ o, w.frozen? ⟨q, o, none⟩ = false := by
  refine ⟨?_, ?_, fun o => Lib.frozen_of_heap h o⟩ <;> (rw [Lib.cell_of_heap h]; rfl)

/-! ### NewWriter, Len, shift -/



/-! ### putBit -/
theorem byteCells_set (l : List UInt8) (j : Nat) (b : UInt8) : Lib.byteCells (l.set j b) = (Lib.byteCells l).set j (.int .u8 (b.toNat : Int)) := by
  unfold Lib.byteCells; rw [List.map_set]
theorem row_set {w : World} {g m cap j : Nat} {l : List UInt8} {b : UInt8} (h : w.ownsRow 0 5 1 (.slice (some ⟨g, 0, none⟩) m cap) m (Lib.byteCells l)) :
    (w.setCell ⟨g, j, none⟩ (.int .u8 (b.toNat : Int))).ownsRow 0 5 1 (.slice (some ⟨g, 0, none⟩) m cap) m (Lib.byteCells (l.set j b)) := by
  rcases h.2 with ⟨h0, _⟩ | ⟨g', cap', cur, hv, hb, hg, hmc, hcm, hcs, ht⟩
  · cases h0
  · cases hv
    refine ⟨by rw [byteCells_set, List.length_set]; exact h.1, .inr ⟨g, cap, cur.setIfInBounds j (.int .u8 (b.toNat : Int)), rfl, hb, ?_, hmc, hcm, ?_, ?_⟩⟩
    · simp [World.setCell, Array.getElem?_modify, hg]
    · simpa using hcs
    · rw [byteCells_set, ← ht, Array.toList_setIfInBounds, List.take_set]

theorem or_put (L : List Bool) (b : Bool) : bits .or .u8 ((pk L (L.length / 8) : Nat) : Int) (IntKind.u8.wrap (((b.toNat : Nat) : Int) * 2 ^ (7 - L.length % 8))) = ((pk L (L.length / 8) + b.toNat * 2 ^ (7 - L.length % 8) : Nat) : Int) := by
  have h3 : L.length % 8 < 8 := Nat.mod_lt _ (by decide)
  have h2 : 2 ^ (7 - L.length % 8) ≤ 2 ^ 7 := Nat.pow_le_pow_right (by decide) (by omega)
  have h1 := Nat.mul_le_mul (bool_le b) h2
  have e : (((b.toNat : Nat) : Int) * 2 ^ (7 - L.length % 8)) = ((b.toNat * 2 ^ (7 - L.length % 8) : Nat) : Int) := by simp
  rw [e, IntKind.wrap_u8, Int.emod_eq_of_lt (by omega) (by omega), or_byte]




end Bit
end Go.Proofs.Ytklgdllllboipaa
end

/- The writer of bits (layer 6): Put and Text. -/
section
namespace Go.Proofs.Ytklgdllllboipaa
open Go.RowKit
namespace Bit
open Dsk Ob

/-- How many bits are written for a count n. -/
def cnt (n : Int) : Nat := (min n 64).toNat
theorem and_one (v k : Nat) (hv : v < 18446744073709551616) : bits .and .u64 ((v : Int) / 2 ^ k) 1 = (((v.testBit k).toNat : Nat) : Int) := by
  have h1 : v / 2 ^ k < 18446744073709551616 := Nat.lt_of_le_of_lt (Nat.div_le_self _ _) hv
  have e : (v : Int) / 2 ^ k = ((v / 2 ^ k : Nat) : Int) := by rw [Int.natCast_ediv, Int.natCast_pow]; rfl
  have := bits_mask .u64 64 (by decide) (fun n h0 h1 => by rw [IntKind.wrap_u64]; omega) 1 (by decide) ((v / 2 ^ k : Nat) : Int) (Int.natCast_nonneg _) (by exact_mod_cast h1)
  rw [e, testBit_bool, Int.natCast_emod]
  exact this



/-! ### Text -/
end Bit
end Go.Proofs.Ytklgdllllboipaa
end

/- The reader of bits (layer 6) in memory as plain data, and what each of its calls does. -/
section
namespace Go.Proofs.Ytklgdllllboipaa
open Go.RowKit
namespace Bit
open Dsk Ob

theorem cell3 {w : World} {q : Nat} {a b c : Value} {T : TypeId} (h : w.heap[q]? = some (.cells #[a, b, c] T (0, 0))) :
    w.cell? ⟨q, 0, none⟩ = some a ∧ w.cell? ⟨q, 1, none⟩ = some b ∧ w.cell? ⟨q, 2, none⟩ = some c ∧ ∀ o, w.frozen? ⟨q, o, none⟩ = false := by
  refine ⟨?_, ?_, ?_, fun o => Lib.frozen_of_heap h o⟩ <;> (rw [Lib.cell_of_heap h]; rfl)

/-! ### NewReader -/
/-- How many bits a reader is made for. -/
def ends (s : ByteArray) (n : Int) : Nat := (min n (8 * s.size)).toNat

/-! ### Left, getBit -/

/-! The bit. -/
theorem shr_and (c : UInt8) (k : Nat) : bits .and .u8 ((c.toNat : Int) / 2 ^ k) 1 = ((c.toNat / 2 ^ k % 2 : Nat) : Int) := by
  have h1 : c.toNat / 2 ^ k < 256 := Nat.lt_of_le_of_lt (Nat.div_le_self _ _) c.toNat_lt
  have e : (c.toNat : Int) / 2 ^ k = ((c.toNat / 2 ^ k : Nat) : Int) := by rw [Int.natCast_ediv, Int.natCast_pow]; rfl
  have := bits_mask .u8 8 (by decide) wraps_u8 1 (by decide) ((c.toNat / 2 ^ k : Nat) : Int) (Int.natCast_nonneg _) (by exact_mod_cast h1)
  rw [e, Int.natCast_emod]
  exact this

/-! ### Get -/
theorem or_bit (V B : Nat) (hV : V < 9223372036854775808) (hB : B ≤ 1) : bits .or .u64 ((V : Int) * 2) (B : Int) = ((2 * V + B : Nat) : Int) := by
  have := bits_join .u64 64 (by decide) (fun n h0 h1 => by rw [IntKind.wrap_u64]; omega) 1 ((V : Int) * 2) (B : Int) (by omega) (by omega) (by omega) (by omega) (by omega) (by omega)
  rw [this]; omega

end Bit
end Go.Proofs.Ytklgdllllboipaa
end

/- The statements' own 'works' of layer 6, and objects that a call has made. -/
section
namespace Go.Proofs.Ytklgdllllboipaa
open Go.RowKit
namespace Bit
open Dsk Ob


def isA8 : ByteArray := ⟨#[168]⟩
end Bit
end Go.Proofs.Ytklgdllllboipaa
end

/- BitsFill, walked: what fills the last byte is 0. -/
section
namespace Go.Proofs.Ytklgdllllboipaa
open Go.RowKit
namespace Bit
open Dsk Ob
set_option linter.unusedVariables false

theorem bitsAt_byte (l : List UInt8) (k : Nat) : bitsAt l (8 * k) 8 = bitsOf (l.getD k 0).toNat 8 := by
  apply List.ext_getElem?
  intro i
  by_cases h : i < 8
  · rw [bitsOf_getElem _ _ _ h]
    unfold bitsAt
    rw [List.getElem?_map, List.getElem?_range h, Option.map_some]
    unfold bitAt
    have e1 : (8 * k + i) / 8 = k := by omega
    have e2 : 7 - (8 * k + i) % 8 = 8 - 1 - i := by omega
    rw [e1, e2, Nat.testBit_eq_decide_div_mod_eq]
    rfl
  · rw [List.getElem?_eq_none (by rw [bitsAt_length]; omega), List.getElem?_eq_none (by rw [bitsOf_length]; omega)]
theorem pack_bits (l : List UInt8) : pack (bitsAt l 0 (8 * l.length)) = l := by
  have hl : (bitsAt l 0 (8 * l.length)).length = 8 * l.length := bitsAt_length _ _ _
  have hp : (pack (bitsAt l 0 (8 * l.length))).length = l.length := by rw [pack_length, hl]; unfold nb; omega
  refine bitAt_inj _ _ hp fun i hi => ?_
  rw [hp] at hi
  have hi2 : i < (bitsAt l 0 (8 * l.length)).length := by omega
  have := bitAt_packTo (nb (bitsAt l 0 (8 * l.length)).length) (bitsAt l 0 (8 * l.length)) i (by rw [hl]; unfold nb; omega) hi2
  unfold pack
  rw [this]
  simp [bitsAt]
theorem chunk_left (A B : List Bool) (a j : Nat) (hA : A.length = 8 * a) (hj : j < a) : chunkAt (A ++ B) j = chunkAt A j := by
  unfold chunkAt
  rw [List.drop_append_of_le_length (by omega), List.take_append_of_le_length (by rw [List.length_drop]; omega)]
theorem chunk_right (A B : List Bool) (a j : Nat) (hA : A.length = 8 * a) : chunkAt (A ++ B) (a + j) = chunkAt B j := by
  unfold chunkAt
  have e : 8 * (a + j) = A.length + 8 * j := by rw [hA]; omega
  rw [e, List.drop_length_add_append]
theorem pack_app (A B : List Bool) (a : Nat) (hA : A.length = 8 * a) : pack (A ++ B) = pack A ++ pack B := by
  have e1 : nb A.length = a := by rw [hA]; unfold nb; omega
  have e2 : nb (A ++ B).length = a + nb B.length := by rw [List.length_append, hA]; unfold nb; omega
  unfold pack packTo
  rw [e2, e1, List.range_add, List.map_append, List.map_map]
  congr 1
  · apply List.map_congr_left
    intro j hj
    have : j < a := by simpa using hj
    unfold pk; rw [chunk_left A B a j hA this]
  · apply List.map_congr_left
    intro j _
    show UInt8.ofNat (pk (A ++ B) (a + j)) = _
    unfold pk; rw [chunk_right A B a j hA]
theorem pack_one (B : List Bool) (h0 : 0 < B.length) (h8 : B.length ≤ 8) : pack B = [UInt8.ofNat (numOf B * 2 ^ (8 - B.length))] := by
  have e : nb B.length = 1 := by unfold nb; omega
  unfold pack packTo
  rw [e]
  show [UInt8.ofNat (pk B 0)] = _
  unfold pk chunkAt
  rw [Nat.mul_zero, List.drop_zero, List.take_of_length_le h8]
theorem low_byte (v m : Nat) (_ : 1 ≤ m) (hm : m ≤ 8) : v % 256 * 2 ^ (8 - m) % 256 = v % 2 ^ m * 2 ^ (8 - m) := by
  have e : 256 = 2 ^ m * 2 ^ (8 - m) := by
    rw [← Nat.pow_add, show m + (8 - m) = 8 by omega]
  have e2 : v % 256 % 2 ^ m = v % 2 ^ m := by
    have h : 256 = 2 ^ m * 2 ^ (8 - m) := e
    rw [h, Nat.mod_mul_right_mod]
  conv => lhs; rw [show (256 : Nat) = 2 ^ m * 2 ^ (8 - m) from e]
  rw [Nat.mul_mod_mul_right, ← e, e2]
theorem fill_bytes (l : List UInt8) (v m : Nat) (h1 : 1 ≤ m) (hm : m ≤ 8) : pack (bitsAt l 0 (8 * l.length) ++ bitsOf v m) = l ++ [UInt8.ofNat (v % 256 * 2 ^ (8 - m) % 256)] := by
  rw [pack_app _ _ l.length (bitsAt_length _ _ _), pack_bits, pack_one _ (by rw [bitsOf_length]; omega) (by rw [bitsOf_length]; exact hm), numOf_bitsOf, bitsOf_length, low_byte v m h1 hm]

theorem bytes_pack (s : ByteArray) : (⟨(pack (bitsAt s.data.toList 0 (8 * s.size))).toArray⟩ : ByteArray) = s := by
  have h := pack_bits s.data.toList
  have e : s.data.toList.length = s.size := by simp
  rw [e] at h
  rw [h]
theorem mod_mul (v p : Int) : v * p % 256 = v % 256 * p % 256 := by
  conv => lhs; rw [Int.mul_emod]
  conv => rhs; rw [Int.mul_emod, Int.emod_emod]
theorem cnt_in {m : Nat} (h : m ≤ 64) : cnt (m : Int) = m := by unfold cnt; omega
theorem pick8 (n : Int) : ∃ m : Nat, 1 ≤ m ∧ m ≤ 8 ∧ wrap64 (1 + wrap64 ((IntKind.u64.wrap n).tmod 8)) = (m : Int) := by
  have h0 : 0 ≤ IntKind.u64.wrap n := by rw [IntKind.wrap_u64]; omega
  rw [Int.tmod_eq_emod_of_nonneg h0]
  refine ⟨(1 + IntKind.u64.wrap n % 8).toNat, by omega, by omega, ?_⟩
  rw [IntWalk.wrap64_in (IntKind.u64.wrap n % 8) (by omega), IntWalk.wrap64_in _ (by omega)]
  omega
theorem fill_text (s : ByteArray) (v m : Nat) (h1 : 1 ≤ m) (h8 : m ≤ 8) : ∃ T : ByteArray, (⟨(pack (bitsAt s.data.toList 0 (8 * s.size) ++ bitsOf v m)).toArray⟩ : ByteArray) = T ∧ ∃ h : T.size = s.size + 1, T.extract 0 s.size = s ∧ ((T[s.size]'(by omega)).toNat = v % 256 * 2 ^ (8 - m) % 256) := by
  have h := fill_bytes s.data.toList v m h1 h8
  have e : s.data.toList.length = s.size := by simp
  rw [e] at h
  refine ⟨_, rfl, ?_, ?_, ?_⟩
  · show (pack (bitsAt s.data.toList 0 (8 * s.size) ++ bitsOf v m)).toArray.size = _
    rw [h]; simp
  · rw [h]
    apply ByteArray.ext
    simp
  · have e2 : ∀ (l : List UInt8) (hl : s.size < (⟨l.toArray⟩ : ByteArray).size), l = s.data.toList ++ [UInt8.ofNat (v % 256 * 2 ^ (8 - m) % 256)] → ((⟨l.toArray⟩ : ByteArray)[s.size]'hl).toNat = v % 256 * 2 ^ (8 - m) % 256 := by
      intro l hl e3
      subst e3
      show (((s.data.toList ++ [UInt8.ofNat (v % 256 * 2 ^ (8 - m) % 256)]).toArray)[s.size]'_).toNat = _
      have hs : s.size = s.data.toList.length := by simp
      simp only [List.getElem_toArray]
      rw [List.getElem_append_right (by omega)]
      simp
    exact e2 _ _ h
end Bit
end Go.Proofs.Ytklgdllllboipaa
end

/- BitsBack, walked: numbers that are written are read again. -/
section
namespace Go.Proofs.Ytklgdllllboipaa
open Go.RowKit
namespace Bit
open Dsk Ob Arg
set_option linter.unusedVariables false

/-- The count of bits that the statement makes of a number. -/
def mm (n : Int) : Nat := (n % 18446744073709551616 % 65).toNat
theorem mm_le (n : Int) : mm n ≤ 64 := by unfold mm; omega
theorem mm_go (n : Int) : wrap64 ((IntKind.u64.wrap n).tmod 65) = (mm n : Int) := by
  rw [IntKind.wrap_u64, Int.tmod_eq_emod_of_nonneg (by omega), IntWalk.wrap64_in _ (by omega)]
  unfold mm; omega
def opL (ps : List (Int × Int)) : List Bool := ps.flatMap fun p => bitsOf p.1.toNat (mm p.2)
theorem opL_snoc (ps : List (Int × Int)) (k : Nat) (h : k < ps.length) : opL (ps.take (k + 1)) = opL (ps.take k) ++ bitsOf ps[k].1.toNat (mm ps[k].2) := by
  rw [List.take_succ_eq_append_getElem h]
  unfold opL
  rw [List.flatMap_append]
  simp
theorem opL_le (ps : List (Int × Int)) (k : Nat) : (opL (ps.take k)).length ≤ 64 * k := by
  induction k with
  | zero => simp [opL]
  | succ k ih =>
    by_cases h : k < ps.length
    · rw [opL_snoc ps k h, List.length_append, bitsOf_length]
      have := mm_le ps[k].2
      omega
    · rw [List.take_of_length_le (by omega)] at ih ⊢
      omega
/-- What is read behind k numbers is the next one. -/
theorem opL_read (ps : List (Int × Int)) (k K : Nat) (h : k < ps.length) (hK : k < K) :
    bitsAt (pack (opL (ps.take K))) (opL (ps.take k)).length (mm ps[k].2) = bitsOf ps[k].1.toNat (mm ps[k].2) ∧ (opL (ps.take k)).length + mm ps[k].2 = (opL (ps.take (k + 1))).length ∧ (opL (ps.take (k + 1))).length ≤ (opL (ps.take K)).length := by
  have hs := opL_snoc ps k h
  have hlen : (opL (ps.take k)).length + mm ps[k].2 = (opL (ps.take (k + 1))).length := by rw [hs, List.length_append, bitsOf_length]
  have hsplit : ∃ R, opL (ps.take K) = opL (ps.take (k + 1)) ++ R := by
    refine ⟨opL ((ps.take K).drop (k + 1)), ?_⟩
    unfold opL
    rw [← List.flatMap_append]
    congr 1
    have e : ps.take (k + 1) = (ps.take K).take (k + 1) := by rw [List.take_take, Nat.min_eq_left (by omega)]
    rw [e, List.take_append_drop]
  obtain ⟨R, hR⟩ := hsplit
  have hle : (opL (ps.take (k + 1))).length ≤ (opL (ps.take K)).length := by rw [hR, List.length_append]; omega
  refine ⟨?_, hlen, hle⟩
  rw [bitsAt_pack _ _ _ (by omega), hR, hs, List.append_assoc, List.drop_left, List.take_left' (bitsOf_length _ _)]

theorem two_pow_u64 {M : Nat} (h : M < 64) : IntKind.u64.wrap ((2 : Int) ^ M) = 2 ^ M := by
  have h1 : 2 ^ M ≤ 2 ^ 63 := Nat.pow_le_pow_right (by decide) (by omega)
  have e : ((2 : Int) ^ M) = ((2 ^ M : Nat) : Int) := by simp
  rw [e]
  clear e
  generalize 2 ^ M = p at *
  rw [IntKind.wrap_u64]; omega
theorem back_text (L : List Bool) : ∃ s : ByteArray, (⟨(pack L).toArray⟩ : ByteArray) = s ∧ s.data.toList = pack L ∧ s.size = nb L.length ∧ ends s (L.length : Int) = L.length := by
  refine ⟨_, rfl, rfl, ?_, ?_⟩
  · show (pack L).toArray.size = _
    rw [List.size_toArray, pack_length]
  · have e : (⟨(pack L).toArray⟩ : ByteArray).size = nb L.length := by
      show (pack L).toArray.size = _
      rw [List.size_toArray, pack_length]
    unfold ends; rw [e]; unfold nb; omega
def backK (ps : List (Int × Int)) : Nat := min ps.length 100

end Bit
end Go.Proofs.Ytklgdllllboipaa
end
