/- Parts: PBit1. -/
import Derived.Test.YtgmnhodajngchaaGreatDoorRows
import Derived.Laws.BitsLemmas
import Derived.Laws.Bits64
import Derived.IntWalk
import Derived.Test.YtgmnhodajngchaaGreatDoorSPObj
import Derived.WalkKit
import Derived.WalkSpells
import Derived.WalkLawsBesides
import Derived.Handy
import Derived.Below
import Derived.OneCell
import Derived.Lib.Hide
import Derived.Lib.UnsafeStr
import Derived.Lib.Strings
import Derived.RegionTactic
import Derived.BigRegion
import Derived.StillTailTactics
import Derived.Deep.QuietTactic
import Derived.BigQuiet
import Derived.Deep.Cut
import Derived.Deep.DeepCutAuto
import Derived.Outline
import Derived.Deep.AppendLies
import Derived.Laws.IdiomStrings
import Derived.Lib.BufferRead
import Derived.Test.YtgmnhodajngchaaGreatDoorSArgNums
set_option maxRecDepth 100000
set_option linter.unusedVariables false
namespace Go.Proofs.YtgmnhodajngchaaGreatDoor
section
section
namespace Bit
def bitsOf (v : Nat) : Nat -> List Bool
 | 0 => []
 | n + 1 => v.testBit n :: bitsOf v n
def numOf (l : List Bool) : Nat := l.foldl (fun v b => 2 * v + b.toNat) 0
theorem bitsOf_length (v n : Nat) : (bitsOf v n).length = n := by
 induction n with
 | zero => rfl
 | succ n ih => simp [bitsOf, ih]
theorem numOf_snoc (l : List Bool) (b : Bool) : numOf (l ++ [b]) = 2 * numOf l + b.toNat := by simp [numOf]
theorem numOf_foldl (l : List Bool) (x : Nat) : l.foldl (fun v b => 2 * v + b.toNat) x = x * 2 ^ l.length + numOf l := by
 induction l generalizing x with
 | nil => simp [numOf]
 | cons b l ih =>
  show l.foldl _ (2 * x + b.toNat) = _
  have h2 : numOf (b :: l) = b.toNat * 2 ^ l.length + numOf l := by
   show l.foldl _ (2 * 0 + b.toNat) = _
   rw [ih]; simp
  rw [ih, h2, List.length_cons, Nat.pow_succ, Nat.add_mul]
  have : 2 * x * 2 ^ l.length = x * (2 ^ l.length * 2) := by rw [Nat.mul_comm 2 x, Nat.mul_assoc, Nat.mul_comm 2]
  omega
theorem numOf_append (a b : List Bool) : numOf (a ++ b) = numOf a * 2 ^ b.length + numOf b := by
 unfold numOf
 rw [List.foldl_append, numOf_foldl]; rfl
theorem numOf_cons (b : Bool) (l : List Bool) : numOf (b :: l) = b.toNat * 2 ^ l.length + numOf l := by
 have := numOf_append [b] l
 simpa [numOf] using this
theorem bool_le (b : Bool) : b.toNat <= 1 := by cases b <;> decide
theorem numOf_lt (l : List Bool) : numOf l < 2 ^ l.length := by
 induction l with
 | nil => simp [numOf]
 | cons b l ih =>
  rw [numOf_cons, List.length_cons, Nat.pow_succ]
  have := Nat.mul_le_mul_right (2 ^ l.length) (bool_le b)
  omega
theorem testBit_bool (v n : Nat) : (v.testBit n).toNat = v / 2 ^ n % 2 := by
 rw [Nat.testBit_eq_decide_div_mod_eq]
 by_cases h : v / 2 ^ n % 2 = 1
 ·rw [h]; simp
 ·rw [decide_eq_false h]; simp; omega
theorem numOf_bitsOf (v n : Nat) : numOf (bitsOf v n) = v % 2 ^ n := by
 induction n with
 | zero => simp [bitsOf, numOf, Nat.mod_one]
 | succ n ih =>
  rw [bitsOf, numOf_cons, ih, bitsOf_length, testBit_bool, Nat.pow_succ, Nat.mod_mul]
  rw [Nat.mul_comm, Nat.add_comm]
theorem numOf_testBit (l : List Bool) (i : Nat) (h : i < l.length) : (numOf l).testBit (l.length - 1 - i) = l[i] := by
 induction l generalizing i with
 | nil => simp at h
 | cons b l ih =>
  rw [numOf_cons, Nat.mul_comm]
  have hl := numOf_lt l
  cases i with
  | zero =>
   rw [Nat.testBit_two_pow_mul_add _ hl]
   simp
   cases b <;> simp
  | succ i =>
   have hi : i < l.length := by simpa using h
   rw [Nat.testBit_two_pow_mul_add _ hl]
   have e : (b :: l).length - 1 - (i + 1) = l.length - 1 - i := by simp only [List.length_cons]; omega
   rw [e, if_pos (by omega), ih i hi]
   simp
theorem testBit_mod2 (l : List Bool) (i : Nat) (h : i < l.length) : numOf l / 2 ^ (l.length - 1 - i) % 2 = (l[i]).toNat := by
 rw [<- testBit_bool, numOf_testBit l i h]
theorem bitsOf_numOf (l : List Bool) : bitsOf (numOf l) l.length = l := by
 apply List.ext_getElem
 ·rw [bitsOf_length]
 ·intro i h1 h2
  have key : ∀ (v n i : Nat) (h : i < (bitsOf v n).length), (bitsOf v n)[i] = v.testBit (n - 1 - i) := by
   intro v n
   induction n with
   | zero => intro i h; simp [bitsOf] at h
   | succ n ih =>
    intro i h
    cases i with
    | zero => simp [bitsOf]
    | succ i =>
     simp only [bitsOf, List.getElem_cons_succ]
     rw [ih]
     congr 1
     omega
  rw [key, numOf_testBit l i h2]
theorem bitsOf_getElem (v n i : Nat) (h : i < n) : (bitsOf v n)[i]? = some (v.testBit (n - 1 - i)) := by
 induction n generalizing i with
 | zero => omega
 | succ n ih =>
  cases i with
  | zero => simp [bitsOf]
  | succ i =>
   simp only [bitsOf, List.getElem?_cons_succ]
   rw [ih i (by omega)]
   congr 2
   omega
theorem bitsOf_snoc (v n : Nat) (k : Nat) (h : k < n) : (bitsOf v n).take (k + 1) = (bitsOf v n).take k ++ [v.testBit (n - 1 - k)] := by
 rw [List.take_add_one, bitsOf_getElem v n k h]; rfl
def chunkAt (L : List Bool) (j : Nat) : List Bool := (L.drop (8 * j)).take 8
def pk (L : List Bool) (j : Nat) : Nat := numOf (chunkAt L j) * 2 ^ (8 - (chunkAt L j).length)
def packTo (m : Nat) (L : List Bool) : List UInt8 := (List.range m).map fun j => UInt8.ofNat (pk L j)
def nb (n : Nat) : Nat := (n + 7) / 8
def pack (L : List Bool) : List UInt8 := packTo (nb L.length) L
theorem chunk_le (L : List Bool) (j : Nat) : (chunkAt L j).length <= 8 := List.length_take_le _ _
theorem pk_lt (L : List Bool) (j : Nat) : pk L j < 256 := by
 unfold pk
 have h1 := numOf_lt (chunkAt L j)
 have h2 := chunk_le L j
 have : numOf (chunkAt L j) * 2 ^ (8 - (chunkAt L j).length) < 2 ^ (chunkAt L j).length * 2 ^ (8 - (chunkAt L j).length) := Nat.mul_lt_mul_of_pos_right h1 (Nat.two_pow_pos _)
 rw [<- Nat.pow_add] at this
 have e : (chunkAt L j).length + (8 - (chunkAt L j).length) = 8 := by omega
 rw [e] at this
 exact this
theorem packTo_length (m : Nat) (L : List Bool) : (packTo m L).length = m := by simp [packTo]
theorem pack_length (L : List Bool) : (pack L).length = nb L.length := packTo_length _ _
theorem packTo_getD (m : Nat) (L : List Bool) (j : Nat) (h : j < m) : (packTo m L).getD j 0 = UInt8.ofNat (pk L j) := by
 simp [packTo, List.getD_eq_getElem?_getD, List.getElem?_map, List.getElem?_range h]
theorem packTo_byte (m : Nat) (L : List Bool) (j : Nat) (h : j < m) : ((packTo m L).getD j 0).toNat = pk L j := by
 rw [packTo_getD m L j h, UInt8.toNat_ofNat', Nat.mod_eq_of_lt (pk_lt L j)]
theorem chunk_before (L : List Bool) (b : Bool) (j : Nat) (h : 8 * j + 8 <= L.length) : chunkAt (L ++ [b]) j = chunkAt L j := by
 unfold chunkAt
 rw [List.drop_append_of_le_length (by omega), List.take_append_of_le_length (by rw [List.length_drop]; omega)]
theorem chunk_behind (L : List Bool) (j : Nat) (h : L.length <= 8 * j) : chunkAt L j = [] := by
 unfold chunkAt
 rw [List.drop_of_length_le h]; rfl
theorem chunk_at (L : List Bool) (b : Bool) : chunkAt (L ++ [b]) (L.length / 8) = chunkAt L (L.length / 8) ++ [b] /\ (chunkAt L (L.length / 8)).length = L.length % 8 := by
 unfold chunkAt
 have h1 : 8 * (L.length / 8) <= L.length := by omega
 rw [List.drop_append_of_le_length h1]
 have h2 : (L.drop (8 * (L.length / 8))).length = L.length % 8 := by rw [List.length_drop]; omega
 rw [List.take_of_length_le (l := L.drop (8 * (L.length / 8))) (by omega), List.take_of_length_le (by rw [List.length_append, h2]; simp; omega)]
 exact ⟨rfl, h2⟩
theorem pk_other (L : List Bool) (b : Bool) (j : Nat) (h : j ≠ L.length / 8) : pk (L ++ [b]) j = pk L j := by
 unfold pk
 by_cases hj : 8 * j + 8 <= L.length
 ·rw [chunk_before L b j hj]
 ·rw [chunk_behind (L ++ [b]) j (by rw [List.length_append, List.length_singleton]; omega), chunk_behind L j (by omega)]
theorem pk_at (L : List Bool) (b : Bool) : pk (L ++ [b]) (L.length / 8) = pk L (L.length / 8) + b.toNat * 2 ^ (7 - L.length % 8) := by
 obtain ⟨h1, h2⟩ := chunk_at L b
 unfold pk
 rw [h1, numOf_snoc, List.length_append, h2]
 have h3 : L.length % 8 < 8 := Nat.mod_lt _ (by decide)
 have e1 : 8 - L.length % 8 = (7 - L.length % 8) + 1 := by omega
 have e2 : 8 - (L.length % 8 + [b].length) = 7 - L.length % 8 := by simp
 rw [e1, e2, Nat.pow_succ, Nat.add_mul]
 have : 2 * numOf (chunkAt L (L.length / 8)) * 2 ^ (7 - L.length % 8) = numOf (chunkAt L (L.length / 8)) * (2 ^ (7 - L.length % 8) * 2) := by
  rw [Nat.mul_comm 2, Nat.mul_assoc, Nat.mul_comm 2]
 omega
theorem packTo_snoc (m : Nat) (L : List Bool) (b : Bool) (_ : L.length / 8 < m) :
  packTo m (L ++ [b]) = (packTo m L).set (L.length / 8) (UInt8.ofNat (pk L (L.length / 8) + b.toNat * 2 ^ (7 - L.length % 8))) := by
 apply List.ext_getElem?
 intro j
 by_cases hj : j < m
 ·by_cases e : j = L.length / 8
  ·subst e
   rw [List.getElem?_set_self (by rw [packTo_length]; exact hj)]
   unfold packTo
   rw [List.getElem?_map, List.getElem?_range hj, Option.map_some, pk_at]
  ·rw [List.getElem?_set_ne (Ne.symm e)]
   unfold packTo
   rw [List.getElem?_map, List.getElem?_range hj, List.getElem?_map, List.getElem?_range hj, Option.map_some, Option.map_some, pk_other L b j e]
 ·rw [List.getElem?_eq_none (by rw [packTo_length]; omega), List.getElem?_eq_none (by rw [List.length_set, packTo_length]; omega)]
def bitAt (s : List UInt8) (i : Nat) : Bool := ((s.getD (i / 8) 0).toNat / 2 ^ (7 - i % 8) % 2 == 1)
def bitsAt (s : List UInt8) (a n : Nat) : List Bool := (List.range n).map fun i => bitAt s (a + i)
theorem bitsAt_length (s : List UInt8) (a n : Nat) : (bitsAt s a n).length = n := by simp [bitsAt]
theorem bitsAt_snoc (s : List UInt8) (a n : Nat) : bitsAt s a (n + 1) = bitsAt s a n ++ [bitAt s (a + n)] := by simp [bitsAt, List.range_succ]
theorem bitsAt_add (s : List UInt8) (a n m : Nat) : bitsAt s a (n + m) = bitsAt s a n ++ bitsAt s (a + n) m := by
 induction m with
 | zero => simp [bitsAt]
 | succ m ih => rw [<- Nat.add_assoc, bitsAt_snoc, ih, bitsAt_snoc, List.append_assoc, Nat.add_assoc]
theorem bitAt_num (s : List UInt8) (i : Nat) : (bitAt s i).toNat = (s.getD (i / 8) 0).toNat / 2 ^ (7 - i % 8) % 2 := by
 unfold bitAt
 have : (s.getD (i / 8) 0).toNat / 2 ^ (7 - i % 8) % 2 < 2 := Nat.mod_lt _ (by decide)
 by_cases h : (s.getD (i / 8) 0).toNat / 2 ^ (7 - i % 8) % 2 = 1
 ·rw [h]; rfl
 ·have h0 : (s.getD (i / 8) 0).toNat / 2 ^ (7 - i % 8) % 2 = 0 := by omega
  rw [h0]; rfl
theorem bitAt_packTo (m : Nat) (L : List Bool) (i : Nat) (hm : i / 8 < m) (h : i < L.length) : bitAt (packTo m L) i = L[i] := by
 have h1 : (bitAt (packTo m L) i).toNat = (L[i]).toNat := by
  rw [bitAt_num, packTo_byte m L _ hm]
  unfold pk
  have hk : i % 8 < 8 := Nat.mod_lt _ (by decide)
  have hcl : i % 8 < (chunkAt L (i / 8)).length := by
   unfold chunkAt; rw [List.length_take, List.length_drop]; omega
  have hc8 := chunk_le L (i / 8)
  have hce : (chunkAt L (i / 8))[i % 8] = L[i] := by
   apply Option.some.inj
   rw [<- List.getElem?_eq_getElem hcl, <- List.getElem?_eq_getElem h]
   unfold chunkAt
   rw [List.getElem?_take_of_lt hk, List.getElem?_drop]
   congr 1
   omega
  rw [<- hce, <- testBit_mod2 _ _ hcl]
  have e : 7 - i % 8 = (8 - (chunkAt L (i / 8)).length) + ((chunkAt L (i / 8)).length - 1 - i % 8) := by omega
  rw [e, Nat.pow_add, <- Nat.div_div_eq_div_mul, Nat.mul_div_cancel _ (Nat.two_pow_pos _)]
 cases h2 : bitAt (packTo m L) i <;> cases h3 : L[i] <;> simp_all
theorem bitsAt_pack (L : List Bool) (a n : Nat) (h : a + n <= L.length) : bitsAt (pack L) a n = (L.drop a).take n := by
 apply List.ext_getElem
 ·simp [bitsAt_length]; omega
 ·intro i h1 h2
  rw [bitsAt_length] at h1
  simp only [bitsAt, List.getElem_map, List.getElem_range, List.getElem_take, List.getElem_drop]
  exact bitAt_packTo _ L (a + i) (by unfold nb; omega) (by omega)
theorem bitAt_inj (s t : List UInt8) (hl : s.length = t.length) (h : ∀ i, i < 8 * s.length -> bitAt s i = bitAt t i) : s = t := by
 apply List.ext_getElem hl
 intro j h1 h2
 apply UInt8.toNat.inj
 have hb1 := (s[j]).toNat_lt
 have hb2 := (t[j]).toNat_lt
 apply Nat.eq_of_testBit_eq
 intro k
 by_cases hk : k < 8
 ·have hh := h (8 * j + (7 - k)) (by omega)
  have := congrArg Bool.toNat hh
  rw [bitAt_num, bitAt_num] at this
  have e1 : (8 * j + (7 - k)) / 8 = j := by omega
  have e2 : 7 - (8 * j + (7 - k)) % 8 = k := by omega
  rw [e1, e2, List.getD_eq_getElem?_getD, List.getD_eq_getElem?_getD, List.getElem?_eq_getElem h1, List.getElem?_eq_getElem h2] at this
  simp only [Option.getD_some] at this
  rw [<- testBit_bool, <- testBit_bool] at this
  cases hx : (s[j]).toNat.testBit k <;> cases hy : (t[j]).toNat.testBit k <;> simp_all
 ·have p8 : 2 ^ 8 <= 2 ^ k := Nat.pow_le_pow_right (by decide) (by omega)
  rw [Nat.testBit_lt_two_pow (by omega), Nat.testBit_lt_two_pow (by omega)]
end Bit
end
section
open Go.RowKit
namespace Bit
open Dsk Ob
theorem ret_int {k : IntKind} {a b : Int} (h : a = b) : Ending.returned (.int k a) = .returned (.int k b) := by rw [h]
theorem infoU8 : (Tryz.prog.info? 5).map (fun i => (i.zero, i.size, i.bytes)) = some (some (.int .u8 0), 1, 1) := by kernel_rfl
theorem cell2 {w : World} {q : Nat} {a b : Value} {T : TypeId} (h : w.heap[q]? = some (.cells #[a, b] T (0, 0))) :
  w.cell? ⟨q, 0, none⟩ = some a /\ w.cell? ⟨q, 1, none⟩ = some b /\ ∀ o, w.frozen? ⟨q, o, none⟩ = false := by
 refine ⟨?_, ?_, fun o => Lib.frozen_of_heap h o⟩ <;> (rw [Lib.cell_of_heap h]; rfl)
set_option maxHeartbeats 800000 in
theorem shift_any (n : Nat) (hn : n <= 2000000000000000) (w : World) : Calls Tryz.prog 251 #[.int .i64 (n : Int)] w fun e w' => e = .returned (.int .i64 ((7 - n % 8 : Nat) : Int)) /\ w = w' := by
 go_enter Tryz.func251, Tryz.ntmps251
 go_wp2
 go_ret
 exact ⟨ret_int (by omega), rfl⟩
theorem WrM.byte {w : World} {L : List Bool} {v : Value} {m : Nat} (hm : L.length / 8 < m) (h : w.ownsRow 0 5 1 v m (Lib.byteCells (packTo m L))) :
  ∃ g cap, v = .slice (some ⟨g, 0, none⟩) m cap /\ w.cell? ⟨g, L.length / 8, none⟩ = some (.int .u8 ((pk L (L.length / 8) : Nat) : Int)) /\ (∀ o, w.frozen? ⟨g, o, none⟩ = false) /\ g < w.heap.size /\ (∃ c, w.heap[g]? = some (.cells c 5 (0, 0))) := by
 rcases h.2 with ⟨_, h0⟩ | ⟨g, cap, cur, hv, _, hg, hmc, _, hcs, ht⟩
 ·omega
 ·refine ⟨g, cap, hv, ?_, fun o => Lib.frozen_of_heap hg o, (Array.getElem?_eq_some_iff.1 hg).1, _, hg⟩
  rw [Lib.cell_of_heap hg]
  have h1 : (cur.toList.take (m * 1))[L.length / 8]? = (Lib.byteCells (packTo m L))[L.length / 8]? := by rw [ht]
  rw [List.getElem?_take_of_lt (by omega)] at h1
  have h2 : (Lib.byteCells (packTo m L))[L.length / 8]? = some (.int .u8 ((pk L (L.length / 8) : Nat) : Int)) := by
   unfold Lib.byteCells packTo
   rw [List.map_map, List.getElem?_map, List.getElem?_range hm]
   simp [UInt8.toNat_ofNat', Nat.mod_eq_of_lt (pk_lt L (L.length / 8))]
  rw [h2] at h1
  simpa using h1
theorem byteCells_set (l : List UInt8) (j : Nat) (b : UInt8) : Lib.byteCells (l.set j b) = (Lib.byteCells l).set j (.int .u8 (b.toNat : Int)) := by
 unfold Lib.byteCells; rw [List.map_set]
theorem row_set {w : World} {g m cap j : Nat} {l : List UInt8} {b : UInt8} (h : w.ownsRow 0 5 1 (.slice (some ⟨g, 0, none⟩) m cap) m (Lib.byteCells l)) :
  (w.setCell ⟨g, j, none⟩ (.int .u8 (b.toNat : Int))).ownsRow 0 5 1 (.slice (some ⟨g, 0, none⟩) m cap) m (Lib.byteCells (l.set j b)) := by
 rcases h.2 with ⟨h0, _⟩ | ⟨g', cap', cur, hv, hb, hg, hmc, hcm, hcs, ht⟩
 ·cases h0
 ·cases hv
  refine ⟨by rw [byteCells_set, List.length_set]; exact h.1, .inr ⟨g, cap, cur.setIfInBounds j (.int .u8 (b.toNat : Int)), rfl, hb, ?_, hmc, hcm, ?_, ?_⟩⟩
  ·simp [World.setCell, Array.getElem?_modify, hg]
  ·simpa using hcs
  ·rw [byteCells_set, <- ht, Array.toList_setIfInBounds, List.take_set]
end Bit
end
section
open Go.RowKit
namespace Bit
open Dsk Ob
def cnt (n : Int) : Nat := (min n 64).toNat
theorem run_text (w : World) (v : Value) (l : List UInt8) (h : w.ownsRow 0 5 1 v l.length (Lib.byteCells l)) :
  (convert 51 9 v).run Tryz.prog w = .ok (.string ⟨l.toArray⟩) w := by
 rcases h.2 with ⟨rfl, h0⟩ | ⟨g, cap, cur, rfl, _, hg, _⟩
 ·have : l = [] := List.eq_nil_of_length_eq_zero h0
  subst this
  exact Lib.run_convert_nil_bytes w _ _ _ 0 Tryz.underlying51 Tryz.underlying5 Tryz.underlying9
 ·refine run_convert_bytes_back w _ _ 5 _ cap l Tryz.underlying51 Tryz.underlying5 Tryz.underlying9 fun j hj => ?_
  exact h.cells (g := g) rfl j _ (by unfold Lib.byteCells; rw [List.getElem?_map, List.getElem?_eq_getElem hj]; rfl)
end Bit
end
section
open Go.RowKit
namespace Bit
open Dsk Ob
structure RdM (w : World) (S : Nat -> Prop) (q : Nat) (s : ByteArray) (a e : Nat) : Prop where
 cell : w.heap[q]? = some (.cells #[.string s, .int .i64 (a : Int), .int .i64 (e : Int)] 313 (0, 0))
 s_q : S q
 lt : ∀ b, S b -> b < w.heap.size
 le : a <= e
 es : e <= 8 * s.size
 sz : s.size <= 140737488355328
def IsR (w : World) (S : Nat -> Prop) (q : Nat) (s : ByteArray) (a e : Nat) : Prop := RdM w S q s a e
theorem IsR.kept {w w' : World} {S : Nat -> Prop} {q : Nat} {s : ByteArray} {a e : Nat} (h : IsR w S q s a e) (hk : ∀ b, S b -> w'.heap[b]? = w.heap[b]?) (hs : w.heap.size <= w'.heap.size) : IsR w' S q s a e :=
 { h with cell := (hk q h.s_q).trans h.cell, lt := fun b hb => Nat.lt_of_lt_of_le (h.lt b hb) hs }
abbrev RStep (S : Nat -> Prop) (q : Nat) (s : ByteArray) (a e : Nat) (w w' : World) : Prop := ObjStep (fun w S => IsR w S q s a e) S w w'
theorem cell3 {w : World} {q : Nat} {a b c : Value} {T : TypeId} (h : w.heap[q]? = some (.cells #[a, b, c] T (0, 0))) :
  w.cell? ⟨q, 0, none⟩ = some a /\ w.cell? ⟨q, 1, none⟩ = some b /\ w.cell? ⟨q, 2, none⟩ = some c /\ ∀ o, w.frozen? ⟨q, o, none⟩ = false := by
 refine ⟨?_, ?_, ?_, fun o => Lib.frozen_of_heap h o⟩ <;> (rw [Lib.cell_of_heap h]; rfl)
def RMade (s : ByteArray) (e : Nat) (w : World) (x : Ending) (w' : World) : Prop :=
 ∃ S q, x = .returned (.pointer (some ⟨q, 0, none⟩)) /\ IsR w' S q s 0 e /\ (∀ b, S b -> w.heap.size <= b) /\ Upon (fun _ => False) w w'
theorem RMade.mk {s : ByteArray} {e : Nat} {w : World} (he : e <= 8 * s.size) (hs : s.size <= 140737488355328) :
  RMade s e w (.returned (.pointer (some ⟨w.heap.size, 0, none⟩))) (w.alloc (.cells #[.string s, .int .i64 0, .int .i64 (e : Int)] 313 (0, 0))) :=
 ⟨fun b => b = w.heap.size, w.heap.size, rfl, ⟨cell_new w _, rfl, fun b hb => by rw [hb]; simp, Nat.zero_le _, he, hs⟩, fun b hb => by rw [hb]; exact Nat.le_refl _, (Upon.refl _ w).alloc _⟩
def ends (s : ByteArray) (n : Int) : Nat := (min n (8 * s.size)).toNat
set_option maxHeartbeats 1600000 in
theorem newReader_any (s : ByteArray) (n : Int) (hs : s.size <= 140737488355328) (hn : -9223372036854775808 <= n /\ n <= 9223372036854775807) (w : World) :
  Calls Tryz.prog 210 #[.string s, .int .i64 n] w (RMade s (ends s n) w) := by
 obtain ⟨hn0, hn1⟩ := hn
 have H := fun e (he : e <= 8 * s.size) => RMade.mk (s := s) (e := e) (w := w) he hs
 have HE : Hid (∀ x : Int, x = (ends s n : Int) -> RMade s (ends s n) w (.returned (.pointer (some ⟨w.heap.size, 0, none⟩))) (w.alloc (.cells #[.string s, .int .i64 0, .int .i64 x] 313 (0, 0)))) :=
  Lib.hid fun x hx => by rw [hx]; exact H _ (by unfold ends; omega)
 clear H
 have E : Hid (∀ x : Int, (n <= 0 -> x = 0) -> (0 < n -> n / 8 < s.size -> x = n) -> (0 < n -> s.size <= n / 8 -> x = 8 * s.size) -> x = (ends s n : Int)) := Lib.hid fun x h1 h2 h3 => by
  unfold ends; omega
 go_enter Tryz.func210, Tryz.ntmps210
 go_wp2_with fail
 all_goals
  go_ret
  exact HE.out _ (E.out _ (by omega) (by omega) (by omega))
set_option maxHeartbeats 1600000 in
theorem left_any (S : Nat -> Prop) (q : Nat) (s : ByteArray) (a e : Nat) (w : World) (h : IsR w S q s a e) :
  Calls Tryz.prog 212 #[.pointer (some ⟨q, 0, none⟩)] w fun x w' => x = .returned (.int .i64 ((e - a : Nat) : Int)) /\ ∃ n, w' = w.drewN n := by
 obtain ⟨-, k1, k2, -⟩ := cell3 h.cell
 have hle := h.le
 have hes := h.es
 have hsz := h.sz
 have he : (e : Int) <= 1125899906842624 := by omega
 have hi : IntKind.i64.wrap ((e : Int) - (a : Int)) = ((e - a : Nat) : Int) := by rw [IntWalk.i64_in _ (by omega)]; omega
 clear h hes hsz he
 go_enter Tryz.func212, Tryz.ntmps212
 go_wp2_with fail
 go_quiet (fail)
 go_wp2_with fail
 go_ret
 exact ⟨rfl, _, rfl⟩
theorem shift_q (n : Nat) (hn : n <= 2000000000000000) (w : World) : Calls Tryz.prog 251 #[.int .i64 (n : Int)] w fun e w' => e = .returned (.int .i64 ((7 - n % 8 : Nat) : Int)) /\ w' = w :=
 (shift_any n hn w).mono fun _ _ ⟨he, hw⟩ => ⟨he, hw.symm⟩
theorem shr_and (c : UInt8) (k : Nat) : bits .and .u8 ((c.toNat : Int) / 2 ^ k) 1 = ((c.toNat / 2 ^ k % 2 : Nat) : Int) := by
 have h1 : c.toNat / 2 ^ k < 256 := Nat.lt_of_le_of_lt (Nat.div_le_self _ _) c.toNat_lt
 have e : (c.toNat : Int) / 2 ^ k = ((c.toNat / 2 ^ k : Nat) : Int) := by rw [Int.natCast_ediv, Int.natCast_pow]; rfl
 have := bits_mask .u8 8 (by decide) wraps_u8 1 (by decide) ((c.toNat / 2 ^ k : Nat) : Int) (Int.natCast_nonneg _) (by exact_mod_cast h1)
 rw [e, Int.natCast_emod]
 exact this
set_option maxHeartbeats 1600000 in
theorem getBit_any (S : Nat -> Prop) (q : Nat) (s : ByteArray) (a e : Nat) (w : World) (h : IsR w S q s a e) (hlt : a < e) :
  Calls Tryz.prog 264 #[.pointer (some ⟨q, 0, none⟩)] w fun x w' => x = .returned (.int .u64 ((bitAt s.data.toList a).toNat : Int)) /\ RStep S q s (a + 1) e w w' := by
 obtain ⟨k0, k1, -, kf⟩ := cell3 h.cell
 have hes := h.es
 have hsz := h.sz
 have ha : (a : Int) <= 1125899906842624 := by omega
 have hidx : a / 8 < s.size := by omega
 have HD : Hid (∀ n w', w' = (w.drewN n).setCell ⟨q, 1, none⟩ (.int .i64 ((a : Int) + 1)) -> RStep S q s (a + 1) e w w') := Lib.hid fun n w' e1 => by
  subst e1
  refine ⟨⟨S, ⟨?_, h.s_q, fun b hb => by have := h.lt b hb; simpa [World.setCell] using this, by omega, hes, hsz⟩, fun _ h => h, fun _ h => .inl h⟩, (upon_drewN S w n).setCell (p := ⟨q, 1, none⟩) (.inl h.s_q) _⟩
  have hc2 : w.heap[q]? = some (.cells #[.string s, .int .i64 (a : Int), .int .i64 (e : Int)] 313 (0, 0)) := h.cell
  simp [World.setCell, Array.getElem?_modify, hc2]
 have kf1 := kf 1
 obtain ⟨B, hB⟩ : ∃ B : Nat, B = (bitAt s.data.toList a).toNat := ⟨_, rfl⟩
 have hB1 : B <= 1 := by rw [hB]; exact bool_le _
 have e1 : bits .and .u8 (((s[a / 8]'hidx).toNat : Int) / 2 ^ (7 - a % 8)) 1 = (B : Int) := by
  rw [shr_and, hB, bitAt_num, List.getD_eq_getElem?_getD, List.getElem?_eq_getElem (by simpa using hidx)]
  rfl
 rw [<- hB]
 clear h kf hes hB
 go_enter Tryz.func264, Tryz.ntmps264
 go_wp2_with fail
 have i1 : IntKind.i64.wrap ((a : Int) / 8) = (a : Int) / 8 := IntWalk.i64_in _ (by omega)
 have i2 : (a : Int) / 8 < (s.size : Int) := by omega
 have i3 : 0 <= (a : Int) / 8 := by omega
 have i4 : ((a : Int) / 8).toNat = a / 8 := by omega
 have hb : a <= 2000000000000000 := by omega
 go_quiet ((go_at_call 251; exact Calls.quiet_of_same (shift_q a hb _)))
 clear i1 hb e1
 go_wp2_with fail
 go_ret
 exact ⟨rfl, HD.out _ _ rfl⟩
theorem or_bit (V B : Nat) (hV : V < 9223372036854775808) (hB : B <= 1) : bits .or .u64 ((V : Int) * 2) (B : Int) = ((2 * V + B : Nat) : Int) := by
 have := bits_join .u64 64 (by decide) (fun n h0 h1 => by rw [IntKind.wrap_u64]; omega) 1 ((V : Int) * 2) (B : Int) (by omega) (by omega) (by omega) (by omega) (by omega) (by omega)
 rw [this]; omega
set_option maxHeartbeats 1600000 in
theorem get_ok (S : Nat -> Prop) (q : Nat) (s : ByteArray) (a e m : Nat) (w : World) (h : IsR w S q s a e) (hm : m <= 64) (hle : m <= e - a) :
  Calls Tryz.prog 259 #[.pointer (some ⟨q, 0, none⟩), .int .i64 (m : Int)] w fun x w' => x = .returned (.tuple #[.int .u64 (numOf (bitsAt s.data.toList a m) : Int), .bool true]) /\ RStep S q s (a + m) e w w' := by
 have hleft := left_any S q s a e w h
 have hd1 : decide ((m : Int) < 0) = false := by simp
 have hd2 : decide (64 < (m : Int)) = false := by simp; omega
 have hd3 : decide (e - a < m) = false := by simp; omega
 have hle2 : a <= e := h.le
 have h0 : Hid (∀ n, RStep S q s (a + 0) e w (w.drewN n)) := Lib.hid fun n => ⟨⟨S, h.kept (fun _ _ => rfl) (Nat.le_refl _), fun _ h => h, fun _ h => .inl h⟩, upon_drewN S w n⟩
 clear h
 go_enter Tryz.func259, Tryz.ntmps259
 go_wp2_with fail
 refine hleft.mono ?_
 rintro x w1 ⟨rfl, n1, rfl⟩
 clear hleft
 go_wp2_with fail
 clear hd1 hd2 hd3
 go_loopw [6, 20] (fun v i wr => ∃ k : Nat, k <= m /\ i = .int .i64 k /\ v = .int .u64 (numOf (bitsAt s.data.toList a k) : Int) /\ RStep S q s (a + k) e w wr) (fun _ i _ => m - (intOf i).toNat)
 case atStart => exact ⟨0, Nat.zero_le _, rfl, rfl, h0.out _⟩
 case round =>
  obtain ⟨k, hk, rfl, rfl, hst⟩ := hrel
  by_cases hlt : k < m
  ·obtain ⟨S', hw, hgo⟩ := hst.get
   replace hgo := Lib.hid hgo
   have hbit := getBit_any S' q s (a + k) e wr hw (by omega)
   have hV : numOf (bitsAt s.data.toList a k) < 9223372036854775808 := by
    have h1 := numOf_lt (bitsAt s.data.toList a k)
    rw [bitsAt_length] at h1
    have h2 : 2 ^ k <= 2 ^ 63 := Nat.pow_le_pow_right (by decide) (by omega)
    omega
   have hnx : Hid (numOf (bitsAt s.data.toList a (k + 1)) = 2 * numOf (bitsAt s.data.toList a k) + (bitAt s.data.toList (a + k)).toNat) := Lib.hid (by rw [bitsAt_snoc, numOf_snoc])
   have hor := or_bit _ _ hV (bool_le (bitAt s.data.toList (a + k)))
   replace hor := Lib.hid hor
   generalize numOf (bitsAt s.data.toList a k) = V at *
   clear hst hw
   go_wp2_with fail
   refine hbit.mono ?_
   rintro x w1 ⟨rfl, hs2⟩
   replace hs2 := Lib.hid hs2
   clear hbit
   have hor' := hor.out
   go_wp2_with fail
   go_roundw
   case rel => exact ⟨k + 1, by omega, by go_num, by rw [hnx.out]; go_num, hgo.out _ _ hs2.out⟩
   case measure => simp [intOf]; omega
  ·obtain rfl : k = m := by omega
   replace hst := Lib.hid hst
   clear h0
   go_wp2_with fail
   go_ret2
   exact ⟨rfl, hst.out⟩
set_option maxHeartbeats 1600000 in
theorem get_no (S : Nat -> Prop) (q : Nat) (s : ByteArray) (a e : Nat) (n : Int) (w : World) (h : IsR w S q s a e) (hn : n < 0 \/ 64 < n \/ (e : Int) - a < n) :
  Calls Tryz.prog 259 #[.pointer (some ⟨q, 0, none⟩), .int .i64 n] w fun x w' => x = .returned (.tuple #[.int .u64 0, .bool false]) /\ RStep S q s a e w w' := by
 have hleft := left_any S q s a e w h
 have hle2 : a <= e := h.le
 have h0 : Hid (∀ n, RStep S q s a e w (w.drewN n)) := Lib.hid fun n => ⟨⟨S, h.kept (fun _ _ => rfl) (Nat.le_refl _), fun _ h => h, fun _ h => .inl h⟩, upon_drewN S w n⟩
 have h00 : Hid (RStep S q s a e w w) := Lib.hid (ObjStep.refl h)
 clear h
 by_cases h1 : n < 0
 ·have hd : decide (n < 0) = true := by simpa using h1
  clear hn
  go_enter Tryz.func259, Tryz.ntmps259
  go_wp2_with fail
  go_ret2
  exact ⟨rfl, h00.out⟩
 ·by_cases h2 : 64 < n
  ·have hd : decide (n < 0) = false := by simpa using h1
   have hd2 : decide (64 < n) = true := by simpa using h2
   clear hn
   go_enter Tryz.func259, Tryz.ntmps259
   go_wp2_with fail
   go_ret2
   exact ⟨rfl, h00.out⟩
  ·obtain ⟨m, rfl⟩ := Int.eq_ofNat_of_zero_le (show 0 <= n by omega)
   have hd : decide ((m : Int) < 0) = false := by simp
   have hd2 : decide (64 < (m : Int)) = false := by simpa using h2
   have hd3 : decide (e - a < m) = true := by simp; omega
   clear hn
   go_enter Tryz.func259, Tryz.ntmps259
   go_wp2_with fail
   refine hleft.mono ?_
   rintro x w1 ⟨rfl, n1, rfl⟩
   clear hleft
   go_wp2_with fail
   go_ret2
   exact ⟨rfl, h0.out _⟩
end Bit
end
section
open Go.RowKit
namespace Bit
open Dsk Ob
end Bit
end
section
open Go.RowKit
namespace Bit
open Dsk Ob
end Bit
end
section
open Go.RowKit
namespace Bit
open Dsk Ob Arg
end Bit
end
end
end Go.Proofs.YtgmnhodajngchaaGreatDoor
