/- For all inputs SumBursts returns true. Conditions: the table's two cells, a text no longer than a text can be. -/
import Derived.Test.YtcjfnkgjjhlbnaaDoorSumLaws
import Derived.RegionTactic
import Derived.BigRegion
import Derived.StillTailTactics
import Derived.Deep.QuietTactic
import Derived.BigQuiet
import Derived.Deep.Cut
import Derived.Outline
import Derived.Laws.IdiomStrings
namespace Go.Proofs.YtcjfnkgjjhlbnaaDoor
open Go.RowKit
namespace Crc

/-- Block B holds the bytes l, and they may be written. -/
structure Bts (B : Nat) (l : List UInt8) (w : World) : Prop where
  cell : ∀ j, j < l.length → w.cell? ⟨B, j, none⟩ = some (.int .u8 ((l.getD j 0).toNat : Int))
  thaw : ∀ j, j < l.length → w.frozen? ⟨B, j, none⟩ = false
theorem Bts.drew {B : Nat} {l : List UInt8} {w : World} (h : Bts B l w) : Bts B l w.drew := ⟨fun j hj => h.cell j hj, fun j hj => h.thaw j hj⟩
theorem Bts.set {B : Nat} {l : List UInt8} {w : World} (h : Bts B l w) (i : Nat) (hi : i < l.length) (b : UInt8) : Bts B (l.set i b) (w.setCell ⟨B, i, none⟩ (.int .u8 (b.toNat : Int))) := by
  refine ⟨fun j hj => ?_, fun j hj => ?_⟩
  · rw [List.length_set] at hj
    by_cases e : j = i
    · subst e
      rw [World.cell?_setCell_same w _ _ (h.cell j hj), List.getD_eq_getElem?_getD, List.getElem?_set_self hj]
      rfl
    · rw [World.cell?_setCell_other w _ _ _ (by intro e2; injection e2 with _ e3; exact e e3.symm), h.cell j hj, List.getD_eq_getElem?_getD, List.getD_eq_getElem?_getD, List.getElem?_set_ne (Ne.symm e)]
  · rw [List.length_set] at hj
    rw [World.frozen?_setCell, h.thaw j hj]
theorem bts_new (s : ByteArray) (c e : Nat) (w : World) : Bts w.heap.size s.data.toList (w.alloc (.cells (bytesRow s c) e ((bytesRow s c).size, (bytesRow s c).size + 1))).drew := by
  have hl : s.data.toList.length = s.data.size := by simp
  refine Bts.drew ⟨fun j hj => ?_, fun j hj => ?_⟩
  · rw [World.cell?_alloc_mark, bytesRow_at _ _ _ (by omega)]
    congr 3
    rw [List.getD_eq_getElem?_getD, List.getElem?_eq_getElem hj]
    simp
  · rw [World.frozen?_alloc_mark]
    have : (bytesRow s c).size = s.data.size + (c - s.size) := by simp [bytesRow]
    rw [decide_eq_false (by omega)]
    rfl

/-! The bits that are changed, step by step. -/
theorem step_set (l : List UInt8) (k n burst : Nat) (hm : k + n < 8 * l.length) (h : burst / 2 ^ n % 2 = 1) :
    turn (2 ^ k * (burst % 2 ^ (n + 1))) l = (turn (2 ^ k * (burst % 2 ^ n)) l).set ((k + n) / 8) ((turn (2 ^ k * (burst % 2 ^ n)) l).getD ((k + n) / 8) 0 ^^^ UInt8.ofNat (2 ^ ((k + n) % 8))) := by
  rw [← turn_bit (k + n) _ (by rw [turn_length]; exact hm), turn_xor]
  congr 1
  have e1 : burst % 2 ^ (n + 1) = burst % 2 ^ n + 2 ^ n := by rw [Nat.pow_succ, Nat.mod_mul, h, Nat.mul_one]
  have hlt : 2 ^ k * (burst % 2 ^ n) < 2 ^ (k + n) := by
    rw [Nat.pow_add]; exact Nat.mul_lt_mul_of_pos_left (Nat.mod_lt _ (Nat.two_pow_pos n)) (Nat.two_pow_pos k)
  rw [e1, Nat.mul_add, ← Nat.pow_add]
  apply Nat.eq_of_testBit_eq
  intro i
  rw [Nat.add_comm, ← Nat.mul_one (2 ^ (k + n)), Nat.testBit_two_pow_mul_add _ hlt, Nat.testBit_xor, Nat.mul_one, Nat.testBit_two_pow]
  by_cases hi : i < k + n
  · rw [if_pos hi, decide_eq_false (by omega)]; simp
  · rw [if_neg hi, Nat.testBit_lt_two_pow (Nat.lt_of_lt_of_le hlt (Nat.pow_le_pow_right (by decide) (by omega)))]
    by_cases he : k + n = i
    · subst he; simp
    · rw [decide_eq_false he, Bool.false_xor]
      exact Nat.testBit_lt_two_pow (Nat.lt_of_lt_of_le (show 1 < 2 ^ 1 by decide) (Nat.pow_le_pow_right (by decide) (by omega)))
theorem step_same (l : List UInt8) (k n burst : Nat) (h : ¬ burst / 2 ^ n % 2 = 1) : turn (2 ^ k * (burst % 2 ^ (n + 1))) l = turn (2 ^ k * (burst % 2 ^ n)) l := by
  have h0 : burst / 2 ^ n % 2 = 0 := by omega
  have e1 : burst % 2 ^ (n + 1) = burst % 2 ^ n := by rw [Nat.pow_succ, Nat.mod_mul, h0, Nat.mul_zero, Nat.add_zero]
  rw [e1]

theorem xor_byte (c : UInt8) (k n : Nat) : bits .xor .u8 (c.toNat : Int) (IntKind.u8.wrap (2 ^ (((k : Int) + (n : Int)) % 8).toNat)) = ((c ^^^ UInt8.ofNat (2 ^ ((k + n) % 8))).toNat : Int) := by
  have e : (((k : Int) + (n : Int)) % 8).toNat = (k + n) % 8 := by omega
  have hm : (k + n) % 8 < 8 := Nat.mod_lt _ (by decide)
  have hp : 2 ^ ((k + n) % 8) < 256 := Nat.lt_of_lt_of_le (Nat.pow_lt_pow_right (by decide) hm) (by decide)
  have hpi : ((2 : Int) ^ ((k + n) % 8)) = ((2 ^ ((k + n) % 8) : Nat) : Int) := by simp
  have hc := c.toNat_lt
  rw [e, hpi]
  clear hpi hm
  generalize 2 ^ ((k + n) % 8) = b at *
  rw [IntKind.wrap_u8, Int.emod_eq_of_lt (by omega) (by omega), xor_toNat, UInt8.toNat_ofNat', Nat.mod_eq_of_lt hp]
  have hx : c.toNat ^^^ b < 2 ^ 8 := Nat.xor_lt_two_pow (by omega) (by omega)
  have h1 : (BitVec.ofInt 8 (c.toNat : Int)).toNat = c.toNat := by
    rw [BitVec.ofInt_natCast, BitVec.toNat_ofNat]; exact Nat.mod_eq_of_lt (by omega)
  have h2 : (BitVec.ofInt 8 (b : Int)).toNat = b := by
    rw [BitVec.ofInt_natCast, BitVec.toNat_ofNat]; exact Nat.mod_eq_of_lt (by omega)
  show IntKind.u8.wrap ((BitVec.ofInt 8 (c.toNat : Int) ^^^ BitVec.ofInt 8 (b : Int)).toNat : Int) = _
  rw [BitVec.toNat_xor, h1, h2, IntKind.wrap_u8]
  omega

theorem pick_k (x : Int) (n : Nat) (h5 : 5 ≤ n) (h : n ≤ 3000) : ∃ k : Nat, k < 8 * (n - 4) ∧ wrap64 ((IntKind.u64.wrap x).tmod (8 * ((n : Int) - 4))) = (k : Int) := by
  have h0 : 0 ≤ IntKind.u64.wrap x := by rw [IntKind.wrap_u64]; omega
  rw [Int.tmod_eq_emod_of_nonneg h0]
  have h1 := Int.emod_nonneg (IntKind.u64.wrap x) (show (8 * ((n : Int) - 4)) ≠ 0 by omega)
  have h2 := Int.emod_lt_of_pos (IntKind.u64.wrap x) (show (0 : Int) < 8 * ((n : Int) - 4) by omega)
  refine ⟨(IntKind.u64.wrap x % (8 * ((n : Int) - 4))).toNat, by omega, ?_⟩
  rw [IntWalk.wrap64_in _ (by omega)]
  omega

theorem of_from {W : World} (ht : Tab W) (s : ByteArray) (hs : s.size ≤ 9223372036854775807) (w : World) (hb : Below W.heap.size W w) :
    Calls Tryd.prog 18 #[.string s] w fun e w' => e = .returned (.int .u32 (more 0 s.data.toList : Nat)) ∧ w = w' := of_any s hs w (ht.below hb)
theorem run_back (B : Nat) (l : List UInt8) (c : Nat) (w : World) (h : Bts B l w) :
    (convert 46 9 (.slice (some ⟨B, 0, none⟩) l.length c)).run Tryd.prog w = .ok (.string ⟨l.toArray⟩) w := by
  apply run_convert_bytes_back _ _ _ 5 _ _ _ (by kernel_rfl) (by kernel_rfl) (by kernel_rfl)
  intro j hj
  rw [addr_add, Nat.zero_add, h.cell j hj, List.getD_eq_getElem?_getD, List.getElem?_eq_getElem hj]
  rfl


end Crc
end Go.Proofs.YtcjfnkgjjhlbnaaDoor
