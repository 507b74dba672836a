/- The program's windows of patterns (layer 7): the functions on them that touch no object. -/
import Derived.Test.YtiimdinefkbhlaaDoorXorRef
import Derived.Test.YtiimdinefkbhlaaDoorXorLen
import Derived.Lib.BitFns
import Derived.Lib.TrailingZeros
import Derived.Laws.Bits64b
namespace Go.Proofs.YtiimdinefkbhlaaDoor
open Go.RowKit
namespace Xr
open Bit Dsk Ob
set_option linter.unusedVariables false

/-! ### plainly -/
theorem lt_bitLen : ∀ (f x : Nat), x < 2 ^ f → x < 2 ^ Lib.bitLenAux f x
  | 0, x, h => by simpa [Lib.bitLenAux] using h
  | f + 1, x, h => by
    unfold Lib.bitLenAux
    split
    · rename_i h0; rw [h0]; decide
    · have h2 := lt_bitLen f (x / 2) (by rw [Nat.pow_succ] at h; omega)
      rw [Nat.add_comm, Nat.pow_succ]
      omega
theorem lead_len {d : Nat} (hd : d < 2 ^ 64) : lead d = min 31 (64 - Lib.bitLen d) := by
  have h1 := lt_bitLen 64 d hd
  unfold lead
  refine upTo_is _ 31 _ (by omega) (fun i hi => ?_) (fun hk => ?_)
  · have h2 : 2 ^ Lib.bitLen d ≤ 2 ^ (63 - i) := Nat.pow_le_pow_right (by decide) (by omega)
    have h3 : d < 2 ^ (63 - i) := Nat.lt_of_lt_of_le h1 h2
    simp [Nat.div_eq_of_lt h3]
  · have e : min 31 (64 - Lib.bitLen d) = 64 - Lib.bitLen d := by omega
    rw [e]
    have h4 : ¬ d < 2 ^ (63 - (64 - Lib.bitLen d)) := fun h5 => by
      have := Lib.bitLen_le d _ (by omega) h5
      omega
    have h6 : ¬ d / 2 ^ (63 - (64 - Lib.bitLen d)) = 0 := fun h7 => h4 ((Nat.div_eq_zero_iff_lt (Nat.two_pow_pos _)).1 h7)
    simpa using h6
theorem tail_ctz {d : Nat} (hd : d < 2 ^ 64) (h0 : d ≠ 0) : tail d = Lib.ctz 64 d := by
  obtain ⟨m, h1, h2⟩ := Lib.ctzFrom_spec 64 d (by omega) hd
  have e : Lib.ctz 64 d = Lib.ctzFrom 64 d := by unfold Lib.ctz; rw [if_neg h0]
  rw [e]
  generalize Lib.ctzFrom 64 d = c at *
  unfold tail
  refine upTo_is _ 63 _ (by omega) (fun i hi => ?_) (fun hk => ?_)
  · have e2 : d = 2 ^ i * (2 * (2 ^ (c - i - 1) * (2 * m + 1))) := by
      rw [h1, ← Nat.mul_assoc 2, ← Nat.pow_succ', ← Nat.mul_assoc, ← Nat.pow_add]
      congr 2; omega
    rw [e2, Nat.mul_div_cancel_left _ (Nat.two_pow_pos i)]
    simp
  · rw [h1, Nat.mul_div_cancel_left _ (Nat.two_pow_pos c)]
    simp

/-! ### math/bits -/
/-- The table that TrailingZeros64 reads. -/
def Tab (w : World) : Prop := ∀ j, j < Lib.deBruijn64tab.length → w.cell? ⟨0, j, none⟩ = some (.int .u8 (Lib.deBruijn64tab.getD j 0))
theorem lead64_any (x : Nat) (hx : x < 18446744073709551616) (w : World) : Calls Tryd.prog 37 #[.int .u64 (x : Int)] w fun e w' => e = .returned (.int .i64 ((64 - Lib.bitLen x : Nat) : Int)) ∧ w' = w := by
  have h := Lib.hid (len64_any (x : Int) (by omega) (by omega) w)
  have l := Lib.bitLen_le x 64 (by omega) hx
  go_enter Tryd.func37, Tryd.ntmps37
  go_wp2_with fail
  refine h.out.mono ?_
  rintro e w' ⟨rfl, rfl⟩
  clear h
  rw [Int.toNat_natCast]
  go_wp2_with fail
  go_ret
  refine ⟨congrArg Ending.returned (congrArg (Value.int IntKind.i64) ?_), rfl⟩
  omega
theorem tz_key {x k : Nat} (hx : x < 18446744073709551616) (h : x &&& (18446744073709551616 - x) = 2 ^ k) :
    IntKind.u64.wrap (bits BinOp.and IntKind.u64 (x : Int) (IntKind.u64.wrap (-(x : Int))) * 285870213051353865) / 288230376151711744 = ((2 ^ k * 285870213051353865 % 18446744073709551616 / 288230376151711744 : Nat) : Int) := by
  have h0 : x ≠ 0 := fun e => by
    rw [e] at h
    have := Nat.two_pow_pos k
    simp at h
    omega
  have e1 : IntKind.u64.wrap (-(x : Int)) = ((18446744073709551616 - x : Nat) : Int) := by rw [IntKind.wrap_u64]; omega
  rw [e1, bits_and_u64_nat x _ hx (by omega), h, IntKind.wrap_u64]
  omega
set_option maxHeartbeats 1600000 in
theorem tail64_core (x k idx : Nat) (w : World) (hz : ((x : Int) == 0) = false) (key : IntKind.u64.wrap (bits BinOp.and IntKind.u64 (x : Int) (IntKind.u64.wrap (-(x : Int))) * 285870213051353865) / 288230376151711744 = (idx : Int))
    (hi : idx < 64) (hk : k < 64) (hcell : w.cell? ⟨0, idx, none⟩ = some (.int .u8 k)) : Calls Tryd.prog 38 #[.int .u64 (x : Int)] w fun e w' => e = .returned (.int .i64 k) ∧ w' = w := by
  go_enter Tryd.func38, Tryd.ntmps38
  go_wp2_with (simp only [key])
  go_ret
  exact ⟨rfl, rfl⟩
theorem tail64_any (x : Nat) (hx : x < 18446744073709551616) (h0 : x ≠ 0) (w : World) (hT : Tab w) : Calls Tryd.prog 38 #[.int .u64 (x : Int)] w fun e w' => e = .returned (.int .i64 (tail x : Int)) ∧ w' = w := by
  obtain ⟨hlow, hk⟩ := Lib.lowest_bit 64 x h0 hx
  obtain ⟨hi, htab⟩ := Lib.deBruijn64_at _ hk
  have hcell := hT _ hi
  rw [htab] at hcell
  rw [tail_ctz hx h0]
  exact tail64_core x _ _ w (by rw [beq_eq_false_iff_ne]; omega) (tz_key hx hlow) hi hk hcell
end Xr
end Go.Proofs.YtiimdinefkbhlaaDoor
