/- Plain facts: of two numbers below 2^64 the greater one's bytes are, byte by byte, the greater ones; equal bytes are of equal numbers. -/
import Derived.Test.YtcjfnkgjjhlbnaaDoorDigPure
import GoSem.Op.String
namespace Go.Proofs.YtcjfnkgjjhlbnaaDoor
namespace Dig

theorem nd_mono_lt (a b : Nat) (ha : a < 18446744073709551616) (h : nd a < nd b) : a < b := by
  have h1 := nd_lt a ha
  have h2 := nd_pos_ge b (by omega)
  have h3 : 256 ^ nd a ≤ 256 ^ (nd b - 1) := Nat.pow_le_pow_right (by omega) (by omega)
  omega
theorem numL_inj (a b : Nat) (ha : a < 18446744073709551616) (hb : b < 18446744073709551616) (h : numL a = numL b) : a = b := by
  unfold numL at h
  simp only [List.cons.injEq] at h
  rw [← val_dig a ha, ← val_dig b hb, h.2]
theorem less_digit (x y p q P : Nat) (hx : x < P) (hy : y < P) : x + P * p < y + P * q ↔ (p < q ∨ p = q ∧ x < y) := by
  rcases Nat.lt_trichotomy p q with h | h | h
  · have := Nat.mul_le_mul_left P (show p + 1 ≤ q from h)
    rw [Nat.mul_add] at this
    constructor
    · intro _; exact Or.inl h
    · intro _; omega
  · subst h
    constructor
    · intro h; exact Or.inr ⟨rfl, by omega⟩
    · rintro (h | ⟨_, h⟩) <;> omega
  · have := Nat.mul_le_mul_left P (show q + 1 ≤ p from h)
    rw [Nat.mul_add] at this
    constructor
    · intro _; omega
    · rintro (h | ⟨h, _⟩) <;> omega
theorem less_low (k a b : Nat) : Op.bytesLess (low k a) (low k b) = decide (a % 256 ^ k < b % 256 ^ k) := by
  induction k with
  | zero => simp [low, Op.bytesLess, Nat.mod_one]
  | succ k ih =>
    have hd := less_digit (a % 256 ^ k) (b % 256 ^ k) (a / 256 ^ k % 256) (b / 256 ^ k % 256) (256 ^ k) (Nat.mod_lt _ (Nat.pow_pos (by omega))) (Nat.mod_lt _ (Nat.pow_pos (by omega)))
    simp only [low, Op.bytesLess]
    rw [ih, Nat.mod_pow_succ, Nat.mod_pow_succ, Bool.eq_iff_iff]
    simp only [Bool.or_eq_true, Bool.and_eq_true, decide_eq_true_eq, beq_iff_eq, UInt8.lt_iff_toNat_lt, ← UInt8.toNat_inj, toNat_digit]
    exact hd.symm
theorem less_num (a b : Nat) (ha : a < 18446744073709551616) (hb : b < 18446744073709551616) : Op.bytesLess (numL a) (numL b) = decide (a < b) := by
  have na := nd_le a
  have nb := nd_le b
  have ea : (UInt8.ofNat (nd a)).toNat = nd a := by rw [UInt8.toNat_ofNat']; omega
  have eb : (UInt8.ofNat (nd b)).toNat = nd b := by rw [UInt8.toNat_ofNat']; omega
  simp only [numL, Op.bytesLess]
  rw [Bool.eq_iff_iff]
  simp only [Bool.or_eq_true, Bool.and_eq_true, decide_eq_true_eq, beq_iff_eq, UInt8.lt_iff_toNat_lt, ← UInt8.toNat_inj, ea, eb]
  rcases Nat.lt_trichotomy (nd a) (nd b) with h | h | h
  · have := nd_mono_lt a b ha h
    constructor
    · intro _; exact this
    · intro _; exact Or.inl h
  · have h1 : Op.bytesLess (dig a) (dig b) = decide (a < b) := by
      unfold dig
      rw [← h, less_low, Nat.mod_eq_of_lt (nd_lt a ha), Nat.mod_eq_of_lt (by rw [h]; exact nd_lt b hb)]
    rw [h1]
    constructor
    · rintro (h2 | ⟨_, h2⟩)
      · omega
      · simpa using h2
    · intro h2
      exact Or.inr ⟨h, by simpa using h2⟩
  · have := nd_mono_lt b a hb h
    constructor
    · rintro (h2 | ⟨h2, _⟩) <;> omega
    · intro _; omega
end Dig
end Go.Proofs.YtcjfnkgjjhlbnaaDoor
