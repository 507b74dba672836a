/- Plain facts on the check sum CRC-32C: in parts as of the whole; what is turned at the end, turns the sum; bits that stand together, at most thirty-two, changed, change the sum. No Go text is named here. -/
import Derived.IntWalk
namespace Go.Proofs.YtcjfnkgjjhlbnaaDoor
namespace Crc

/-- Halved, and, if the lowest bit was 1, turned by 82F63B78. -/
def T (x : Nat) : Nat := x / 2 ^^^ (if x % 2 = 1 then 2197175160 else 0)
def TN : Nat → Nat → Nat
  | 0, x => x
  | k + 1, x => TN k (T x)
/-- One byte. -/
def byteStep (c : Nat) (b : Nat) : Nat := TN 8 (c ^^^ b)
def run (c : Nat) (l : List UInt8) : Nat := l.foldl (fun c b => byteStep c b.toNat) c
/-- The check sum of a text whose check sum is c, with l behind it. -/
def more (c : Nat) (l : List UInt8) : Nat := 4294967295 - run (4294967295 - c) l

theorem xor_mod2 (x y : Nat) : (x ^^^ y) % 2 = (x % 2 + y % 2) % 2 := by
  have h : ∀ n : Nat, n % 2 = (n.testBit 0).toNat := fun n => by
    rw [Nat.testBit_zero]; by_cases h : n % 2 = 1 <;> simp [h]; omega
  rw [h (x ^^^ y), h x, h y, Nat.testBit_xor]
  cases x.testBit 0 <;> cases y.testBit 0 <;> rfl
theorem xor_div2 (x y : Nat) : (x ^^^ y) / 2 = x / 2 ^^^ y / 2 := by
  have h : ∀ n : Nat, n / 2 = n >>> 1 := fun n => by simp [Nat.shiftRight_eq_div_pow]
  rw [h, h, h, Nat.shiftRight_xor_distrib]
theorem T_xor (x y : Nat) : T (x ^^^ y) = T x ^^^ T y := by
  unfold T
  rw [xor_div2, xor_mod2]
  have hx : x % 2 = 0 ∨ x % 2 = 1 := by omega
  have hy : y % 2 = 0 ∨ y % 2 = 1 := by omega
  rcases hx with hx | hx <;> rcases hy with hy | hy <;> simp only [hx, hy] <;> simp
  · rw [Nat.xor_assoc]
  · rw [Nat.xor_assoc, Nat.xor_assoc, Nat.xor_comm (y / 2)]
  · rw [Nat.xor_assoc, Nat.xor_comm 2197175160, Nat.xor_assoc, Nat.xor_self, Nat.xor_zero]
theorem TN_xor (k x y : Nat) : TN k (x ^^^ y) = TN k x ^^^ TN k y := by
  induction k generalizing x y with
  | zero => rfl
  | succ k ih => simp only [TN]; rw [T_xor, ih]
theorem TN_add (j k x : Nat) : TN (j + k) x = TN k (TN j x) := by
  induction j generalizing x with
  | zero => simp [TN]
  | succ j ih => rw [Nat.succ_add]; simp only [TN]; exact ih _
theorem T_lt (x : Nat) (h : x < 4294967296) : T x < 4294967296 := by
  unfold T
  exact Nat.xor_lt_two_pow (n := 32) (by omega) (by split <;> omega)
theorem TN_lt (k x : Nat) (h : x < 4294967296) : TN k x < 4294967296 := by
  induction k generalizing x with
  | zero => exact h
  | succ k ih => exact ih _ (T_lt x h)
theorem xor_lt (x y : Nat) (hx : x < 4294967296) (hy : y < 4294967296) : x ^^^ y < 4294967296 := Nat.xor_lt_two_pow (n := 32) hx hy
theorem T_zero (x : Nat) (h : x < 4294967296) (h0 : T x = 0) : x = 0 := by
  unfold T at h0
  by_cases hp : x % 2 = 1
  · rw [if_pos hp] at h0
    have h1 := congrArg (fun n => n.testBit 31) h0
    simp only [Nat.testBit_xor, Nat.zero_testBit] at h1
    rw [Nat.testBit_lt_two_pow (show x / 2 < 2 ^ 31 by omega)] at h1
    exact absurd h1 (by decide)
  · rw [if_neg hp, Nat.xor_zero] at h0
    omega
theorem TN_zero (k x : Nat) (h : x < 4294967296) (h0 : TN k x = 0) : x = 0 := by
  induction k generalizing x with
  | zero => exact h0
  | succ k ih => exact T_zero x h (ih _ (T_lt x h) h0)
theorem xor_eq_zero (x y : Nat) (h : x ^^^ y = 0) : x = y := by
  have : x ^^^ y ^^^ y = 0 ^^^ y := by rw [h]
  rwa [Nat.xor_assoc, Nat.xor_self, Nat.xor_zero, Nat.zero_xor] at this
theorem TN_inj (k x y : Nat) (hx : x < 4294967296) (hy : y < 4294967296) (h : TN k x = TN k y) : x = y := by
  apply xor_eq_zero
  apply TN_zero k _ (xor_lt x y hx hy)
  rw [TN_xor, h, Nat.xor_self]
theorem T_double (x : Nat) : T (2 * x) = x := by
  unfold T
  rw [if_neg (by omega), Nat.xor_zero]
  omega
theorem TN_pow (k x : Nat) : TN k (2 ^ k * x) = x := by
  induction k generalizing x with
  | zero => simp [TN]
  | succ k ih =>
    simp only [TN]
    rw [Nat.pow_succ, Nat.mul_assoc, Nat.mul_comm, Nat.mul_assoc, T_double, Nat.mul_comm]
    exact ih x

theorem byteStep_lt (c : Nat) (b : UInt8) (h : c < 4294967296) : byteStep c b.toNat < 4294967296 := TN_lt 8 _ (xor_lt _ _ h (by have := b.toNat_lt; omega))
theorem run_lt (c : Nat) (l : List UInt8) (h : c < 4294967296) : run c l < 4294967296 := by
  induction l generalizing c with
  | nil => exact h
  | cons b l ih => exact ih _ (byteStep_lt c b h)
theorem run_append (c : Nat) (a b : List UInt8) : run c (a ++ b) = run (run c a) b := by simp [run]
theorem run_snoc (c : Nat) (a : List UInt8) (b : UInt8) : run c (a ++ [b]) = byteStep (run c a) b.toNat := by simp [run]
theorem run_cons (c : Nat) (b : UInt8) (l : List UInt8) : run c (b :: l) = run (byteStep c b.toNat) l := rfl
theorem more_lt (c : Nat) (l : List UInt8) : more c l < 4294967296 := by unfold more; omega
theorem more_append (c : Nat) (a b : List UInt8) : more (more c a) b = more c (a ++ b) := by
  have h := run_lt (4294967295 - c) a (by omega)
  unfold more
  rw [run_append]
  congr 2
  omega
theorem more_nil (c : Nat) (h : c < 4294967296) : more c [] = c := by
  show 4294967295 - (4294967295 - c) = c
  omega
theorem more_eq (c : Nat) (a b : List UInt8) : more c a = more c b ↔ run (4294967295 - c) a = run (4294967295 - c) b := by
  have h1 := run_lt (4294967295 - c) a (by omega)
  have h2 := run_lt (4294967295 - c) b (by omega)
  unfold more
  constructor <;> intro h <;> omega
/-- The sums of texts that differ in their last byte alone differ. -/
theorem last_differs (c : Nat) (l : List UInt8) (a b : UInt8) (h : more c (l ++ [a]) = more c (l ++ [b])) : a = b := by
  rw [more_eq, run_snoc, run_snoc] at h
  have hr := run_lt (4294967295 - c) l (by omega)
  have h2 := TN_inj 8 _ _ (xor_lt _ _ hr (by have := a.toNat_lt; omega)) (xor_lt _ _ hr (by have := b.toNat_lt; omega)) h
  have h3 := congrArg (fun x => run (4294967295 - c) l ^^^ x) h2
  simp only [← Nat.xor_assoc, Nat.xor_self, Nat.zero_xor] at h3
  rw [← UInt8.toNat_inj]
  exact h3

/-! Bits that stand together. -/
/-- Byte j of a number (the lowest bits are the first ones). -/
def byteAt (e j : Nat) : UInt8 := UInt8.ofNat (e / 256 ^ j % 256)
/-- A text's bytes turned by those of a number. -/
def turn (e : Nat) : List UInt8 → List UInt8
  | [] => []
  | b :: l => (b ^^^ UInt8.ofNat (e % 256)) :: turn (e / 256) l
theorem turn_length (e : Nat) (l : List UInt8) : (turn e l).length = l.length := by
  induction l generalizing e with
  | nil => rfl
  | cons b l ih => simp [turn, ih]
theorem low_xor (e : Nat) : e % 256 ^^^ 256 * (e / 256) = e := by
  have h := Nat.mod_add_div e 256
  have h2 : e % 256 ^^^ 256 * (e / 256) = e % 256 + 256 * (e / 256) := by
    rw [Nat.xor_comm, Nat.add_comm]
    apply Nat.eq_of_testBit_eq
    intro i
    have hl : e % 256 < 2 ^ 8 := Nat.mod_lt _ (by decide)
    have e1 : 256 * (e / 256) = 2 ^ 8 * (e / 256) := by rfl
    rw [e1, Nat.testBit_xor, Nat.testBit_two_pow_mul_add _ hl, Nat.testBit_two_pow_mul]
    by_cases hi : i < 8
    · simp [hi, Nat.not_le.2 hi]
    · simp [hi, Nat.not_lt.1 hi, Nat.testBit_lt_two_pow (Nat.lt_of_lt_of_le hl (Nat.pow_le_pow_right (by decide) (Nat.not_lt.1 hi)))]
  omega
theorem xor_toNat (a b : UInt8) : (a ^^^ b).toNat = a.toNat ^^^ b.toNat := UInt8.toNat_xor a b
theorem mod_toNat (e : Nat) : (UInt8.ofNat (e % 256)).toNat = e % 256 := by rw [UInt8.toNat_ofNat']; omega
/-- The sum's state behind a text that is turned by a number: the number goes through as so many bits. -/
theorem run_turn (e d c : Nat) (l : List UInt8) (he : e < 256 ^ l.length) : run (c ^^^ d) (turn e l) = run c l ^^^ TN (8 * l.length) (d ^^^ e) := by
  induction l generalizing e d c with
  | nil =>
    have : e = 0 := by simpa using he
    subst this
    simp [turn, run, TN]
  | cons b l ih =>
    have e1 : byteStep (c ^^^ d) (b ^^^ UInt8.ofNat (e % 256)).toNat = byteStep c b.toNat ^^^ TN 8 (d ^^^ e % 256) := by
      unfold byteStep
      rw [xor_toNat, mod_toNat, ← TN_xor]
      congr 1
      rw [Nat.xor_assoc, Nat.xor_assoc]
      congr 1
      rw [← Nat.xor_assoc, Nat.xor_comm d b.toNat, Nat.xor_assoc]
    have e2 : TN (8 * (b :: l).length) (d ^^^ e) = TN (8 * l.length) (TN 8 (d ^^^ e % 256) ^^^ e / 256) := by
      rw [List.length_cons, Nat.mul_add, Nat.mul_one, Nat.add_comm, TN_add]
      congr 1
      conv => lhs; rw [← low_xor e]
      rw [← Nat.xor_assoc, TN_xor]
      congr 1
      exact TN_pow 8 (e / 256)
    rw [turn, run_cons, run_cons, e1, e2]
    apply ih
    rw [List.length_cons, Nat.pow_succ] at he
    omega
/-- Bits that stand together, at most thirty-two, changed, change the sum. -/
theorem burst_differs (c k burst : Nat) (l : List UInt8) (h0 : 0 < burst) (h1 : burst < 4294967296) (hk : k + 32 ≤ 8 * l.length) :
    more c (turn (2 ^ k * burst) l) ≠ more c l := by
  rw [Ne, more_eq]
  intro h
  have he : 2 ^ k * burst < 256 ^ l.length := by
    have e1 : (256 : Nat) ^ l.length = 2 ^ (8 * l.length) := by rw [Nat.pow_mul]
    rw [e1]
    have e2 : 2 ^ k * burst < 2 ^ k * 2 ^ 32 := Nat.mul_lt_mul_of_pos_left (by simpa using h1) (Nat.pow_pos (by decide))
    rw [← Nat.pow_add] at e2
    exact Nat.lt_of_lt_of_le e2 (Nat.pow_le_pow_right (by decide) hk)
  have hr := run_turn (2 ^ k * burst) 0 (4294967295 - c) l he
  rw [Nat.xor_zero, Nat.zero_xor, h] at hr
  have h2 : TN (8 * l.length) (2 ^ k * burst) = 0 := by
    have := congrArg (fun x => run (4294967295 - c) l ^^^ x) hr
    simp only [← Nat.xor_assoc, Nat.xor_self, Nat.zero_xor] at this
    exact this.symm
  obtain ⟨m, hm⟩ : ∃ m, 8 * l.length = k + m := ⟨8 * l.length - k, by omega⟩
  rw [hm, TN_add, TN_pow] at h2
  have := TN_zero m burst h1 h2
  omega
/-- One bit more. -/
theorem turn_xor (e f : Nat) (l : List UInt8) : turn f (turn e l) = turn (e ^^^ f) l := by
  induction l generalizing e f with
  | nil => rfl
  | cons b l ih =>
    have hd : ∀ x y : Nat, (x ^^^ y) / 256 = x / 256 ^^^ y / 256 := fun x y => by
      have h : ∀ n : Nat, n / 256 = n >>> 8 := fun n => by simp [Nat.shiftRight_eq_div_pow]
      rw [h, h, h, Nat.shiftRight_xor_distrib]
    have hm : ∀ x y : Nat, (x ^^^ y) % 256 = x % 256 ^^^ y % 256 := fun x y => by
      exact Nat.xor_mod_two_pow (n := 8)
    simp only [turn, ih, hd]
    congr 1
    rw [← UInt8.toNat_inj, xor_toNat, xor_toNat, xor_toNat, mod_toNat, mod_toNat, mod_toNat, hm, Nat.xor_assoc]
theorem turn_zero (l : List UInt8) : turn 0 l = l := by
  induction l with
  | nil => rfl
  | cons b l ih => simp [turn, ih]
/-- A number of one bit turns one byte. -/
theorem turn_bit (m : Nat) (l : List UInt8) (hm : m < 8 * l.length) : turn (2 ^ m) l = l.set (m / 8) (l.getD (m / 8) 0 ^^^ UInt8.ofNat (2 ^ (m % 8))) := by
  induction l generalizing m with
  | nil => simp at hm
  | cons b l ih =>
    by_cases h : m < 8
    · have h1 : 2 ^ m < 256 := by
        have := Nat.pow_lt_pow_right (a := 2) (by decide) h
        simpa using this
      rw [Nat.div_eq_of_lt h, Nat.mod_eq_of_lt h]
      simp only [turn, Nat.div_eq_of_lt h1, Nat.mod_eq_of_lt h1, turn_zero]
      rfl
    · obtain ⟨j, rfl⟩ : ∃ j, m = j + 8 := ⟨m - 8, by omega⟩
      have h1 : 2 ^ (j + 8) % 256 = 0 := by rw [Nat.pow_add]; exact Nat.mul_mod_left _ _
      have h2 : 2 ^ (j + 8) / 256 = 2 ^ j := by rw [Nat.pow_add]; exact Nat.mul_div_cancel _ (by decide)
      rw [show (j + 8) / 8 = j / 8 + 1 by omega, show (j + 8) % 8 = j % 8 by omega]
      simp only [turn, h1, h2, List.set_cons_succ, List.getD_cons_succ]
      rw [ih j (by rw [List.length_cons] at hm; omega)]
      congr 1
      simp
end Crc
end Go.Proofs.YtcjfnkgjjhlbnaaDoor
