/- Parts, put together: SumPure, SumCalls, SumMore, SumLaws. -/
import Derived.IntWalk
import Derived.Test.YtlgjbdfnhaoloaaGreatDoorRows
import Derived.WalkKit
import Derived.WalkSpells
import Derived.WalkLawsBesides
import Derived.Handy
import Derived.Below
import Derived.Lib.Hide
import Derived.Laws.BitsLemmas
import Derived.Laws.Bits64
import Derived.RegionTactic
import Derived.BigRegion
import Derived.Deep.QuietTactic
import Derived.BigQuiet
import Derived.Deep.RegionWith
import Derived.Deep.Cut
import Derived.Deep.DeepCutAuto
import Derived.Outline
import Derived.StillTailTactics
import Derived.Laws.IdiomStrings

/- Plain facts on the check sum CRC-32C: in parts as of the whole; what is turned at the end, turns the sum; bits that stand together, at most thirty-two, changed, change the sum. No Go text is named here. -/
section
namespace Go.Proofs.YtlgjbdfnhaoloaaGreatDoor
namespace Crc

/-- Halved, and, if the lowest bit was 1, turned by 82F63B78. -/
def T (x : Nat) : Nat := x / 2 ^^^ (if x % 2 = 1 then 2197175160 else 0)
def TN : Nat → Nat → Nat
  | 0, x => x
  | k + 1, x => TN k (T x)
/-- One byte. -/
def byteStep (c : Nat) (b : Nat) : Nat := TN 8 (c ^^^ b)
def run (c : Nat) (l : List UInt8) : Nat := l.foldl (fun c b => byteStep c b.toNat) c
/-- The check sum of a text whose check sum is c, with l behind it. -/
def more (c : Nat) (l : List UInt8) : Nat := 4294967295 - run (4294967295 - c) l

theorem xor_mod2 (x y : Nat) : (x ^^^ y) % 2 = (x % 2 + y % 2) % 2 := by
  have h : ∀ n : Nat, n % 2 = (n.testBit 0).toNat := fun n => by
    rw [Nat.testBit_zero]; by_cases h : n % 2 = 1 <;> simp [h]; omega
  rw [h (x ^^^ y), h x, h y, Nat.testBit_xor]
  cases x.testBit 0 <;> cases y.testBit 0 <;> rfl
theorem xor_div2 (x y : Nat) : (x ^^^ y) / 2 = x / 2 ^^^ y / 2 := by
  have h : ∀ n : Nat, n / 2 = n >>> 1 := fun n => by simp [Nat.shiftRight_eq_div_pow]
  rw [h, h, h, Nat.shiftRight_xor_distrib]
theorem T_xor (x y : Nat) : T (x ^^^ y) = T x ^^^ T y := by
  unfold T
  rw [xor_div2, xor_mod2]
  have hx : x % 2 = 0 ∨ x % 2 = 1 := by omega
  have hy : y % 2 = 0 ∨ y % 2 = 1 := by omega
  rcases hx with hx | hx <;> rcases hy with hy | hy <;> simp only [hx, hy] <;> simp
  · rw [Nat.xor_assoc]
  · rw [Nat.xor_assoc, Nat.xor_assoc, Nat.xor_comm (y / 2)]
  · rw [Nat.xor_assoc, Nat.xor_comm 2197175160, Nat.xor_assoc, Nat.xor_self, Nat.xor_zero]
theorem TN_xor (k x y : Nat) : TN k (x ^^^ y) = TN k x ^^^ TN k y := by
  induction k generalizing x y with
  | zero => rfl
  | succ k ih => simp only [TN]; rw [T_xor, ih]
theorem TN_add (j k x : Nat) : TN (j + k) x = TN k (TN j x) := by
  induction j generalizing x with
  | zero => simp [TN]
  | succ j ih => rw [Nat.succ_add]; simp only [TN]; exact ih _
theorem T_lt (x : Nat) (h : x < 4294967296) : T x < 4294967296 := by
  unfold T
  exact Nat.xor_lt_two_pow (n := 32) (by omega) (by split <;> omega)
theorem TN_lt (k x : Nat) (h : x < 4294967296) : TN k x < 4294967296 := by
  induction k generalizing x with
  | zero => exact h
  | succ k ih => exact ih _ (T_lt x h)
theorem xor_lt (x y : Nat) (hx : x < 4294967296) (hy : y < 4294967296) : x ^^^ y < 4294967296 := Nat.xor_lt_two_pow (n := 32) hx hy
theorem T_zero (x : Nat) (h : x < 4294967296) (h0 : T x = 0) : x = 0 := by
  unfold T at h0
  by_cases hp : x % 2 = 1
  · rw [if_pos hp] at h0
    have h1 := congrArg (fun n => n.testBit 31) h0
    simp only [Nat.testBit_xor, Nat.zero_testBit] at h1
    rw [Nat.testBit_lt_two_pow (show x / 2 < 2 ^ 31 by omega)] at h1
    exact absurd h1 (by decide)
  · rw [if_neg hp, Nat.xor_zero] at h0
    omega
theorem TN_zero (k x : Nat) (h : x < 4294967296) (h0 : TN k x = 0) : x = 0 := by
  induction k generalizing x with
  | zero => exact h0
  | succ k ih => exact T_zero x h (ih _ (T_lt x h) h0)
theorem xor_eq_zero (x y : Nat) (h : x ^^^ y = 0) : x = y := by
  have : x ^^^ y ^^^ y = 0 ^^^ y := by rw [h]
  rwa [Nat.xor_assoc, Nat.xor_self, Nat.xor_zero, Nat.zero_xor] at this
theorem TN_inj (k x y : Nat) (hx : x < 4294967296) (hy : y < 4294967296) (h : TN k x = TN k y) : x = y := by
  apply xor_eq_zero
  apply TN_zero k _ (xor_lt x y hx hy)
  rw [TN_xor, h, Nat.xor_self]
theorem T_double (x : Nat) : T (2 * x) = x := by
  unfold T
  rw [if_neg (by omega), Nat.xor_zero]
  omega
theorem TN_pow (k x : Nat) : TN k (2 ^ k * x) = x := by
  induction k generalizing x with
  | zero => simp [TN]
  | succ k ih =>
    simp only [TN]
    rw [Nat.pow_succ, Nat.mul_assoc, Nat.mul_comm, Nat.mul_assoc, T_double, Nat.mul_comm]
    exact ih x

theorem byteStep_lt (c : Nat) (b : UInt8) (h : c < 4294967296) : byteStep c b.toNat < 4294967296 := TN_lt 8 _ (xor_lt _ _ h (by have := b.toNat_lt; omega))
theorem run_lt (c : Nat) (l : List UInt8) (h : c < 4294967296) : run c l < 4294967296 := by
  induction l generalizing c with
  | nil => exact h
  | cons b l ih => exact ih _ (byteStep_lt c b h)
theorem run_append (c : Nat) (a b : List UInt8) : run c (a ++ b) = run (run c a) b := by simp [run]
theorem run_snoc (c : Nat) (a : List UInt8) (b : UInt8) : run c (a ++ [b]) = byteStep (run c a) b.toNat := by simp [run]
theorem run_cons (c : Nat) (b : UInt8) (l : List UInt8) : run c (b :: l) = run (byteStep c b.toNat) l := rfl
theorem more_lt (c : Nat) (l : List UInt8) : more c l < 4294967296 := by unfold more; omega
theorem more_append (c : Nat) (a b : List UInt8) : more (more c a) b = more c (a ++ b) := by
  have h := run_lt (4294967295 - c) a (by omega)
  unfold more
  rw [run_append]
  congr 2
  omega
theorem more_nil (c : Nat) (h : c < 4294967296) : more c [] = c := by
  show 4294967295 - (4294967295 - c) = c
  omega
theorem more_eq (c : Nat) (a b : List UInt8) : more c a = more c b ↔ run (4294967295 - c) a = run (4294967295 - c) b := by
  have h1 := run_lt (4294967295 - c) a (by omega)
  have h2 := run_lt (4294967295 - c) b (by omega)
  unfold more
  constructor <;> intro h <;> omega
/-- The sums of texts that differ in their last byte alone differ. -/
theorem last_differs (c : Nat) (l : List UInt8) (a b : UInt8) (h : more c (l ++ [a]) = more c (l ++ [b])) : a = b := by
  rw [more_eq, run_snoc, run_snoc] at h
  have hr := run_lt (4294967295 - c) l (by omega)
  have h2 := TN_inj 8 _ _ (xor_lt _ _ hr (by have := a.toNat_lt; omega)) (xor_lt _ _ hr (by have := b.toNat_lt; omega)) h
  have h3 := congrArg (fun x => run (4294967295 - c) l ^^^ x) h2
  simp only [← Nat.xor_assoc, Nat.xor_self, Nat.zero_xor] at h3
  rw [← UInt8.toNat_inj]
  exact h3

/-! Bits that stand together. -/
/-- Byte j of a number (the lowest bits are the first ones). -/
def byteAt (e j : Nat) : UInt8 := UInt8.ofNat (e / 256 ^ j % 256)
/-- A text's bytes turned by those of a number. -/
def turn (e : Nat) : List UInt8 → List UInt8
  | [] => []
  | b :: l => (b ^^^ UInt8.ofNat (e % 256)) :: turn (e / 256) l
theorem turn_length (e : Nat) (l : List UInt8) : (turn e l).length = l.length := by
  induction l generalizing e with
  | nil => rfl
  | cons b l ih => simp [turn, ih]
theorem low_xor (e : Nat) : e % 256 ^^^ 256 * (e / 256) = e := by
  have h := Nat.mod_add_div e 256
  have h2 : e % 256 ^^^ 256 * (e / 256) = e % 256 + 256 * (e / 256) := by
    rw [Nat.xor_comm, Nat.add_comm]
    apply Nat.eq_of_testBit_eq
    intro i
    have hl : e % 256 < 2 ^ 8 := Nat.mod_lt _ (by decide)
    have e1 : 256 * (e / 256) = 2 ^ 8 * (e / 256) := by rfl
    rw [e1, Nat.testBit_xor, Nat.testBit_two_pow_mul_add _ hl, Nat.testBit_two_pow_mul]
    by_cases hi : i < 8
    · simp [hi, Nat.not_le.2 hi]
    · simp [hi, Nat.not_lt.1 hi, Nat.testBit_lt_two_pow (Nat.lt_of_lt_of_le hl (Nat.pow_le_pow_right (by decide) (Nat.not_lt.1 hi)))]
  omega
theorem xor_toNat (a b : UInt8) : (a ^^^ b).toNat = a.toNat ^^^ b.toNat := UInt8.toNat_xor a b
theorem mod_toNat (e : Nat) : (UInt8.ofNat (e % 256)).toNat = e % 256 := by rw [UInt8.toNat_ofNat']; omega
/-- The sum's state behind a text that is turned by a number: the number goes through as so many bits. -/
theorem run_turn (e d c : Nat) (l : List UInt8) (he : e < 256 ^ l.length) : run (c ^^^ d) (turn e l) = run c l ^^^ TN (8 * l.length) (d ^^^ e) := by
  induction l generalizing e d c with
  | nil =>
    have : e = 0 := by simpa using he
    subst this
    simp [turn, run, TN]
  | cons b l ih =>
    have e1 : byteStep (c ^^^ d) (b ^^^ UInt8.ofNat (e % 256)).toNat = byteStep c b.toNat ^^^ TN 8 (d ^^^ e % 256) := by
      unfold byteStep
      rw [xor_toNat, mod_toNat, ← TN_xor]
      congr 1
      rw [Nat.xor_assoc, Nat.xor_assoc]
      congr 1
      rw [← Nat.xor_assoc, Nat.xor_comm d b.toNat, Nat.xor_assoc]
    have e2 : TN (8 * (b :: l).length) (d ^^^ e) = TN (8 * l.length) (TN 8 (d ^^^ e % 256) ^^^ e / 256) := by
      rw [List.length_cons, Nat.mul_add, Nat.mul_one, Nat.add_comm, TN_add]
      congr 1
      conv => lhs; rw [← low_xor e]
      rw [← Nat.xor_assoc, TN_xor]
      congr 1
      exact TN_pow 8 (e / 256)
    rw [turn, run_cons, run_cons, e1, e2]
    apply ih
    rw [List.length_cons, Nat.pow_succ] at he
    omega
/-- Bits that stand together, at most thirty-two, changed, change the sum. -/
theorem burst_differs (c k burst : Nat) (l : List UInt8) (h0 : 0 < burst) (h1 : burst < 4294967296) (hk : k + 32 ≤ 8 * l.length) :
    more c (turn (2 ^ k * burst) l) ≠ more c l := by
  rw [Ne, more_eq]
  intro h
  have he : 2 ^ k * burst < 256 ^ l.length := by
    have e1 : (256 : Nat) ^ l.length = 2 ^ (8 * l.length) := by rw [Nat.pow_mul]
    rw [e1]
    have e2 : 2 ^ k * burst < 2 ^ k * 2 ^ 32 := Nat.mul_lt_mul_of_pos_left (by simpa using h1) (Nat.pow_pos (by decide))
    rw [← Nat.pow_add] at e2
    exact Nat.lt_of_lt_of_le e2 (Nat.pow_le_pow_right (by decide) hk)
  have hr := run_turn (2 ^ k * burst) 0 (4294967295 - c) l he
  rw [Nat.xor_zero, Nat.zero_xor, h] at hr
  have h2 : TN (8 * l.length) (2 ^ k * burst) = 0 := by
    have := congrArg (fun x => run (4294967295 - c) l ^^^ x) hr
    simp only [← Nat.xor_assoc, Nat.xor_self, Nat.zero_xor] at this
    exact this.symm
  obtain ⟨m, hm⟩ : ∃ m, 8 * l.length = k + m := ⟨8 * l.length - k, by omega⟩
  rw [hm, TN_add, TN_pow] at h2
  have := TN_zero m burst h1 h2
  omega
/-- One bit more. -/
theorem turn_xor (e f : Nat) (l : List UInt8) : turn f (turn e l) = turn (e ^^^ f) l := by
  induction l generalizing e f with
  | nil => rfl
  | cons b l ih =>
    have hd : ∀ x y : Nat, (x ^^^ y) / 256 = x / 256 ^^^ y / 256 := fun x y => by
      have h : ∀ n : Nat, n / 256 = n >>> 8 := fun n => by simp [Nat.shiftRight_eq_div_pow]
      rw [h, h, h, Nat.shiftRight_xor_distrib]
    have hm : ∀ x y : Nat, (x ^^^ y) % 256 = x % 256 ^^^ y % 256 := fun x y => by
      exact Nat.xor_mod_two_pow (n := 8)
    simp only [turn, ih, hd]
    congr 1
    rw [← UInt8.toNat_inj, xor_toNat, xor_toNat, xor_toNat, mod_toNat, mod_toNat, mod_toNat, hm, Nat.xor_assoc]
theorem turn_zero (l : List UInt8) : turn 0 l = l := by
  induction l with
  | nil => rfl
  | cons b l ih => simp [turn, ih]
/-- A number of one bit turns one byte. -/
theorem turn_bit (m : Nat) (l : List UInt8) (hm : m < 8 * l.length) : turn (2 ^ m) l = l.set (m / 8) (l.getD (m / 8) 0 ^^^ UInt8.ofNat (2 ^ (m % 8))) := by
  induction l generalizing m with
  | nil => simp at hm
  | cons b l ih =>
    by_cases h : m < 8
    · have h1 : 2 ^ m < 256 := by
        have := Nat.pow_lt_pow_right (a := 2) (by decide) h
        simpa using this
      rw [Nat.div_eq_of_lt h, Nat.mod_eq_of_lt h]
      simp only [turn, Nat.div_eq_of_lt h1, Nat.mod_eq_of_lt h1, turn_zero]
      rfl
    · obtain ⟨j, rfl⟩ : ∃ j, m = j + 8 := ⟨m - 8, by omega⟩
      have h1 : 2 ^ (j + 8) % 256 = 0 := by rw [Nat.pow_add]; exact Nat.mul_mod_left _ _
      have h2 : 2 ^ (j + 8) / 256 = 2 ^ j := by rw [Nat.pow_add]; exact Nat.mul_div_cancel _ (by decide)
      rw [show (j + 8) / 8 = j / 8 + 1 by omega, show (j + 8) % 8 = j % 8 by omega]
      simp only [turn, h1, h2, List.set_cons_succ, List.getD_cons_succ]
      rw [ih j (by rw [List.length_cons] at hm; omega)]
      congr 1
      simp
end Crc
end Go.Proofs.YtlgjbdfnhaoloaaGreatDoor
end

/- What sum's functions return (the check sum of any text, behind any sum; a sum in bytes), where the table of two numbers reads as the program's text lays it. Condition: the table's two cells, the bounds of a number of 32 bits, of a text's length. -/
section
namespace Go.Proofs.YtlgjbdfnhaoloaaGreatDoor
open Go.RowKit
namespace Crc

/-- The table of two numbers as its text lays it. -/
structure Tab (w : World) : Prop where
  c0 : w.cell? ⟨0, 0, none⟩ = some (.int .u32 0)
  c1 : w.cell? ⟨0, 1, none⟩ = some (.int .u32 2197175160)
  pos : 0 < w.heap.size
theorem Tab.below {w w' : World} (h : Tab w) (hb : Below w.heap.size w w') : Tab w' :=
  ⟨by rw [hb.cell (p := ⟨0, 0, none⟩) h.pos]; exact h.c0, by rw [hb.cell (p := ⟨0, 1, none⟩) h.pos]; exact h.c1, Nat.lt_of_lt_of_le h.pos hb.size⟩

theorem bits_xor32 (a b : Nat) (ha : a < 4294967296) (hb : b < 4294967296) : bits .xor .u32 (a : Int) (b : Int) = ((a ^^^ b : Nat) : Int) := by
  have hx : a ^^^ b < 2 ^ 32 := Nat.xor_lt_two_pow (by omega) (by omega)
  have h1 : (BitVec.ofInt 32 (a : Int)).toNat = a := by
    rw [BitVec.ofInt_natCast, BitVec.toNat_ofNat]; exact Nat.mod_eq_of_lt (by omega)
  have h2 : (BitVec.ofInt 32 (b : Int)).toNat = b := by
    rw [BitVec.ofInt_natCast, BitVec.toNat_ofNat]; exact Nat.mod_eq_of_lt (by omega)
  show IntKind.u32.wrap ((BitVec.ofInt 32 (a : Int) ^^^ BitVec.ofInt 32 (b : Int)).toNat : Int) = _
  rw [BitVec.toNat_xor, h1, h2, IntKind.wrap_u32]
  omega
theorem wraps_u32 (n : Int) (h₀ : 0 ≤ n) (h₁ : n < 2 ^ 32) : IntKind.u32.wrap n = n := by rw [IntKind.wrap_u32]; omega
theorem bits_low32 (x : Int) (h₀ : 0 ≤ x) (h₁ : x < 4294967296) : bits .and .u32 x 1 = x % 2 :=
  bits_mask .u32 32 (by decide) wraps_u32 1 (by decide) x h₀ (by simpa using h₁)

theorem T_one (x : Nat) (hx : x < 4294967296) (h : x % 2 = 1) : bits .xor .u32 ((x : Int) / 2) 2197175160 = ((T x : Nat) : Int) := by
  have e := bits_xor32 (x / 2) 2197175160 (by omega) (by omega)
  have e2 : T x = x / 2 ^^^ 2197175160 := by unfold T; rw [if_pos h]
  rw [e2, ← e]
  congr 1
theorem T_nil (x : Nat) (hx : x < 4294967296) (h : ¬ x % 2 = 1) : bits .xor .u32 ((x : Int) / 2) 0 = ((T x : Nat) : Int) := by
  have e := bits_xor32 (x / 2) 0 (by omega) (by omega)
  have e2 : T x = x / 2 ^^^ 0 := by unfold T; rw [if_neg h]
  rw [e2, ← e]
  congr 1
theorem TN_next (k x : Nat) : TN (k + 1) x = T (TN k x) := by rw [TN_add k 1]; rfl

set_option maxHeartbeats 400000 in
theorem turned_any (c b : Nat) (hc : c < 4294967296) (hb : b < 256) (w : World) (ht : Tab w) :
    Calls Tryz.prog 91 #[.int .u32 c, .int .u8 b] w fun e w' => e = .returned (.int .u32 (byteStep c b : Nat)) ∧ w = w' := by
  obtain ⟨hc0, hc1, _⟩ := ht
  have hx := bits_xor32 c b hc (by omega)
  have hw : IntKind.u32.wrap (b : Int) = b := IntWalk.u32_in _ (by omega)
  have hy := xor_lt c b hc (by omega)
  have hn : ∀ k, TN (k + 1) (c ^^^ b) = T (TN k (c ^^^ b)) := fun k => TN_next k _
  have hl : ∀ k, TN k (c ^^^ b) < 4294967296 := fun k => TN_lt k _ hy
  replace hn := Lib.hid hn
  replace hl := Lib.hid hl
  go_enter Tryz.func91, Tryz.ntmps91
  go_wp2
  go_loop [0, 9] (fun x i => ∃ k : Nat, k ≤ 8 ∧ i = .int .i64 k ∧ x = .int .u32 (TN k (c ^^^ b) : Nat)) (fun _ i => 8 - (intOf i).toNat)
  case atStart => exact ⟨0, by omega, rfl, rfl⟩
  case round =>
    obtain ⟨k, hk, rfl, rfl⟩ := hrel
    clear hx hw hy
    by_cases hlt : k < 8
    · have hnk := hn.out k
      have hlk := hl.out k
      have hand := bits_low32 (TN k (c ^^^ b) : Nat) (by omega) (by omega)
      have hone := T_one (TN k (c ^^^ b)) hlk
      have hnil := T_nil (TN k (c ^^^ b)) hlk
      generalize hX : TN k (c ^^^ b) = X at *
      replace hX := Lib.hid hX
      replace hnk := Lib.hid hnk
      by_cases hp : X % 2 = 1
      · have hT := hone hp
        have hand' : bits .and .u32 (X : Int) 1 = 1 := by rw [hand]; omega
        clear hone hnil hand hp
        go_wp2
        go_round
        case rel => exact ⟨k + 1, by omega, by go_num, by rw [hnk.out]⟩
        case measure => simp [intOf]; omega
      · have hT := hnil hp
        have hand' : bits .and .u32 (X : Int) 1 = 0 := by rw [hand]; omega
        clear hone hnil hand hp
        go_wp2
        go_round
        case rel => exact ⟨k + 1, by omega, by go_num, by rw [hnk.out]⟩
        case measure => simp [intOf]; omega
    · obtain rfl : k = 8 := by omega
      go_wp2
      go_ret
      exact ⟨rfl, rfl⟩

theorem not_xor (c : Nat) (h : c < 4294967296) : 4294967295 ^^^ c = 4294967295 - c := by
  apply Nat.eq_of_testBit_eq
  intro i
  have e : 4294967295 - c = 2 ^ 32 - (c + 1) := by omega
  have e2 : 4294967295 = 2 ^ 32 - (0 + 1) := by rfl
  rw [Nat.testBit_xor, e, Nat.testBit_two_pow_sub_succ (by omega)]
  rw [e2, Nat.testBit_two_pow_sub_succ (by omega)]
  by_cases hi : i < 32
  · simp [hi]
  · simp only [hi, decide_false, Bool.false_and, Bool.false_xor]
    exact Nat.testBit_lt_two_pow (Nat.lt_of_lt_of_le h (Nat.pow_le_pow_right (n := 2) (i := 32) (by decide) (by omega)))
theorem not_is (c : Nat) (h : c < 4294967296) : bits .xor .u32 IntKind.u32.max (c : Int) = ((4294967295 - c : Nat) : Int) := by
  rw [← not_xor c h]; exact bits_xor32 4294967295 c (by omega) h
theorem run_take (c : Nat) (s : ByteArray) (k : Nat) (h : k < s.size) : run c (s.data.toList.take (k + 1)) = byteStep (run c (s.data.toList.take k)) s[k].toNat := by
  rw [List.take_succ_eq_append_getElem (by simpa using h), run_snoc]; rfl

set_option maxHeartbeats 400000 in
theorem more_any (c : Nat) (s : ByteArray) (hc : c < 4294967296) (hs : s.size ≤ 9223372036854775807) (w : World) (ht : Tab w) :
    Calls Tryz.prog 78 #[.int .u32 c, .string s] w fun e w' => e = .returned (.int .u32 (more c s.data.toList : Nat)) ∧ w = w' := by
  have hn := not_is c hc
  have hr : ∀ k, run (4294967295 - c) (s.data.toList.take k) < 4294967296 := fun k => run_lt _ _ (by omega)
  have hlast := not_is (run (4294967295 - c) s.data.toList) (run_lt _ _ (by omega))
  have hnx : ∀ k (h : k < s.size), run (4294967295 - c) (s.data.toList.take (k + 1)) = byteStep (run (4294967295 - c) (s.data.toList.take k)) s[k].toNat := fun k h => run_take _ s k h
  replace hr := Lib.hid hr
  replace hnx := Lib.hid hnx
  replace hlast := Lib.hid hlast
  go_enter Tryz.func78, Tryz.ntmps78
  go_wp2
  go_loop [0, 5, 10] (fun x _ i => ∃ k : Nat, k ≤ s.size ∧ i = .int .i64 k ∧ x = .int .u32 (run (4294967295 - c) (s.data.toList.take k) : Nat)) (fun _ _ i => s.size - (intOf i).toNat)
  case atStart => exact ⟨0, by omega, rfl, rfl⟩
  case round =>
    obtain ⟨k, hk, rfl, rfl⟩ := hrel
    clear hn
    have hrk := hr.out k
    by_cases hlt : k < s.size
    · have hnk := hnx.out k hlt
      have hb := s[k].toNat_lt
      replace hnk := Lib.hid hnk
      go_wp2_with fail
      refine (turned_any _ _ hrk (by omega) _ ht).mono ?_
      rintro e w' ⟨rfl, rfl⟩
      go_wp2
      go_round
      case rel => exact ⟨k + 1, by omega, by go_num, by rw [hnk.out]⟩
      case measure => simp [intOf]; omega
    · obtain rfl : k = s.size := by omega
      have e : s.data.toList.take s.size = s.data.toList := List.take_of_length_le (by simp)
      rw [e]
      clear e
      have hl := hlast.out
      go_wp2
      go_ret
      exact ⟨rfl, rfl⟩
end Crc
end Go.Proofs.YtlgjbdfnhaoloaaGreatDoor
end

/- What sum.Of and sum.Bytes return, and what the document's own functions return; the statements' own check 'works' returns true. Conditions: the table's two cells, the bounds. -/
section
namespace Go.Proofs.YtlgjbdfnhaoloaaGreatDoor
open Go.RowKit
namespace Crc

theorem of_any (s : ByteArray) (hs : s.size ≤ 9223372036854775807) (w : World) (ht : Tab w) :
    Calls Tryz.prog 56 #[.string s] w fun e w' => e = .returned (.int .u32 (more 0 s.data.toList : Nat)) ∧ w = w' := by
  go_enter Tryz.func56, Tryz.ntmps56
  go_wp2_with fail
  refine (more_any 0 s (by omega) hs _ ht).mono ?_
  rintro e w' ⟨rfl, rfl⟩
  go_wp2
  go_ret
  exact ⟨rfl, rfl⟩

theorem ret_u32 {a b : Int} (h : a = b) : Ending.returned (.int .u32 a) = .returned (.int .u32 b) := by rw [h]
theorem addr_add (b o j : Nat) : (⟨b, o, none⟩ : Addr).add j = ⟨b, o + j, none⟩ := by
  unfold Addr.add
  split <;> simp_all
theorem run_four_bytes (b0 b1 b2 b3 : UInt8) (c : Nat) (k : Nat) (W : World) (h0 : W.cell? ⟨k, 0, none⟩ = some (.int .u8 (b0.toNat : Int))) (h1 : W.cell? ⟨k, 1, none⟩ = some (.int .u8 (b1.toNat : Int)))
    (h2 : W.cell? ⟨k, 2, none⟩ = some (.int .u8 (b2.toNat : Int))) (h3 : W.cell? ⟨k, 3, none⟩ = some (.int .u8 (b3.toNat : Int))) :
    (convert 42 9 (.slice (some ⟨k, 0, none⟩) 4 c)).run Tryz.prog W = .ok (.string ⟨#[b0, b1, b2, b3]⟩) W := by
  have h := run_convert_bytes_back (P := Tryz.prog) W 42 9 5 ⟨k, 0, none⟩ c [b0, b1, b2, b3] (by kernel_rfl) (by kernel_rfl) (by kernel_rfl) (fun j hj => by
    have hj4 : j < 4 := hj
    rw [addr_add]
    match j, hj4 with
    | 0, _ => exact h0
    | 1, _ => exact h1
    | 2, _ => exact h2
    | 3, _ => exact h3)
  exact h

theorem run_four_new (b0 b1 b2 b3 : UInt8) (w : World) :
    (convert 42 9 (.slice (some ⟨w.heap.size, 0, none⟩) 4 4)).run Tryz.prog (w.alloc (.cells #[.int .u8 (b0.toNat : Int), .int .u8 (b1.toNat : Int), .int .u8 (b2.toNat : Int), .int .u8 (b3.toNat : Int)] 5)) =
      .ok (.string ⟨#[b0, b1, b2, b3]⟩) (w.alloc (.cells #[.int .u8 (b0.toNat : Int), .int .u8 (b1.toNat : Int), .int .u8 (b2.toNat : Int), .int .u8 (b3.toNat : Int)] 5)) := by
  apply run_four_bytes <;> (rw [World.cell?_alloc_at _ _ _ _ rfl]; rfl)

set_option maxHeartbeats 400000 in
theorem bytes_any (c : Nat) (hc : c < 4294967296) (w : World) :
    Calls Tryz.prog 55 #[.int .u32 c] w fun e w' => e = .returned (.string ⟨#[UInt8.ofNat (c / 16777216), UInt8.ofNat (c / 65536 % 256), UInt8.ofNat (c / 256 % 256), UInt8.ofNat (c % 256)]⟩) ∧ Below w.heap.size w w' := by
  have hw0 : IntKind.u8.wrap ((c : Int) / 16777216) = ((UInt8.ofNat (c / 16777216)).toNat : Int) := by rw [IntKind.wrap_u8, UInt8.toNat_ofNat']; omega
  have hw0' : (c : Int) / 16777216 = ((UInt8.ofNat (c / 16777216)).toNat : Int) := by rw [UInt8.toNat_ofNat']; omega
  have hw1 : IntKind.u8.wrap ((c : Int) / 65536) = ((UInt8.ofNat (c / 65536 % 256)).toNat : Int) := by rw [IntKind.wrap_u8, UInt8.toNat_ofNat']; omega
  have hw2 : IntKind.u8.wrap ((c : Int) / 256) = ((UInt8.ofNat (c / 256 % 256)).toNat : Int) := by rw [IntKind.wrap_u8, UInt8.toNat_ofNat']; omega
  have hw3 : IntKind.u8.wrap (c : Int) = ((UInt8.ofNat (c % 256)).toNat : Int) := by rw [IntKind.wrap_u8, UInt8.toNat_ofNat']; omega
  generalize UInt8.ofNat (c / 16777216) = b0 at *
  generalize UInt8.ofNat (c / 65536 % 256) = b1 at *
  generalize UInt8.ofNat (c / 256 % 256) = b2 at *
  generalize UInt8.ofNat (c % 256) = b3 at *
  have hcv := run_four_new b0 b1 b2 b3 w
  go_enter Tryz.func55, Tryz.ntmps55
  go_wp2
  go_ret
  exact ⟨rfl, by go_grown⟩


/-! The document's own sum. -/
theorem T_even (x : Nat) (_ : x < 4294967296) (h : ¬ x % 2 = 1) : ((x : Int) / 2) = ((T x : Nat) : Int) := by
  unfold T; rw [if_neg h, Nat.xor_zero]; omega


/-! The statements' own check. -/
theorem of_is (s : ByteArray) (hs : s.size ≤ 9223372036854775807) (n : Nat) (hn : more 0 s.data.toList = n) (w : World) (ht : Tab w) :
    Calls Tryz.prog 56 #[.string s] w fun e w' => e = .returned (.int .u32 n) ∧ w = w' := by
  subst hn; exact of_any s hs w ht
theorem bytes_is (c : Nat) (hc : c < 4294967296) (t : ByteArray) (h : ⟨#[UInt8.ofNat (c / 16777216), UInt8.ofNat (c / 65536 % 256), UInt8.ofNat (c / 256 % 256), UInt8.ofNat (c % 256)]⟩ = t) (w : World) :
    Calls Tryz.prog 55 #[.int .u32 c] w fun e w' => e = .returned (.string t) ∧ Below w.heap.size w w' := by
  subst h; exact bytes_any c hc w

end Crc
end Go.Proofs.YtlgjbdfnhaoloaaGreatDoor
end

/- For all inputs SumTells and SumParts return true. Conditions: the table's two cells, a text no longer than a text can be. -/
section
namespace Go.Proofs.YtlgjbdfnhaoloaaGreatDoor
open Go.RowKit
namespace Crc





theorem append_list (a b : ByteArray) : (a ++ b).data.toList = a.data.toList ++ b.data.toList := by
  simp


end Crc
end Go.Proofs.YtlgjbdfnhaoloaaGreatDoor
end
