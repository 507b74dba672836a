/- What sum's functions return (the check sum of any text, behind any sum; a sum in bytes), where the table of two numbers reads as the program's text lays it. Condition: the table's two cells, the bounds of a number of 32 bits, of a text's length. -/
import Derived.Test.YtcjfnkgjjhlbnaaDoorRows
import Derived.Test.YtcjfnkgjjhlbnaaDoorSumPure
import Derived.WalkKit
import Derived.WalkSpells
import Derived.WalkLawsBesides
import Derived.Handy
import Derived.Below
import Derived.Lib.Hide
import Derived.Laws.BitsLemmas
import Derived.Laws.Bits64
namespace Go.Proofs.YtcjfnkgjjhlbnaaDoor
open Go.RowKit
namespace Crc

/-- The table of two numbers as its text lays it. -/
structure Tab (w : World) : Prop where
  c0 : w.cell? ⟨0, 0, none⟩ = some (.int .u32 0)
  c1 : w.cell? ⟨0, 1, none⟩ = some (.int .u32 2197175160)
  pos : 0 < w.heap.size
theorem Tab.below {w w' : World} (h : Tab w) (hb : Below w.heap.size w w') : Tab w' :=
  ⟨by rw [hb.cell (p := ⟨0, 0, none⟩) h.pos]; exact h.c0, by rw [hb.cell (p := ⟨0, 1, none⟩) h.pos]; exact h.c1, Nat.lt_of_lt_of_le h.pos hb.size⟩

theorem bits_xor32 (a b : Nat) (ha : a < 4294967296) (hb : b < 4294967296) : bits .xor .u32 (a : Int) (b : Int) = ((a ^^^ b : Nat) : Int) := by
  have hx : a ^^^ b < 2 ^ 32 := Nat.xor_lt_two_pow (by omega) (by omega)
  have h1 : (BitVec.ofInt 32 (a : Int)).toNat = a := by
    rw [BitVec.ofInt_natCast, BitVec.toNat_ofNat]; exact Nat.mod_eq_of_lt (by omega)
  have h2 : (BitVec.ofInt 32 (b : Int)).toNat = b := by
    rw [BitVec.ofInt_natCast, BitVec.toNat_ofNat]; exact Nat.mod_eq_of_lt (by omega)
  show IntKind.u32.wrap ((BitVec.ofInt 32 (a : Int) ^^^ BitVec.ofInt 32 (b : Int)).toNat : Int) = _
  rw [BitVec.toNat_xor, h1, h2, IntKind.wrap_u32]
  omega
theorem wraps_u32 (n : Int) (h₀ : 0 ≤ n) (h₁ : n < 2 ^ 32) : IntKind.u32.wrap n = n := by rw [IntKind.wrap_u32]; omega
theorem bits_low32 (x : Int) (h₀ : 0 ≤ x) (h₁ : x < 4294967296) : bits .and .u32 x 1 = x % 2 :=
  bits_mask .u32 32 (by decide) wraps_u32 1 (by decide) x h₀ (by simpa using h₁)

theorem T_one (x : Nat) (hx : x < 4294967296) (h : x % 2 = 1) : bits .xor .u32 ((x : Int) / 2) 2197175160 = ((T x : Nat) : Int) := by
  have e := bits_xor32 (x / 2) 2197175160 (by omega) (by omega)
  have e2 : T x = x / 2 ^^^ 2197175160 := by unfold T; rw [if_pos h]
  rw [e2, ← e]
  congr 1
theorem T_nil (x : Nat) (hx : x < 4294967296) (h : ¬ x % 2 = 1) : bits .xor .u32 ((x : Int) / 2) 0 = ((T x : Nat) : Int) := by
  have e := bits_xor32 (x / 2) 0 (by omega) (by omega)
  have e2 : T x = x / 2 ^^^ 0 := by unfold T; rw [if_neg h]
  rw [e2, ← e]
  congr 1
theorem TN_next (k x : Nat) : TN (k + 1) x = T (TN k x) := by rw [TN_add k 1]; rfl

set_option maxHeartbeats 400000 in
theorem turned_any (c b : Nat) (hc : c < 4294967296) (hb : b < 256) (w : World) (ht : Tab w) :
    Calls Tryd.prog 31 #[.int .u32 c, .int .u8 b] w fun e w' => e = .returned (.int .u32 (byteStep c b : Nat)) ∧ w = w' := by
  obtain ⟨hc0, hc1, _⟩ := ht
  have hx := bits_xor32 c b hc (by omega)
  have hw : IntKind.u32.wrap (b : Int) = b := IntWalk.u32_in _ (by omega)
  have hy := xor_lt c b hc (by omega)
  have hn : ∀ k, TN (k + 1) (c ^^^ b) = T (TN k (c ^^^ b)) := fun k => TN_next k _
  have hl : ∀ k, TN k (c ^^^ b) < 4294967296 := fun k => TN_lt k _ hy
  replace hn := Lib.hid hn
  replace hl := Lib.hid hl
  go_enter Tryd.func31, Tryd.ntmps31
  go_wp2
  go_loop [0, 9] (fun x i => ∃ k : Nat, k ≤ 8 ∧ i = .int .i64 k ∧ x = .int .u32 (TN k (c ^^^ b) : Nat)) (fun _ i => 8 - (intOf i).toNat)
  case atStart => exact ⟨0, by omega, rfl, rfl⟩
  case round =>
    obtain ⟨k, hk, rfl, rfl⟩ := hrel
    clear hx hw hy
    by_cases hlt : k < 8
    · have hnk := hn.out k
      have hlk := hl.out k
      have hand := bits_low32 (TN k (c ^^^ b) : Nat) (by omega) (by omega)
      have hone := T_one (TN k (c ^^^ b)) hlk
      have hnil := T_nil (TN k (c ^^^ b)) hlk
      generalize hX : TN k (c ^^^ b) = X at *
      replace hX := Lib.hid hX
      replace hnk := Lib.hid hnk
      by_cases hp : X % 2 = 1
      · have hT := hone hp
        have hand' : bits .and .u32 (X : Int) 1 = 1 := by rw [hand]; omega
        clear hone hnil hand hp
        go_wp2
        go_round
        case rel => exact ⟨k + 1, by omega, by go_num, by rw [hnk.out]⟩
        case measure => simp [intOf]; omega
      · have hT := hnil hp
        have hand' : bits .and .u32 (X : Int) 1 = 0 := by rw [hand]; omega
        clear hone hnil hand hp
        go_wp2
        go_round
        case rel => exact ⟨k + 1, by omega, by go_num, by rw [hnk.out]⟩
        case measure => simp [intOf]; omega
    · obtain rfl : k = 8 := by omega
      go_wp2
      go_ret
      exact ⟨rfl, rfl⟩

theorem not_xor (c : Nat) (h : c < 4294967296) : 4294967295 ^^^ c = 4294967295 - c := by
  apply Nat.eq_of_testBit_eq
  intro i
  have e : 4294967295 - c = 2 ^ 32 - (c + 1) := by omega
  have e2 : 4294967295 = 2 ^ 32 - (0 + 1) := by rfl
  rw [Nat.testBit_xor, e, Nat.testBit_two_pow_sub_succ (by omega)]
  rw [e2, Nat.testBit_two_pow_sub_succ (by omega)]
  by_cases hi : i < 32
  · simp [hi]
  · simp only [hi, decide_false, Bool.false_and, Bool.false_xor]
    exact Nat.testBit_lt_two_pow (Nat.lt_of_lt_of_le h (Nat.pow_le_pow_right (n := 2) (i := 32) (by decide) (by omega)))
theorem not_is (c : Nat) (h : c < 4294967296) : bits .xor .u32 IntKind.u32.max (c : Int) = ((4294967295 - c : Nat) : Int) := by
  rw [← not_xor c h]; exact bits_xor32 4294967295 c (by omega) h
theorem run_take (c : Nat) (s : ByteArray) (k : Nat) (h : k < s.size) : run c (s.data.toList.take (k + 1)) = byteStep (run c (s.data.toList.take k)) s[k].toNat := by
  rw [List.take_succ_eq_append_getElem (by simpa using h), run_snoc]; rfl

set_option maxHeartbeats 400000 in
theorem more_any (c : Nat) (s : ByteArray) (hc : c < 4294967296) (hs : s.size ≤ 9223372036854775807) (w : World) (ht : Tab w) :
    Calls Tryd.prog 26 #[.int .u32 c, .string s] w fun e w' => e = .returned (.int .u32 (more c s.data.toList : Nat)) ∧ w = w' := by
  have hn := not_is c hc
  have hr : ∀ k, run (4294967295 - c) (s.data.toList.take k) < 4294967296 := fun k => run_lt _ _ (by omega)
  have hlast := not_is (run (4294967295 - c) s.data.toList) (run_lt _ _ (by omega))
  have hnx : ∀ k (h : k < s.size), run (4294967295 - c) (s.data.toList.take (k + 1)) = byteStep (run (4294967295 - c) (s.data.toList.take k)) s[k].toNat := fun k h => run_take _ s k h
  replace hr := Lib.hid hr
  replace hnx := Lib.hid hnx
  replace hlast := Lib.hid hlast
  go_enter Tryd.func26, Tryd.ntmps26
  go_wp2
  go_loop [0, 5, 10] (fun x _ i => ∃ k : Nat, k ≤ s.size ∧ i = .int .i64 k ∧ x = .int .u32 (run (4294967295 - c) (s.data.toList.take k) : Nat)) (fun _ _ i => s.size - (intOf i).toNat)
  case atStart => exact ⟨0, by omega, rfl, rfl⟩
  case round =>
    obtain ⟨k, hk, rfl, rfl⟩ := hrel
    clear hn
    have hrk := hr.out k
    by_cases hlt : k < s.size
    · have hnk := hnx.out k hlt
      have hb := s[k].toNat_lt
      replace hnk := Lib.hid hnk
      go_wp2_with fail
      refine (turned_any _ _ hrk (by omega) _ ht).mono ?_
      rintro e w' ⟨rfl, rfl⟩
      go_wp2
      go_round
      case rel => exact ⟨k + 1, by omega, by go_num, by rw [hnk.out]⟩
      case measure => simp [intOf]; omega
    · obtain rfl : k = s.size := by omega
      have e : s.data.toList.take s.size = s.data.toList := List.take_of_length_le (by simp)
      rw [e]
      clear e
      have hl := hlast.out
      go_wp2
      go_ret
      exact ⟨rfl, rfl⟩
end Crc
end Go.Proofs.YtcjfnkgjjhlbnaaDoor
