/- For all numbers n and m DigitsSizes returns true, and the arguments read as before. No condition. -/
import Derived.Test.YtcidanchoajnaaaDigWorks
import Derived.Test.YtcidanchoajnaaaDigOrder
import Derived.ProofKit
namespace Go.Proofs.Ytcidanchoajnaaa
open Go.RowKit
namespace Dig

theorem numA_size (n : Nat) : (⟨(numL n).toArray⟩ : ByteArray).size = nd n + 1 := by
  show (numL n).toArray.size = _
  rw [List.size_toArray, numL_length]

theorem numA_zero (n : Nat) (h : 0 < (⟨(numL n).toArray⟩ : ByteArray).size) : ((⟨(numL n).toArray⟩ : ByteArray)[0]'h).toNat = nd n := by
  have h2 := nd_le n
  have e : (UInt8.ofNat (nd n)).toNat = nd n := by rw [UInt8.toNat_ofNat']; omega
  exact e

set_option maxHeartbeats 400000 in
theorem sizes_minus (n : Nat) (hn : n < 18446744073709551616) (m : Int) (h0 : -9223372036854775808 ≤ m) (h1 : m < 0) (w : World) :
    Calls Try.prog 10 #[.int .u64 n, .int .i64 m] w fun e w' => e = .returned (.bool true) ∧ Below w.heap.size w w' := by
  go_enter Try.func10, Try.ntmps10
  go_wp2_with fail
  refine (works_true _).mono ?_
  rintro e w1 ⟨rfl, hb1⟩
  go_wp2_with fail
  go_loop [5, 6] (fun c x => ∃ k : Nat, k ≤ nd n ∧ c = .int .i64 (k : Int) ∧ x = .int .u64 ((n / 256 ^ k : Nat) : Int)) (fun c _ => 9 - (intOf c).toNat)
  case atStart => exact ⟨0, Nat.zero_le _, rfl, by simp⟩
  case round =>
    obtain ⟨k, hk, rfl, rfl⟩ := hrel
    have hnd := nd_le n
    by_cases hlt : k < nd n
    · have hpos := q_pos n k hlt
      have hnx := Lib.hid (q_next n k)
      have hle : n / 256 ^ k ≤ n := Nat.div_le_self _ _
      generalize n / 256 ^ k = q at hpos hnx hle ⊢
      go_wp2
      go_round
      case rel => exact ⟨k + 1, by omega, by go_num, by rw [hnx.out]; rfl⟩
      case measure => simp [intOf]; omega
    · have hz := q_zero n hn
      obtain rfl : k = nd n := by omega
      rw [hz]
      clear hlt hk hz
      go_wp2_with fail
      refine (num_calls n hn _).mono ?_
      rintro e w2 ⟨rfl, hb2⟩
      have hsz := numA_size n
      have hby := numA_zero n (by omega)
      go_wp2_with fail
      refine (signed_is m (by omega) (by omega) (numL (zig m)) rfl _).mono ?_
      rintro e w3 ⟨rfl, hb3⟩
      have hzz := zig_lt m (by omega) (by omega)
      go_wp2_with fail
      refine (num_is _ (by omega) (by omega) (numL (zig m)) (by unfold zig; rw [if_pos h1]; congr 1; omega) _).mono ?_
      rintro e w4 ⟨rfl, hb4⟩
      go_wp2
      go_ret
      exact ⟨rfl, chain4 hb1 hb2 hb3 hb4⟩

set_option maxHeartbeats 400000 in
theorem sizes_plus (n : Nat) (hn : n < 18446744073709551616) (m : Int) (h0 : 0 ≤ m) (h1 : m ≤ 9223372036854775807) (w : World) :
    Calls Try.prog 10 #[.int .u64 n, .int .i64 m] w fun e w' => e = .returned (.bool true) ∧ Below w.heap.size w w' := by
  go_enter Try.func10, Try.ntmps10
  go_wp2_with fail
  refine (works_true _).mono ?_
  rintro e w1 ⟨rfl, hb1⟩
  go_wp2_with fail
  go_loop [5, 6] (fun c x => ∃ k : Nat, k ≤ nd n ∧ c = .int .i64 (k : Int) ∧ x = .int .u64 ((n / 256 ^ k : Nat) : Int)) (fun c _ => 9 - (intOf c).toNat)
  case atStart => exact ⟨0, Nat.zero_le _, rfl, by simp⟩
  case round =>
    obtain ⟨k, hk, rfl, rfl⟩ := hrel
    have hnd := nd_le n
    by_cases hlt : k < nd n
    · have hpos := q_pos n k hlt
      have hnx := Lib.hid (q_next n k)
      have hle : n / 256 ^ k ≤ n := Nat.div_le_self _ _
      generalize n / 256 ^ k = q at hpos hnx hle ⊢
      go_wp2
      go_round
      case rel => exact ⟨k + 1, by omega, by go_num, by rw [hnx.out]; rfl⟩
      case measure => simp [intOf]; omega
    · have hz := q_zero n hn
      obtain rfl : k = nd n := by omega
      rw [hz]
      clear hlt hk hz
      go_wp2_with fail
      refine (num_calls n hn _).mono ?_
      rintro e w2 ⟨rfl, hb2⟩
      have hsz := numA_size n
      have hby := numA_zero n (by omega)
      go_wp2_with fail
      refine (signed_is m (by omega) (by omega) (numL (zig m)) rfl _).mono ?_
      rintro e w3 ⟨rfl, hb3⟩
      have hzz := zig_lt m (by omega) (by omega)
      go_wp2_with fail
      refine (num_is _ (by omega) (by omega) (numL (zig m)) (by unfold zig; rw [if_neg (by omega)]; congr 1; omega) _).mono ?_
      rintro e w4 ⟨rfl, hb4⟩
      go_wp2
      go_ret
      exact ⟨rfl, chain4 hb1 hb2 hb3 hb4⟩

theorem sizes_true (n m : Int) (hn0 : 0 ≤ n) (hn1 : n ≤ 18446744073709551615) (hm0 : -9223372036854775808 ≤ m) (hm1 : m ≤ 9223372036854775807) (w : World) :
    Calls Try.prog 10 #[.int .u64 n, .int .i64 m] w fun e w' => e = .returned (.bool true) ∧ Below w.heap.size w w' := by
  obtain ⟨n, rfl⟩ := Int.eq_ofNat_of_zero_le hn0
  by_cases h : m < 0
  · exact sizes_minus n (by omega) m hm0 h w
  · exact sizes_plus n (by omega) m (by omega) hm1 w
end Dig
end Go.Proofs.Ytcidanchoajnaaa
