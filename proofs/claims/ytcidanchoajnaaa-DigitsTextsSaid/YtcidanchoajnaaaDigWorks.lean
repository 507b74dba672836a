/- The statements' own check 'works' returns true and leaves alone what was there before. No condition. -/
import Derived.Test.YtcidanchoajnaaaDigMore
namespace Go.Proofs.Ytcidanchoajnaaa
open Go.RowKit
namespace Dig

theorem num_is (x : Int) (h0 : 0 ≤ x) (h1 : x ≤ 18446744073709551615) (l : List UInt8) (hl : numL x.toNat = l) (w : World) :
    Calls Try.prog 13 #[.int .u64 x] w fun e w' => e = .returned (.string ⟨l.toArray⟩) ∧ Below w.heap.size w w' := by
  subst hl; exact num_any x h0 h1 w
theorem signed_is (m : Int) (h0 : -9223372036854775808 ≤ m) (h1 : m ≤ 9223372036854775807) (l : List UInt8) (hl : numL (zig m) = l) (w : World) :
    Calls Try.prog 17 #[.int .i64 m] w fun e w' => e = .returned (.string ⟨l.toArray⟩) ∧ Below w.heap.size w w' := by
  subst hl; exact signed_any m h0 h1 w
theorem get_is (s : ByteArray) (hs : s.size ≤ 9223372036854775807) (n k x : Nat) (hg : gotN s.data.toList = (n, k, x)) (w : World) :
    Calls Try.prog 11 #[.string s] w fun e w' => e = .returned (.tuple #[.int .u64 (n : Int), .int .i64 (k : Int), .int .i64 (x : Int)]) ∧ Below w.heap.size w w' := by
  have := get_any s hs w
  rw [hg] at this
  exact this
theorem getsigned_is (s : ByteArray) (hs : s.size ≤ 9223372036854775807) (n k x : Nat) (hg : gotN s.data.toList = (n, k, x)) (w : World) :
    Calls Try.prog 15 #[.string s] w fun e w' => e = .returned (.tuple #[.int .i64 (unz n), .int .i64 (k : Int), .int .i64 (x : Int)]) ∧ Below w.heap.size w w' := by
  have := getsigned_any s hs w
  rw [hg] at this
  exact this
theorem text_is (s : ByteArray) (hs : s.size ≤ 4611686018427387904) (t : ByteArray) (ht : textA s = t) (w : World) :
    Calls Try.prog 21 #[.string s] w fun e w' => e = .returned (.string t) ∧ Below w.heap.size w w' := by
  subst ht; exact text_any s hs w

set_option maxHeartbeats 400000 in
theorem works_true (w : World) : Calls Try.prog 23 #[] w fun e w' => e = .returned (.bool true) ∧ Below w.heap.size w w' := by
  go_enter Try.func23, Try.ntmps23
  go_wp2_with fail
  refine (get_is ⟨#[1, 0]⟩ (by decide) 0 0 3 (by decide +kernel) _).mono ?_
  rintro e w1 ⟨rfl, hb1⟩
  go_wp2_with fail
  refine (num_is 256 (by omega) (by omega) [2, 1, 0] (by decide +kernel) _).mono ?_
  rintro e w2 ⟨rfl, hb2⟩
  go_wp2_with fail
  refine (signed_is (-1) (by omega) (by omega) [1, 1] (by decide +kernel) _).mono ?_
  rintro e w3 ⟨rfl, hb3⟩
  go_wp2_with fail
  refine (text_is ⟨#[97, 98]⟩ (by decide) ⟨#[1, 2, 97, 98]⟩ (by decide +kernel) _).mono ?_
  rintro e w4 ⟨rfl, hb4⟩
  go_wp2
  go_ret
  exact ⟨rfl, hb1.trans ((hb2.mono hb1.size).trans ((hb3.mono (Nat.le_trans hb1.size hb2.size)).trans (hb4.mono (Nat.le_trans hb1.size (Nat.le_trans hb2.size hb3.size)))))⟩
end Dig
end Go.Proofs.Ytcidanchoajnaaa
