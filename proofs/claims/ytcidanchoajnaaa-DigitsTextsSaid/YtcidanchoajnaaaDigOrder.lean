/- For all numbers a and b of 64 bits without a sign DigitsOrder returns true, and the arguments read as before. No condition. -/
import Derived.Test.YtcidanchoajnaaaDigWorks
import Derived.Test.YtcidanchoajnaaaDigOrdPure
import Derived.ProofKit
namespace Go.Proofs.Ytcidanchoajnaaa
open Go.RowKit
namespace Dig

theorem chain2 {w w1 w2 : World} (h1 : Below w.heap.size w w1) (h2 : Below w1.heap.size w1 w2) : Below w.heap.size w w2 := h1.trans (h2.mono h1.size)
theorem chain3 {w w1 w2 w3 : World} (h1 : Below w.heap.size w w1) (h2 : Below w1.heap.size w1 w2) (h3 : Below w2.heap.size w2 w3) : Below w.heap.size w w3 := chain2 (chain2 h1 h2) h3
theorem chain4 {w w1 w2 w3 w4 : World} (h1 : Below w.heap.size w w1) (h2 : Below w1.heap.size w1 w2) (h3 : Below w2.heap.size w2 w3) (h4 : Below w3.heap.size w3 w4) : Below w.heap.size w w4 := chain2 (chain3 h1 h2 h3) h4
theorem chain5 {w w1 w2 w3 w4 w5 : World} (h1 : Below w.heap.size w w1) (h2 : Below w1.heap.size w1 w2) (h3 : Below w2.heap.size w2 w3) (h4 : Below w3.heap.size w3 w4) (h5 : Below w4.heap.size w4 w5) : Below w.heap.size w w5 := chain2 (chain4 h1 h2 h3 h4) h5

set_option maxHeartbeats 400000 in
theorem order_ne (a b : Nat) (ha : a < 18446744073709551616) (hb : b < 18446744073709551616) (h1 : decide (a < b) = Op.bytesLess (numL a) (numL b)) (h2 : ((a : Int) == (b : Int)) = false) (h3 : (numL a == numL b) = false) (w : World) :
    Calls Try.prog 8 #[.int .u64 a, .int .u64 b] w fun e w' => e = .returned (.bool true) ∧ Below w.heap.size w w' := by
  go_enter Try.func8, Try.ntmps8
  go_wp2_with fail
  refine (works_true _).mono ?_
  rintro e w1 ⟨rfl, hb1⟩
  go_wp2_with fail
  refine (num_calls a ha _).mono ?_
  rintro e w2 ⟨rfl, hb2⟩
  go_wp2_with fail
  refine (num_calls b hb _).mono ?_
  rintro e w3 ⟨rfl, hb3⟩
  go_wp2_with fail
  refine (num_calls a ha _).mono ?_
  rintro e w4 ⟨rfl, hb4⟩
  go_wp2_with fail
  refine (num_calls b hb _).mono ?_
  rintro e w5 ⟨rfl, hb5⟩
  go_wp2
  go_ret
  exact ⟨rfl, chain5 hb1 hb2 hb3 hb4 hb5⟩

set_option maxHeartbeats 400000 in
theorem order_eq (a : Nat) (ha : a < 18446744073709551616) (h1 : Op.bytesLess (numL a) (numL a) = false) (w : World) :
    Calls Try.prog 8 #[.int .u64 a, .int .u64 a] w fun e w' => e = .returned (.bool true) ∧ Below w.heap.size w w' := by
  go_enter Try.func8, Try.ntmps8
  go_wp2_with fail
  refine (works_true _).mono ?_
  rintro e w1 ⟨rfl, hb1⟩
  go_wp2_with fail
  refine (num_calls a ha _).mono ?_
  rintro e w2 ⟨rfl, hb2⟩
  go_wp2_with fail
  refine (num_calls a ha _).mono ?_
  rintro e w3 ⟨rfl, hb3⟩
  go_wp2_with fail
  refine (num_calls a ha _).mono ?_
  rintro e w4 ⟨rfl, hb4⟩
  go_wp2_with fail
  refine (num_calls a ha _).mono ?_
  rintro e w5 ⟨rfl, hb5⟩
  go_wp2
  go_ret
  exact ⟨rfl, chain5 hb1 hb2 hb3 hb4 hb5⟩

theorem order_true (a b : Int) (ha0 : 0 ≤ a) (ha : a ≤ 18446744073709551615) (hb0 : 0 ≤ b) (hb : b ≤ 18446744073709551615) (w : World) :
    Calls Try.prog 8 #[.int .u64 a, .int .u64 b] w fun e w' => e = .returned (.bool true) ∧ Below w.heap.size w w' := by
  obtain ⟨a, rfl⟩ := Int.eq_ofNat_of_zero_le ha0
  obtain ⟨b, rfl⟩ := Int.eq_ofNat_of_zero_le hb0
  by_cases h : a = b
  · subst h
    exact order_eq a (by omega) (by rw [less_num a a (by omega) (by omega)]; simp) w
  · exact order_ne a b (by omega) (by omega) (less_num a b (by omega) (by omega)).symm (by rw [beq_eq_false_iff_ne]; omega) (by
      rw [beq_eq_false_iff_ne]
      intro h2
      exact h (numL_inj a b (by omega) (by omega) h2)) w
end Dig
end Go.Proofs.Ytcidanchoajnaaa
