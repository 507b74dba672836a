/- What digits.Signed, GetSigned, Text and GetText return; they leave alone what was there before. Conditions: numbers of 64 bits, texts no longer than a text can be. -/
import Derived.Test.YtcjfnkgjjhlbnaaDoorDigNum
import Derived.Test.YtcjfnkgjjhlbnaaDoorDigGet
namespace Go.Proofs.YtcjfnkgjjhlbnaaDoor
open Go.RowKit
namespace Dig

/-- A number with a sign, as a number. -/
def zig (m : Int) : Nat := if m < 0 then (-2 * m - 1).toNat else (2 * m).toNat
def unz (n : Nat) : Int := if n % 2 = 1 then -((n / 2 : Nat) : Int) - 1 else ((n / 2 : Nat) : Int)
theorem zig_lt (m : Int) (h0 : -9223372036854775808 ≤ m) (h1 : m ≤ 9223372036854775807) : zig m < 18446744073709551616 := by unfold zig; split <;> omega
theorem unz_zig (m : Int) : unz (zig m) = m := by unfold unz zig; split <;> split <;> omega
theorem zig_unz (n : Nat) : zig (unz n) = n := by unfold unz zig; split <;> split <;> omega
theorem unz_bd (n : Nat) (h : n < 18446744073709551616) : -9223372036854775808 ≤ unz n ∧ unz n ≤ 9223372036854775807 := by unfold unz; split <;> omega

/-- Num, of an integer. -/
theorem num_any (x : Int) (h0 : 0 ≤ x) (h1 : x ≤ 18446744073709551615) (w : World) :
    Calls Tryd.prog 25 #[.int .u64 x] w fun e w' => e = .returned (.string ⟨(numL x.toNat).toArray⟩) ∧ Below w.heap.size w w' := by
  obtain ⟨n, rfl⟩ := Int.eq_ofNat_of_zero_le h0
  exact num_calls n (by omega) w



/-- A text's bytes. -/
def textA (s : ByteArray) : ByteArray := ⟨(numL s.size).toArray⟩ ++ s
theorem textA_list (s : ByteArray) : (textA s).data.toList = numL s.size ++ s.data.toList := by
  rw [textA, ByteArray.data_append, Array.toList_append]
theorem textA_size (s : ByteArray) : (textA s).size = nd s.size + 1 + s.size := by
  rw [textA, ByteArray.size_append]
  have : (⟨(numL s.size).toArray⟩ : ByteArray).size = (numL s.size).length := by
    show (numL s.size).toArray.size = _
    rw [List.size_toArray]
  rw [this, numL_length]

set_option maxHeartbeats 400000 in
theorem text_any (s : ByteArray) (hs : s.size ≤ 4611686018427387904) (w : World) :
    Calls Tryd.prog 16 #[.string s] w fun e w' => e = .returned (.string (textA s)) ∧ Below w.heap.size w w' := by
  go_enter Tryd.func16, Tryd.ntmps16
  go_wp2_with fail
  refine (num_any _ (by omega) (by omega) _).mono ?_
  rintro e w1 ⟨rfl, hb⟩
  rw [Int.toNat_natCast]
  have hz := textA_size s
  have hn := nd_le s.size
  have hadd := run_string_add_sum (P := Tryd.prog) w1 ⟨(numL s.size).toArray⟩ s (by rw [← ByteArray.size_append]; show (textA s).size ≤ _; omega)
  clear hz hn
  go_wp2
  go_ret
  exact ⟨rfl, hb⟩

/-- What GetText returns of a text with at most 'most' bytes: how many bytes its text has, behind which place, and the error (8: too long). -/
def gotT (l : List UInt8) (most : Int) : Nat × Nat × Nat :=
  if (gotN l).2.2 ≠ 0 then (0, 0, (gotN l).2.2) else if most < 0 ∨ most < ((gotN l).1 : Int) then (0, 0, 8) else if l.length - (gotN l).2.1 < (gotN l).1 then (0, 0, 1) else ((gotN l).1, (gotN l).2.1, 0)

theorem ret3s_eq {k2 k3 : IntKind} {a a' : ByteArray} {b b' c : Int} (h1 : a = a') (h2 : b = b') : Ending.returned (.tuple #[.string a, .int k2 b, .int k3 c]) = .returned (.tuple #[.string a', .int k2 b', .int k3 c]) := by rw [h1, h2]

set_option maxHeartbeats 400000 in
theorem gettext_ok (s : ByteArray) (most : Int) (hs : s.size ≤ 9223372036854775807) (hm0 : 0 ≤ most) (hm1 : most ≤ 9223372036854775807) (n k : Nat) (hg : gotN s.data.toList = (n, k, 0)) (hk : k ≤ s.size) (hm : (n : Int) ≤ most) (hn : n ≤ s.size - k) (w : World) :
    Calls Tryd.prog 22 #[.string s, .int .i64 most] w fun e w' => e = .returned (.tuple #[.string (s.extract k (k + n)), .int .i64 ((k : Int) + (n : Int)), .int .i64 0]) ∧ Below w.heap.size w w' := by
  have hc := get_any s hs w
  rw [hg] at hc
  simp only at hc
  replace hc := Lib.hid hc
  clear hg
  go_enter Tryd.func22, Tryd.ntmps22
  go_wp2_with fail
  refine hc.out.mono ?_
  rintro _ w1 ⟨rfl, hb⟩
  go_wp2
  go_ret3
  exact ⟨rfl, hb⟩

set_option maxHeartbeats 400000 in
theorem gettext_short (s : ByteArray) (most : Int) (hs : s.size ≤ 9223372036854775807) (hm0 : 0 ≤ most) (hm1 : most ≤ 9223372036854775807) (n k : Nat) (hg : gotN s.data.toList = (n, k, 0)) (hk : k ≤ s.size) (hm : (n : Int) ≤ most) (hn : s.size - k < n) (w : World) :
    Calls Tryd.prog 22 #[.string s, .int .i64 most] w fun e w' => e = .returned (.tuple #[.string ⟨#[]⟩, .int .i64 0, .int .i64 1]) ∧ Below w.heap.size w w' := by
  have hc := get_any s hs w
  rw [hg] at hc
  simp only at hc
  replace hc := Lib.hid hc
  clear hg
  go_enter Tryd.func22, Tryd.ntmps22
  go_wp2_with fail
  refine hc.out.mono ?_
  rintro _ w1 ⟨rfl, hb⟩
  go_wp2
  go_ret3
  exact ⟨rfl, hb⟩

set_option maxHeartbeats 400000 in
theorem gettext_minus (s : ByteArray) (most : Int) (hs : s.size ≤ 9223372036854775807) (hm0 : most < 0) (n k : Nat) (hg : gotN s.data.toList = (n, k, 0)) (w : World) :
    Calls Tryd.prog 22 #[.string s, .int .i64 most] w fun e w' => e = .returned (.tuple #[.string ⟨#[]⟩, .int .i64 0, .int .i64 8]) ∧ Below w.heap.size w w' := by
  have hc := get_any s hs w
  rw [hg] at hc
  simp only at hc
  replace hc := Lib.hid hc
  clear hg
  go_enter Tryd.func22, Tryd.ntmps22
  go_wp2_with fail
  refine hc.out.mono ?_
  rintro _ w1 ⟨rfl, hb⟩
  go_wp2
  go_ret3
  exact ⟨rfl, hb⟩

set_option maxHeartbeats 400000 in
theorem gettext_long (s : ByteArray) (most : Int) (hs : s.size ≤ 9223372036854775807) (hm0 : 0 ≤ most) (hm1 : most ≤ 9223372036854775807) (n k : Nat) (hg : gotN s.data.toList = (n, k, 0)) (hm : most < (n : Int)) (w : World) :
    Calls Tryd.prog 22 #[.string s, .int .i64 most] w fun e w' => e = .returned (.tuple #[.string ⟨#[]⟩, .int .i64 0, .int .i64 8]) ∧ Below w.heap.size w w' := by
  have hc := get_any s hs w
  rw [hg] at hc
  simp only at hc
  replace hc := Lib.hid hc
  clear hg
  go_enter Tryd.func22, Tryd.ntmps22
  go_wp2_with fail
  refine hc.out.mono ?_
  rintro _ w1 ⟨rfl, hb⟩
  go_wp2
  go_ret3
  exact ⟨rfl, hb⟩

set_option maxHeartbeats 400000 in
theorem gettext_err (s : ByteArray) (most : Int) (hs : s.size ≤ 9223372036854775807) (x : Nat) (hx : ((x : Int) != 0) = true) (hg : gotN s.data.toList = (0, 0, x)) (w : World) :
    Calls Tryd.prog 22 #[.string s, .int .i64 most] w fun e w' => e = .returned (.tuple #[.string ⟨#[]⟩, .int .i64 0, .int .i64 (x : Int)]) ∧ Below w.heap.size w w' := by
  have hc := get_any s hs w
  rw [hg] at hc
  simp only at hc
  replace hc := Lib.hid hc
  clear hg
  go_enter Tryd.func22, Tryd.ntmps22
  go_wp2_with fail
  refine hc.out.mono ?_
  rintro _ w1 ⟨rfl, hb⟩
  go_wp2
  go_ret3
  exact ⟨rfl, hb⟩

/-- GetText, of any text and limit. -/
theorem gettext_any (s : ByteArray) (most : Int) (hs : s.size ≤ 9223372036854775807) (hm1 : most ≤ 9223372036854775807) (w : World) :
    Calls Tryd.prog 22 #[.string s, .int .i64 most] w fun e w' =>
      e = .returned (.tuple #[.string (s.extract (gotT s.data.toList most).2.1 ((gotT s.data.toList most).2.1 + (gotT s.data.toList most).1)), .int .i64 (((gotT s.data.toList most).2.1 : Int) + ((gotT s.data.toList most).1 : Int)), .int .i64 ((gotT s.data.toList most).2.2 : Int)]) ∧ Below w.heap.size w w' := by
  have hl := gotN_lt s.data.toList
  have hsz : s.data.toList.length = s.size := by simp
  have h00 : s.extract 0 (0 + 0) = ⟨#[]⟩ := by
    apply ByteArray.ext
    simp
  by_cases h0 : (gotN s.data.toList).2.2 = 0
  · obtain ⟨n, k, hg⟩ : ∃ n k, gotN s.data.toList = (n, k, 0) := ⟨_, _, by rw [← h0]⟩
    rw [hg] at hl
    simp only at hl
    obtain ⟨_, _, hk, _⟩ := hl
    unfold gotT
    rw [hg]
    simp only [ne_eq, not_true_eq_false, if_false]
    by_cases h1 : most < 0
    · rw [if_pos (Or.inl h1), h00]
      exact gettext_minus s most hs h1 n k hg w
    · by_cases h2 : most < (n : Int)
      · rw [if_pos (Or.inr h2), h00]
        exact gettext_long s most hs (by omega) hm1 n k hg h2 w
      · rw [if_neg (by omega), hsz]
        by_cases h3 : s.size - k < n
        · rw [if_pos h3, h00]
          exact gettext_short s most hs (by omega) hm1 n k hg (by omega) (by omega) h3 w
        · rw [if_neg h3]
          exact gettext_ok s most hs (by omega) hm1 n k hg (by omega) (by omega) (by omega) w
  · have hr := got_err _ h0
    unfold gotT
    rw [if_pos h0, h00]
    exact gettext_err s most hs _ (by rw [bne_iff_ne]; omega) hr w
end Dig
end Go.Proofs.YtcjfnkgjjhlbnaaDoor
