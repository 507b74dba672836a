/- For all inputs DigitsNums, DigitsSigns and DigitsTexts return true: the program's answers are the document's. Condition: each text is within the form's own reach. -/
import Derived.Test.YtcidanchoajnaaaDigRef2
namespace Go.Proofs.Ytcidanchoajnaaa
open Go.RowKit
namespace Dig

set_option maxHeartbeats 400000 in
theorem refgetsigned_any (s : ByteArray) (hs : s.size ≤ 9223372036854775807) (w : World) :
    Calls Try.prog 16 #[.string s] w fun e w' => e = .returned (.tuple #[.int .i64 (unz (gotN s.data.toList).1), .int .i64 ((gotN s.data.toList).2.1 : Int), .int .i64 ((gotN s.data.toList).2.2 : Int)]) ∧ Below w.heap.size w w' := by
  have hg := refget_any s hs w
  have hl := gotN_lt s.data.toList
  generalize gotN s.data.toList = g at *
  obtain ⟨n, k, e⟩ := g
  simp only at hl hg ⊢
  obtain ⟨hn, hk, _, he⟩ := hl
  replace hg := Lib.hid hg
  by_cases h2 : n % 2 = 1
  · have hu := Lib.hid (show unz n = -((n : Int) / 2) - 1 by unfold unz; rw [if_pos h2]; rfl)
    have h2' : ((n : Int) % 2 == 1) = true := beq_iff_eq.2 (by omega)
    replace h2 := Lib.hid h2
    go_enter Try.func16, Try.ntmps16
    go_wp2_with fail
    refine hg.out.mono ?_
    rintro _ w1 ⟨rfl, hb⟩
    go_wp2
    go_ret3
    exact ⟨ret3_eq hu.out.symm rfl, hb⟩
  · have hu := Lib.hid (show unz n = (n : Int) / 2 by unfold unz; rw [if_neg h2]; rfl)
    have h2' : ((n : Int) % 2 == 1) = false := beq_eq_false_iff_ne.2 (by omega)
    replace h2 := Lib.hid h2
    go_enter Try.func16, Try.ntmps16
    go_wp2_with fail
    refine hg.out.mono ?_
    rintro _ w1 ⟨rfl, hb⟩
    go_wp2
    go_ret3
    exact ⟨ret3_eq hu.out.symm rfl, hb⟩

set_option maxHeartbeats 400000 in
theorem refgettext_ok (s : ByteArray) (most : Int) (hs : s.size ≤ 9223372036854775807) (hm0 : 0 ≤ most) (hm1 : most ≤ 9223372036854775807) (n k : Nat) (hg : gotN s.data.toList = (n, k, 0)) (hk : k ≤ s.size) (hm : (n : Int) ≤ most) (hn : n ≤ s.size - k) (w : World) :
    Calls Try.prog 20 #[.string s, .int .i64 most] w fun e w' => e = .returned (.tuple #[.string (s.extract k (k + n)), .int .i64 ((k : Int) + (n : Int)), .int .i64 0]) ∧ Below w.heap.size w w' := by
  have hc := refget_any s hs w
  rw [hg] at hc
  simp only at hc
  replace hc := Lib.hid hc
  clear hg
  go_enter Try.func20, Try.ntmps20
  go_wp2_with fail
  refine hc.out.mono ?_
  rintro _ w1 ⟨rfl, hb⟩
  go_wp2
  go_ret3
  exact ⟨rfl, hb⟩

set_option maxHeartbeats 400000 in
theorem refgettext_short (s : ByteArray) (most : Int) (hs : s.size ≤ 9223372036854775807) (hm0 : 0 ≤ most) (hm1 : most ≤ 9223372036854775807) (n k : Nat) (hg : gotN s.data.toList = (n, k, 0)) (hk : k ≤ s.size) (hm : (n : Int) ≤ most) (hn : s.size - k < n) (w : World) :
    Calls Try.prog 20 #[.string s, .int .i64 most] w fun e w' => e = .returned (.tuple #[.string ⟨#[]⟩, .int .i64 0, .int .i64 1]) ∧ Below w.heap.size w w' := by
  have hc := refget_any s hs w
  rw [hg] at hc
  simp only at hc
  replace hc := Lib.hid hc
  clear hg
  go_enter Try.func20, Try.ntmps20
  go_wp2_with fail
  refine hc.out.mono ?_
  rintro _ w1 ⟨rfl, hb⟩
  go_wp2
  go_ret3
  exact ⟨rfl, hb⟩

set_option maxHeartbeats 400000 in
theorem refgettext_minus (s : ByteArray) (most : Int) (hs : s.size ≤ 9223372036854775807) (hm0 : most < 0) (n k : Nat) (hg : gotN s.data.toList = (n, k, 0)) (w : World) :
    Calls Try.prog 20 #[.string s, .int .i64 most] w fun e w' => e = .returned (.tuple #[.string ⟨#[]⟩, .int .i64 0, .int .i64 8]) ∧ Below w.heap.size w w' := by
  have hc := refget_any s hs w
  rw [hg] at hc
  simp only at hc
  replace hc := Lib.hid hc
  clear hg
  go_enter Try.func20, Try.ntmps20
  go_wp2_with fail
  refine hc.out.mono ?_
  rintro _ w1 ⟨rfl, hb⟩
  go_wp2
  go_ret3
  exact ⟨rfl, hb⟩

set_option maxHeartbeats 400000 in
theorem refgettext_long (s : ByteArray) (most : Int) (hs : s.size ≤ 9223372036854775807) (hm0 : 0 ≤ most) (hm1 : most ≤ 9223372036854775807) (n k : Nat) (hg : gotN s.data.toList = (n, k, 0)) (hm : most < (n : Int)) (w : World) :
    Calls Try.prog 20 #[.string s, .int .i64 most] w fun e w' => e = .returned (.tuple #[.string ⟨#[]⟩, .int .i64 0, .int .i64 8]) ∧ Below w.heap.size w w' := by
  have hc := refget_any s hs w
  rw [hg] at hc
  simp only at hc
  replace hc := Lib.hid hc
  clear hg
  go_enter Try.func20, Try.ntmps20
  go_wp2_with fail
  refine hc.out.mono ?_
  rintro _ w1 ⟨rfl, hb⟩
  go_wp2
  go_ret3
  exact ⟨rfl, hb⟩

set_option maxHeartbeats 400000 in
theorem refgettext_err (s : ByteArray) (most : Int) (hs : s.size ≤ 9223372036854775807) (x : Nat) (hx : ((x : Int) != 0) = true) (hg : gotN s.data.toList = (0, 0, x)) (w : World) :
    Calls Try.prog 20 #[.string s, .int .i64 most] w fun e w' => e = .returned (.tuple #[.string ⟨#[]⟩, .int .i64 0, .int .i64 (x : Int)]) ∧ Below w.heap.size w w' := by
  have hc := refget_any s hs w
  rw [hg] at hc
  simp only at hc
  replace hc := Lib.hid hc
  clear hg
  go_enter Try.func20, Try.ntmps20
  go_wp2_with fail
  refine hc.out.mono ?_
  rintro _ w1 ⟨rfl, hb⟩
  go_wp2
  go_ret3
  exact ⟨rfl, hb⟩

/-- GetText, of any text and limit. -/
theorem refgettext_any (s : ByteArray) (most : Int) (hs : s.size ≤ 9223372036854775807) (hm1 : most ≤ 9223372036854775807) (w : World) :
    Calls Try.prog 20 #[.string s, .int .i64 most] w fun e w' =>
      e = .returned (.tuple #[.string (s.extract (gotT s.data.toList most).2.1 ((gotT s.data.toList most).2.1 + (gotT s.data.toList most).1)), .int .i64 (((gotT s.data.toList most).2.1 : Int) + ((gotT s.data.toList most).1 : Int)), .int .i64 ((gotT s.data.toList most).2.2 : Int)]) ∧ Below w.heap.size w w' := by
  have hl := gotN_lt s.data.toList
  have hsz : s.data.toList.length = s.size := by simp
  have h00 : s.extract 0 (0 + 0) = ⟨#[]⟩ := by
    apply ByteArray.ext
    simp
  by_cases h0 : (gotN s.data.toList).2.2 = 0
  · obtain ⟨n, k, hg⟩ : ∃ n k, gotN s.data.toList = (n, k, 0) := ⟨_, _, by rw [← h0]⟩
    rw [hg] at hl
    simp only at hl
    obtain ⟨_, _, hk, _⟩ := hl
    unfold gotT
    rw [hg]
    simp only [ne_eq, not_true_eq_false, if_false]
    by_cases h1 : most < 0
    · rw [if_pos (Or.inl h1), h00]
      exact refgettext_minus s most hs h1 n k hg w
    · by_cases h2 : most < (n : Int)
      · rw [if_pos (Or.inr h2), h00]
        exact refgettext_long s most hs (by omega) hm1 n k hg h2 w
      · rw [if_neg (by omega), hsz]
        by_cases h3 : s.size - k < n
        · rw [if_pos h3, h00]
          exact refgettext_short s most hs (by omega) hm1 n k hg (by omega) (by omega) h3 w
        · rw [if_neg h3]
          exact refgettext_ok s most hs (by omega) hm1 n k hg (by omega) (by omega) (by omega) w
  · have hr := got_err _ h0
    unfold gotT
    rw [if_pos h0, h00]
    exact refgettext_err s most hs _ (by rw [bne_iff_ne]; omega) hr w

set_option maxHeartbeats 400000 in
theorem nums_true (n : Int) (s : ByteArray) (hn0 : 0 ≤ n) (hn1 : n ≤ 18446744073709551615) (hs : s.size ≤ 140737488351232) (w : World) :
    Calls Try.prog 3 #[.int .u64 n, .string s] w fun e w' => e = .returned (.bool true) ∧ Below w.heap.size w w' := by
  go_enter Try.func3, Try.ntmps3
  go_wp2_with fail
  refine (get_any s (by omega) _).mono ?_
  rintro e w1 ⟨rfl, hb1⟩
  go_wp2_with fail
  refine (refget_any s (by omega) _).mono ?_
  rintro e w2 ⟨rfl, hb2⟩
  go_wp2_with fail
  refine (num_any n hn0 hn1 _).mono ?_
  rintro e w3 ⟨rfl, hb3⟩
  go_wp2_with fail
  refine (refnum_any n hn0 hn1 _).mono ?_
  rintro e w4 ⟨rfl, hb4⟩
  go_wp2
  go_ret
  exact ⟨rfl, chain4 hb1 hb2 hb3 hb4⟩

set_option maxHeartbeats 400000 in
theorem signs_true (n : Int) (s : ByteArray) (hn0 : -9223372036854775808 ≤ n) (hn1 : n ≤ 9223372036854775807) (hs : s.size ≤ 140737488351232) (w : World) :
    Calls Try.prog 4 #[.int .i64 n, .string s] w fun e w' => e = .returned (.bool true) ∧ Below w.heap.size w w' := by
  go_enter Try.func4, Try.ntmps4
  go_wp2_with fail
  refine (getsigned_any s (by omega) _).mono ?_
  rintro e w1 ⟨rfl, hb1⟩
  go_wp2_with fail
  refine (refgetsigned_any s (by omega) _).mono ?_
  rintro e w2 ⟨rfl, hb2⟩
  go_wp2_with fail
  refine (signed_any n hn0 hn1 _).mono ?_
  rintro e w3 ⟨rfl, hb3⟩
  go_wp2_with fail
  refine (refsigned_any n hn0 hn1 _).mono ?_
  rintro e w4 ⟨rfl, hb4⟩
  go_wp2
  go_ret
  exact ⟨rfl, chain4 hb1 hb2 hb3 hb4⟩

set_option maxHeartbeats 400000 in
theorem texts_true (t s : ByteArray) (most : Int) (ht : t.size ≤ 140737488351232) (hs : s.size ≤ 140737488351232) (_hm0 : -9223372036854775808 ≤ most) (hm1 : most ≤ 9223372036854775807) (w : World) :
    Calls Try.prog 5 #[.string t, .string s, .int .i64 most] w fun e w' => e = .returned (.bool true) ∧ Below w.heap.size w w' := by
  go_enter Try.func5, Try.ntmps5
  go_wp2_with fail
  refine (gettext_any s most (by omega) hm1 _).mono ?_
  rintro e w1 ⟨rfl, hb1⟩
  go_wp2_with fail
  refine (refgettext_any s most (by omega) hm1 _).mono ?_
  rintro e w2 ⟨rfl, hb2⟩
  go_wp2_with fail
  refine (text_any t (by omega) _).mono ?_
  rintro e w3 ⟨rfl, hb3⟩
  go_wp2_with fail
  refine (reftext_any t (by omega) _).mono ?_
  rintro e w4 ⟨rfl, hb4⟩
  go_wp2
  go_ret
  exact ⟨rfl, chain4 hb1 hb2 hb3 hb4⟩
end Dig
end Go.Proofs.Ytcidanchoajnaaa
