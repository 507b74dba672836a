/- For all inputs DigitsNums, DigitsSigns and DigitsTexts return true: the program's answers are the document's. Condition: each text is within the form's own reach. -/
import Derived.Test.YtcjfnkgjjhlbnaaDoorDigRef2
namespace Go.Proofs.YtcjfnkgjjhlbnaaDoor
open Go.RowKit
namespace Dig


set_option maxHeartbeats 400000 in
theorem refgettext_ok (s : ByteArray) (most : Int) (hs : s.size ≤ 9223372036854775807) (hm0 : 0 ≤ most) (hm1 : most ≤ 9223372036854775807) (n k : Nat) (hg : gotN s.data.toList = (n, k, 0)) (hk : k ≤ s.size) (hm : (n : Int) ≤ most) (hn : n ≤ s.size - k) (w : World) :
    Calls Tryd.prog 23 #[.string s, .int .i64 most] w fun e w' => e = .returned (.tuple #[.string (s.extract k (k + n)), .int .i64 ((k : Int) + (n : Int)), .int .i64 0]) ∧ Below w.heap.size w w' := by
  have hc := refget_any s hs w
  rw [hg] at hc
  simp only at hc
  replace hc := Lib.hid hc
  clear hg
  go_enter Tryd.func23, Tryd.ntmps23
  go_wp2_with fail
  refine hc.out.mono ?_
  rintro _ w1 ⟨rfl, hb⟩
  go_wp2
  go_ret3
  exact ⟨rfl, hb⟩

set_option maxHeartbeats 400000 in
theorem refgettext_short (s : ByteArray) (most : Int) (hs : s.size ≤ 9223372036854775807) (hm0 : 0 ≤ most) (hm1 : most ≤ 9223372036854775807) (n k : Nat) (hg : gotN s.data.toList = (n, k, 0)) (hk : k ≤ s.size) (hm : (n : Int) ≤ most) (hn : s.size - k < n) (w : World) :
    Calls Tryd.prog 23 #[.string s, .int .i64 most] w fun e w' => e = .returned (.tuple #[.string ⟨#[]⟩, .int .i64 0, .int .i64 1]) ∧ Below w.heap.size w w' := by
  have hc := refget_any s hs w
  rw [hg] at hc
  simp only at hc
  replace hc := Lib.hid hc
  clear hg
  go_enter Tryd.func23, Tryd.ntmps23
  go_wp2_with fail
  refine hc.out.mono ?_
  rintro _ w1 ⟨rfl, hb⟩
  go_wp2
  go_ret3
  exact ⟨rfl, hb⟩

set_option maxHeartbeats 400000 in
theorem refgettext_minus (s : ByteArray) (most : Int) (hs : s.size ≤ 9223372036854775807) (hm0 : most < 0) (n k : Nat) (hg : gotN s.data.toList = (n, k, 0)) (w : World) :
    Calls Tryd.prog 23 #[.string s, .int .i64 most] w fun e w' => e = .returned (.tuple #[.string ⟨#[]⟩, .int .i64 0, .int .i64 8]) ∧ Below w.heap.size w w' := by
  have hc := refget_any s hs w
  rw [hg] at hc
  simp only at hc
  replace hc := Lib.hid hc
  clear hg
  go_enter Tryd.func23, Tryd.ntmps23
  go_wp2_with fail
  refine hc.out.mono ?_
  rintro _ w1 ⟨rfl, hb⟩
  go_wp2
  go_ret3
  exact ⟨rfl, hb⟩

set_option maxHeartbeats 400000 in
theorem refgettext_long (s : ByteArray) (most : Int) (hs : s.size ≤ 9223372036854775807) (hm0 : 0 ≤ most) (hm1 : most ≤ 9223372036854775807) (n k : Nat) (hg : gotN s.data.toList = (n, k, 0)) (hm : most < (n : Int)) (w : World) :
    Calls Tryd.prog 23 #[.string s, .int .i64 most] w fun e w' => e = .returned (.tuple #[.string ⟨#[]⟩, .int .i64 0, .int .i64 8]) ∧ Below w.heap.size w w' := by
  have hc := refget_any s hs w
  rw [hg] at hc
  simp only at hc
  replace hc := Lib.hid hc
  clear hg
  go_enter Tryd.func23, Tryd.ntmps23
  go_wp2_with fail
  refine hc.out.mono ?_
  rintro _ w1 ⟨rfl, hb⟩
  go_wp2
  go_ret3
  exact ⟨rfl, hb⟩

set_option maxHeartbeats 400000 in
theorem refgettext_err (s : ByteArray) (most : Int) (hs : s.size ≤ 9223372036854775807) (x : Nat) (hx : ((x : Int) != 0) = true) (hg : gotN s.data.toList = (0, 0, x)) (w : World) :
    Calls Tryd.prog 23 #[.string s, .int .i64 most] w fun e w' => e = .returned (.tuple #[.string ⟨#[]⟩, .int .i64 0, .int .i64 (x : Int)]) ∧ Below w.heap.size w w' := by
  have hc := refget_any s hs w
  rw [hg] at hc
  simp only at hc
  replace hc := Lib.hid hc
  clear hg
  go_enter Tryd.func23, Tryd.ntmps23
  go_wp2_with fail
  refine hc.out.mono ?_
  rintro _ w1 ⟨rfl, hb⟩
  go_wp2
  go_ret3
  exact ⟨rfl, hb⟩

/-- GetText, of any text and limit. -/
theorem refgettext_any (s : ByteArray) (most : Int) (hs : s.size ≤ 9223372036854775807) (hm1 : most ≤ 9223372036854775807) (w : World) :
    Calls Tryd.prog 23 #[.string s, .int .i64 most] w fun e w' =>
      e = .returned (.tuple #[.string (s.extract (gotT s.data.toList most).2.1 ((gotT s.data.toList most).2.1 + (gotT s.data.toList most).1)), .int .i64 (((gotT s.data.toList most).2.1 : Int) + ((gotT s.data.toList most).1 : Int)), .int .i64 ((gotT s.data.toList most).2.2 : Int)]) ∧ Below w.heap.size w w' := by
  have hl := gotN_lt s.data.toList
  have hsz : s.data.toList.length = s.size := by simp
  have h00 : s.extract 0 (0 + 0) = ⟨#[]⟩ := by
    apply ByteArray.ext
    simp
  by_cases h0 : (gotN s.data.toList).2.2 = 0
  · obtain ⟨n, k, hg⟩ : ∃ n k, gotN s.data.toList = (n, k, 0) := ⟨_, _, by rw [← h0]⟩
    rw [hg] at hl
    simp only at hl
    obtain ⟨_, _, hk, _⟩ := hl
    unfold gotT
    rw [hg]
    simp only [ne_eq, not_true_eq_false, if_false]
    by_cases h1 : most < 0
    · rw [if_pos (Or.inl h1), h00]
      exact refgettext_minus s most hs h1 n k hg w
    · by_cases h2 : most < (n : Int)
      · rw [if_pos (Or.inr h2), h00]
        exact refgettext_long s most hs (by omega) hm1 n k hg h2 w
      · rw [if_neg (by omega), hsz]
        by_cases h3 : s.size - k < n
        · rw [if_pos h3, h00]
          exact refgettext_short s most hs (by omega) hm1 n k hg (by omega) (by omega) h3 w
        · rw [if_neg h3]
          exact refgettext_ok s most hs (by omega) hm1 n k hg (by omega) (by omega) (by omega) w
  · have hr := got_err _ h0
    unfold gotT
    rw [if_pos h0, h00]
    exact refgettext_err s most hs _ (by rw [bne_iff_ne]; omega) hr w



end Dig
end Go.Proofs.YtcjfnkgjjhlbnaaDoor
