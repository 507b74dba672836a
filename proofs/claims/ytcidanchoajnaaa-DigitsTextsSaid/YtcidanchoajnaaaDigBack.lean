/- For all numbers n and m and every text s DigitsBack returns true, and the arguments read as before. Condition: the text is within the form's own reach. -/
import Derived.Test.YtcidanchoajnaaaDigSizes
import Derived.ProofKit
import Derived.Deep.QuietTactic
import Derived.BigQuiet
import Derived.Deep.RegionWith
import Derived.Lib.QuietBelow
import Derived.Lib.Strings
namespace Go.Proofs.Ytcidanchoajnaaa
open Go.RowKit
namespace Dig

theorem cat_list (l : List UInt8) (s : ByteArray) : ((⟨l.toArray⟩ : ByteArray) ++ s).data.toList = l ++ s.data.toList := by
  rw [ByteArray.data_append, Array.toList_append]
theorem cat_size (l : List UInt8) (s : ByteArray) : ((⟨l.toArray⟩ : ByteArray) ++ s).size = l.length + s.size := by
  rw [ByteArray.size_append]
  show l.toArray.size + _ = _
  rw [List.size_toArray]
set_option maxHeartbeats 400000 in
theorem back_no (n : Nat) (hn : n < 18446744073709551616) (m : Int) (hm0 : -9223372036854775808 ≤ m) (hm1 : m ≤ 9223372036854775807) (s : ByteArray) (hs : s.size ≤ 140737488351232)
    (x : Nat) (hx : ((x : Int) != 0) = true) (hg : gotN s.data.toList = (0, 0, x)) (w : World) :
    Calls Try.prog 6 #[.int .u64 n, .int .i64 m, .string s] w fun e w' => e = .returned (.bool true) ∧ Below w.heap.size w w' := by
  have hnd := nd_le n
  have hnz := nd_le (zig m)
  have hzl := zig_lt m hm0 hm1
  have g1 := Lib.hid (show gotN ((⟨(numL n).toArray⟩ : ByteArray) ++ s).data.toList = (n, nd n + 1, 0) by rw [cat_list, got_num n hn])
  have g2 := Lib.hid (show gotN ((⟨(numL (zig m)).toArray⟩ : ByteArray) ++ s).data.toList = (zig m, nd (zig m) + 1, 0) by rw [cat_list, got_num _ hzl])
  have z1 := Lib.hid (show ((⟨(numL n).toArray⟩ : ByteArray) ++ s).size ≤ 9223372036854775807 by rw [cat_size, numL_length]; omega)
  have z2 := Lib.hid (show ((⟨(numL (zig m)).toArray⟩ : ByteArray) ++ s).size ≤ 9223372036854775807 by rw [cat_size, numL_length]; omega)
  have s1 := numA_size n
  have s2 := numA_size (zig m)
  replace hg := Lib.hid hg
  have hu := unz_zig m
  go_enter Try.func6, Try.ntmps6
  go_wp2_with fail
  refine (works_true _).mono ?_
  rintro e w1 ⟨rfl, hb1⟩
  go_wp2_with fail
  refine (num_calls n hn _).mono ?_
  rintro e w2 ⟨rfl, hb2⟩
  go_wp2_with fail
  refine (get_is _ z1.out _ _ _ g1.out _).mono ?_
  rintro e w3 ⟨rfl, hb3⟩
  go_wp2_with fail
  refine (signed_any m hm0 hm1 _).mono ?_
  rintro e w4 ⟨rfl, hb4⟩
  go_wp2_with fail
  refine (getsigned_is _ z2.out _ _ _ g2.out _).mono ?_
  rintro e w5 ⟨rfl, hb5⟩
  go_wp2_with fail
  refine (num_calls n hn _).mono ?_
  rintro e w6 ⟨rfl, hb6⟩
  go_wp2_with fail
  refine (signed_any m hm0 hm1 _).mono ?_
  rintro e w7 ⟨rfl, hb7⟩
  go_wp2_with fail
  refine (get_is _ (by omega) _ _ _ hg.out _).mono ?_
  rintro e w8 ⟨rfl, hb8⟩
  go_wp2_with fail
  go_quiet (fail)
  go_wp2
  go_ret
  exact ⟨rfl, below_drewN (chain2 (chain4 hb1 hb2 hb3 hb4) (chain4 hb5 hb6 hb7 hb8)) _⟩

set_option maxHeartbeats 400000 in
theorem back_ok (n : Nat) (hn : n < 18446744073709551616) (m : Int) (hm0 : -9223372036854775808 ≤ m) (hm1 : m ≤ 9223372036854775807) (s : ByteArray) (hs : s.size ≤ 140737488351232)
    (v k : Nat) (hv : v < 18446744073709551616) (hk0 : 0 < k) (hk : k ≤ s.size) (hg : gotN s.data.toList = (v, k, 0)) (he : (numL v == (s.extract 0 k).toList) = true) (w : World) :
    Calls Try.prog 6 #[.int .u64 n, .int .i64 m, .string s] w fun e w' => e = .returned (.bool true) ∧ Below w.heap.size w w' := by
  have hnv := num_calls v hv
  replace hnv := Lib.hid hnv
  have hnd := nd_le n
  have hnz := nd_le (zig m)
  have hzl := zig_lt m hm0 hm1
  have g1 := Lib.hid (show gotN ((⟨(numL n).toArray⟩ : ByteArray) ++ s).data.toList = (n, nd n + 1, 0) by rw [cat_list, got_num n hn])
  have g2 := Lib.hid (show gotN ((⟨(numL (zig m)).toArray⟩ : ByteArray) ++ s).data.toList = (zig m, nd (zig m) + 1, 0) by rw [cat_list, got_num _ hzl])
  have z1 := Lib.hid (show ((⟨(numL n).toArray⟩ : ByteArray) ++ s).size ≤ 9223372036854775807 by rw [cat_size, numL_length]; omega)
  have z2 := Lib.hid (show ((⟨(numL (zig m)).toArray⟩ : ByteArray) ++ s).size ≤ 9223372036854775807 by rw [cat_size, numL_length]; omega)
  have s1 := numA_size n
  have s2 := numA_size (zig m)
  replace hg := Lib.hid hg
  have hu := unz_zig m
  go_enter Try.func6, Try.ntmps6
  go_wp2_with fail
  refine (works_true _).mono ?_
  rintro e w1 ⟨rfl, hb1⟩
  go_wp2_with fail
  refine (num_calls n hn _).mono ?_
  rintro e w2 ⟨rfl, hb2⟩
  go_wp2_with fail
  refine (get_is _ z1.out _ _ _ g1.out _).mono ?_
  rintro e w3 ⟨rfl, hb3⟩
  go_wp2_with fail
  refine (signed_any m hm0 hm1 _).mono ?_
  rintro e w4 ⟨rfl, hb4⟩
  go_wp2_with fail
  refine (getsigned_is _ z2.out _ _ _ g2.out _).mono ?_
  rintro e w5 ⟨rfl, hb5⟩
  go_wp2_with fail
  refine (num_calls n hn _).mono ?_
  rintro e w6 ⟨rfl, hb6⟩
  go_wp2_with fail
  refine (signed_any m hm0 hm1 _).mono ?_
  rintro e w7 ⟨rfl, hb7⟩
  go_wp2_with fail
  refine (get_is _ (by omega) _ _ _ hg.out _).mono ?_
  rintro e w8 ⟨rfl, hb8⟩
  go_wp2_with fail
  clear s1 s2 hu g1 g2 z1 z2 hzl hnd hnz
  refine wp_region_quiet_below (by kernel_rfl) (by kernel_rfl) ?_
  repeat (go_big_quiet_step (exact Calls.regrown_of (hnv.out _)))
  refine wpQuiet_nil ?_
  intro _ hw'
  obtain ⟨⟨dq, osq⟩, hw''⟩ := hw'
  subst hw''
  have hb9 := below_regrown w8 dq osq
  generalize Sort.grow (redrawn w8 dq) osq = w9 at *
  go_wp2
  go_ret
  exact ⟨rfl, chain2 (chain2 (chain4 hb1 hb2 hb3 hb4) (chain4 hb5 hb6 hb7 hb8)) hb9⟩

theorem extract_list (s : ByteArray) (a b : Nat) : (s.extract a b).data.toList = (s.data.toList.take b).drop a := by
  rw [Lib.extract_data, List.drop_take]

theorem back_true (n m : Int) (s : ByteArray) (hn0 : 0 ≤ n) (hn1 : n ≤ 18446744073709551615) (hm0 : -9223372036854775808 ≤ m) (hm1 : m ≤ 9223372036854775807) (hs : s.size ≤ 140737488351232) (w : World) :
    Calls Try.prog 6 #[.int .u64 n, .int .i64 m, .string s] w fun e w' => e = .returned (.bool true) ∧ Below w.heap.size w w' := by
  obtain ⟨n, rfl⟩ := Int.eq_ofNat_of_zero_le hn0
  have hl := gotN_lt s.data.toList
  have hsz : s.data.toList.length = s.size := by simp
  by_cases h0 : (gotN s.data.toList).2.2 = 0
  · have hn := num_got _ h0
    obtain ⟨v, k, hg⟩ : ∃ v k, gotN s.data.toList = (v, k, 0) := ⟨_, _, by rw [← h0]⟩
    rw [hg] at hl hn
    simp only at hl hn
    refine back_ok n (by omega) m hm0 hm1 s hs v k hl.1 hn.2 (by omega) hg ?_ w
    rw [ByteArray.toList_eq, extract_list, hn.1, List.drop_zero]
    simp
  · exact back_no n (by omega) m hm0 hm1 s hs _ (by rw [bne_iff_ne]; omega) (got_err _ h0) w
end Dig
end Go.Proofs.Ytcidanchoajnaaa
