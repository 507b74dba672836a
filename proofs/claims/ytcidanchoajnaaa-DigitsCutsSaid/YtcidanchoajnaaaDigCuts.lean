/- For all numbers n, texts t and places at DigitsCuts returns true, and the arguments read as before. Condition: the text is within the form's own reach. -/
import Derived.Test.YtcidanchoajnaaaDigTextBack
namespace Go.Proofs.Ytcidanchoajnaaa
open Go.RowKit
namespace Dig

theorem numA_list (n : Nat) (j : Nat) : ((⟨(numL n).toArray⟩ : ByteArray).extract 0 j).data.toList = (numL n).take j := by
  rw [Lib.extract_data]
  simp
theorem textA_cut (t : ByteArray) (j : Nat) : ((textA t).extract 0 j).data.toList = (numL t.size ++ t.data.toList).take j := by
  rw [Lib.extract_data, textA_list]
  simp
/-- A text that is cut off is too short. -/
theorem gotT_cut (t : ByteArray) (ht : t.size ≤ 140737488351232) (j : Nat) (hj : j < nd t.size + 1 + t.size) : gotT ((numL t.size ++ t.data.toList).take j) (t.size : Int) = (0, 0, 1) := by
  have hl := numL_length t.size
  have ht2 : t.data.toList.length = t.size := by simp
  by_cases h : j < nd t.size + 1
  · rw [List.take_append_of_le_length (by omega)]
    unfold gotT
    rw [got_cut _ _ h]
    simp
  · have e : (numL t.size ++ t.data.toList).take j = numL t.size ++ t.data.toList.take (j - (nd t.size + 1)) := by
      rw [List.take_append, List.take_of_length_le (by omega), hl]
    unfold gotT
    rw [e, got_num _ (by omega)]
    simp only [ne_eq, not_true_eq_false, if_false]
    rw [if_neg (by omega), if_pos (by rw [List.length_append, hl, List.length_take]; omega)]

theorem cut_size (s : ByteArray) (j : Nat) : (s.extract 0 j).size ≤ s.size := by
  rw [ByteArray.size_extract]
  exact Nat.le_trans (Nat.sub_le _ _) (Nat.min_le_right _ _)
theorem no_lt1 {i n : Nat} (h : (n : Int) + 1 < (i : Int)) (h2 : i < n + 1) : False := by omega
theorem no_lt2 {i n m : Nat} (h : (n : Int) + 1 + (m : Int) < (i : Int)) (h2 : i < n + 1 + m) : False := by omega
theorem mod_nat (a b : Nat) (hb : 0 < b) (hb2 : b ≤ 4611686018427387904) : ∃ i : Nat, wrap64 ((a : Int) % (b : Int)) = (i : Int) ∧ i < b := by
  have h := Nat.mod_lt a hb
  have e : (a : Int) % (b : Int) = ((a % b : Nat) : Int) := (Int.natCast_emod a b).symm
  exact ⟨a % b, by rw [e]; exact IntWalk.wrap64_in _ ⟨by omega, by omega⟩, h⟩

set_option maxHeartbeats 400000 in
theorem cuts_true (n : Int) (t : ByteArray) (at_ : Int) (hn0 : 0 ≤ n) (hn1 : n ≤ 18446744073709551615) (ht : t.size ≤ 140737488351232) (_ha0 : -9223372036854775808 ≤ at_) (_ha1 : at_ ≤ 9223372036854775807) (w : World) :
    Calls Try.prog 9 #[.int .u64 n, .string t, .int .i64 at_] w fun e w' => e = .returned (.bool true) ∧ Below w.heap.size w w' := by
  obtain ⟨n, rfl⟩ := Int.eq_ofNat_of_zero_le hn0
  have hnd := nd_le n
  have hnt := nd_le t.size
  have s1 := numA_size n
  have s2 := textA_size t
  obtain ⟨a, ha⟩ : ∃ a : Nat, IntKind.u64.wrap at_ = (a : Int) := by
    rw [IntKind.wrap_u64]
    exact ⟨(at_ % 18446744073709551616).toNat, by omega⟩
  have haa : (a : Int) ≤ 18446744073709551615 := by rw [← ha, IntKind.wrap_u64]; omega
  have hi1 : (numL n).isEmpty = false := rfl
  have hi0 : ¬ numL n = [] := by intro h; rw [numL] at h; cases h
  have hi2 : (textA t).toList.isEmpty = false := by rw [ByteArray.toList_eq, textA_list]; rfl
  obtain ⟨i, hi, hib⟩ := mod_nat a (nd n + 1) (by omega) (by omega)
  obtain ⟨j, hj, hjb⟩ := mod_nat a (nd t.size + 1 + t.size) (by omega) (by omega)
  have hi : wrap64 ((a : Int) % ((nd n : Int) + 1)) = (i : Int) := by
    push_cast at hi
    exact hi
  have hj : wrap64 ((a : Int) % ((nd t.size : Int) + 1 + (t.size : Int))) = (j : Int) := by
    push_cast at hj
    exact hj
  have g1 := Lib.hid (show gotN ((⟨(numL n).toArray⟩ : ByteArray).extract 0 i).data.toList = (0, 0, 1) by rw [numA_list, got_cut n i hib])
  have g2 := Lib.hid (show gotT ((textA t).extract 0 j).data.toList (t.size : Int) = (0, 0, 1) by rw [textA_cut, gotT_cut t ht j hjb])
  have e2 := Lib.hid (show ((textA t).extract 0 j).extract 0 (0 + 0) = ⟨#[]⟩ by apply ByteArray.ext; simp)
  have z1 := Lib.hid (show ((⟨(numL n).toArray⟩ : ByteArray).extract 0 i).size ≤ 9223372036854775807 by
    have h := cut_size (⟨(numL n).toArray⟩ : ByteArray) i
    rw [s1] at h
    omega)
  have z2 := Lib.hid (show ((textA t).extract 0 j).size ≤ 9223372036854775807 by
    have h := cut_size (textA t) j
    rw [s2] at h
    omega)
  have hmost := Lib.hid (show (t.size : Int) ≤ 9223372036854775807 by omega)
  replace hib := Lib.hid hib
  replace hjb := Lib.hid hjb
  go_enter Try.func9, Try.ntmps9
  go_wp2_with fail
  refine (works_true _).mono ?_
  rintro e w1 ⟨rfl, hb1⟩
  go_wp2_with fail
  refine (num_calls n (by omega) _).mono ?_
  rintro e w2 ⟨rfl, hb2⟩
  go_wp2_with fail
  refine (text_any t (by omega) _).mono ?_
  rintro e w3 ⟨rfl, hb3⟩
  go_wp2_with fail
  case isFalse => exact (no_lt1 (by assumption) hib.out).elim
  refine (get_is _ z1.out _ _ _ g1.out _).mono ?_
  rintro e w4 ⟨rfl, hb4⟩
  go_wp2_with fail
  case isFalse => exact (no_lt2 (by assumption) hjb.out).elim
  refine (gettext_is _ _ z2.out hmost.out _ _ _ g2.out _ e2.out _).mono ?_
  rintro e w5 ⟨rfl, hb5⟩
  go_wp2
  go_ret
  exact ⟨rfl, chain5 hb1 hb2 hb3 hb4 hb5⟩
end Dig
end Go.Proofs.Ytcidanchoajnaaa
