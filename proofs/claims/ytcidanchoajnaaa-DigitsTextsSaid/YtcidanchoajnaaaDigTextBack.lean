/- For all texts t and s DigitsTextBack returns true, and the arguments read as before. Condition: each text is within the form's own reach. -/
import Derived.Test.YtcidanchoajnaaaDigBack
namespace Go.Proofs.Ytcidanchoajnaaa
open Go.RowKit
namespace Dig

theorem gettext_is (s : ByteArray) (most : Int) (hs : s.size ≤ 9223372036854775807) (hm1 : most ≤ 9223372036854775807) (n k x : Nat) (hg : gotT s.data.toList most = (n, k, x)) (t : ByteArray) (ht : s.extract k (k + n) = t) (w : World) :
    Calls Try.prog 19 #[.string s, .int .i64 most] w fun e w' => e = .returned (.tuple #[.string t, .int .i64 ((k : Int) + (n : Int)), .int .i64 (x : Int)]) ∧ Below w.heap.size w w' := by
  have := gettext_any s most hs hm1 w
  rw [hg] at this
  simp only at this
  rw [ht] at this
  exact this

set_option maxHeartbeats 400000 in
theorem textback_true (t s : ByteArray) (ht : t.size ≤ 140737488351232) (hs : s.size ≤ 140737488351232) (w : World) :
    Calls Try.prog 7 #[.string t, .string s] w fun e w' => e = .returned (.bool true) ∧ Below w.heap.size w w' := by
  have hnd := nd_le t.size
  have hlen : (textA t ++ s).data.toList = numL t.size ++ (t.data.toList ++ s.data.toList) := by
    rw [ByteArray.data_append, Array.toList_append, textA_list, List.append_assoc]
  have hsz : (textA t ++ s).size = nd t.size + 1 + t.size + s.size := by rw [ByteArray.size_append, textA_size]
  have hl : (textA t ++ s).data.toList.length = (textA t ++ s).size := by simp
  have hgn : gotN (textA t ++ s).data.toList = (t.size, nd t.size + 1, 0) := by rw [hlen, got_num _ (by omega)]
  have g1 : gotT (textA t ++ s).data.toList (t.size : Int) = (t.size, nd t.size + 1, 0) := by
    unfold gotT
    rw [hgn, hl, hsz]
    simp only [ne_eq, not_true_eq_false, if_false]
    rw [if_neg (by omega), if_neg (by omega)]
  have g2 : gotT (textA t ++ s).data.toList ((t.size : Int) - 1) = (0, 0, 8) := by
    unfold gotT
    rw [hgn]
    simp only [ne_eq, not_true_eq_false, if_false]
    rw [if_pos (by omega)]
  have e1 : (textA t ++ s).extract (nd t.size + 1) (nd t.size + 1 + t.size) = t := by
    apply ByteArray.ext
    apply Array.toList_inj.1
    rw [Lib.extract_data, hlen, List.drop_left' (numL_length _), Nat.add_sub_cancel_left, List.take_left' (by simp)]
  have e2 : (textA t ++ s).extract 0 (0 + 0) = ⟨#[]⟩ := by
    apply ByteArray.ext
    simp
  replace g1 := Lib.hid g1
  replace g2 := Lib.hid g2
  replace e1 := Lib.hid e1
  replace e2 := Lib.hid e2
  have z1 := Lib.hid (show (textA t ++ s).size ≤ 9223372036854775807 by rw [hsz]; omega)
  have z2 : (textA t).size + s.size ≤ 9223372036854775807 := by rw [← ByteArray.size_append]; exact z1.out
  have s1 := textA_size t
  clear hlen hsz hl hgn
  go_enter Try.func7, Try.ntmps7
  go_wp2_with fail
  refine (works_true _).mono ?_
  rintro e w1 ⟨rfl, hb1⟩
  go_wp2_with fail
  refine (text_any t (by omega) _).mono ?_
  rintro e w2 ⟨rfl, hb2⟩
  go_wp2_with fail
  refine (gettext_is _ _ z1.out (by omega) _ _ _ g1.out _ e1.out _).mono ?_
  rintro e w3 ⟨rfl, hb3⟩
  go_wp2_with fail
  refine (gettext_is _ _ z1.out (by omega) _ _ _ g2.out _ e2.out _).mono ?_
  rintro e w4 ⟨rfl, hb4⟩
  go_wp2
  go_ret
  exact ⟨rfl, chain4 hb1 hb2 hb3 hb4⟩
end Dig
end Go.Proofs.Ytcidanchoajnaaa
