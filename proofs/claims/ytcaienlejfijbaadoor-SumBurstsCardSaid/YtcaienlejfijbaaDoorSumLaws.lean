/- For all inputs SumTells and SumParts return true. Conditions: the table's two cells, a text no longer than a text can be. -/
import Derived.Test.YtcaienlejfijbaaDoorSumMore
namespace Go.Proofs.YtcaienlejfijbaaDoor
open Go.RowKit
namespace Crc

set_option maxHeartbeats 400000 in
theorem tells_long (c : Int) (s : ByteArray) (hs : s.size ≤ 140737488351232) (hl : 5000 < s.size) (w : World) :
    Calls Tryd.prog 3 #[.int .u32 c, .string s] w fun e w' => e = .returned (.bool true) ∧ Below w.heap.size w w' := by
  go_enter Tryd.func3, Tryd.ntmps3
  go_wp2_with fail
  go_ret
  exact ⟨rfl, Below.refl _ _⟩

set_option maxHeartbeats 400000 in
theorem tells_short (c : Nat) (s : ByteArray) (hc : c < 4294967296) (hs : s.size ≤ 5000) (w : World) (ht : Tab w) :
    Calls Tryd.prog 3 #[.int .u32 c, .string s] w fun e w' => e = .returned (.bool true) ∧ Below w.heap.size w w' := by
  go_enter Tryd.func3, Tryd.ntmps3
  go_wp2_with fail
  refine (of_any s (by omega) _ ht).mono ?_
  rintro e w1 ⟨rfl, rfl⟩
  go_wp2_with fail
  refine (refof_any s (by omega) _).mono ?_
  rintro e w1 ⟨rfl, rfl⟩
  go_wp2_with fail
  refine (more_any c s hc (by omega) _ ht).mono ?_
  rintro e w1 ⟨rfl, rfl⟩
  go_wp2_with fail
  refine (refmore_any c s hc (by omega) _).mono ?_
  rintro e w1 ⟨rfl, rfl⟩
  go_wp2_with fail
  refine (bytes_any c hc _).mono ?_
  rintro e w1 ⟨rfl, hb1⟩
  go_wp2_with fail
  refine (refbytes_any c hc _).mono ?_
  rintro e w2 ⟨rfl, hb2⟩
  go_wp2
  go_ret
  exact ⟨rfl, hb1.trans (hb2.mono hb1.size)⟩

theorem tells_true (c : Int) (s : ByteArray) (h0 : 0 ≤ c) (h1 : c ≤ 4294967295) (hs : s.size ≤ 140737488351232) (w : World) (ht : Tab w) :
    Calls Tryd.prog 3 #[.int .u32 c, .string s] w fun e w' => e = .returned (.bool true) ∧ Below w.heap.size w w' := by
  obtain ⟨c, rfl⟩ := Int.eq_ofNat_of_zero_le h0
  by_cases hl : 5000 < s.size
  · exact tells_long c s hs hl w
  · exact tells_short c s (by omega) (by omega) w ht

set_option maxHeartbeats 400000 in
theorem parts_long (a b : ByteArray) (ha : a.size ≤ 140737488351232) (hb : b.size ≤ 140737488351232) (hl : 5000 < a.size + b.size) (w : World) (ht : Tab w) :
    Calls Tryd.prog 4 #[.string a, .string b] w fun e w' => e = .returned (.bool true) ∧ Below w.heap.size w w' := by
  go_enter Tryd.func4, Tryd.ntmps4
  go_wp2_with fail
  refine (works_true _ ht).mono ?_
  rintro e w1 ⟨rfl, hb1⟩
  go_wp2_with fail
  go_ret
  exact ⟨rfl, hb1⟩

theorem append_list (a b : ByteArray) : (a ++ b).data.toList = a.data.toList ++ b.data.toList := by
  simp

set_option maxHeartbeats 400000 in
theorem parts_short (a b : ByteArray) (hl : a.size + b.size ≤ 5000) (w : World) (ht : Tab w) :
    Calls Tryd.prog 4 #[.string a, .string b] w fun e w' => e = .returned (.bool true) ∧ Below w.heap.size w w' := by
  have hsz : (a ++ b).size ≤ 9223372036854775807 := by rw [ByteArray.size_append]; omega
  have hap := append_list a b
  have hmore := more_append 0 a.data.toList b.data.toList
  have hlt := more_lt 0 a.data.toList
  have hm := more_any (more 0 a.data.toList) b hlt (by omega)
  rw [hmore, ← hap] at hm
  have ho := of_any (a ++ b) hsz
  replace hm := Lib.hid hm
  replace ho := Lib.hid ho
  clear hmore hap
  go_enter Tryd.func4, Tryd.ntmps4
  go_wp2_with fail
  refine (works_true _ ht).mono ?_
  rintro e w1 ⟨rfl, hb1⟩
  have ht1 := ht.below hb1
  go_wp2_with fail
  refine (of_any a (by omega) _ ht1).mono ?_
  rintro e w2 ⟨rfl, rfl⟩
  go_wp2_with fail
  refine (hm.out _ ht1).mono ?_
  rintro e w2 ⟨rfl, rfl⟩
  go_wp2_with fail
  refine (ho.out _ ht1).mono ?_
  rintro e w2 ⟨rfl, rfl⟩
  go_wp2
  go_ret
  exact ⟨rfl, hb1⟩

theorem parts_true (a b : ByteArray) (ha : a.size ≤ 140737488351232) (hb : b.size ≤ 140737488351232) (w : World) (ht : Tab w) :
    Calls Tryd.prog 4 #[.string a, .string b] w fun e w' => e = .returned (.bool true) ∧ Below w.heap.size w w' := by
  by_cases hl : 5000 < a.size + b.size
  · exact parts_long a b ha hb hl w ht
  · exact parts_short a b (by omega) w ht
end Crc
end Go.Proofs.YtcaienlejfijbaaDoor
