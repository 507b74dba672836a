/- The writer of bits (layer 6): Put and Text. -/
import Derived.Test.YtblfhmajonnceaaBitW
import Derived.Lib.BufferRead
namespace Go.Proofs.Ytblfhmajonnceaa
open Go.RowKit
namespace Bit
open Dsk Ob

/-- How many bits are written for a count n. -/
def cnt (n : Int) : Nat := (min n 64).toNat
theorem and_one (v k : Nat) (hv : v < 18446744073709551616) : bits .and .u64 ((v : Int) / 2 ^ k) 1 = (((v.testBit k).toNat : Nat) : Int) := by
  have h1 : v / 2 ^ k < 18446744073709551616 := Nat.lt_of_le_of_lt (Nat.div_le_self _ _) hv
  have e : (v : Int) / 2 ^ k = ((v / 2 ^ k : Nat) : Int) := by rw [Int.natCast_ediv, Int.natCast_pow]; rfl
  have := bits_mask .u64 64 (by decide) (fun n h0 h1 => by rw [IntKind.wrap_u64]; omega) 1 (by decide) ((v / 2 ^ k : Nat) : Int) (Int.natCast_nonneg _) (by exact_mod_cast h1)
  rw [e, testBit_bool, Int.natCast_emod]
  exact this

set_option maxHeartbeats 1600000 in
theorem put_in (S : Nat → Prop) (q : Nat) (L : List Bool) (v : Nat) (m : Nat) (w : World) (h : IsW w S q L) (hL : L.length ≤ 90000000000000) (hv : v < 18446744073709551616) (hm2 : m ≤ 64) :
    Calls Try.prog 8 #[.pointer (some ⟨q, 0, none⟩), .int .u64 (v : Int), .int .i64 (m : Int)] w fun e w' => e = .returned (.tuple #[]) ∧ WStep S q (L ++ bitsOf v m) w w' := by
  replace hL := Lib.hid hL
  have h0 : Hid (WStep S q (L ++ (bitsOf v m).take 0) w w) := Lib.hid (by rw [List.take_zero, List.append_nil]; exact ObjStep.refl h)
  clear h
  have hv0 := Lib.hid hv
  clear hv
  go_enter Try.func8, Try.ntmps8
  go_wp2_with fail
  go_loopw [10] (fun i wr => ∃ k : Nat, k ≤ m ∧ i = .int .i64 k ∧ WStep S q (L ++ (bitsOf v m).take k) w wr) (fun i _ => m - (intOf i).toNat)
  case atStart => exact ⟨0, Nat.zero_le _, rfl, h0.out⟩
  case round =>
    obtain ⟨k, hk, rfl, hst⟩ := hrel
    replace hst := Lib.hid hst
    by_cases hlt : k < m
    · have hsn := Lib.hid (bitsOf_snoc v m k hlt)
      go_wp2_with fail
      rw [and_one v (m - 1 - k) hv0.out]
      obtain ⟨S', hw, hgo⟩ := hst.out.get
      have hlen : (L ++ (bitsOf v m).take k).length ≤ 100000000000000 := by
        have := hL.out
        rw [List.length_append, List.length_take, bitsOf_length]; omega
      refine (putBit_any S' q _ _ wr hw hlen).mono ?_
      rintro e w1 ⟨rfl, hs2⟩
      have hs3 : Hid (WStep S q (L ++ (bitsOf v m).take (k + 1)) w w1) := Lib.hid (by
        rw [hsn.out, ← List.append_assoc]; exact hgo _ _ hs2)
      clear hs2 hgo hw hlen hsn hst
      go_wp2_with fail
      go_roundw
      case rel => exact ⟨k + 1, by omega, by go_num, hs3.out⟩
      case measure => simp [intOf]; omega
    · obtain rfl : k = m := by omega
      have hs3 : Hid (WStep S q (L ++ bitsOf v k) w wr) := Lib.hid (by
        have := hst.out
        rwa [List.take_of_length_le (by rw [bitsOf_length]; exact Nat.le_refl _)] at this)
      clear hst h0
      go_wp2_with fail
      go_end0
      exact ⟨rfl, hs3.out⟩
set_option maxHeartbeats 1600000 in
theorem put_over (S : Nat → Prop) (q : Nat) (L : List Bool) (v : Nat) (n : Int) (w : World) (h : IsW w S q L) (hL : L.length ≤ 90000000000000) (hv : v < 18446744073709551616) (hn : 64 < n) :
    Calls Try.prog 8 #[.pointer (some ⟨q, 0, none⟩), .int .u64 (v : Int), .int .i64 n] w fun e w' => e = .returned (.tuple #[]) ∧ WStep S q (L ++ bitsOf v 64) w w' := by
  obtain ⟨m, hm64⟩ : ∃ m : Nat, m = 64 := ⟨64, rfl⟩
  rw [← hm64]
  have hm : (64 : Int) = (m : Int) := by rw [hm64]; rfl
  have hm2 : m ≤ 64 := by omega
  clear hm64
  have HM := Lib.hid hm
  clear hm
  replace hL := Lib.hid hL
  have h0 : Hid (WStep S q (L ++ (bitsOf v m).take 0) w w) := Lib.hid (by rw [List.take_zero, List.append_nil]; exact ObjStep.refl h)
  clear h
  have hv0 := Lib.hid hv
  clear hv
  go_enter Try.func8, Try.ntmps8
  go_wp2_with fail
  clear hn
  rw [HM.out]
  go_loopw [10] (fun i wr => ∃ k : Nat, k ≤ m ∧ i = .int .i64 k ∧ WStep S q (L ++ (bitsOf v m).take k) w wr) (fun i _ => m - (intOf i).toNat)
  case atStart => exact ⟨0, Nat.zero_le _, rfl, h0.out⟩
  case round =>
    obtain ⟨k, hk, rfl, hst⟩ := hrel
    replace hst := Lib.hid hst
    by_cases hlt : k < m
    · have hsn := Lib.hid (bitsOf_snoc v m k hlt)
      go_wp2_with fail
      rw [and_one v (m - 1 - k) hv0.out]
      obtain ⟨S', hw, hgo⟩ := hst.out.get
      have hlen : (L ++ (bitsOf v m).take k).length ≤ 100000000000000 := by
        have := hL.out
        rw [List.length_append, List.length_take, bitsOf_length]; omega
      refine (putBit_any S' q _ _ wr hw hlen).mono ?_
      rintro e w1 ⟨rfl, hs2⟩
      have hs3 : Hid (WStep S q (L ++ (bitsOf v m).take (k + 1)) w w1) := Lib.hid (by
        rw [hsn.out, ← List.append_assoc]; exact hgo _ _ hs2)
      clear hs2 hgo hw hlen hsn hst
      go_wp2_with fail
      go_roundw
      case rel => exact ⟨k + 1, by omega, by go_num, hs3.out⟩
      case measure => simp [intOf]; omega
    · obtain rfl : k = m := by omega
      have hs3 : Hid (WStep S q (L ++ bitsOf v k) w wr) := Lib.hid (by
        have := hst.out
        rwa [List.take_of_length_le (by rw [bitsOf_length]; exact Nat.le_refl _)] at this)
      clear hst h0
      go_wp2_with fail
      go_end0
      exact ⟨rfl, hs3.out⟩

set_option maxHeartbeats 1600000 in
theorem put_none (S : Nat → Prop) (q : Nat) (L : List Bool) (v : Nat) (n : Int) (w : World) (h : IsW w S q L) (hn : n ≤ 0) :
    Calls Try.prog 8 #[.pointer (some ⟨q, 0, none⟩), .int .u64 (v : Int), .int .i64 n] w fun e w' => e = .returned (.tuple #[]) ∧ WStep S q L w w' := by
  have h0 : Hid (WStep S q L w w) := Lib.hid (ObjStep.refl h)
  clear h
  go_enter Try.func8, Try.ntmps8
  go_wp2_with fail
  go_loopw [10] (fun i wr => i = .int .i64 0 ∧ wr = w) (fun i _ => 0)
  case atStart => exact ⟨rfl, rfl⟩
  case round =>
    obtain ⟨rfl, rfl⟩ := hrel
    go_wp2_with fail
    go_end0
    exact ⟨rfl, h0.out⟩
/-- Put: the bits of v, as many as are counted, are behind those that were there. -/
theorem put_any (S : Nat → Prop) (q : Nat) (L : List Bool) (v : Nat) (n : Int) (w : World) (h : IsW w S q L) (hL : L.length ≤ 90000000000000) (hv : v < 18446744073709551616) :
    Calls Try.prog 8 #[.pointer (some ⟨q, 0, none⟩), .int .u64 (v : Int), .int .i64 n] w fun e w' => e = .returned (.tuple #[]) ∧ WStep S q (L ++ bitsOf v (cnt n)) w w' := by
  by_cases h0 : n ≤ 0
  · have e : cnt n = 0 := by unfold cnt; omega
    rw [e]
    exact (put_none S q L v n w h h0).mono fun _ _ ⟨h1, h2⟩ => ⟨h1, by simpa [bitsOf] using h2⟩
  · by_cases h1 : n ≤ 64
    · obtain ⟨m, rfl⟩ := Int.eq_ofNat_of_zero_le (show 0 ≤ n by omega)
      have e : cnt (m : Int) = m := by unfold cnt; omega
      rw [e]
      exact put_in S q L v m w h hL hv (by omega)
    · have e : cnt n = 64 := by unfold cnt; omega
      rw [e]
      exact put_over S q L v n w h hL hv (by omega)

/-! ### Text -/
theorem run_text (w : World) (v : Value) (l : List UInt8) (h : w.ownsRow 0 5 1 v l.length (Lib.byteCells l)) :
    (convert 47 9 v).run Try.prog w = .ok (.string ⟨l.toArray⟩) w := by
  rcases h.2 with ⟨rfl, h0⟩ | ⟨g, cap, cur, rfl, _, hg, _⟩
  · have : l = [] := List.eq_nil_of_length_eq_zero h0
    subst this
    exact Lib.run_convert_nil_bytes w _ _ _ 0 Try.underlying47 Try.underlying5 Try.underlying9
  · refine run_convert_bytes_back w _ _ 5 _ cap l Try.underlying47 Try.underlying5 Try.underlying9 fun j hj => ?_
    exact h.cells (g := g) rfl j _ (by unfold Lib.byteCells; rw [List.getElem?_map, List.getElem?_eq_getElem hj]; rfl)
set_option maxHeartbeats 1600000 in
theorem text_any (S : Nat → Prop) (q : Nat) (L : List Bool) (w : World) (h : IsW w S q L) :
    Calls Try.prog 11 #[.pointer (some ⟨q, 0, none⟩)] w fun e w' => e = .returned (.string ⟨(pack L).toArray⟩) ∧ w = w' := by
  obtain ⟨v, h⟩ := h
  obtain ⟨k0, -, -⟩ := cell2 h.cell
  have hcv := run_text w v (pack L) (by rw [pack_length]; exact h.row)
  clear h
  go_enter Try.func11, Try.ntmps11
  go_wp2
  go_ret
  exact ⟨rfl, rfl⟩
end Bit
end Go.Proofs.Ytblfhmajonnceaa
