/- For all inputs FrameTells returns true. Conditions: the table's two cells, texts no longer than a text can be. -/
import Derived.Test.YtcjfnkgjjhlbnaaDoorFrameLaws
import Derived.Test.YtcjfnkgjjhlbnaaDoorFrameTurn
import Derived.Test.YtcjfnkgjjhlbnaaDoorSumBursts
namespace Go.Proofs.YtcjfnkgjjhlbnaaDoor
open Go.RowKit
namespace Frm
open Dig Crc

theorem xor_by (c : UInt8) (b : Nat) (hb : b < 256) : bits .xor .u8 (c.toNat : Int) (b : Int) = ((c ^^^ UInt8.ofNat b).toNat : Int) := by
  have hc := c.toNat_lt
  rw [Crc.xor_toNat, UInt8.toNat_ofNat', Nat.mod_eq_of_lt hb]
  have hx : c.toNat ^^^ b < 2 ^ 8 := Nat.xor_lt_two_pow (by omega) (by omega)
  have h1 : (BitVec.ofInt 8 (c.toNat : Int)).toNat = c.toNat := by
    rw [BitVec.ofInt_natCast, BitVec.toNat_ofNat]; exact Nat.mod_eq_of_lt (by omega)
  have h2 : (BitVec.ofInt 8 (b : Int)).toNat = b := by
    rw [BitVec.ofInt_natCast, BitVec.toNat_ofNat]; exact Nat.mod_eq_of_lt (by omega)
  show IntKind.u8.wrap ((BitVec.ofInt 8 (c.toNat : Int) ^^^ BitVec.ofInt 8 (b : Int)).toNat : Int) = _
  rw [BitVec.toNat_xor, h1, h2, IntKind.wrap_u8]
  omega
theorem pick_at (x : Int) (n : Nat) (h0 : 0 < n) (h : n ≤ 1000000000) : ∃ k : Nat, k < n ∧ wrap64 ((IntKind.u64.wrap x).tmod (n : Int)) = (k : Int) := by
  have h0 : 0 ≤ IntKind.u64.wrap x := by rw [IntKind.wrap_u64]; omega
  rw [Int.tmod_eq_emod_of_nonneg h0]
  have h1 := Int.emod_nonneg (IntKind.u64.wrap x) (show ((n : Int)) ≠ 0 by omega)
  have h2 := Int.emod_lt_of_pos (IntKind.u64.wrap x) (show (0 : Int) < (n : Int) by omega)
  refine ⟨(IntKind.u64.wrap x % (n : Int)).toNat, by omega, ?_⟩
  rw [IntWalk.wrap64_in _ (by omega)]
  omega

set_option maxHeartbeats 400000 in
theorem tells_long (k : Int) (s : ByteArray) (at_ by_ : Int) (hs : s.size ≤ 140737488351232) (hl : 2000 < s.size) (w : World) (ht : Tab w) :
    Calls Tryd.prog 6 #[.int .i64 k, .string s, .int .i64 at_, .int .u8 by_] w fun e w' => e = .returned (.bool true) ∧ Below w.heap.size w w' := by
  go_enter Tryd.func6, Tryd.ntmps6
  go_wp2_with fail
  refine (works_true _ ht).mono ?_
  rintro e w1 ⟨rfl, hb1⟩
  go_wp2
  go_ret
  exact ⟨rfl, hb1⟩
set_option maxHeartbeats 400000 in
theorem tells_kind (k : Int) (s : ByteArray) (at_ by_ : Int) (hs : s.size ≤ 2000) (hk : k < 1 ∨ 255 < k) (w : World) (ht : Tab w) :
    Calls Tryd.prog 6 #[.int .i64 k, .string s, .int .i64 at_, .int .u8 by_] w fun e w' => e = .returned (.bool true) ∧ Below w.heap.size w w' := by
  have hput := Lib.hid (put_is k s ⟨#[]⟩ 5 (by omega) (if_pos hk) (if_pos hk))
  clear hk
  go_enter Tryd.func6, Tryd.ntmps6
  go_wp2_with fail
  refine (works_true _ ht).mono ?_
  rintro e w1 ⟨rfl, hb1⟩
  go_wp2_with fail
  refine (hput.out _ (ht.below hb1)).mono ?_
  rintro e w2 ⟨rfl, hb2⟩
  go_wp2
  go_ret
  exact ⟨rfl, chain2 hb1 hb2⟩
set_option maxHeartbeats 400000 in
theorem tells_same (k : Nat) (s : ByteArray) (at_ : Int) (hs : s.size ≤ 2000) (hk0 : 1 ≤ k) (hk1 : k ≤ 255) (w : World) (ht : Tab w) :
    Calls Tryd.prog 6 #[.int .i64 (k : Int), .string s, .int .i64 at_, .int .u8 0] w fun e w' => e = .returned (.bool true) ∧ Below w.heap.size w w' := by
  have hput := Lib.hid (put_ok k s hk0 hk1 (by omega))
  generalize putA k s = P at *
  go_enter Tryd.func6, Tryd.ntmps6
  go_wp2_with fail
  refine (works_true _ ht).mono ?_
  rintro e w1 ⟨rfl, hb1⟩
  go_wp2_with fail
  refine (hput.out _ (ht.below hb1)).mono ?_
  rintro e w2 ⟨rfl, hb2⟩
  go_wp2
  go_ret
  exact ⟨rfl, chain2 hb1 hb2⟩

theorem nd_two (n : Nat) (h : n < 65536) : nd n ≤ 2 := by
  unfold nd
  repeat' split
  all_goals omega
/-- A text with byte j turned. -/
def turnA (P : ByteArray) (j b : Nat) : ByteArray := ⟨(turnAt P.data.toList j (UInt8.ofNat b)).toArray⟩
theorem turnA_size (P : ByteArray) (j b : Nat) : (turnA P j b).size = P.size := by
  show (turnAt P.data.toList j (UInt8.ofNat b)).toArray.size = _
  rw [List.size_toArray, turnAt_length, size_list]

set_option maxHeartbeats 800000 in
theorem tells_any (k : Nat) (s P : ByteArray) (at_ : Int) (b j : Nat) (hs : s.size ≤ 2000) (hk0 : 1 ≤ k) (hk1 : k ≤ 255) (hb0 : 0 < b) (hb1 : b < 256) (w : World) (ht : Tab w) (hP : putA k s = P) (hp0 : 6 ≤ P.size) (hp1 : P.size ≤ 3000) (hj : j < P.size) (hjj : wrap64 ((IntKind.u64.wrap at_).tmod (P.size : Int)) = (j : Int)) (g : Got) (hg : gotF (turnA P j b) = g) (hd : (∃ x, g = bad x ∧ x ≠ 0) ∨ (g.err = 0 ∧ g.size < P.size ∧ 1 ≤ j ∧ j ≤ 3)) :
    Calls Tryd.prog 6 #[.int .i64 (k : Int), .string s, .int .i64 at_, .int .u8 (b : Int)] w fun e w' => e = .returned (.bool true) ∧ Below w.heap.size w w' := by
  have hput := put_ok k s hk0 hk1 (by omega)
  have hget := Lib.hid (get_is _ g (by rw [turnA_size]; omega) hg)
  rw [hP] at hput
  replace hput := Lib.hid hput
  replace hjj := Lib.hid hjj
  replace hd := Lib.hid hd
  clear hP hg
  have hbne : ((b : Int) == 0) = false := beq_eq_false_iff_ne.2 (by omega)
  have hcv := fun (W : World) (t : ByteArray) => run_bytes_of_string (P := Tryd.prog) W 9 46 5 t (by kernel_rfl) (by kernel_rfl) (by kernel_rfl)
  go_enter Tryd.func6, Tryd.ntmps6
  go_wp2_with fail
  refine (works_true _ ht).mono ?_
  rintro e w1 ⟨rfl, hbl1⟩
  go_wp2_with fail
  refine (hput.out _ (ht.below hbl1)).mono ?_
  rintro e w2 ⟨rfl, hbl2⟩
  have hbt := Lib.hid (bts_new P (grownCap w2 P.size 0 5) 5 w2)
  go_upto_region 11 with fail
  clear hcv hbne
  have hbw : Below w2.heap.size w2 (w2.alloc (.cells (bytesRow P (grownCap w2 P.size 0 5)) 5 ((bytesRow P (grownCap w2 P.size 0 5)).size, (bytesRow P (grownCap w2 P.size 0 5)).size + 1))).drew := by go_grown
  generalize (w2.alloc (.cells (bytesRow P (grownCap w2 P.size 0 5)) 5 ((bytesRow P (grownCap w2 P.size 0 5)).size, (bytesRow P (grownCap w2 P.size 0 5)).size + 1))).drew = w3 at *
  generalize grownCap w2 P.size 0 5 = cap at *
  have hlen := size_list P
  have hc := hbt.out.cell j (by omega)
  have hf := hbt.out.thaw j (by omega)
  have hxor := xor_by (P.data.toList.getD j 0) b hb1
  have hnew := hbt.out.set j (by omega) (P.data.toList.getD j 0 ^^^ UInt8.ofNat b)
  have hcv2 := run_back _ _ cap _ hnew
  have hbw2 := hbw.setCell (Nat.le_refl _) (p := ⟨w2.heap.size, j, none⟩) (.int .u8 ((P.data.toList.getD j 0 ^^^ UInt8.ofNat b).toNat : Int))
  rw [List.length_set, hlen] at hcv2
  change _ = Result.ok (Value.string (turnA P j b)) _ at hcv2
  replace hbw2 := Lib.hid hbw2
  clear hbt hnew hlen hbw
  generalize P.data.toList.getD j 0 ^^^ UInt8.ofNat b = cx at *
  generalize P.data.toList.getD j 0 = c at *
  go_upto_region 12 with fail
  rw [hjj.out]
  clear hjj
  go_wp2_with fail
  have hb3 : Below w.heap.size w (w3.setCell ⟨w2.heap.size, j, none⟩ (.int .u8 (cx.toNat : Int))) := chain2 (chain2 hbl1 hbl2) hbw2.out
  clear hcv2 hc hf hbw2 hxor
  refine (hget.out _ (ht.below hb3)).mono ?_
  rintro e w4 ⟨rfl, hb4⟩
  have hb5 := chain2 hb3 hb4
  clear hb3 hb4 hget hput
  rcases hd.out with ⟨x, rfl, hx⟩ | ⟨he, hz, hj1, hj3⟩
  · have hx2 : (((bad x).err : Int) != 0) = true := by rw [bne_iff_ne]; exact fun h => hx (by exact_mod_cast h)
    have hx3 : (((bad x).err : Int) == 0) = false := by rw [beq_eq_false_iff_ne]; exact fun h => hx (by exact_mod_cast h)
    have hk0 : ((bad x).kind : Int) = 0 := rfl
    have hs0 : ((bad x).size : Int) = 0 := rfl
    have hd0 : (bad x).data = ⟨#[]⟩ := rfl
    go_wp2
    go_ret
    exact ⟨rfl, hb5.alloc hb5.size _⟩
  · obtain ⟨gk, gd, gs, ge⟩ := g
    simp only at he hz
    subst he
    go_wp2
    go_ret
    exact ⟨by show Ending.returned (.bool (decide ((j : Int) ≤ 3))) = _; rw [decide_eq_true (by omega)], hb5.alloc hb5.size _⟩

theorem tells_true (k : Int) (s : ByteArray) (at_ by_ : Int) (_ : -9223372036854775808 ≤ k) (_ : k ≤ 9223372036854775807) (hs : s.size ≤ 140737488351232) (_ : -9223372036854775808 ≤ at_) (_ : at_ ≤ 9223372036854775807) (h0 : 0 ≤ by_) (h1 : by_ ≤ 255) (w : World) (ht : Tab w) :
    Calls Tryd.prog 6 #[.int .i64 k, .string s, .int .i64 at_, .int .u8 by_] w fun e w' => e = .returned (.bool true) ∧ Below w.heap.size w w' := by
  by_cases hl : 2000 < s.size
  · exact tells_long k s at_ by_ hs hl w ht
  · by_cases hk : k < 1 ∨ 255 < k
    · exact tells_kind k s at_ by_ (by omega) hk w ht
    · obtain ⟨k, rfl⟩ := Int.eq_ofNat_of_zero_le (show 0 ≤ k by omega)
      obtain ⟨b, rfl⟩ := Int.eq_ofNat_of_zero_le h0
      by_cases hb : b = 0
      · subst hb
        exact tells_same k s at_ (by omega) (by omega) (by omega) w ht
      · have hpz := putA_size k s
        have hnd := nd_two s.size (by omega)
        obtain ⟨j, hj, hjj⟩ := pick_at at_ (putA k s).size (by omega) (by omega)
        refine tells_any k s (putA k s) at_ b j (by omega) (by omega) (by omega) (by omega) (by omega) w ht rfl (by omega) (by omega) hj hjj _ rfl ?_
        have hbn : UInt8.ofNat b ≠ 0 := by
          intro h
          have := congrArg UInt8.toNat h
          rw [UInt8.toNat_ofNat'] at this
          simp at this
          omega
        by_cases he : (gotF (turnA (putA k s) j b)).err = 0
        · have h2 := turned_size k s (turnA (putA k s) j b) j (UInt8.ofNat b) hbn hj (by simp [turnA]) he
          have h3 := turned_place k s (turnA (putA k s) j b) j (UInt8.ofNat b) (by omega) hbn hj (by simp [turnA]) he
          exact .inr ⟨he, h2, h3.1, by omega⟩
        · exact .inl ⟨_, gotF_err _ he, he⟩
end Frm
end Go.Proofs.YtcjfnkgjjhlbnaaDoor
