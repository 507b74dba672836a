/- For all inputs FrameWrites and FrameLimits return true. Conditions: the table's two cells, texts no longer than a text can be. -/
import Derived.Test.YtcjfnkgjjhlbnaaDoorFrameGetRef
import Derived.OwnWalk
import Derived.Laws.OwnMore
import Derived.Laws.IdiomStrings
namespace Go.Proofs.YtcjfnkgjjhlbnaaDoor
open Go.RowKit
namespace Frm
open Dig Crc

set_option maxHeartbeats 400000 in
theorem writes_true (k : Int) (s : ByteArray) (_h0 : -9223372036854775808 ≤ k) (_h1 : k ≤ 9223372036854775807) (hs : s.size ≤ 140737488351232) (w : World) (ht : Tab w) :
    Calls Tryd.prog 3 #[.int .i64 k, .string s] w fun e w' => e = .returned (.bool true) ∧ Below w.heap.size w w' := by
  have hp := Lib.hid (put_any k s (by omega))
  have hq := Lib.hid (refput_any k s (by omega))
  generalize putS k s = S at *
  generalize putE k s = E at *
  go_enter Tryd.func3, Tryd.ntmps3
  go_wp2_with fail
  refine (hp.out _ ht).mono ?_
  rintro e w1 ⟨rfl, hb1⟩
  go_wp2_with fail
  refine (hq.out _).mono ?_
  rintro e w2 ⟨rfl, hb2⟩
  go_wp2
  go_ret
  exact ⟨rfl, chain2 hb1 hb2⟩

theorem put_is (k : Int) (s t : ByteArray) (x : Int) (hs : s.size ≤ 9223372036854775807) (h1 : putS k s = t) (h2 : putE k s = x) (w : World) (ht : Tab w) :
    Calls Tryd.prog 8 #[.agg #[.int .i64 k, .string s]] w fun e w' => e = .returned (.tuple #[.string t, .int .i64 x]) ∧ Below w.heap.size w w' := by
  subst h1 h2; exact put_any k s hs w ht
theorem get_is (s : ByteArray) (g : Got) (hs : s.size ≤ 140737488351232) (h : gotF s = g) (w : World) (ht : Tab w) :
    Calls Tryd.prog 10 #[.string s] w fun e w' => e = .returned (.tuple #[.agg #[.int .i64 (g.kind : Int), .string g.data], .int .i64 (g.size : Int), .int .i64 (g.err : Int)]) ∧ Below w.heap.size w w' := by
  subst h; exact get_any s hs w ht
theorem put_one : putS 1 ⟨#[97]⟩ = ⟨#[1, 1, 1, 97, 176, 108, 251, 23]⟩ := by
  have h : (putS 1 ⟨#[97]⟩).data.toList = [1, 1, 1, 97, 176, 108, 251, 23] := by decide +kernel
  exact bytes_ext h
theorem got_one : gotF ⟨#[1, 1, 1, 97, 176, 108, 251, 23, 120]⟩ = ⟨1, ⟨#[97]⟩, 8, 0⟩ := by
  have h := got_put 1 ⟨#[97]⟩ ⟨#[120]⟩ (by omega) (by omega) (by decide)
  have e : putA 1 ⟨#[97]⟩ = ⟨#[1, 1, 1, 97, 176, 108, 251, 23]⟩ := by
    have := put_one
    unfold putS at this
    rw [if_neg (by omega), if_neg (by decide)] at this
    exact this
  rw [e] at h
  exact h

set_option maxHeartbeats 400000 in
theorem works_true (w : World) (ht : Tab w) : Calls Tryd.prog 15 #[] w fun e w' => e = .returned (.bool true) ∧ Below w.heap.size w w' := by
  have hp := Lib.hid (put_is 1 ⟨#[97]⟩ _ 0 (by decide) put_one (by decide +kernel))
  have hg := Lib.hid (get_is _ _ (by decide) got_one)
  have hx : ((⟨#[1, 1, 1, 97, 176, 108, 251, 23]⟩ : ByteArray).extract 0 4).toList = [1, 1, 1, 97] := by rw [ByteArray.toList_eq]; decide +kernel
  go_enter Tryd.func15, Tryd.ntmps15
  go_wp2_with fail
  refine (hp.out _ ht).mono ?_
  rintro e w1 ⟨rfl, hb1⟩
  go_wp2_with fail
  refine (hg.out _ (ht.below hb1)).mono ?_
  rintro e w2 ⟨rfl, hb2⟩
  go_wp2
  go_ret
  exact ⟨rfl, (chain2 hb1 hb2).alloc (chain2 hb1 hb2).size _⟩

theorem infoU8 : (Tryd.prog.info? 5).map (fun i => (i.zero, i.size, i.bytes)) = some (some (.int .u8 0), 1, 1) := by kernel_rfl
theorem lim_n (x : Int) : ∃ n : Nat, 65530 ≤ n ∧ n ≤ 65541 ∧ 65530 + (IntKind.u64.wrap x).tmod 12 = (n : Int) := by
  have h0 : 0 ≤ IntKind.u64.wrap x := by rw [IntKind.wrap_u64]; omega
  rw [Int.tmod_eq_emod_of_nonneg h0]
  exact ⟨(65530 + IntKind.u64.wrap x % 12).toNat, by omega, by omega, by omega⟩
theorem app_nil (s : ByteArray) : s ++ ⟨#[]⟩ = s := by
  apply bytes_ext
  rw [ByteArray.data_append]; simp
/-- n bytes that are 0. -/
def zeros (n : Nat) : ByteArray := ⟨(List.replicate n (0 : UInt8)).toArray⟩
theorem zeros_size (n : Nat) : (zeros n).size = n := by
  show (List.replicate n (0 : UInt8)).toArray.size = n
  simp
theorem run_zeros (g n : Nat) (w : World) (h : w.ownsRow g 5 1 (.slice (some ⟨g, 0, none⟩) n n) n (madeCells #[Value.int .u8 0] n).toList) :
    (convert 46 9 (.slice (some ⟨g, 0, none⟩) n n)).run Tryd.prog w = .ok (.string (zeros n)) w := by
  have hc := h.cells (g := g) rfl
  rw [toList_madeCells_one] at hc
  have h2 := run_convert_bytes_back (P := Tryd.prog) w 46 9 5 ⟨g, 0, none⟩ n (List.replicate n (0 : UInt8)) (by kernel_rfl) (by kernel_rfl) (by kernel_rfl) (fun j hj => by
    rw [List.length_replicate] at hj
    rw [hc j (.int .u8 0) (by simp [hj])]
    simp)
  rw [List.length_replicate] at h2
  exact h2
theorem below_grown {w w1 : World} (h : w.grownBy w1 none) : Below w.heap.size w w1 :=
  ⟨h.os, h.tape, h.output, h.size, fun k hk => h.block k hk (by simp)⟩
set_option maxHeartbeats 400000 in
theorem limits_low (x k : Int) (n : Nat) (h1 : 65530 ≤ n) (h2 : n ≤ 65541) (hn : 65530 + (IntKind.u64.wrap x).tmod 12 = (n : Int)) (hk : k < 1) (w : World) (ht : Tab w) :
    Calls Tryd.prog 7 #[.int .i64 x, .int .i64 k] w fun e w' => e = .returned (.bool true) ∧ Below w.heap.size w w' := by
  obtain ⟨i0, hi, hz0, hz1, hz2⟩ := info_parts infoU8
  have hput := Lib.hid (put_is k (zeros n) ⟨#[]⟩ 5 (by rw [zeros_size]; omega) (if_pos (Or.inl hk)) (if_pos (Or.inl hk)))
  go_enter Tryd.func7, Tryd.ntmps7
  go_wp2_with fail
  refine (works_true _ ht).mono ?_
  rintro e w1 ⟨rfl, hb1⟩
  go_wp2_with (refine wpList_make_full _ rfl _ _ 46 rfl w1.heap.size 5 i0 (.int .u8 0) 1 Tryd.underlying46 hi hz0 hz1 .i64 .i64 _ _ n rfl rfl ?c1 ?c2 ?c3 ?c4 ?c5 ?_)
  case c1 => rfl
  case c2 => rfl
  case c3 => rw [hz2]; omega
  case c4 => unfold maxLen; omega
  case c5 => exact Nat.le_refl _
  intro w2 hown hgrow
  have hcv := run_zeros w1.heap.size n w2 hown
  have hb2 : Below w.heap.size w w2 := chain2 hb1 (below_grown hgrow)
  have ht2 := ht.below hb2
  clear hown hgrow hi hz0 hz1 hz2 hn
  go_wp2_with fail
  refine (hput.out _ ht2).mono ?_
  rintro e w3 ⟨rfl, hb3⟩
  have hb4 := chain2 hb2 hb3
  go_wp2
  go_ret
  exact ⟨rfl, hb4⟩
set_option maxHeartbeats 400000 in
theorem limits_high (x k : Int) (n : Nat) (h1 : 65530 ≤ n) (h2 : n ≤ 65541) (hn : 65530 + (IntKind.u64.wrap x).tmod 12 = (n : Int)) (hk : 255 < k) (w : World) (ht : Tab w) :
    Calls Tryd.prog 7 #[.int .i64 x, .int .i64 k] w fun e w' => e = .returned (.bool true) ∧ Below w.heap.size w w' := by
  obtain ⟨i0, hi, hz0, hz1, hz2⟩ := info_parts infoU8
  have hput := Lib.hid (put_is k (zeros n) ⟨#[]⟩ 5 (by rw [zeros_size]; omega) (if_pos (Or.inr hk)) (if_pos (Or.inr hk)))
  go_enter Tryd.func7, Tryd.ntmps7
  go_wp2_with fail
  refine (works_true _ ht).mono ?_
  rintro e w1 ⟨rfl, hb1⟩
  go_wp2_with (refine wpList_make_full _ rfl _ _ 46 rfl w1.heap.size 5 i0 (.int .u8 0) 1 Tryd.underlying46 hi hz0 hz1 .i64 .i64 _ _ n rfl rfl ?c1 ?c2 ?c3 ?c4 ?c5 ?_)
  case c1 => rfl
  case c2 => rfl
  case c3 => rw [hz2]; omega
  case c4 => unfold maxLen; omega
  case c5 => exact Nat.le_refl _
  intro w2 hown hgrow
  have hcv := run_zeros w1.heap.size n w2 hown
  have hb2 : Below w.heap.size w w2 := chain2 hb1 (below_grown hgrow)
  have ht2 := ht.below hb2
  clear hown hgrow hi hz0 hz1 hz2 hn
  go_wp2_with fail
  refine (hput.out _ ht2).mono ?_
  rintro e w3 ⟨rfl, hb3⟩
  have hb4 := chain2 hb2 hb3
  go_wp2
  go_ret
  exact ⟨rfl, hb4⟩
set_option maxHeartbeats 400000 in
theorem limits_long (x k : Int) (n : Nat) (h1 : 65530 ≤ n) (h2 : n ≤ 65541) (hn : 65530 + (IntKind.u64.wrap x).tmod 12 = (n : Int)) (hk0 : 1 ≤ k) (hk1 : k ≤ 255) (hl : 65536 < n) (w : World) (ht : Tab w) :
    Calls Tryd.prog 7 #[.int .i64 x, .int .i64 k] w fun e w' => e = .returned (.bool true) ∧ Below w.heap.size w w' := by
  obtain ⟨i0, hi, hz0, hz1, hz2⟩ := info_parts infoU8
  have hput := Lib.hid (put_is k (zeros n) ⟨#[]⟩ 8 (by rw [zeros_size]; omega) (by unfold putS; rw [if_neg (by omega), if_pos (by rw [zeros_size]; exact hl)]) (by unfold putE; rw [if_neg (by omega), if_pos (by rw [zeros_size]; exact hl)]))
  go_enter Tryd.func7, Tryd.ntmps7
  go_wp2_with fail
  refine (works_true _ ht).mono ?_
  rintro e w1 ⟨rfl, hb1⟩
  go_wp2_with (refine wpList_make_full _ rfl _ _ 46 rfl w1.heap.size 5 i0 (.int .u8 0) 1 Tryd.underlying46 hi hz0 hz1 .i64 .i64 _ _ n rfl rfl ?c1 ?c2 ?c3 ?c4 ?c5 ?_)
  case c1 => rfl
  case c2 => rfl
  case c3 => rw [hz2]; omega
  case c4 => unfold maxLen; omega
  case c5 => exact Nat.le_refl _
  intro w2 hown hgrow
  have hcv := run_zeros w1.heap.size n w2 hown
  have hb2 : Below w.heap.size w w2 := chain2 hb1 (below_grown hgrow)
  have ht2 := ht.below hb2
  clear hown hgrow hi hz0 hz1 hz2 hn
  go_wp2_with fail
  refine (hput.out _ ht2).mono ?_
  rintro e w3 ⟨rfl, hb3⟩
  have hb4 := chain2 hb2 hb3
  go_wp2
  go_ret
  exact ⟨rfl, hb4⟩
set_option maxHeartbeats 400000 in
theorem limits_ok (x k : Int) (n : Nat) (h1 : 65530 ≤ n) (h2 : n ≤ 65541) (hn : 65530 + (IntKind.u64.wrap x).tmod 12 = (n : Int)) (hk0 : 1 ≤ k) (hk1 : k ≤ 255) (hl : n ≤ 65536) (w : World) (ht : Tab w) :
    Calls Tryd.prog 7 #[.int .i64 x, .int .i64 k] w fun e w' => e = .returned (.bool true) ∧ Below w.heap.size w w' := by
  obtain ⟨i0, hi, hz0, hz1, hz2⟩ := info_parts infoU8
  have hput := Lib.hid (put_is k (zeros n) (putA k.toNat (zeros n)) 0 (by rw [zeros_size]; omega) (by unfold putS; rw [if_neg (by omega), if_neg (by rw [zeros_size]; omega)]) (by unfold putE; rw [if_neg (by omega), if_neg (by rw [zeros_size]; omega)]))
  have hpz := putA_size k.toNat (zeros n)
  have hnd := nd_le (zeros n).size
  have hzz := zeros_size n
  have hgp := got_put k.toNat (zeros n) ⟨#[]⟩ (by omega) (by omega) (by omega)
  rw [app_nil] at hgp
  have hget := Lib.hid (get_is _ _ (by omega) hgp)
  have hpl : (putA k.toNat (zeros n)).size ≤ 9223372036854775807 := by omega
  obtain ⟨kn, rfl⟩ := Int.eq_ofNat_of_zero_le (show 0 ≤ k by omega)
  rw [Int.toNat_natCast] at *
  clear hgp hpz hnd
  generalize putA kn (zeros n) = P at *
  go_enter Tryd.func7, Tryd.ntmps7
  go_wp2_with fail
  refine (works_true _ ht).mono ?_
  rintro e w1 ⟨rfl, hb1⟩
  go_wp2_with (refine wpList_make_full _ rfl _ _ 46 rfl w1.heap.size 5 i0 (.int .u8 0) 1 Tryd.underlying46 hi hz0 hz1 .i64 .i64 _ _ n rfl rfl ?c1 ?c2 ?c3 ?c4 ?c5 ?_)
  case c1 => rfl
  case c2 => rfl
  case c3 => rw [hz2]; omega
  case c4 => unfold maxLen; omega
  case c5 => exact Nat.le_refl _
  intro w2 hown hgrow
  have hcv := run_zeros w1.heap.size n w2 hown
  have hb2 : Below w.heap.size w w2 := chain2 hb1 (below_grown hgrow)
  have ht2 := ht.below hb2
  clear hown hgrow hi hz0 hz1 hz2 hn
  go_wp2_with fail
  refine (hput.out _ ht2).mono ?_
  rintro e w3 ⟨rfl, hb3⟩
  have hb4 := chain2 hb2 hb3
  go_wp2_with fail
  refine (hget.out _ (ht.below hb4)).mono ?_
  rintro e w4 ⟨rfl, hb5⟩
  have hb6 := chain2 hb4 hb5
  go_wp2
  go_ret
  exact ⟨rfl, hb6.alloc hb6.size _⟩

theorem limits_true (x k : Int) (_ : -9223372036854775808 ≤ x) (_ : x ≤ 9223372036854775807) (_ : -9223372036854775808 ≤ k) (_ : k ≤ 9223372036854775807) (w : World) (ht : Tab w) :
    Calls Tryd.prog 7 #[.int .i64 x, .int .i64 k] w fun e w' => e = .returned (.bool true) ∧ Below w.heap.size w w' := by
  obtain ⟨n, h1, h2, hn⟩ := lim_n x
  by_cases hl : k < 1
  · exact limits_low x k n h1 h2 hn hl w ht
  · by_cases hh : 255 < k
    · exact limits_high x k n h1 h2 hn hh w ht
    · by_cases hs : 65536 < n
      · exact limits_long x k n h1 h2 hn (by omega) (by omega) hs w ht
      · exact limits_ok x k n h1 h2 hn (by omega) (by omega) (by omega) w ht
end Frm
end Go.Proofs.YtcjfnkgjjhlbnaaDoor
