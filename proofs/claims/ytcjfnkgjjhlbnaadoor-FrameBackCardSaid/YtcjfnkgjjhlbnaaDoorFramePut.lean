/- What frame.Put returns, and the document's own: of any frame its bytes, or an error. They leave alone what was there before. Conditions: the table's two cells, texts no longer than a text can be. -/
import Derived.Test.YtcjfnkgjjhlbnaaDoorFramePure
import Derived.Test.YtcjfnkgjjhlbnaaDoorSumMore
import Derived.Test.YtcjfnkgjjhlbnaaDoorDigAll
import Derived.Deep.RegionWith
import Derived.Deep.DeepCutAuto
import Derived.Deep.QuietTactic
import Derived.BigQuiet
import Derived.Lib.QuietBelow
import Derived.Outline
namespace Go.Proofs.YtcjfnkgjjhlbnaaDoor
open Go.RowKit
namespace Frm
open Dig Crc

theorem sum_bytes (c : Nat) (hc : c < 4294967296) (w : World) : Calls Tryd.prog 17 #[.int .u32 c] w fun e w' => e = .returned (.string (sumB c)) ∧ Below w.heap.size w w' := bytes_any c hc w
theorem ref_bytes (c : Nat) (hc : c < 4294967296) (w : World) : Calls Tryd.prog 20 #[.int .u32 c] w fun e w' => e = .returned (.string (sumB c)) ∧ Below w.heap.size w w' := refbytes_any c hc w
theorem bcell {B : Nat} {W w1 : World} (hb : Below B W w1) : ∀ b o, b < B → w1.cell? ⟨b, o, none⟩ = W.cell? ⟨b, o, none⟩ := fun b o h => hb.cell (p := ⟨b, o, none⟩) h
theorem conv_kind (k : Nat) (_h : k ≤ 255) : IntKind.u8.wrap (k : Int) = ((UInt8.ofNat k).toNat : Int) := by rw [IntKind.wrap_u8, UInt8.toNat_ofNat']; omega

set_option maxHeartbeats 400000 in
theorem put_low (k : Int) (s : ByteArray) (h : k < 1) (w : World) :
    Calls Tryd.prog 8 #[.agg #[.int .i64 k, .string s]] w fun e w' => e = .returned (.tuple #[.string ⟨#[]⟩, .int .i64 5]) ∧ Below w.heap.size w w' := by
  go_enter Tryd.func8, Tryd.ntmps8
  go_wp2
  go_ret2
  exact ⟨rfl, by go_grown⟩
set_option maxHeartbeats 400000 in
theorem put_high (k : Int) (s : ByteArray) (h : 255 < k) (w : World) :
    Calls Tryd.prog 8 #[.agg #[.int .i64 k, .string s]] w fun e w' => e = .returned (.tuple #[.string ⟨#[]⟩, .int .i64 5]) ∧ Below w.heap.size w w' := by
  go_enter Tryd.func8, Tryd.ntmps8
  go_wp2
  go_ret2
  exact ⟨rfl, by go_grown⟩
set_option maxHeartbeats 400000 in
theorem put_long (k : Int) (s : ByteArray) (h1 : 1 ≤ k) (h2 : k ≤ 255) (h : 65536 < s.size) (hs : s.size ≤ 9223372036854775807) (w : World) :
    Calls Tryd.prog 8 #[.agg #[.int .i64 k, .string s]] w fun e w' => e = .returned (.tuple #[.string ⟨#[]⟩, .int .i64 8]) ∧ Below w.heap.size w w' := by
  go_enter Tryd.func8, Tryd.ntmps8
  go_wp2
  go_ret2
  exact ⟨rfl, by go_grown⟩
set_option maxHeartbeats 1600000 in
theorem put_ok (k : Nat) (s : ByteArray) (h1 : 1 ≤ k) (h2 : k ≤ 255) (h : s.size ≤ 65536) (w : World) (ht : Tab w) :
    Calls Tryd.prog 8 #[.agg #[.int .i64 (k : Int), .string s]] w fun e w' => e = .returned (.tuple #[.string (putA k s), .int .i64 0]) ∧ Below w.heap.size w w' := by
  have hkk := conv_kind k h2
  have hcv := fun c b W hc => run_one_byte (UInt8.ofNat k) c b W hc
  have hsz := hdr_size k s
  have hnd := nd_le s.size
  have hpz := putA_size k s
  have hadd := fun (W : World) => run_string_add_sum (P := Tryd.prog) W ⟨#[UInt8.ofNat k]⟩ (textA s) (by rw [← ByteArray.size_append]; show (hdr k s).size ≤ _; omega)
  have hadd2 := fun (W : World) => run_string_add_sum (P := Tryd.prog) W (hdr k s) (sumB (more 0 (hdr k s).data.toList)) (by rw [← ByteArray.size_append]; show (putA k s).size ≤ _; omega)
  have hH : Hid (⟨#[UInt8.ofNat k]⟩ ++ textA s = hdr k s) := Lib.hid rfl
  have hP : Hid (hdr k s ++ sumB (more 0 (hdr k s).data.toList) = putA k s) := Lib.hid rfl
  have hml := more_lt 0 (hdr k s).data.toList
  have hof := Lib.hid (of_any (hdr k s) (by omega))
  have hby := Lib.hid (sum_bytes (more 0 (hdr k s).data.toList) hml)
  replace hadd := Lib.hid hadd
  replace hadd2 := Lib.hid hadd2
  clear hsz hnd hpz hml
  generalize hdr k s = H at *
  generalize more 0 H.data.toList = c at *
  generalize putA k s = R at *
  generalize UInt8.ofNat k = kb at *
  go_enter Tryd.func8, Tryd.ntmps8
  go_wp2
  go_cut [4] (fun x wx => x = .string H ∧ Below w.heap.size w wx)
  case first =>
    have hadd3 := hadd.out
    clear hadd hadd2 hof hby hP
    go_region_with (go_at_call 16; refine (text_any s (by omega) _).mono ?_; rintro e w1 ⟨rfl, hb1⟩; have hc1 := bcell hb1)
    all_goals (go_wp2_with fail; go_meet; exact ⟨by rw [hH.out], by first | exact chain2 (by go_grown) hb1 | exact (chain2 (by go_grown) hb1).alloc (by have := hb1.size; simp at this; omega) _⟩)
  case rest =>
    obtain ⟨rfl, hbx⟩ := hcut
    clear hcv hH hadd hkk
    go_wp2_with fail
    refine (hof.out _ (ht.below hbx)).mono ?_
    rintro e w2 ⟨rfl, rfl⟩
    go_wp2_with fail
    refine (hby.out _).mono ?_
    rintro e w2 ⟨rfl, hb2⟩
    have hadd3 := hadd2.out w2
    clear hof hby hadd2
    go_wp2
    go_ret2
    exact ⟨by rw [hP.out]; rfl, chain2 hbx hb2⟩
theorem put_any (k : Int) (s : ByteArray) (hs : s.size ≤ 9223372036854775807) (w : World) (ht : Tab w) :
    Calls Tryd.prog 8 #[.agg #[.int .i64 k, .string s]] w fun e w' => e = .returned (.tuple #[.string (putS k s), .int .i64 (putE k s)]) ∧ Below w.heap.size w w' := by
  unfold putS putE
  by_cases h1 : k < 1
  · rw [if_pos (Or.inl h1), if_pos (Or.inl h1)]
    exact put_low k s h1 w
  · by_cases h2 : 255 < k
    · rw [if_pos (Or.inr h2), if_pos (Or.inr h2)]
      exact put_high k s h2 w
    · have hn : ¬ (k < 1 ∨ 255 < k) := by omega
      rw [if_neg hn, if_neg hn]
      by_cases h3 : 65536 < s.size
      · rw [if_pos h3, if_pos h3]
        exact put_long k s (by omega) (by omega) h3 hs w
      · rw [if_neg h3, if_neg h3]
        obtain ⟨k, rfl⟩ := Int.eq_ofNat_of_zero_le (show 0 ≤ k by omega)
        exact put_ok k s (by omega) (by omega) (by omega) w ht
set_option maxHeartbeats 400000 in
theorem refput_low (k : Int) (s : ByteArray) (h : k < 1) (w : World) :
    Calls Tryd.prog 9 #[.agg #[.int .i64 k, .string s]] w fun e w' => e = .returned (.tuple #[.string ⟨#[]⟩, .int .i64 5]) ∧ Below w.heap.size w w' := by
  go_enter Tryd.func9, Tryd.ntmps9
  go_wp2
  go_ret2
  exact ⟨rfl, by go_grown⟩
set_option maxHeartbeats 400000 in
theorem refput_high (k : Int) (s : ByteArray) (h : 255 < k) (w : World) :
    Calls Tryd.prog 9 #[.agg #[.int .i64 k, .string s]] w fun e w' => e = .returned (.tuple #[.string ⟨#[]⟩, .int .i64 5]) ∧ Below w.heap.size w w' := by
  go_enter Tryd.func9, Tryd.ntmps9
  go_wp2
  go_ret2
  exact ⟨rfl, by go_grown⟩
set_option maxHeartbeats 400000 in
theorem refput_long (k : Int) (s : ByteArray) (h1 : 1 ≤ k) (h2 : k ≤ 255) (h : 65536 < s.size) (hs : s.size ≤ 9223372036854775807) (w : World) :
    Calls Tryd.prog 9 #[.agg #[.int .i64 k, .string s]] w fun e w' => e = .returned (.tuple #[.string ⟨#[]⟩, .int .i64 8]) ∧ Below w.heap.size w w' := by
  go_enter Tryd.func9, Tryd.ntmps9
  go_wp2
  go_ret2
  exact ⟨rfl, by go_grown⟩
set_option maxHeartbeats 1600000 in
theorem refput_ok (k : Nat) (s : ByteArray) (h1 : 1 ≤ k) (h2 : k ≤ 255) (h : s.size ≤ 65536) (w : World) :
    Calls Tryd.prog 9 #[.agg #[.int .i64 (k : Int), .string s]] w fun e w' => e = .returned (.tuple #[.string (putA k s), .int .i64 0]) ∧ Below w.heap.size w w' := by
  have hkk := conv_kind k h2
  have hcv := fun c b W hc => run_one_byte (UInt8.ofNat k) c b W hc
  have hsz := hdr_size k s
  have hnd := nd_le s.size
  have hpz := putA_size k s
  have hadd := fun (W : World) => run_string_add_sum (P := Tryd.prog) W ⟨#[UInt8.ofNat k]⟩ (textA s) (by rw [← ByteArray.size_append]; show (hdr k s).size ≤ _; omega)
  have hadd2 := fun (W : World) => run_string_add_sum (P := Tryd.prog) W (hdr k s) (sumB (more 0 (hdr k s).data.toList)) (by rw [← ByteArray.size_append]; show (putA k s).size ≤ _; omega)
  have hH : Hid (⟨#[UInt8.ofNat k]⟩ ++ textA s = hdr k s) := Lib.hid rfl
  have hP : Hid (hdr k s ++ sumB (more 0 (hdr k s).data.toList) = putA k s) := Lib.hid rfl
  have hml := more_lt 0 (hdr k s).data.toList
  have hof := Lib.hid (refof_any (hdr k s) (by omega))
  have hby := Lib.hid (ref_bytes (more 0 (hdr k s).data.toList) hml)
  replace hadd := Lib.hid hadd
  replace hadd2 := Lib.hid hadd2
  clear hsz hnd hpz hml
  generalize hdr k s = H at *
  generalize more 0 H.data.toList = c at *
  generalize putA k s = R at *
  generalize UInt8.ofNat k = kb at *
  go_enter Tryd.func9, Tryd.ntmps9
  go_wp2
  go_cut [4] (fun x wx => x = .string H ∧ Below w.heap.size w wx)
  case first =>
    have hadd3 := hadd.out
    clear hadd hadd2 hof hby hP
    go_region_with (go_at_call 19; refine (reftext_any s (by omega) _).mono ?_; rintro e w1 ⟨rfl, hb1⟩; have hc1 := bcell hb1)
    all_goals (go_wp2_with fail; go_meet; exact ⟨by rw [hH.out], by first | exact chain2 (by go_grown) hb1 | exact (chain2 (by go_grown) hb1).alloc (by have := hb1.size; simp at this; omega) _⟩)
  case rest =>
    obtain ⟨rfl, hbx⟩ := hcut
    clear hcv hH hadd hkk
    go_wp2_with fail
    refine (hof.out _).mono ?_
    rintro e w2 ⟨rfl, rfl⟩
    go_wp2_with fail
    refine (hby.out _).mono ?_
    rintro e w2 ⟨rfl, hb2⟩
    have hadd3 := hadd2.out w2
    clear hof hby hadd2
    go_wp2
    go_ret2
    exact ⟨by rw [hP.out]; rfl, chain2 hbx hb2⟩
theorem refput_any (k : Int) (s : ByteArray) (hs : s.size ≤ 9223372036854775807) (w : World) :
    Calls Tryd.prog 9 #[.agg #[.int .i64 k, .string s]] w fun e w' => e = .returned (.tuple #[.string (putS k s), .int .i64 (putE k s)]) ∧ Below w.heap.size w w' := by
  unfold putS putE
  by_cases h1 : k < 1
  · rw [if_pos (Or.inl h1), if_pos (Or.inl h1)]
    exact refput_low k s h1 w
  · by_cases h2 : 255 < k
    · rw [if_pos (Or.inr h2), if_pos (Or.inr h2)]
      exact refput_high k s h2 w
    · have hn : ¬ (k < 1 ∨ 255 < k) := by omega
      rw [if_neg hn, if_neg hn]
      by_cases h3 : 65536 < s.size
      · rw [if_pos h3, if_pos h3]
        exact refput_long k s (by omega) (by omega) h3 hs w
      · rw [if_neg h3, if_neg h3]
        obtain ⟨k, rfl⟩ := Int.eq_ofNat_of_zero_le (show 0 ≤ k by omega)
        exact refput_ok k s (by omega) (by omega) (by omega) w
end Frm
end Go.Proofs.YtcjfnkgjjhlbnaaDoor
