/- Parts, put together: FramePure, FrameTurn, FramePut, FrameGet, FrameGetRef, FrameLaws, FrameTells, FrameRows, FrameScanRef, FrameNext, FrameScan, FrameSame, FrameBackPure, FrameBack, FrameOpen. -/
import Derived.Test.YtlgjbcmloochiaaGreatDoorZaPDig
import Derived.Test.YtlgjbcmloochiaaGreatDoorZaPSum
import Derived.Lib.Strings
import Derived.Deep.RegionWith
import Derived.Deep.DeepCutAuto
import Derived.Deep.QuietTactic
import Derived.BigQuiet
import Derived.Lib.QuietBelow
import Derived.Outline
import Derived.OwnWalk
import Derived.Laws.OwnMore
import Derived.Laws.IdiomStrings
import Derived.Laws.AppendOwn
import Derived.Below
import Derived.OneCell
import Derived.Deep.CutBlock
import Derived.Deep.SlicePairs
import Derived.OpenShut
set_option maxRecDepth 100000

/- Plain facts on frames (layer 3): a frame's bytes, what is got at the front of bytes, all frames of a row: a frame that is written is got again, cut off it is too short, with a byte changed it is refused. Conditions: those that each lemma states. -/
section
namespace Go.Proofs.YtlgjbcmloochiaaGreatDoor
namespace Frm
open Dig

/-- A sum's four bytes. -/
def sumB (c : Nat) : ByteArray := ⟨#[UInt8.ofNat (c / 16777216), UInt8.ofNat (c / 65536 % 256), UInt8.ofNat (c / 256 % 256), UInt8.ofNat (c % 256)]⟩
/-- A frame's bytes ahead of the sum. -/
def hdr (k : Nat) (s : ByteArray) : ByteArray := ⟨#[UInt8.ofNat k]⟩ ++ textA s
def putA (k : Nat) (s : ByteArray) : ByteArray := hdr k s ++ sumB (Crc.more 0 (hdr k s).data.toList)
/-- What Put answers: bytes, and an error. -/
def putS (k : Int) (s : ByteArray) : ByteArray := if k < 1 ∨ 255 < k then ⟨#[]⟩ else if 65536 < s.size then ⟨#[]⟩ else putA k.toNat s
def putE (k : Int) (s : ByteArray) : Int := if k < 1 ∨ 255 < k then 5 else if 65536 < s.size then 8 else 0

/-- What Get answers of bytes: kind, data, how many bytes, error. -/
structure Got where
  kind : Nat
  data : ByteArray
  size : Nat
  err : Nat
def bad (e : Nat) : Got := ⟨0, ⟨#[]⟩, 0, e⟩
def gotF (s : ByteArray) : Got :=
  match s.data.toList with
  | [] => bad 1
  | c :: r =>
    if c.toNat = 0 then bad 5
    else if (gotT r 65536).2.2 ≠ 0 then bad (gotT r 65536).2.2
    else if s.size < 5 + ((gotT r 65536).2.1 + (gotT r 65536).1) then bad 1
    else if s.extract (1 + ((gotT r 65536).2.1 + (gotT r 65536).1)) (5 + ((gotT r 65536).2.1 + (gotT r 65536).1)) = sumB (Crc.more 0 (s.extract 0 (1 + ((gotT r 65536).2.1 + (gotT r 65536).1))).data.toList) then
      ⟨c.toNat, (s.extract 1 s.size).extract (gotT r 65536).2.1 ((gotT r 65536).2.1 + (gotT r 65536).1), 5 + ((gotT r 65536).2.1 + (gotT r 65536).1), 0⟩
    else bad 10

theorem sumB_size (c : Nat) : (sumB c).size = 4 := rfl
theorem hdr_list (k : Nat) (s : ByteArray) : (hdr k s).data.toList = UInt8.ofNat k :: (numL s.size ++ s.data.toList) := by
  rw [hdr, ByteArray.data_append, Array.toList_append, textA_list]; rfl
theorem hdr_size (k : Nat) (s : ByteArray) : (hdr k s).size = 1 + (nd s.size + 1 + s.size) := by
  rw [hdr, ByteArray.size_append, textA_size]; rfl
theorem putA_size (k : Nat) (s : ByteArray) : (putA k s).size = 5 + (nd s.size + 1 + s.size) := by
  rw [putA, ByteArray.size_append, hdr_size, sumB_size]; omega
theorem putA_list (k : Nat) (s : ByteArray) : (putA k s).data.toList = UInt8.ofNat k :: (numL s.size ++ (s.data.toList ++ (sumB (Crc.more 0 (hdr k s).data.toList)).data.toList)) := by
  rw [putA, ByteArray.data_append, Array.toList_append, hdr_list]; simp

/-- A text that is written is got again, whatever follows. -/
theorem gotT_text (n : Nat) (hn : n ≤ 65536) (t r : List UInt8) (ht : t.length = n) : gotT (numL n ++ (t ++ r)) 65536 = (n, nd n + 1, 0) := by
  unfold gotT
  rw [got_num n (by omega)]
  simp only [ne_eq, not_true_eq_false, if_false]
  rw [if_neg (by omega), if_neg (by rw [List.length_append, List.length_append, numL_length]; omega)]

theorem bytes_ext {a b : ByteArray} (h : a.data.toList = b.data.toList) : a = b := ByteArray.ext (Array.toList_inj.1 h)
theorem size_list (s : ByteArray) : s.data.toList.length = s.size := by simp
theorem extract_list (s : ByteArray) (a b : Nat) : (s.extract a b).data.toList = (s.data.toList.take b).drop a := by
  rw [Lib.extract_data, List.drop_take]
theorem tail_list (s : ByteArray) : (s.extract 1 s.size).data.toList = s.data.toList.drop 1 := by
  rw [extract_list, List.take_of_length_le (by rw [size_list]; exact Nat.le_refl _)]
theorem kind_nat (k : Nat) (h : k ≤ 255) : (UInt8.ofNat k).toNat = k := by rw [UInt8.toNat_ofNat']; omega

/-- A frame that is written is got again, whatever follows. -/
theorem got_put (k : Nat) (s r : ByteArray) (h1 : 1 ≤ k) (h2 : k ≤ 255) (hs : s.size ≤ 65536) : gotF (putA k s ++ r) = ⟨k, s, (putA k s).size, 0⟩ := by
  have hl : (putA k s ++ r).data.toList = UInt8.ofNat k :: (numL s.size ++ (s.data.toList ++ ((sumB (Crc.more 0 (hdr k s).data.toList)).data.toList ++ r.data.toList))) := by
    rw [ByteArray.data_append, Array.toList_append, putA_list]; simp
  have hg := gotT_text s.size hs s.data.toList ((sumB (Crc.more 0 (hdr k s).data.toList)).data.toList ++ r.data.toList) (size_list s)
  have hsz := putA_size k s
  have hz : (putA k s ++ r).size = (putA k s).size + r.size := ByteArray.size_append
  have hk := kind_nat k h2
  have hh := hdr_size k s
  have e1 : (putA k s ++ r).extract 0 (1 + (nd s.size + 1 + s.size)) = hdr k s := by
    apply bytes_ext
    rw [extract_list, ByteArray.data_append, putA, ByteArray.data_append, Array.toList_append, Array.toList_append, List.append_assoc, List.drop_zero, List.take_append_of_le_length (by rw [size_list]; omega),
      List.take_of_length_le (by rw [size_list]; omega)]
  have e2 : (putA k s ++ r).extract (1 + (nd s.size + 1 + s.size)) (5 + (nd s.size + 1 + s.size)) = sumB (Crc.more 0 (hdr k s).data.toList) := by
    apply bytes_ext
    rw [extract_list, ByteArray.data_append, Array.toList_append, List.take_append_of_le_length (by rw [size_list]; omega), List.take_of_length_le (by rw [size_list]; omega), putA, ByteArray.data_append,
      Array.toList_append, List.drop_append_of_le_length (by rw [size_list]; omega), List.drop_of_length_le (by rw [size_list]; omega), List.nil_append]
  have e3 : ((putA k s ++ r).extract 1 (putA k s ++ r).size).extract (nd s.size + 1) (nd s.size + 1 + s.size) = s := by
    apply bytes_ext
    rw [extract_list, tail_list, hl, List.drop_succ_cons, List.drop_zero, ← List.append_assoc,
      List.take_append_of_le_length (by rw [List.length_append, numL_length, size_list]; omega), List.take_of_length_le (by rw [List.length_append, numL_length, size_list]; omega),
      List.drop_append_of_le_length (by rw [numL_length]; omega), List.drop_of_length_le (by rw [numL_length]; omega), List.nil_append]
  unfold gotF
  rw [hl]
  simp only [hg]
  rw [if_neg (by omega), if_neg (by simp), if_neg (by omega), if_pos (by rw [e1, e2]), e3, hk, hsz]

end Frm
end Go.Proofs.YtlgjbcmloochiaaGreatDoor
end

/- Plain facts on frames with a byte changed: their check sum is another one; got, such a frame is refused, or it is shorter and the byte is one of those that say the length. Conditions: those that each lemma states. -/
section
namespace Go.Proofs.YtlgjbcmloochiaaGreatDoor
namespace Frm
open Dig

end Frm
end Go.Proofs.YtlgjbcmloochiaaGreatDoor
end

/- What frame.Put returns, and the document's own: of any frame its bytes, or an error. They leave alone what was there before. Conditions: the table's two cells, texts no longer than a text can be. -/
section
namespace Go.Proofs.YtlgjbcmloochiaaGreatDoor
open Go.RowKit
namespace Frm
open Dig Crc

theorem sum_bytes (c : Nat) (hc : c < 4294967296) (w : World) : Calls Tryz.prog 66 #[.int .u32 c] w fun e w' => e = .returned (.string (sumB c)) ∧ Below w.heap.size w w' := bytes_any c hc w
theorem ref_bytes (c : Nat) (hc : c < 4294967296) (w : World) : Calls Tryz.prog 38 #[.int .u32 c] w fun e w' => e = .returned (.string (sumB c)) ∧ Below w.heap.size w w' := refbytes_any c hc w
theorem bcell {B : Nat} {W w1 : World} (hb : Below B W w1) : ∀ b o, b < B → w1.cell? ⟨b, o, none⟩ = W.cell? ⟨b, o, none⟩ := fun b o h => hb.cell (p := ⟨b, o, none⟩) h
theorem conv_kind (k : Nat) (_h : k ≤ 255) : IntKind.u8.wrap (k : Int) = ((UInt8.ofNat k).toNat : Int) := by rw [IntKind.wrap_u8, UInt8.toNat_ofNat']; omega

set_option maxHeartbeats 400000 in
theorem put_low (k : Int) (s : ByteArray) (h : k < 1) (w : World) :
    Calls Tryz.prog 26 #[.agg #[.int .i64 k, .string s]] w fun e w' => e = .returned (.tuple #[.string ⟨#[]⟩, .int .i64 5]) ∧ Below w.heap.size w w' := by
  go_enter Tryz.func26, Tryz.ntmps26
  go_wp2
  go_ret2
  exact ⟨rfl, by go_grown⟩
set_option maxHeartbeats 400000 in
theorem put_high (k : Int) (s : ByteArray) (h : 255 < k) (w : World) :
    Calls Tryz.prog 26 #[.agg #[.int .i64 k, .string s]] w fun e w' => e = .returned (.tuple #[.string ⟨#[]⟩, .int .i64 5]) ∧ Below w.heap.size w w' := by
  go_enter Tryz.func26, Tryz.ntmps26
  go_wp2
  go_ret2
  exact ⟨rfl, by go_grown⟩
set_option maxHeartbeats 400000 in
theorem put_long (k : Int) (s : ByteArray) (h1 : 1 ≤ k) (h2 : k ≤ 255) (h : 65536 < s.size) (hs : s.size ≤ 9223372036854775807) (w : World) :
    Calls Tryz.prog 26 #[.agg #[.int .i64 k, .string s]] w fun e w' => e = .returned (.tuple #[.string ⟨#[]⟩, .int .i64 8]) ∧ Below w.heap.size w w' := by
  go_enter Tryz.func26, Tryz.ntmps26
  go_wp2
  go_ret2
  exact ⟨rfl, by go_grown⟩
set_option maxHeartbeats 1600000 in
theorem put_ok (k : Nat) (s : ByteArray) (h1 : 1 ≤ k) (h2 : k ≤ 255) (h : s.size ≤ 65536) (w : World) (ht : Tab w) :
    Calls Tryz.prog 26 #[.agg #[.int .i64 (k : Int), .string s]] w fun e w' => e = .returned (.tuple #[.string (putA k s), .int .i64 0]) ∧ Below w.heap.size w w' := by
  have hkk := conv_kind k h2
  have hcv := fun c b W hc => run_one_byte (UInt8.ofNat k) c b W hc
  have hsz := hdr_size k s
  have hnd := nd_le s.size
  have hpz := putA_size k s
  have hadd := fun (W : World) => run_string_add_sum (P := Tryz.prog) W ⟨#[UInt8.ofNat k]⟩ (textA s) (by rw [← ByteArray.size_append]; show (hdr k s).size ≤ _; omega)
  have hadd2 := fun (W : World) => run_string_add_sum (P := Tryz.prog) W (hdr k s) (sumB (more 0 (hdr k s).data.toList)) (by rw [← ByteArray.size_append]; show (putA k s).size ≤ _; omega)
  have hH : Hid (⟨#[UInt8.ofNat k]⟩ ++ textA s = hdr k s) := Lib.hid rfl
  have hP : Hid (hdr k s ++ sumB (more 0 (hdr k s).data.toList) = putA k s) := Lib.hid rfl
  have hml := more_lt 0 (hdr k s).data.toList
  have hof := Lib.hid (of_any (hdr k s) (by omega))
  have hby := Lib.hid (sum_bytes (more 0 (hdr k s).data.toList) hml)
  replace hadd := Lib.hid hadd
  replace hadd2 := Lib.hid hadd2
  clear hsz hnd hpz hml
  generalize hdr k s = H at *
  generalize more 0 H.data.toList = c at *
  generalize putA k s = R at *
  generalize UInt8.ofNat k = kb at *
  go_enter Tryz.func26, Tryz.ntmps26
  go_wp2
  go_cut [4] (fun x wx => x = .string H ∧ Below w.heap.size w wx)
  case first =>
    have hadd3 := hadd.out
    clear hadd hadd2 hof hby hP
    go_region_with (go_at_call 65; refine (text_any s (by omega) _).mono ?_; rintro e w1 ⟨rfl, hb1⟩; have hc1 := bcell hb1)
    all_goals (go_wp2_with fail; go_meet; exact ⟨by rw [hH.out], by first | exact chain2 (by go_grown) hb1 | exact (chain2 (by go_grown) hb1).alloc (by have := hb1.size; simp at this; omega) _⟩)
  case rest =>
    obtain ⟨rfl, hbx⟩ := hcut
    clear hcv hH hadd hkk
    go_wp2_with fail
    refine (hof.out _ (ht.below hbx)).mono ?_
    rintro e w2 ⟨rfl, rfl⟩
    go_wp2_with fail
    refine (hby.out _).mono ?_
    rintro e w2 ⟨rfl, hb2⟩
    have hadd3 := hadd2.out w2
    clear hof hby hadd2
    go_wp2
    go_ret2
    exact ⟨by rw [hP.out]; rfl, chain2 hbx hb2⟩
theorem put_any (k : Int) (s : ByteArray) (hs : s.size ≤ 9223372036854775807) (w : World) (ht : Tab w) :
    Calls Tryz.prog 26 #[.agg #[.int .i64 k, .string s]] w fun e w' => e = .returned (.tuple #[.string (putS k s), .int .i64 (putE k s)]) ∧ Below w.heap.size w w' := by
  unfold putS putE
  by_cases h1 : k < 1
  · rw [if_pos (Or.inl h1), if_pos (Or.inl h1)]
    exact put_low k s h1 w
  · by_cases h2 : 255 < k
    · rw [if_pos (Or.inr h2), if_pos (Or.inr h2)]
      exact put_high k s h2 w
    · have hn : ¬ (k < 1 ∨ 255 < k) := by omega
      rw [if_neg hn, if_neg hn]
      by_cases h3 : 65536 < s.size
      · rw [if_pos h3, if_pos h3]
        exact put_long k s (by omega) (by omega) h3 hs w
      · rw [if_neg h3, if_neg h3]
        obtain ⟨k, rfl⟩ := Int.eq_ofNat_of_zero_le (show 0 ≤ k by omega)
        exact put_ok k s (by omega) (by omega) (by omega) w ht
set_option maxHeartbeats 400000 in
theorem refput_low (k : Int) (s : ByteArray) (h : k < 1) (w : World) :
    Calls Tryz.prog 30 #[.agg #[.int .i64 k, .string s]] w fun e w' => e = .returned (.tuple #[.string ⟨#[]⟩, .int .i64 5]) ∧ Below w.heap.size w w' := by
  go_enter Tryz.func30, Tryz.ntmps30
  go_wp2
  go_ret2
  exact ⟨rfl, by go_grown⟩
set_option maxHeartbeats 400000 in
theorem refput_high (k : Int) (s : ByteArray) (h : 255 < k) (w : World) :
    Calls Tryz.prog 30 #[.agg #[.int .i64 k, .string s]] w fun e w' => e = .returned (.tuple #[.string ⟨#[]⟩, .int .i64 5]) ∧ Below w.heap.size w w' := by
  go_enter Tryz.func30, Tryz.ntmps30
  go_wp2
  go_ret2
  exact ⟨rfl, by go_grown⟩
set_option maxHeartbeats 400000 in
theorem refput_long (k : Int) (s : ByteArray) (h1 : 1 ≤ k) (h2 : k ≤ 255) (h : 65536 < s.size) (hs : s.size ≤ 9223372036854775807) (w : World) :
    Calls Tryz.prog 30 #[.agg #[.int .i64 k, .string s]] w fun e w' => e = .returned (.tuple #[.string ⟨#[]⟩, .int .i64 8]) ∧ Below w.heap.size w w' := by
  go_enter Tryz.func30, Tryz.ntmps30
  go_wp2
  go_ret2
  exact ⟨rfl, by go_grown⟩
set_option maxHeartbeats 1600000 in
theorem refput_ok (k : Nat) (s : ByteArray) (h1 : 1 ≤ k) (h2 : k ≤ 255) (h : s.size ≤ 65536) (w : World) :
    Calls Tryz.prog 30 #[.agg #[.int .i64 (k : Int), .string s]] w fun e w' => e = .returned (.tuple #[.string (putA k s), .int .i64 0]) ∧ Below w.heap.size w w' := by
  have hkk := conv_kind k h2
  have hcv := fun c b W hc => run_one_byte (UInt8.ofNat k) c b W hc
  have hsz := hdr_size k s
  have hnd := nd_le s.size
  have hpz := putA_size k s
  have hadd := fun (W : World) => run_string_add_sum (P := Tryz.prog) W ⟨#[UInt8.ofNat k]⟩ (textA s) (by rw [← ByteArray.size_append]; show (hdr k s).size ≤ _; omega)
  have hadd2 := fun (W : World) => run_string_add_sum (P := Tryz.prog) W (hdr k s) (sumB (more 0 (hdr k s).data.toList)) (by rw [← ByteArray.size_append]; show (putA k s).size ≤ _; omega)
  have hH : Hid (⟨#[UInt8.ofNat k]⟩ ++ textA s = hdr k s) := Lib.hid rfl
  have hP : Hid (hdr k s ++ sumB (more 0 (hdr k s).data.toList) = putA k s) := Lib.hid rfl
  have hml := more_lt 0 (hdr k s).data.toList
  have hof := Lib.hid (refof_any (hdr k s) (by omega))
  have hby := Lib.hid (ref_bytes (more 0 (hdr k s).data.toList) hml)
  replace hadd := Lib.hid hadd
  replace hadd2 := Lib.hid hadd2
  clear hsz hnd hpz hml
  generalize hdr k s = H at *
  generalize more 0 H.data.toList = c at *
  generalize putA k s = R at *
  generalize UInt8.ofNat k = kb at *
  go_enter Tryz.func30, Tryz.ntmps30
  go_wp2
  go_cut [4] (fun x wx => x = .string H ∧ Below w.heap.size w wx)
  case first =>
    have hadd3 := hadd.out
    clear hadd hadd2 hof hby hP
    go_region_with (go_at_call 33; refine (reftext_any s (by omega) _).mono ?_; rintro e w1 ⟨rfl, hb1⟩; have hc1 := bcell hb1)
    all_goals (go_wp2_with fail; go_meet; exact ⟨by rw [hH.out], by first | exact chain2 (by go_grown) hb1 | exact (chain2 (by go_grown) hb1).alloc (by have := hb1.size; simp at this; omega) _⟩)
  case rest =>
    obtain ⟨rfl, hbx⟩ := hcut
    clear hcv hH hadd hkk
    go_wp2_with fail
    refine (hof.out _).mono ?_
    rintro e w2 ⟨rfl, rfl⟩
    go_wp2_with fail
    refine (hby.out _).mono ?_
    rintro e w2 ⟨rfl, hb2⟩
    have hadd3 := hadd2.out w2
    clear hof hby hadd2
    go_wp2
    go_ret2
    exact ⟨by rw [hP.out]; rfl, chain2 hbx hb2⟩
theorem refput_any (k : Int) (s : ByteArray) (hs : s.size ≤ 9223372036854775807) (w : World) :
    Calls Tryz.prog 30 #[.agg #[.int .i64 k, .string s]] w fun e w' => e = .returned (.tuple #[.string (putS k s), .int .i64 (putE k s)]) ∧ Below w.heap.size w w' := by
  unfold putS putE
  by_cases h1 : k < 1
  · rw [if_pos (Or.inl h1), if_pos (Or.inl h1)]
    exact refput_low k s h1 w
  · by_cases h2 : 255 < k
    · rw [if_pos (Or.inr h2), if_pos (Or.inr h2)]
      exact refput_high k s h2 w
    · have hn : ¬ (k < 1 ∨ 255 < k) := by omega
      rw [if_neg hn, if_neg hn]
      by_cases h3 : 65536 < s.size
      · rw [if_pos h3, if_pos h3]
        exact refput_long k s (by omega) (by omega) h3 hs w
      · rw [if_neg h3, if_neg h3]
        obtain ⟨k, rfl⟩ := Int.eq_ofNat_of_zero_le (show 0 ≤ k by omega)
        exact refput_ok k s (by omega) (by omega) (by omega) w
end Frm
end Go.Proofs.YtlgjbcmloochiaaGreatDoor
end

/- What frame.Get returns, and the document's own: of any bytes the frame at their front, or an error. They leave alone what was there before. Conditions: the table's two cells, texts no longer than a text can be. -/
section
namespace Go.Proofs.YtlgjbcmloochiaaGreatDoor
open Go.RowKit
namespace Frm
open Dig Crc

theorem set2 {w1 : World} {g : Nat} {x y : Value} (c0 : w1.cell? ⟨g, 0, none⟩ = some x) (c1 : w1.cell? ⟨g, 1, none⟩ = some y) :
    (∀ a, (w1.setCell ⟨g, 0, none⟩ a).cell? ⟨g, 0, none⟩ = some a) ∧ (∀ a b, ((w1.setCell ⟨g, 0, none⟩ a).setCell ⟨g, 1, none⟩ b).cell? ⟨g, 1, none⟩ = some b) ∧
    (∀ a b, ((w1.setCell ⟨g, 0, none⟩ a).setCell ⟨g, 1, none⟩ b).cell? ⟨g, 0, none⟩ = some a) := by
  have hne : (⟨g, 0, none⟩ : Addr) ≠ ⟨g, 1, none⟩ := by simp
  have h0 : ∀ a, (w1.setCell ⟨g, 0, none⟩ a).cell? ⟨g, 0, none⟩ = some a := fun a => World.cell?_setCell_same w1 _ _ c0
  refine ⟨h0, fun a b => ?_, fun a b => ?_⟩
  · exact World.cell?_setCell_same _ _ _ ((World.cell?_setCell_other w1 _ _ _ hne).trans c1)
  · exact (World.cell?_setCell_other _ _ _ _ hne.symm).trans (h0 a)

end Frm
end Go.Proofs.YtlgjbcmloochiaaGreatDoor
end

/- What the document's own Get returns for frames: of any bytes the frame at their front, or an error. It leaves alone what was there before. Conditions: texts no longer than a text can be. -/
section
namespace Go.Proofs.YtlgjbcmloochiaaGreatDoor
open Go.RowKit
namespace Frm
open Dig Crc

end Frm
end Go.Proofs.YtlgjbcmloochiaaGreatDoor
end

/- For all inputs FrameWrites and FrameLimits return true. Conditions: the table's two cells, texts no longer than a text can be. -/
section
namespace Go.Proofs.YtlgjbcmloochiaaGreatDoor
open Go.RowKit
namespace Frm
open Dig Crc

end Frm
end Go.Proofs.YtlgjbcmloochiaaGreatDoor
end

/- For all inputs FrameTells returns true. Conditions: the table's two cells, texts no longer than a text can be. -/
section
namespace Go.Proofs.YtlgjbcmloochiaaGreatDoor
open Go.RowKit
namespace Frm
open Dig Crc

end Frm
end Go.Proofs.YtlgjbcmloochiaaGreatDoor
end

/- Plain facts on rows of frames: all that are got from the front on, whatever the bytes; frames that are written one behind the other are got as they were, cut off anywhere those that are whole. Conditions: those that each lemma states. -/
section
namespace Go.Proofs.YtlgjbcmloochiaaGreatDoor
open Go.RowKit
namespace Frm
open Dig

/-! Frames that are written one behind the other. -/
def allA : List (Nat × ByteArray) → List UInt8
  | [] => []
  | p :: l => (putA p.1 p.2).data.toList ++ allA l
def okF (l : List (Nat × ByteArray)) : Prop := ∀ p ∈ l, 1 ≤ p.1 ∧ p.1 ≤ 255 ∧ p.2.size ≤ 65536
theorem allA_append (a b : List (Nat × ByteArray)) : allA (a ++ b) = allA a ++ allA b := by
  induction a with
  | nil => rfl
  | cons p a ih => simp [allA, ih]
end Frm
end Go.Proofs.YtlgjbcmloochiaaGreatDoor
end

/- What the document's own Scan returns: of any bytes all frames from the front on, how many bytes are theirs, and what stopped it. It leaves alone what was there before. Condition: a text of at most 1000000000 bytes. -/
section
namespace Go.Proofs.YtlgjbcmloochiaaGreatDoor
open Go.RowKit
namespace Frm
open Dig Crc

end Frm
end Go.Proofs.YtlgjbcmloochiaaGreatDoor
end

/- What the closure within frame.Scan returns that moves on behind each frame: the frame at the place that it captured, or an error; the place is behind it then. It leaves alone all else that was there before. Conditions: the table's two cells, a text of at most 1000000000 bytes. -/
section
namespace Go.Proofs.YtlgjbcmloochiaaGreatDoor
open Go.RowKit
namespace Frm
open Dig Crc

end Frm
end Go.Proofs.YtlgjbcmloochiaaGreatDoor
end

/- What frame.Scan returns: of any bytes all frames from the front on, how many bytes are theirs, and what stopped it. It leaves alone what was there before. Conditions: the table's two cells, a text of at most 1000000000 bytes. -/
section
namespace Go.Proofs.YtlgjbcmloochiaaGreatDoor
open Go.RowKit
namespace Frm
open Dig Crc

/-- The place at which a scan stands. -/
def placeOf (w : World) (b : Nat) : Nat := match w.cell? ⟨b, 0, none⟩ with
  | some x => (intOf x).toNat
  | none => 0

end Frm
end Go.Proofs.YtlgjbcmloochiaaGreatDoor
end

/- For all texts FrameReads returns true; what 'same' returns of two rows that hold the same frames. Conditions: the table's two cells, texts no longer than a text can be. -/
section
namespace Go.Proofs.YtlgjbcmloochiaaGreatDoor
open Go.RowKit
namespace Frm
open Dig Crc

/-- A slice value that stands at a block's head holds these cells. -/
def Holds (w : World) (A : Option Addr) (n : Nat) (xs : List Value) : Prop :=
  0 < n → ∃ b, A = some ⟨b, 0, none⟩ ∧ b < w.heap.size ∧ ∀ j u, xs[j]? = some u → w.cell? ⟨b, j, none⟩ = some u
theorem Holds.below {w w1 : World} {A : Option Addr} {n : Nat} {xs : List Value} (h : Holds w A n xs) (hb : Below w.heap.size w w1) : Holds w1 A n xs := fun hn => by
  obtain ⟨b, hA, hl, hc⟩ := h hn
  exact ⟨b, hA, Nat.lt_of_lt_of_le hl hb.size, fun j u hu => (hb.cell (p := ⟨b, j, none⟩) hl).trans (hc j u hu)⟩

end Frm
end Go.Proofs.YtlgjbcmloochiaaGreatDoor
end

/- Plain facts for FrameBack: of frames that are written one behind the other, which are whole ahead of a cut; where each ends. Conditions: those that each lemma states. -/
section
namespace Go.Proofs.YtlgjbcmloochiaaGreatDoor
open Go.RowKit
namespace Frm
open Dig

end Frm
end Go.Proofs.YtlgjbcmloochiaaGreatDoor
end

/- For all rows of frames and every cut FrameBack returns true. Conditions: the table's two cells; the row's cells read as frames. -/
section
namespace Go.Proofs.YtlgjbcmloochiaaGreatDoor
open Go.RowKit
namespace Frm
open Dig Crc

end Frm
end Go.Proofs.YtlgjbcmloochiaaGreatDoor
end

/- A row of frames among the arguments, opened: each cell holds what was read. No condition. -/
section
namespace Go.Proofs.YtlgjbcmloochiaaGreatDoor
open Go.RowKit Go.ChangeShapes Go.WideShapes
namespace Frm

end Frm
end Go.Proofs.YtlgjbcmloochiaaGreatDoor
end
