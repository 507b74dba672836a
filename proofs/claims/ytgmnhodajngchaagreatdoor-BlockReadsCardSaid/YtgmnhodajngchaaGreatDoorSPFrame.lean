/- Parts: PFrame. -/
import Derived.Test.YtgmnhodajngchaaGreatDoorSPDig
import Derived.Test.YtgmnhodajngchaaGreatDoorSPSum
import Derived.Lib.Strings
import Derived.Deep.RegionWith
import Derived.Deep.DeepCutAuto
import Derived.Deep.QuietTactic
import Derived.BigQuiet
import Derived.Lib.QuietBelow
import Derived.Outline
import Derived.OwnWalk
import Derived.Laws.OwnMore
import Derived.Laws.IdiomStrings
import Derived.Laws.AppendOwn
import Derived.Below
import Derived.OneCell
import Derived.Deep.CutBlock
import Derived.Deep.SlicePairs
import Derived.OpenShut
set_option maxRecDepth 100000
set_option linter.unusedVariables false
namespace Go.Proofs.YtgmnhodajngchaaGreatDoor
section
section
namespace Frm
open Dig
def sumB (c : Nat) : ByteArray := ⟨#[UInt8.ofNat (c / 16777216), UInt8.ofNat (c / 65536 % 256), UInt8.ofNat (c / 256 % 256), UInt8.ofNat (c % 256)]⟩
def hdr (k : Nat) (s : ByteArray) : ByteArray := ⟨#[UInt8.ofNat k]⟩ ++ textA s
def putA (k : Nat) (s : ByteArray) : ByteArray := hdr k s ++ sumB (Crc.more 0 (hdr k s).data.toList)
def putS (k : Int) (s : ByteArray) : ByteArray := if k < 1 \/ 255 < k then ⟨#[]⟩ else if 65536 < s.size then ⟨#[]⟩ else putA k.toNat s
def putE (k : Int) (s : ByteArray) : Int := if k < 1 \/ 255 < k then 5 else if 65536 < s.size then 8 else 0
structure Got where
 kind : Nat
 data : ByteArray
 size : Nat
 err : Nat
def bad (e : Nat) : Got := ⟨0, ⟨#[]⟩, 0, e⟩
def gotF (s : ByteArray) : Got :=
 match s.data.toList with
 | [] => bad 1
 | c :: r =>
  if c.toNat = 0 then bad 5
  else if (gotT r 65536).2.2 ≠ 0 then bad (gotT r 65536).2.2
  else if s.size < 5 + ((gotT r 65536).2.1 + (gotT r 65536).1) then bad 1
  else if s.extract (1 + ((gotT r 65536).2.1 + (gotT r 65536).1)) (5 + ((gotT r 65536).2.1 + (gotT r 65536).1)) = sumB (Crc.more 0 (s.extract 0 (1 + ((gotT r 65536).2.1 + (gotT r 65536).1))).data.toList) then
   ⟨c.toNat, (s.extract 1 s.size).extract (gotT r 65536).2.1 ((gotT r 65536).2.1 + (gotT r 65536).1), 5 + ((gotT r 65536).2.1 + (gotT r 65536).1), 0⟩
  else bad 10
theorem sumB_size (c : Nat) : (sumB c).size = 4 := rfl
theorem hdr_list (k : Nat) (s : ByteArray) : (hdr k s).data.toList = UInt8.ofNat k :: (numL s.size ++ s.data.toList) := by
 rw [hdr, ByteArray.data_append, Array.toList_append, textA_list]; rfl
theorem hdr_size (k : Nat) (s : ByteArray) : (hdr k s).size = 1 + (nd s.size + 1 + s.size) := by
 rw [hdr, ByteArray.size_append, textA_size]; rfl
theorem putA_size (k : Nat) (s : ByteArray) : (putA k s).size = 5 + (nd s.size + 1 + s.size) := by
 rw [putA, ByteArray.size_append, hdr_size, sumB_size]; omega
theorem putA_list (k : Nat) (s : ByteArray) : (putA k s).data.toList = UInt8.ofNat k :: (numL s.size ++ (s.data.toList ++ (sumB (Crc.more 0 (hdr k s).data.toList)).data.toList)) := by
 rw [putA, ByteArray.data_append, Array.toList_append, hdr_list]; simp
theorem gotT_lt (l : List UInt8) (m : Int) : (gotT l m).2.1 + (gotT l m).1 <= l.length /\ (gotT l m).2.2 <= 8 := by
 have h := gotN_lt l
 unfold gotT
 split
 ·simp; omega
 ·split
  ·simp
  ·split
   ·simp
   ·simp; omega
theorem gotT_most (l : List UInt8) : (gotT l 65536).1 <= 65536 /\ (gotT l 65536).2.1 <= 9 := by
 have h := gotN_lt l
 unfold gotT
 split
 ·simp
 ·split
  ·simp
  ·split
   ·simp
   ·simp; omega
theorem gotT_text (n : Nat) (hn : n <= 65536) (t r : List UInt8) (ht : t.length = n) : gotT (numL n ++ (t ++ r)) 65536 = (n, nd n + 1, 0) := by
 unfold gotT
 rw [got_num n (by omega)]
 simp only [ne_eq, not_true_eq_false, if_false]
 rw [if_neg (by omega), if_neg (by rw [List.length_append, List.length_append, numL_length]; omega)]
theorem gotT_cut (n : Nat) (hn : n <= 65536) (t : List UInt8) (ht : t.length = n) (k : Nat) (hk : k < nd n + 1 + n) : gotT ((numL n ++ t).take k) 65536 = (0, 0, 1) := by
 by_cases h : k < nd n + 1
 ·rw [List.take_append_of_le_length (by rw [numL_length]; omega)]
  unfold gotT
  rw [got_cut n k h]
  rfl
 ·obtain ⟨j, rfl⟩ : ∃ j, k = (numL n).length + j := ⟨k - (numL n).length, by rw [numL_length]; omega⟩
  rw [List.take_length_add_append]
  unfold gotT
  rw [got_num n (by omega)]
  simp only [ne_eq, not_true_eq_false, if_false]
  rw [if_neg (by omega), if_pos (by rw [List.length_append, numL_length, List.length_take]; rw [numL_length] at hk; omega)]
theorem bytes_ext {a b : ByteArray} (h : a.data.toList = b.data.toList) : a = b := ByteArray.ext (Array.toList_inj.1 h)
theorem size_list (s : ByteArray) : s.data.toList.length = s.size := by simp
theorem extract_list (s : ByteArray) (a b : Nat) : (s.extract a b).data.toList = (s.data.toList.take b).drop a := by
 rw [Lib.extract_data, List.drop_take]
theorem tail_list (s : ByteArray) : (s.extract 1 s.size).data.toList = s.data.toList.drop 1 := by
 rw [extract_list, List.take_of_length_le (by rw [size_list]; exact Nat.le_refl _)]
theorem kind_nat (k : Nat) (h : k <= 255) : (UInt8.ofNat k).toNat = k := by rw [UInt8.toNat_ofNat']; omega
theorem got_put (k : Nat) (s r : ByteArray) (h1 : 1 <= k) (h2 : k <= 255) (hs : s.size <= 65536) : gotF (putA k s ++ r) = ⟨k, s, (putA k s).size, 0⟩ := by
 have hl : (putA k s ++ r).data.toList = UInt8.ofNat k :: (numL s.size ++ (s.data.toList ++ ((sumB (Crc.more 0 (hdr k s).data.toList)).data.toList ++ r.data.toList))) := by
  rw [ByteArray.data_append, Array.toList_append, putA_list]; simp
 have hg := gotT_text s.size hs s.data.toList ((sumB (Crc.more 0 (hdr k s).data.toList)).data.toList ++ r.data.toList) (size_list s)
 have hsz := putA_size k s
 have hz : (putA k s ++ r).size = (putA k s).size + r.size := ByteArray.size_append
 have hk := kind_nat k h2
 have hh := hdr_size k s
 have e1 : (putA k s ++ r).extract 0 (1 + (nd s.size + 1 + s.size)) = hdr k s := by
  apply bytes_ext
  rw [extract_list, ByteArray.data_append, putA, ByteArray.data_append, Array.toList_append, Array.toList_append, List.append_assoc, List.drop_zero, List.take_append_of_le_length (by rw [size_list]; omega),
   List.take_of_length_le (by rw [size_list]; omega)]
 have e2 : (putA k s ++ r).extract (1 + (nd s.size + 1 + s.size)) (5 + (nd s.size + 1 + s.size)) = sumB (Crc.more 0 (hdr k s).data.toList) := by
  apply bytes_ext
  rw [extract_list, ByteArray.data_append, Array.toList_append, List.take_append_of_le_length (by rw [size_list]; omega), List.take_of_length_le (by rw [size_list]; omega), putA, ByteArray.data_append,
   Array.toList_append, List.drop_append_of_le_length (by rw [size_list]; omega), List.drop_of_length_le (by rw [size_list]; omega), List.nil_append]
 have e3 : ((putA k s ++ r).extract 1 (putA k s ++ r).size).extract (nd s.size + 1) (nd s.size + 1 + s.size) = s := by
  apply bytes_ext
  rw [extract_list, tail_list, hl, List.drop_succ_cons, List.drop_zero, <- List.append_assoc,
   List.take_append_of_le_length (by rw [List.length_append, numL_length, size_list]; omega), List.take_of_length_le (by rw [List.length_append, numL_length, size_list]; omega),
   List.drop_append_of_le_length (by rw [numL_length]; omega), List.drop_of_length_le (by rw [numL_length]; omega), List.nil_append]
 unfold gotF
 rw [hl]
 simp only [hg]
 rw [if_neg (by omega), if_neg (by simp), if_neg (by omega), if_pos (by rw [e1, e2]), e3, hk, hsz]
theorem got_cutoff (k : Nat) (s : ByteArray) (h1 : 1 <= k) (h2 : k <= 255) (hs : s.size <= 65536) (n : Nat) (hn : n < (putA k s).size) : gotF ((putA k s).extract 0 n) = bad 1 := by
 have hsz := putA_size k s
 have hl : ((putA k s).extract 0 n).data.toList = (UInt8.ofNat k :: (numL s.size ++ (s.data.toList ++ (sumB (Crc.more 0 (hdr k s).data.toList)).data.toList))).take n := by
  rw [extract_list, putA_list, List.drop_zero]
 have hz : ((putA k s).extract 0 n).size = n := by
  rw [<- size_list, extract_list, List.drop_zero, List.length_take, size_list]; omega
 unfold gotF
 cases n with
 | zero => rw [hl]; rfl
 | succ n =>
  rw [hl, List.take_succ_cons]
  have hk := kind_nat k h2
  simp only
  rw [if_neg (by omega)]
  by_cases hc : n < nd s.size + 1 + s.size
  ·have e : (numL s.size ++ (s.data.toList ++ (sumB (Crc.more 0 (hdr k s).data.toList)).data.toList)).take n = (numL s.size ++ s.data.toList).take n := by
    rw [<- List.append_assoc, List.take_append_of_le_length (by rw [List.length_append, numL_length, size_list]; omega)]
   rw [e, gotT_cut s.size hs _ (size_list s) n hc]
   rfl
  ·have e : (numL s.size ++ (s.data.toList ++ (sumB (Crc.more 0 (hdr k s).data.toList)).data.toList)).take n = numL s.size ++ (s.data.toList ++ ((sumB (Crc.more 0 (hdr k s).data.toList)).data.toList.take (n - (nd s.size + 1 + s.size)))) := by
    rw [<- List.append_assoc, <- List.append_assoc, List.take_append, List.take_of_length_le (by rw [List.length_append, numL_length, size_list]; omega)]
    rw [List.length_append, numL_length, size_list]
   rw [e, gotT_text s.size hs _ _ (size_list s)]
   simp only [ne_eq, not_true_eq_false, if_false]
   rw [if_pos (by omega)]
theorem gotF_ok (s : ByteArray) (h : (gotF s).err = 0) : 0 < (gotF s).size /\ (gotF s).size <= s.size /\ (gotF s).kind <= 255 /\ (gotF s).data.size <= 65536 := by
 unfold gotF at h ⊢
 cases hl : s.data.toList with
 | nil => simp [hl, bad] at h
 | cons c r =>
  have hm := gotT_most r
  have hlt := c.toNat_lt
  simp only [hl] at h ⊢
  split at h
  ·simp [bad] at h
  ·rename_i h0
   rw [if_neg h0]
   split at h
   ·rename_i h1; exact absurd h h1
   ·rename_i h1
    rw [if_neg h1]
    split at h
    ·simp [bad] at h
    ·rename_i h2
     rw [if_neg h2]
     split at h
     ·rename_i h3
      rw [if_pos h3]
      refine ⟨by show 0 < 5 + _; omega, by show 5 + _ <= _; omega, by show c.toNat <= 255; omega, ?_⟩
      show ((s.extract 1 s.size).extract _ _).size <= 65536
      rw [ByteArray.size_extract]
      omega
     ·simp [bad] at h
theorem gotF_le (s : ByteArray) : (gotF s).err <= 10 := by
 unfold gotF
 cases hl : s.data.toList with
 | nil => simp [bad]
 | cons c r =>
  have hg := gotT_lt r 65536
  simp only
  repeat' split
  all_goals simp [bad]
  all_goals omega
end Frm
end
section
namespace Frm
open Dig
theorem gotF_parts (s : ByteArray) (h : (gotF s).err = 0) : ∃ m, (gotF s).size = m + 4 /\ m + 4 <= s.size /\ (s.extract m (m + 4)) = sumB (Crc.more 0 (s.extract 0 m).data.toList) /\
  (∀ r, s.data.toList.tail = r -> m = 1 + ((gotT r 65536).2.1 + (gotT r 65536).1)) := by
 unfold gotF at h ⊢
 cases hl : s.data.toList with
 | nil => simp [hl, bad] at h
 | cons c r =>
  simp only [hl] at h ⊢
  split at h
  ·simp [bad] at h
  ·rename_i h0
   rw [if_neg h0]
   split at h
   ·rename_i h1; exact absurd h h1
   ·rename_i h1
    rw [if_neg h1]
    split at h
    ·simp [bad] at h
    ·rename_i h2
     rw [if_neg h2]
     split at h
     ·rename_i h3
      rw [if_pos h3]
      refine ⟨1 + ((gotT r 65536).2.1 + (gotT r 65536).1), by show 5 + _ = _; omega, by omega, ?_, fun r' hr => by subst hr; rfl⟩
      rw [<- h3]
      congr 1
      omega
     ·simp [bad] at h
end Frm
end
section
open Go.RowKit
namespace Frm
open Dig Crc
theorem sum_bytes (c : Nat) (hc : c < 4294967296) (w : World) : Calls Tryz.prog 80 #[.int .u32 c] w fun e w' => e = .returned (.string (sumB c)) /\ Below w.heap.size w w' := bytes_any c hc w
theorem ref_bytes (c : Nat) (hc : c < 4294967296) (w : World) : Calls Tryz.prog 72 #[.int .u32 c] w fun e w' => e = .returned (.string (sumB c)) /\ Below w.heap.size w w' := refbytes_any c hc w
theorem bcell {B : Nat} {W w1 : World} (hb : Below B W w1) : ∀ b o, b < B -> w1.cell? ⟨b, o, none⟩ = W.cell? ⟨b, o, none⟩ := fun b o h => hb.cell (p := ⟨b, o, none⟩) h
theorem conv_kind (k : Nat) (_h : k <= 255) : IntKind.u8.wrap (k : Int) = ((UInt8.ofNat k).toNat : Int) := by rw [IntKind.wrap_u8, UInt8.toNat_ofNat']; omega
set_option maxHeartbeats 400000 in
theorem put_low (k : Int) (s : ByteArray) (h : k < 1) (w : World) :
  Calls Tryz.prog 32 #[.agg #[.int .i64 k, .string s]] w fun e w' => e = .returned (.tuple #[.string ⟨#[]⟩, .int .i64 5]) /\ Below w.heap.size w w' := by
 go_enter Tryz.func32, Tryz.ntmps32
 go_wp2
 go_ret2
 exact ⟨rfl, by go_grown⟩
set_option maxHeartbeats 400000 in
theorem put_high (k : Int) (s : ByteArray) (h : 255 < k) (w : World) :
  Calls Tryz.prog 32 #[.agg #[.int .i64 k, .string s]] w fun e w' => e = .returned (.tuple #[.string ⟨#[]⟩, .int .i64 5]) /\ Below w.heap.size w w' := by
 go_enter Tryz.func32, Tryz.ntmps32
 go_wp2
 go_ret2
 exact ⟨rfl, by go_grown⟩
set_option maxHeartbeats 400000 in
theorem put_long (k : Int) (s : ByteArray) (h1 : 1 <= k) (h2 : k <= 255) (h : 65536 < s.size) (hs : s.size <= 9223372036854775807) (w : World) :
  Calls Tryz.prog 32 #[.agg #[.int .i64 k, .string s]] w fun e w' => e = .returned (.tuple #[.string ⟨#[]⟩, .int .i64 8]) /\ Below w.heap.size w w' := by
 go_enter Tryz.func32, Tryz.ntmps32
 go_wp2
 go_ret2
 exact ⟨rfl, by go_grown⟩
set_option maxHeartbeats 1600000 in
theorem put_ok (k : Nat) (s : ByteArray) (h1 : 1 <= k) (h2 : k <= 255) (h : s.size <= 65536) (w : World) (ht : Tab w) :
  Calls Tryz.prog 32 #[.agg #[.int .i64 (k : Int), .string s]] w fun e w' => e = .returned (.tuple #[.string (putA k s), .int .i64 0]) /\ Below w.heap.size w w' := by
 have hkk := conv_kind k h2
 have hcv := fun c b W hc => run_one_byte (UInt8.ofNat k) c b W hc
 have hsz := hdr_size k s
 have hnd := nd_le s.size
 have hpz := putA_size k s
 have hadd := fun (W : World) => run_string_add_sum (P := Tryz.prog) W ⟨#[UInt8.ofNat k]⟩ (textA s) (by rw [<- ByteArray.size_append]; show (hdr k s).size <= _; omega)
 have hadd2 := fun (W : World) => run_string_add_sum (P := Tryz.prog) W (hdr k s) (sumB (more 0 (hdr k s).data.toList)) (by rw [<- ByteArray.size_append]; show (putA k s).size <= _; omega)
 have hH : Hid (⟨#[UInt8.ofNat k]⟩ ++ textA s = hdr k s) := Lib.hid rfl
 have hP : Hid (hdr k s ++ sumB (more 0 (hdr k s).data.toList) = putA k s) := Lib.hid rfl
 have hml := more_lt 0 (hdr k s).data.toList
 have hof := Lib.hid (of_any (hdr k s) (by omega))
 have hby := Lib.hid (sum_bytes (more 0 (hdr k s).data.toList) hml)
 replace hadd := Lib.hid hadd
 replace hadd2 := Lib.hid hadd2
 clear hsz hnd hpz hml
 generalize hdr k s = H at *
 generalize more 0 H.data.toList = c at *
 generalize putA k s = R at *
 generalize UInt8.ofNat k = kb at *
 go_enter Tryz.func32, Tryz.ntmps32
 go_wp2
 go_cut [4] (fun x wx => x = .string H /\ Below w.heap.size w wx)
 case first =>
  have hadd3 := hadd.out
  clear hadd hadd2 hof hby hP
  go_region_with (go_at_call 79; refine (text_any s (by omega) _).mono ?_; rintro e w1 ⟨rfl, hb1⟩; have hc1 := bcell hb1)
  all_goals (go_wp2_with fail; go_meet; exact ⟨by rw [hH.out], by first | exact chain2 (by go_grown) hb1 | exact (chain2 (by go_grown) hb1).alloc (by have := hb1.size; simp at this; omega) _⟩)
 case rest =>
  obtain ⟨rfl, hbx⟩ := hcut
  clear hcv hH hadd hkk
  go_wp2_with fail
  refine (hof.out _ (ht.below hbx)).mono ?_
  rintro e w2 ⟨rfl, rfl⟩
  go_wp2_with fail
  refine (hby.out _).mono ?_
  rintro e w2 ⟨rfl, hb2⟩
  have hadd3 := hadd2.out w2
  clear hof hby hadd2
  go_wp2
  go_ret2
  exact ⟨by rw [hP.out]; rfl, chain2 hbx hb2⟩
theorem put_any (k : Int) (s : ByteArray) (hs : s.size <= 9223372036854775807) (w : World) (ht : Tab w) :
  Calls Tryz.prog 32 #[.agg #[.int .i64 k, .string s]] w fun e w' => e = .returned (.tuple #[.string (putS k s), .int .i64 (putE k s)]) /\ Below w.heap.size w w' := by
 unfold putS putE
 by_cases h1 : k < 1
 ·rw [if_pos (Or.inl h1), if_pos (Or.inl h1)]
  exact put_low k s h1 w
 ·by_cases h2 : 255 < k
  ·rw [if_pos (Or.inr h2), if_pos (Or.inr h2)]
   exact put_high k s h2 w
  ·have hn : ¬ (k < 1 \/ 255 < k) := by omega
   rw [if_neg hn, if_neg hn]
   by_cases h3 : 65536 < s.size
   ·rw [if_pos h3, if_pos h3]
    exact put_long k s (by omega) (by omega) h3 hs w
   ·rw [if_neg h3, if_neg h3]
    obtain ⟨k, rfl⟩ := Int.eq_ofNat_of_zero_le (show 0 <= k by omega)
    exact put_ok k s (by omega) (by omega) (by omega) w ht
set_option maxHeartbeats 400000 in
theorem refput_low (k : Int) (s : ByteArray) (h : k < 1) (w : World) :
  Calls Tryz.prog 64 #[.agg #[.int .i64 k, .string s]] w fun e w' => e = .returned (.tuple #[.string ⟨#[]⟩, .int .i64 5]) /\ Below w.heap.size w w' := by
 go_enter Tryz.func64, Tryz.ntmps64
 go_wp2
 go_ret2
 exact ⟨rfl, by go_grown⟩
set_option maxHeartbeats 400000 in
theorem refput_high (k : Int) (s : ByteArray) (h : 255 < k) (w : World) :
  Calls Tryz.prog 64 #[.agg #[.int .i64 k, .string s]] w fun e w' => e = .returned (.tuple #[.string ⟨#[]⟩, .int .i64 5]) /\ Below w.heap.size w w' := by
 go_enter Tryz.func64, Tryz.ntmps64
 go_wp2
 go_ret2
 exact ⟨rfl, by go_grown⟩
set_option maxHeartbeats 400000 in
theorem refput_long (k : Int) (s : ByteArray) (h1 : 1 <= k) (h2 : k <= 255) (h : 65536 < s.size) (hs : s.size <= 9223372036854775807) (w : World) :
  Calls Tryz.prog 64 #[.agg #[.int .i64 k, .string s]] w fun e w' => e = .returned (.tuple #[.string ⟨#[]⟩, .int .i64 8]) /\ Below w.heap.size w w' := by
 go_enter Tryz.func64, Tryz.ntmps64
 go_wp2
 go_ret2
 exact ⟨rfl, by go_grown⟩
set_option maxHeartbeats 1600000 in
theorem refput_ok (k : Nat) (s : ByteArray) (h1 : 1 <= k) (h2 : k <= 255) (h : s.size <= 65536) (w : World) :
  Calls Tryz.prog 64 #[.agg #[.int .i64 (k : Int), .string s]] w fun e w' => e = .returned (.tuple #[.string (putA k s), .int .i64 0]) /\ Below w.heap.size w w' := by
 have hkk := conv_kind k h2
 have hcv := fun c b W hc => run_one_byte (UInt8.ofNat k) c b W hc
 have hsz := hdr_size k s
 have hnd := nd_le s.size
 have hpz := putA_size k s
 have hadd := fun (W : World) => run_string_add_sum (P := Tryz.prog) W ⟨#[UInt8.ofNat k]⟩ (textA s) (by rw [<- ByteArray.size_append]; show (hdr k s).size <= _; omega)
 have hadd2 := fun (W : World) => run_string_add_sum (P := Tryz.prog) W (hdr k s) (sumB (more 0 (hdr k s).data.toList)) (by rw [<- ByteArray.size_append]; show (putA k s).size <= _; omega)
 have hH : Hid (⟨#[UInt8.ofNat k]⟩ ++ textA s = hdr k s) := Lib.hid rfl
 have hP : Hid (hdr k s ++ sumB (more 0 (hdr k s).data.toList) = putA k s) := Lib.hid rfl
 have hml := more_lt 0 (hdr k s).data.toList
 have hof := Lib.hid (refof_any (hdr k s) (by omega))
 have hby := Lib.hid (ref_bytes (more 0 (hdr k s).data.toList) hml)
 replace hadd := Lib.hid hadd
 replace hadd2 := Lib.hid hadd2
 clear hsz hnd hpz hml
 generalize hdr k s = H at *
 generalize more 0 H.data.toList = c at *
 generalize putA k s = R at *
 generalize UInt8.ofNat k = kb at *
 go_enter Tryz.func64, Tryz.ntmps64
 go_wp2
 go_cut [4] (fun x wx => x = .string H /\ Below w.heap.size w wx)
 case first =>
  have hadd3 := hadd.out
  clear hadd hadd2 hof hby hP
  go_region_with (go_at_call 67; refine (reftext_any s (by omega) _).mono ?_; rintro e w1 ⟨rfl, hb1⟩; have hc1 := bcell hb1)
  all_goals (go_wp2_with fail; go_meet; exact ⟨by rw [hH.out], by first | exact chain2 (by go_grown) hb1 | exact (chain2 (by go_grown) hb1).alloc (by have := hb1.size; simp at this; omega) _⟩)
 case rest =>
  obtain ⟨rfl, hbx⟩ := hcut
  clear hcv hH hadd hkk
  go_wp2_with fail
  refine (hof.out _).mono ?_
  rintro e w2 ⟨rfl, rfl⟩
  go_wp2_with fail
  refine (hby.out _).mono ?_
  rintro e w2 ⟨rfl, hb2⟩
  have hadd3 := hadd2.out w2
  clear hof hby hadd2
  go_wp2
  go_ret2
  exact ⟨by rw [hP.out]; rfl, chain2 hbx hb2⟩
theorem refput_any (k : Int) (s : ByteArray) (hs : s.size <= 9223372036854775807) (w : World) :
  Calls Tryz.prog 64 #[.agg #[.int .i64 k, .string s]] w fun e w' => e = .returned (.tuple #[.string (putS k s), .int .i64 (putE k s)]) /\ Below w.heap.size w w' := by
 unfold putS putE
 by_cases h1 : k < 1
 ·rw [if_pos (Or.inl h1), if_pos (Or.inl h1)]
  exact refput_low k s h1 w
 ·by_cases h2 : 255 < k
  ·rw [if_pos (Or.inr h2), if_pos (Or.inr h2)]
   exact refput_high k s h2 w
  ·have hn : ¬ (k < 1 \/ 255 < k) := by omega
   rw [if_neg hn, if_neg hn]
   by_cases h3 : 65536 < s.size
   ·rw [if_pos h3, if_pos h3]
    exact refput_long k s (by omega) (by omega) h3 hs w
   ·rw [if_neg h3, if_neg h3]
    obtain ⟨k, rfl⟩ := Int.eq_ofNat_of_zero_le (show 0 <= k by omega)
    exact refput_ok k s (by omega) (by omega) (by omega) w
end Frm
end
section
open Go.RowKit
namespace Frm
open Dig Crc
set_option maxHeartbeats 400000 in
theorem get_nothing (s : ByteArray) (he : s.toList.isEmpty = true) (w : World) :
  Calls Tryz.prog 48 #[.string s] w fun e w' => e = .returned (.tuple #[.agg #[.int .i64 0, .string ⟨#[]⟩], .int .i64 0, .int .i64 1]) /\ Below w.heap.size w w' := by
 go_enter Tryz.func48, Tryz.ntmps48
 go_wp2
 go_returns
 exact ⟨rfl, by go_grown⟩
set_option maxHeartbeats 400000 in
theorem get_kind (s : ByteArray) (h0 : 0 < s.size) (he : s.toList.isEmpty = false) (hk : (s[0].toNat : Int) < 1) (w : World) :
  Calls Tryz.prog 48 #[.string s] w fun e w' => e = .returned (.tuple #[.agg #[.int .i64 0, .string ⟨#[]⟩], .int .i64 0, .int .i64 5]) /\ Below w.heap.size w w' := by
 go_enter Tryz.func48, Tryz.ntmps48
 go_wp2
 go_returns
 exact ⟨rfl, by go_grown⟩
theorem box2 {w w1 : World} {a b : Value} {t : TypeId} (hb : Below (w.alloc (.cells #[a, b] t)).heap.size (w.alloc (.cells #[a, b] t)) w1) :
  w1.cell? ⟨w.heap.size, 0, none⟩ = some a /\ w1.cell? ⟨w.heap.size, 1, none⟩ = some b /\ w1.frozen? ⟨w.heap.size, 0, none⟩ = false /\ w1.frozen? ⟨w.heap.size, 1, none⟩ = false /\ w.heap.size < w1.heap.size /\ Below w.heap.size w w1 := by
 have hz : w.heap.size < (w.alloc (.cells #[a, b] t)).heap.size := by simp
 refine ⟨?_, ?_, ?_, ?_, Nat.lt_of_lt_of_le hz hb.size, chain2 ((Below.refl _ w).alloc (Nat.le_refl _) _) hb⟩
 ·rw [hb.cell (p := ⟨w.heap.size, 0, none⟩) hz]; simp [go_sem]
 ·rw [hb.cell (p := ⟨w.heap.size, 1, none⟩) hz]; simp [go_sem]
 ·rw [hb.frozen (p := ⟨w.heap.size, 0, none⟩) hz]; simp [go_sem]
 ·rw [hb.frozen (p := ⟨w.heap.size, 1, none⟩) hz]; simp [go_sem]
theorem set2 {w1 : World} {g : Nat} {x y : Value} (c0 : w1.cell? ⟨g, 0, none⟩ = some x) (c1 : w1.cell? ⟨g, 1, none⟩ = some y) :
  (∀ a, (w1.setCell ⟨g, 0, none⟩ a).cell? ⟨g, 0, none⟩ = some a) /\ (∀ a b, ((w1.setCell ⟨g, 0, none⟩ a).setCell ⟨g, 1, none⟩ b).cell? ⟨g, 1, none⟩ = some b) /\
  (∀ a b, ((w1.setCell ⟨g, 0, none⟩ a).setCell ⟨g, 1, none⟩ b).cell? ⟨g, 0, none⟩ = some a) := by
 have hne : (⟨g, 0, none⟩ : Addr) ≠ ⟨g, 1, none⟩ := by simp
 have h0 : ∀ a, (w1.setCell ⟨g, 0, none⟩ a).cell? ⟨g, 0, none⟩ = some a := fun a => World.cell?_setCell_same w1 _ _ c0
 refine ⟨h0, fun a b => ?_, fun a b => ?_⟩
 ·exact World.cell?_setCell_same _ _ _ ((World.cell?_setCell_other w1 _ _ _ hne).trans c1)
 ·exact (World.cell?_setCell_other _ _ _ _ hne.symm).trans (h0 a)
theorem of_grown {w0 : World} (ht : Tab w0) (s : ByteArray) (hs : s.size <= 9223372036854775807) (d : Nat) (os : Array Obj) :
  Calls Tryz.prog 81 #[.string s] (Sort.grow (redrawn w0 d) os) fun e w' => e = .returned (.int .u32 (more 0 s.data.toList : Nat)) /\ ∃ p : Regrown, w' = Sort.grow (redrawn w0 p.d) p.os :=
 Calls.regrown_of ((of_any s hs _ (ht.below (below_regrown w0 d os))).mono fun _ _ ⟨he, hw⟩ => ⟨he, hw ▸ Below.refl _ _⟩)
set_option maxHeartbeats 400000 in
theorem get_text (s : ByteArray) (hs : s.size <= 9223372036854775807) (h0 : 0 < s.size) (he : s.toList.isEmpty = false) (hk : (1 : Int) <= (s[0].toNat : Int)) (x : Nat) (hx : ((x : Int) != 0) = true) (D : ByteArray) (m : Int)
  (hG : Hid (∀ w, Calls Tryz.prog 99 #[.string (s.extract 1 s.size), .int .i64 65536] w fun e w' => e = .returned (.tuple #[.string D, .int .i64 m, .int .i64 (x : Int)]) /\ Below w.heap.size w w')) (w : World) :
  Calls Tryz.prog 48 #[.string s] w fun e w' => e = .returned (.tuple #[.agg #[.int .i64 0, .string ⟨#[]⟩], .int .i64 0, .int .i64 (x : Int)]) /\ Below w.heap.size w w' := by
 have hlt := s[0].toNat_lt
 go_enter Tryz.func48, Tryz.ntmps48
 go_wp2_with fail
 refine (hG.out _).mono ?_
 rintro e w1 ⟨rfl, hb⟩
 obtain ⟨c0, c1, f0, f1, hz, hbel⟩ := box2 hb
 clear hb
 go_wp2
 obtain ⟨e0, e1, e2⟩ := set2 c0 c1
 refine bodyPost_ret (v := .tuple #[.agg #[.int .i64 0, .string ⟨#[]⟩], .int .i64 0, .int .i64 (x : Int)]) (by simp [results, Tryz.results48, go_sem, e0, e1]) rfl ⟨rfl, (hbel.setCell (Nat.le_refl _) _).setCell (Nat.le_refl _) _⟩
theorem neq_lists {a b : ByteArray} (h : a ≠ b) : (a.toList == b.toList) = false := by
 rw [beq_eq_false_iff_ne]
 intro e
 rw [ByteArray.toList_eq, ByteArray.toList_eq] at e
 exact h (bytes_ext e)
theorem len_of (s : ByteArray) (a b : Nat) (h : b <= s.size) : (s.extract a b).size = b - a := by rw [ByteArray.size_extract, Nat.min_eq_left h]
set_option maxHeartbeats 400000 in
theorem get_short (s : ByteArray) (hs : s.size <= 140737488351232) (h0 : 0 < s.size) (he : s.toList.isEmpty = false) (hk : (1 : Int) <= (s[0].toNat : Int)) (D : ByteArray) (m : Nat) (hm : m <= 140737488351232) (hl : s.size < 5 + m)
  (hG : Hid (∀ w, Calls Tryz.prog 99 #[.string (s.extract 1 s.size), .int .i64 65536] w fun e w' => e = .returned (.tuple #[.string D, .int .i64 (m : Int), .int .i64 0]) /\ Below w.heap.size w w')) (w : World) :
  Calls Tryz.prog 48 #[.string s] w fun e w' => e = .returned (.tuple #[.agg #[.int .i64 0, .string ⟨#[]⟩], .int .i64 0, .int .i64 1]) /\ Below w.heap.size w w' := by
 have hlt := s[0].toNat_lt
 go_enter Tryz.func48, Tryz.ntmps48
 go_wp2_with fail
 refine (hG.out _).mono ?_
 rintro e w1 ⟨rfl, hb⟩
 obtain ⟨c0, c1, f0, f1, hz, hbel⟩ := box2 hb
 clear hb
 go_wp2
 obtain ⟨e0, e1, e2⟩ := set2 c0 c1
 refine bodyPost_ret (v := .tuple #[.agg #[.int .i64 0, .string ⟨#[]⟩], .int .i64 0, .int .i64 1]) (by simp [results, Tryz.results48, go_sem, e0, e1]) rfl ⟨rfl, (hbel.setCell (Nat.le_refl _) _).setCell (Nat.le_refl _) _⟩
set_option maxHeartbeats 400000 in
theorem get_ok (s : ByteArray) (hs : s.size <= 140737488351232) (h0 : 0 < s.size) (he : s.toList.isEmpty = false) (hk : (1 : Int) <= (s[0].toNat : Int)) (D : ByteArray) (m : Nat) (hm : m <= 140737488351232) (hl : 5 + m <= s.size)
  (hG : Hid (∀ w, Calls Tryz.prog 99 #[.string (s.extract 1 s.size), .int .i64 65536] w fun e w' => e = .returned (.tuple #[.string D, .int .i64 (m : Int), .int .i64 0]) /\ Below w.heap.size w w'))
  (heq : s.extract (1 + m) (1 + m + 4) = sumB (more 0 (s.extract 0 (1 + m)).data.toList)) (w : World) (ht : Tab w) :
  Calls Tryz.prog 48 #[.string s] w fun e w' => e = .returned (.tuple #[.agg #[.int .i64 (s[0].toNat : Int), .string D], .int .i64 ((5 + m : Nat) : Int), .int .i64 0]) /\ Below w.heap.size w w' := by
 have hlt := s[0].toNat_lt
 have hz := len_of s 0 (1 + m) (by omega)
 have hml := more_lt 0 (s.extract 0 (1 + m)).data.toList
 have hof := fun (w0 : World) (ht : Tab w0) (d : Nat) (os : Array Obj) => of_grown ht (s.extract 0 (1 + m)) (by omega) d os
 have hby := sum_bytes (more 0 (s.extract 0 (1 + m)).data.toList) hml
 generalize more 0 (s.extract 0 (1 + m)).data.toList = c at *
 replace hof := Lib.hid hof
 replace hby := Lib.hid hby
 replace ht := Lib.hid ht
 clear hml hz
 have i1 : IntKind.i64.wrap (1 + (m : Int)) = 1 + (m : Int) := IntWalk.i64_in _ (by omega)
 have hfin : (1 + (m : Int) + 4) = ((5 + m : Nat) : Int) := by omega
 replace hfin := Lib.hid hfin
 go_enter Tryz.func48, Tryz.ntmps48
 go_wp2_with fail
 refine (hG.out _).mono ?_
 rintro e w1 ⟨rfl, hb⟩
 go_wp2_with fail
 have ht1 : Tab w1 := ht.out.below (box2 hb).2.2.2.2.2
 have i2 : IntKind.i64.wrap (1 + (m : Int) + 4) = 1 + (m : Int) + 4 := IntWalk.i64_in _ (by omega)
 refine wp_region_quiet_below (by kernel_rfl) (by kernel_rfl) ?_
 repeat (go_big_quiet_step (first | exact hof.out _ ht1 _ _ | exact Calls.regrown_of (hby.out _)))
 refine wpQuiet_nil ?_
 intro _ hw'
 obtain ⟨⟨dq, osq⟩, hw''⟩ := hw'
 subst hw''
 have hbq := below_regrown w1 dq osq
 generalize Sort.grow (redrawn w1 dq) osq = w2 at *
 obtain ⟨c0, c1, f0, f1, hz, hbel⟩ := box2 (chain2 hb hbq)
 clear hb hbq hof hby ht1 i1 i2
 go_wp2
 obtain ⟨e0, e1, e2⟩ := set2 c0 c1
 refine bodyPost_ret (v := .tuple #[.agg #[.int .i64 (s[0].toNat : Int), .string D], .int .i64 (1 + (m : Int) + 4), .int .i64 0]) (by simp [results, Tryz.results48, go_sem, e0, e1]) rfl ⟨by rw [hfin.out], (hbel.setCell (Nat.le_refl _) _).setCell (Nat.le_refl _) _⟩
set_option maxHeartbeats 400000 in
theorem get_sum (s : ByteArray) (hs : s.size <= 140737488351232) (h0 : 0 < s.size) (he : s.toList.isEmpty = false) (hk : (1 : Int) <= (s[0].toNat : Int)) (D : ByteArray) (m : Nat) (hm : m <= 140737488351232) (hl : 5 + m <= s.size)
  (hG : Hid (∀ w, Calls Tryz.prog 99 #[.string (s.extract 1 s.size), .int .i64 65536] w fun e w' => e = .returned (.tuple #[.string D, .int .i64 (m : Int), .int .i64 0]) /\ Below w.heap.size w w'))
  (hne : s.extract (1 + m) (1 + m + 4) ≠ sumB (more 0 (s.extract 0 (1 + m)).data.toList)) (w : World) (ht : Tab w) :
  Calls Tryz.prog 48 #[.string s] w fun e w' => e = .returned (.tuple #[.agg #[.int .i64 0, .string ⟨#[]⟩], .int .i64 0, .int .i64 10]) /\ Below w.heap.size w w' := by
 have hlt := s[0].toNat_lt
 have hz := len_of s 0 (1 + m) (by omega)
 have hml := more_lt 0 (s.extract 0 (1 + m)).data.toList
 have hof := fun (w0 : World) (ht : Tab w0) (d : Nat) (os : Array Obj) => of_grown ht (s.extract 0 (1 + m)) (by omega) d os
 have hby := sum_bytes (more 0 (s.extract 0 (1 + m)).data.toList) hml
 generalize more 0 (s.extract 0 (1 + m)).data.toList = c at *
 generalize sumB c = B at *
 replace hof := Lib.hid hof
 replace hby := Lib.hid hby
 replace ht := Lib.hid ht
 have hnb := neq_lists hne
 clear hne
 clear hml hz
 have i1 : IntKind.i64.wrap (1 + (m : Int)) = 1 + (m : Int) := IntWalk.i64_in _ (by omega)
 go_enter Tryz.func48, Tryz.ntmps48
 go_wp2_with fail
 refine (hG.out _).mono ?_
 rintro e w1 ⟨rfl, hb⟩
 go_wp2_with fail
 have ht1 : Tab w1 := ht.out.below (box2 hb).2.2.2.2.2
 have i2 : IntKind.i64.wrap (1 + (m : Int) + 4) = 1 + (m : Int) + 4 := IntWalk.i64_in _ (by omega)
 refine wp_region_quiet_below (by kernel_rfl) (by kernel_rfl) ?_
 repeat (go_big_quiet_step (first | exact hof.out _ ht1 _ _ | exact Calls.regrown_of (hby.out _)))
 refine wpQuiet_nil ?_
 intro _ hw'
 obtain ⟨⟨dq, osq⟩, hw''⟩ := hw'
 subst hw''
 have hbq := below_regrown w1 dq osq
 generalize Sort.grow (redrawn w1 dq) osq = w2 at *
 obtain ⟨c0, c1, f0, f1, hz, hbel⟩ := box2 (chain2 hb hbq)
 clear hb hbq hof hby ht1 i1 i2
 go_wp2
 obtain ⟨e0, e1, e2⟩ := set2 c0 c1
 refine bodyPost_ret (v := .tuple #[.agg #[.int .i64 0, .string ⟨#[]⟩], .int .i64 0, .int .i64 10]) (by simp [results, Tryz.results48, go_sem, e0, e1]) rfl ⟨rfl, (hbel.setCell (Nat.le_refl _) _).setCell (Nat.le_refl _) _⟩
theorem get_any (s : ByteArray) (hs : s.size <= 140737488351232) (w : World) (ht : Tab w) :
  Calls Tryz.prog 48 #[.string s] w fun e w' => e = .returned (.tuple #[.agg #[.int .i64 ((gotF s).kind : Int), .string (gotF s).data], .int .i64 ((gotF s).size : Int), .int .i64 ((gotF s).err : Int)]) /\ Below w.heap.size w w' := by
 have he : s.toList = s.data.toList := ByteArray.toList_eq s
 unfold gotF
 cases h : s.data.toList with
 | nil => exact get_nothing s (by rw [he, h]; rfl) w
 | cons c r =>
  have hsz := size_cons s h
  have hc : s[0]'(by omega) = c := byte_at s 0 (by omega) (by rw [h]; rfl)
  have he' : s.toList.isEmpty = false := by rw [he, h]; rfl
  have htl : (s.extract 1 s.size).data.toList = r := by rw [tail_list, h]; rfl
  have hgt := gettext_any (s.extract 1 s.size) 65536 (by rw [<- size_list, htl]; omega) (by omega)
  rw [htl] at hgt
  have hlt := gotT_lt r 65536
  simp only
  generalize gotT r 65536 = g at *
  obtain ⟨n, k, x⟩ := g
  simp only at hgt hlt ⊢
  by_cases h1 : c.toNat = 0
  ·rw [if_pos h1]
   exact get_kind s (by omega) he' (by rw [hc]; omega) w
  ·rw [if_neg h1]
   by_cases h2 : x = 0
   ·subst h2
    rw [if_neg (by omega)]
    have hG : Hid (∀ w, Calls Tryz.prog 99 #[.string (s.extract 1 s.size), .int .i64 65536] w fun e w' => e = .returned (.tuple #[.string ((s.extract 1 s.size).extract k (k + n)), .int .i64 ((k + n : Nat) : Int), .int .i64 0]) /\ Below w.heap.size w w') := Lib.hid hgt
    by_cases h3 : s.size < 5 + (k + n)
    ·rw [if_pos h3]
     exact get_short s hs (by omega) he' (by rw [hc]; omega) _ (k + n) (by omega) h3 hG w
    ·rw [if_neg h3]
     have e5 : 5 + (k + n) = 1 + (k + n) + 4 := by omega
     by_cases h4 : s.extract (1 + (k + n)) (5 + (k + n)) = sumB (more 0 (s.extract 0 (1 + (k + n))).data.toList)
     ·rw [if_pos h4]
      rw [e5] at h4
      have := get_ok s hs (by omega) he' (by rw [hc]; omega) _ (k + n) (by omega) (by omega) hG h4 w ht
      rw [hc] at this
      exact this
     ·rw [if_neg h4]
      rw [e5] at h4
      exact get_sum s hs (by omega) he' (by rw [hc]; omega) _ (k + n) (by omega) (by omega) hG h4 w ht
   ·rw [if_pos h2]
    exact get_text s (by omega) (by omega) he' (by rw [hc]; omega) x (by rw [bne_iff_ne]; omega) _ _ (Lib.hid hgt) w
end Frm
end
section
open Go.RowKit
namespace Frm
open Dig Crc
set_option maxHeartbeats 400000 in
theorem refgot_nothing (s : ByteArray) (he : s.toList.isEmpty = true) (w : World) :
  Calls Tryz.prog 54 #[.string s] w fun e w' => e = .returned (.tuple #[.agg #[.int .i64 0, .string ⟨#[]⟩], .int .i64 0, .int .i64 1]) /\ Below w.heap.size w w' := by
 go_enter Tryz.func54, Tryz.ntmps54
 go_wp2
 go_returns
 exact ⟨rfl, by go_grown⟩
set_option maxHeartbeats 400000 in
theorem refgot_kind (s : ByteArray) (h0 : 0 < s.size) (he : s.toList.isEmpty = false) (hk : ((s[0].toNat : Int) == 0) = true) (w : World) :
  Calls Tryz.prog 54 #[.string s] w fun e w' => e = .returned (.tuple #[.agg #[.int .i64 0, .string ⟨#[]⟩], .int .i64 0, .int .i64 5]) /\ Below w.heap.size w w' := by
 have hlt := s[0].toNat_lt
 go_enter Tryz.func54, Tryz.ntmps54
 go_wp2
 go_returns
 exact ⟨rfl, by go_grown⟩
set_option maxHeartbeats 400000 in
theorem refgot_text (s : ByteArray) (hs : s.size <= 140737488351232) (h0 : 0 < s.size) (he : s.toList.isEmpty = false) (hk : ((s[0].toNat : Int) == 0) = false) (x : Nat) (hx : ((x : Int) != 0) = true) (D : ByteArray) (m : Int)
  (hG : Hid (∀ w, Calls Tryz.prog 105 #[.string (s.extract 1 s.size), .int .i64 65536] w fun e w' => e = .returned (.tuple #[.string D, .int .i64 m, .int .i64 (x : Int)]) /\ Below w.heap.size w w')) (w : World) :
  Calls Tryz.prog 54 #[.string s] w fun e w' => e = .returned (.tuple #[.agg #[.int .i64 0, .string ⟨#[]⟩], .int .i64 0, .int .i64 (x : Int)]) /\ Below w.heap.size w w' := by
 have hlt := s[0].toNat_lt
 go_enter Tryz.func54, Tryz.ntmps54
 go_wp2_with fail
 refine (hG.out _).mono ?_
 rintro e w1 ⟨rfl, hb⟩
 obtain ⟨c0, c1, f0, f1, hz, hbel⟩ := box2 hb
 clear hb
 go_wp2
 obtain ⟨e0, e1, e2⟩ := set2 c0 c1
 refine bodyPost_ret (v := .tuple #[.agg #[.int .i64 0, .string ⟨#[]⟩], .int .i64 0, .int .i64 (x : Int)]) (by simp [results, Tryz.results54, go_sem, e0, e1]) rfl ⟨rfl, (hbel.setCell (Nat.le_refl _) _).setCell (Nat.le_refl _) _⟩
set_option maxHeartbeats 400000 in
theorem refgot_short (s : ByteArray) (hs : s.size <= 140737488351232) (h0 : 0 < s.size) (he : s.toList.isEmpty = false) (hk : ((s[0].toNat : Int) == 0) = false) (D : ByteArray) (m : Nat) (hm : m <= 140737488351232) (hl : s.size < 5 + m)
  (hG : Hid (∀ w, Calls Tryz.prog 105 #[.string (s.extract 1 s.size), .int .i64 65536] w fun e w' => e = .returned (.tuple #[.string D, .int .i64 (m : Int), .int .i64 0]) /\ Below w.heap.size w w')) (w : World) :
  Calls Tryz.prog 54 #[.string s] w fun e w' => e = .returned (.tuple #[.agg #[.int .i64 0, .string ⟨#[]⟩], .int .i64 0, .int .i64 1]) /\ Below w.heap.size w w' := by
 have hlt := s[0].toNat_lt
 go_enter Tryz.func54, Tryz.ntmps54
 go_wp2_with fail
 refine (hG.out _).mono ?_
 rintro e w1 ⟨rfl, hb⟩
 obtain ⟨c0, c1, f0, f1, hz, hbel⟩ := box2 hb
 clear hb
 go_wp2
 obtain ⟨e0, e1, e2⟩ := set2 c0 c1
 refine bodyPost_ret (v := .tuple #[.agg #[.int .i64 0, .string ⟨#[]⟩], .int .i64 0, .int .i64 1]) (by simp [results, Tryz.results54, go_sem, e0, e1]) rfl ⟨rfl, (hbel.setCell (Nat.le_refl _) _).setCell (Nat.le_refl _) _⟩
theorem refof_grown {w0 : World} (s : ByteArray) (hs : s.size <= 9223372036854775807) (d : Nat) (os : Array Obj) :
  Calls Tryz.prog 73 #[.string s] (Sort.grow (redrawn w0 d) os) fun e w' => e = .returned (.int .u32 (more 0 s.data.toList : Nat)) /\ ∃ p : Regrown, w' = Sort.grow (redrawn w0 p.d) p.os :=
 Calls.regrown_of ((refof_any s hs _).mono fun _ _ ⟨he, hw⟩ => ⟨he, hw ▸ Below.refl _ _⟩)
set_option maxHeartbeats 400000 in
theorem refgot_ok (s : ByteArray) (hs : s.size <= 140737488351232) (h0 : 0 < s.size) (he : s.toList.isEmpty = false) (hk : ((s[0].toNat : Int) == 0) = false) (D : ByteArray) (m : Nat) (hm : m <= 140737488351232) (hl : 5 + m <= s.size)
  (hG : Hid (∀ w, Calls Tryz.prog 105 #[.string (s.extract 1 s.size), .int .i64 65536] w fun e w' => e = .returned (.tuple #[.string D, .int .i64 (m : Int), .int .i64 0]) /\ Below w.heap.size w w'))
  (heq : s.extract (m + 1) (m + 5) = sumB (more 0 (s.extract 0 (m + 1)).data.toList)) (w : World) :
  Calls Tryz.prog 54 #[.string s] w fun e w' => e = .returned (.tuple #[.agg #[.int .i64 (s[0].toNat : Int), .string D], .int .i64 ((5 + m : Nat) : Int), .int .i64 0]) /\ Below w.heap.size w w' := by
 have hlt := s[0].toNat_lt
 have hz := len_of s 0 (m + 1) (by omega)
 have hml := more_lt 0 (s.extract 0 (m + 1)).data.toList
 have hof := fun (w0 : World) (d : Nat) (os : Array Obj) => refof_grown (w0 := w0) (s.extract 0 (m + 1)) (by omega) d os
 have hby := ref_bytes (more 0 (s.extract 0 (m + 1)).data.toList) hml
 generalize more 0 (s.extract 0 (m + 1)).data.toList = c at *
 have hfin := Lib.hid (show ((m : Int) + 5) = ((5 + m : Nat) : Int) by omega)
 replace hof := Lib.hid hof
 replace hby := Lib.hid hby
 clear hml hz
 go_enter Tryz.func54, Tryz.ntmps54
 go_wp2_with fail
 refine (hG.out _).mono ?_
 rintro e w1 ⟨rfl, hb⟩
 go_wp2_with fail
 have i1 : IntKind.i64.wrap ((m : Int) + 1) = (m : Int) + 1 := IntWalk.i64_in _ (by omega)
 have i2 : IntKind.i64.wrap ((m : Int) + 5) = (m : Int) + 5 := IntWalk.i64_in _ (by omega)
 have j1 : ((m : Int) + 1).toNat = m + 1 := by omega
 have j2 : ((m : Int) + 5).toNat = m + 5 := by omega
 have j3 : 0 <= (m : Int) + 1 := by omega
 have j4 : (m : Int) + 1 <= (m : Int) + 5 := by omega
 have j5 : (m : Int) + 5 <= (s.size : Int) := by omega
 have j6 : (m : Int) + 1 <= (s.size : Int) := by omega
 refine wp_region_quiet_below (by kernel_rfl) (by kernel_rfl) ?_
 repeat (go_big_quiet_step (first | exact hof.out _ _ _ | exact Calls.regrown_of (hby.out _)))
 refine wpQuiet_nil ?_
 intro _ hw'
 obtain ⟨⟨dq, osq⟩, hw''⟩ := hw'
 subst hw''
 have hbq := below_regrown w1 dq osq
 generalize Sort.grow (redrawn w1 dq) osq = w2 at *
 obtain ⟨c0, c1, f0, f1, hz, hbel⟩ := box2 (chain2 hb hbq)
 clear hb hbq hof hby i1 i2 j1 j2 j3 j4 j5 j6
 go_wp2
 obtain ⟨e0, e1, e2⟩ := set2 c0 c1
 refine bodyPost_ret (v := .tuple #[.agg #[.int .i64 (s[0].toNat : Int), .string D], .int .i64 ((m : Int) + 5), .int .i64 0]) (by simp [results, Tryz.results54, go_sem, e0, e1]) rfl ⟨by rw [hfin.out], (hbel.setCell (Nat.le_refl _) _).setCell (Nat.le_refl _) _⟩
set_option maxHeartbeats 400000 in
theorem refgot_sum (s : ByteArray) (hs : s.size <= 140737488351232) (h0 : 0 < s.size) (he : s.toList.isEmpty = false) (hk : ((s[0].toNat : Int) == 0) = false) (D : ByteArray) (m : Nat) (hm : m <= 140737488351232) (hl : 5 + m <= s.size)
  (hG : Hid (∀ w, Calls Tryz.prog 105 #[.string (s.extract 1 s.size), .int .i64 65536] w fun e w' => e = .returned (.tuple #[.string D, .int .i64 (m : Int), .int .i64 0]) /\ Below w.heap.size w w'))
  (hne : s.extract (m + 1) (m + 5) ≠ sumB (more 0 (s.extract 0 (m + 1)).data.toList)) (w : World) :
  Calls Tryz.prog 54 #[.string s] w fun e w' => e = .returned (.tuple #[.agg #[.int .i64 0, .string ⟨#[]⟩], .int .i64 0, .int .i64 10]) /\ Below w.heap.size w w' := by
 have hlt := s[0].toNat_lt
 have hz := len_of s 0 (m + 1) (by omega)
 have hml := more_lt 0 (s.extract 0 (m + 1)).data.toList
 have hof := fun (w0 : World) (d : Nat) (os : Array Obj) => refof_grown (w0 := w0) (s.extract 0 (m + 1)) (by omega) d os
 have hby := ref_bytes (more 0 (s.extract 0 (m + 1)).data.toList) hml
 generalize more 0 (s.extract 0 (m + 1)).data.toList = c at *
 have hnb := neq_lists hne
 clear hne
 generalize sumB c = B at *
 replace hof := Lib.hid hof
 replace hby := Lib.hid hby
 clear hml hz
 go_enter Tryz.func54, Tryz.ntmps54
 go_wp2_with fail
 refine (hG.out _).mono ?_
 rintro e w1 ⟨rfl, hb⟩
 go_wp2_with fail
 have i1 : IntKind.i64.wrap ((m : Int) + 1) = (m : Int) + 1 := IntWalk.i64_in _ (by omega)
 have i2 : IntKind.i64.wrap ((m : Int) + 5) = (m : Int) + 5 := IntWalk.i64_in _ (by omega)
 have j1 : ((m : Int) + 1).toNat = m + 1 := by omega
 have j2 : ((m : Int) + 5).toNat = m + 5 := by omega
 have j3 : 0 <= (m : Int) + 1 := by omega
 have j4 : (m : Int) + 1 <= (m : Int) + 5 := by omega
 have j5 : (m : Int) + 5 <= (s.size : Int) := by omega
 have j6 : (m : Int) + 1 <= (s.size : Int) := by omega
 refine wp_region_quiet_below (by kernel_rfl) (by kernel_rfl) ?_
 repeat (go_big_quiet_step (first | exact hof.out _ _ _ | exact Calls.regrown_of (hby.out _)))
 refine wpQuiet_nil ?_
 intro _ hw'
 obtain ⟨⟨dq, osq⟩, hw''⟩ := hw'
 subst hw''
 have hbq := below_regrown w1 dq osq
 generalize Sort.grow (redrawn w1 dq) osq = w2 at *
 obtain ⟨c0, c1, f0, f1, hz, hbel⟩ := box2 (chain2 hb hbq)
 clear hb hbq hof hby i1 i2 j1 j2 j3 j4 j5 j6
 go_wp2
 obtain ⟨e0, e1, e2⟩ := set2 c0 c1
 refine bodyPost_ret (v := .tuple #[.agg #[.int .i64 0, .string ⟨#[]⟩], .int .i64 0, .int .i64 10]) (by simp [results, Tryz.results54, go_sem, e0, e1]) rfl ⟨rfl, (hbel.setCell (Nat.le_refl _) _).setCell (Nat.le_refl _) _⟩
theorem refgot_any (s : ByteArray) (hs : s.size <= 140737488351232) (w : World) :
  Calls Tryz.prog 54 #[.string s] w fun e w' => e = .returned (.tuple #[.agg #[.int .i64 ((gotF s).kind : Int), .string (gotF s).data], .int .i64 ((gotF s).size : Int), .int .i64 ((gotF s).err : Int)]) /\ Below w.heap.size w w' := by
 have he : s.toList = s.data.toList := ByteArray.toList_eq s
 unfold gotF
 cases h : s.data.toList with
 | nil => exact refgot_nothing s (by rw [he, h]; rfl) w
 | cons c r =>
  have hsz := size_cons s h
  have hc : s[0]'(by omega) = c := byte_at s 0 (by omega) (by rw [h]; rfl)
  have he' : s.toList.isEmpty = false := by rw [he, h]; rfl
  have htl : (s.extract 1 s.size).data.toList = r := by rw [tail_list, h]; rfl
  have hgt := refgettext_any (s.extract 1 s.size) 65536 (by rw [<- size_list, htl]; omega) (by omega)
  rw [htl] at hgt
  have hlt := gotT_lt r 65536
  simp only
  generalize gotT r 65536 = g at *
  obtain ⟨n, k, x⟩ := g
  simp only at hgt hlt ⊢
  by_cases h1 : c.toNat = 0
  ·rw [if_pos h1]
   exact refgot_kind s (by omega) he' (by rw [hc, beq_iff_eq]; omega) w
  ·rw [if_neg h1]
   by_cases h2 : x = 0
   ·subst h2
    rw [if_neg (by omega)]
    have hG : Hid (∀ w, Calls Tryz.prog 105 #[.string (s.extract 1 s.size), .int .i64 65536] w fun e w' => e = .returned (.tuple #[.string ((s.extract 1 s.size).extract k (k + n)), .int .i64 ((k + n : Nat) : Int), .int .i64 0]) /\ Below w.heap.size w w') := Lib.hid hgt
    by_cases h3 : s.size < 5 + (k + n)
    ·rw [if_pos h3]
     exact refgot_short s hs (by omega) he' (by rw [hc, beq_eq_false_iff_ne]; omega) _ (k + n) (by omega) h3 hG w
    ·rw [if_neg h3]
     have e5 : 5 + (k + n) = k + n + 5 := by omega
     by_cases h4 : s.extract (1 + (k + n)) (5 + (k + n)) = sumB (more 0 (s.extract 0 (1 + (k + n))).data.toList)
     ·rw [if_pos h4]
      rw [e5, show 1 + (k + n) = k + n + 1 by omega] at h4
      have := refgot_ok s hs (by omega) he' (by rw [hc, beq_eq_false_iff_ne]; omega) _ (k + n) (by omega) (by omega) hG h4 w
      rw [hc] at this
      exact this
     ·rw [if_neg h4]
      rw [e5, show 1 + (k + n) = k + n + 1 by omega] at h4
      exact refgot_sum s hs (by omega) he' (by rw [hc, beq_eq_false_iff_ne]; omega) _ (k + n) (by omega) (by omega) hG h4 w
   ·rw [if_pos h2]
    exact refgot_text s hs (by omega) he' (by rw [hc, beq_eq_false_iff_ne]; omega) x (by rw [bne_iff_ne]; omega) _ _ (Lib.hid hgt) w
end Frm
end
section
open Go.RowKit
namespace Frm
open Dig Crc
theorem get_is (s : ByteArray) (g : Got) (hs : s.size <= 140737488351232) (h : gotF s = g) (w : World) (ht : Tab w) :
  Calls Tryz.prog 48 #[.string s] w fun e w' => e = .returned (.tuple #[.agg #[.int .i64 (g.kind : Int), .string g.data], .int .i64 (g.size : Int), .int .i64 (g.err : Int)]) /\ Below w.heap.size w w' := by
 subst h; exact get_any s hs w ht
end Frm
end
section
open Go.RowKit
namespace Frm
open Dig Crc
end Frm
end
section
open Go.RowKit
namespace Frm
open Dig
def scanF : Nat -> ByteArray -> Nat -> List (Nat × ByteArray) × Nat × Nat
 | 0, _, m => ([], m, 0)
 | f + 1, s, m =>
  if m < s.size then
   if (gotF (s.extract m s.size)).err ≠ 0 then ([], m, (gotF (s.extract m s.size)).err)
   else (((gotF (s.extract m s.size)).kind, (gotF (s.extract m s.size)).data) :: (scanF f s (m + (gotF (s.extract m s.size)).size)).1, (scanF f s (m + (gotF (s.extract m s.size)).size)).2)
  else ([], m, 0)
theorem scan_end (f : Nat) (s : ByteArray) (m : Nat) (h : s.size <= m) : scanF f s m = ([], m, 0) := by
 cases f with
 | zero => rfl
 | succ f => rw [scanF, if_neg (by omega)]
theorem scan_err (f : Nat) (s : ByteArray) (m : Nat) (h : m < s.size) (he : (gotF (s.extract m s.size)).err ≠ 0) : scanF (f + 1) s m = ([], m, (gotF (s.extract m s.size)).err) := by
 rw [scanF, if_pos h, if_pos he]
theorem scan_more (f : Nat) (s : ByteArray) (m : Nat) (h : m < s.size) (he : (gotF (s.extract m s.size)).err = 0) :
  scanF (f + 1) s m = (((gotF (s.extract m s.size)).kind, (gotF (s.extract m s.size)).data) :: (scanF f s (m + (gotF (s.extract m s.size)).size)).1, (scanF f s (m + (gotF (s.extract m s.size)).size)).2) := by
 rw [scanF, if_pos h, if_neg (by omega)]
def cellsL : List (Nat × ByteArray) -> List Value
 | [] => []
 | p :: l => .int .i64 (p.1 : Int) :: .string p.2 :: cellsL l
theorem cellsL_append (a b : List (Nat × ByteArray)) : cellsL (a ++ b) = cellsL a ++ cellsL b := by
 induction a with
 | nil => rfl
 | cons p a ih => simp [cellsL, ih]
theorem own_below {w w1 : World} {base size n : Nat} {e : TypeId} {v : Value} {xs : List Value} (h : w.ownsRow base e size v n xs) (hb : Below w.heap.size w w1) : w1.ownsRow base e size v n xs :=
 h.kept (row := none) ⟨hb.os, hb.tape, hb.output, hb.size, fun k hk _ => hb.block k hk⟩ (by cases v.ownBlock <;> simp)
def allA : List (Nat × ByteArray) -> List UInt8
 | [] => []
 | p :: l => (putA p.1 p.2).data.toList ++ allA l
def okF (l : List (Nat × ByteArray)) : Prop := ∀ p ∈ l, 1 <= p.1 /\ p.1 <= 255 /\ p.2.size <= 65536
theorem allA_append (a b : List (Nat × ByteArray)) : allA (a ++ b) = allA a ++ allA b := by
 induction a with
 | nil => rfl
 | cons p a ih => simp [allA, ih]
theorem scan_all (l : List (Nat × ByteArray)) (hl : okF l) (s : ByteArray) (m f : Nat) (hf : s.size < m + f) (tail : List UInt8)
  (hs : s.data.toList.drop m = allA l ++ tail) (ht : tail = [] \/ ∃ p : Nat × ByteArray, 1 <= p.1 /\ p.1 <= 255 /\ p.2.size <= 65536 /\ tail.length < (putA p.1 p.2).size /\ tail = (putA p.1 p.2).data.toList.take tail.length) (hm : m <= s.size) :
  scanF f s m = (l, m + (allA l).length, if tail = [] then 0 else 1) := by
 induction l generalizing m f with
 | nil =>
  simp only [allA, List.nil_append, List.length_nil, Nat.add_zero] at hs ⊢
  by_cases h0 : tail = []
  ·rw [if_pos h0]
   apply scan_end
   have := congrArg List.length hs
   rw [List.length_drop, size_list, h0] at this
   simp at this
   omega
  ·rw [if_neg h0]
   have hlen := congrArg List.length hs
   rw [List.length_drop, size_list] at hlen
   have hpos : 0 < tail.length := List.length_pos_iff.2 h0
   rcases ht with h1 | ⟨p, h1, h2, h3, h4, h5⟩
   ·exact absurd h1 h0
   ·obtain ⟨f, rfl⟩ : ∃ g, f = g + 1 := ⟨f - 1, by omega⟩
    have hx : s.extract m s.size = (putA p.1 p.2).extract 0 tail.length := by
     apply bytes_ext
     rw [extract_list, extract_list, List.take_of_length_le (by rw [size_list]; exact Nat.le_refl _), hs, List.drop_zero]
     exact h5
    have hg := got_cutoff p.1 p.2 h1 h2 h3 tail.length h4
    rw [<- hx] at hg
    rw [scan_err f s m (by omega) (by rw [hg]; simp [bad]), hg]
    rfl
 | cons p l ih =>
  obtain ⟨h1, h2, h3⟩ := hl p (by simp)
  have hpz := putA_size p.1 p.2
  have hlen := congrArg List.length hs
  rw [List.length_drop, size_list, List.length_append, allA, List.length_append, size_list] at hlen
  obtain ⟨f, rfl⟩ : ∃ g, f = g + 1 := ⟨f - 1, by omega⟩
  have hx : s.extract m s.size = putA p.1 p.2 ++ ⟨(allA l ++ tail).toArray⟩ := by
   apply bytes_ext
   rw [extract_list, List.take_of_length_le (by rw [size_list]; exact Nat.le_refl _), hs, ByteArray.data_append, Array.toList_append, allA, List.append_assoc]
  have hg := got_put p.1 p.2 ⟨(allA l ++ tail).toArray⟩ h1 h2 h3
  rw [<- hx] at hg
  have hs2 : s.data.toList.drop (m + (putA p.1 p.2).size) = allA l ++ tail := by
   rw [<- List.drop_drop, hs, allA, List.append_assoc, List.drop_append_of_le_length (by rw [size_list]; omega), List.drop_of_length_le (by rw [size_list]; omega), List.nil_append]
  rw [scan_more f s m (by omega) (by rw [hg]), hg]
  simp only
  rw [ih (fun q hq => hl q (by simp [hq])) (m + (putA p.1 p.2).size) f (by omega) hs2 (by omega)]
  simp only [allA, List.length_append, size_list, Nat.add_assoc]
end Frm
end
section
open Go.RowKit
namespace Frm
open Dig Crc
theorem infoRF : (Tryz.prog.info? 74).map (fun i => (i.zero, i.size, i.bytes)) = some (some (.agg #[.int .i64 0, .string ByteArray.empty]), 2, 24) := by kernel_rfl
def Scanned (t : TypeId) (s : ByteArray) (w : World) (e : Ending) (w' : World) : Prop :=
 ∃ v, e = .returned (.tuple #[v, .int .i64 ((scanF (s.size + 1) s 0).2.1 : Int), .int .i64 ((scanF (s.size + 1) s 0).2.2 : Int)]) /\
  w'.ownsRow w.heap.size t 2 v (scanF (s.size + 1) s 0).1.length (cellsL (scanF (s.size + 1) s 0).1) /\ Below w.heap.size w w'
def Upto (t : TypeId) (s : ByteArray) (w : World) (v n : Value) (wr : World) : Prop :=
 ∃ (m f : Nat) (acc : List (Nat × ByteArray)), m <= s.size /\ s.size < m + f /\ n = .int .i64 (m : Int) /\ scanF (s.size + 1) s 0 = (acc ++ (scanF f s m).1, (scanF f s m).2) /\
  wr.ownsRow w.heap.size t 2 v acc.length (cellsL acc) /\ Below w.heap.size w wr /\ acc.length <= m
theorem scanned_at {t : TypeId} {s : ByteArray} {w w2 : World} {v : Value} {acc : List (Nat × ByteArray)} {m e : Nat} (hsc : scanF (s.size + 1) s 0 = (acc, m, e)) (hown : w2.ownsRow w.heap.size t 2 v acc.length (cellsL acc)) (hb : Below w.heap.size w w2) :
  Scanned t s w (.returned (.tuple #[v, .int .i64 (m : Int), .int .i64 (e : Int)])) w2 := ⟨v, by rw [hsc], by rw [hsc]; exact hown, hb⟩
theorem news2 (W : World) (a b : Value) (t : TypeId) (g : Nat) (hg : g = W.heap.size) : ∀ (j : Nat) (u : Value), [a, b][j]? = some u -> (W.alloc (.cells #[a, b] t)).cell? ((⟨g, 0, none⟩ : Addr).add j) = some u := by
 subst hg
 intro j u hu
 have hadd : (⟨W.heap.size, 0, none⟩ : Addr).add j = ⟨W.heap.size, j, none⟩ := by unfold Addr.add; split <;> simp_all
 rw [hadd, World.cell?_alloc_at _ _ _ _ rfl]
 match j, hu with
 | 0, hu => simpa using hu
 | 1, hu => simpa using hu
theorem one2 (k : Int) (d : ByteArray) : ∀ u ∈ [Value.int .i64 k, Value.string d], u.oneCell' = true := by
 intro u hu
 simp only [List.mem_cons, List.not_mem_nil, or_false] at hu
 rcases hu with rfl | rfl <;> rfl
theorem upto_next {t : TypeId} {s : ByteArray} {w w2 : World} {v : Value} {acc : List (Nat × ByteArray)} {m f k z : Nat} {d : ByteArray} (hz0 : 0 < z) (hz : z <= s.size - m) (hm : m < s.size) (hf : s.size < m + (f + 1))
  (hsc : scanF (s.size + 1) s 0 = (acc ++ (k, d) :: (scanF f s (m + z)).1, (scanF f s (m + z)).2)) (hown : w2.ownsRow w.heap.size t 2 v (acc.length + 1) (cellsL acc ++ [.int .i64 (k : Int), .string d])) (hb : Below w.heap.size w w2) (hal : acc.length <= m) :
  Upto t s w v (.int .i64 ((m : Int) + (z : Int))) w2 := by
 refine ⟨m + z, f, acc ++ [(k, d)], by omega, by omega, by simp, ?_, ?_, hb, by simp; omega⟩
 ·rw [hsc, List.append_assoc]; rfl
 ·rw [List.length_append, cellsL_append]; exact hown
set_option maxHeartbeats 800000 in
theorem refscan_any (s : ByteArray) (hs : s.size <= 1000000000) (w : World) :
  Calls Tryz.prog 22 #[.string s] w (Scanned 74 s w) := by
 obtain ⟨i0, hi, hz0, hz1, hz2⟩ := info_parts infoRF
 go_enter Tryz.func22, Tryz.ntmps22
 go_wp2_with fail
 go_loopw [5, 6] (fun v n wr => Upto 74 s w v n wr) (fun _ n _ => s.size - (intOf n).toNat)
 case atStart => exact ⟨0, s.size + 1, [], by omega, by omega, rfl, rfl, World.ownsRow_nil _ _ _ _, Below.refl _ _, by simp⟩
 case round =>
  obtain ⟨m, f, acc, hm, hf, rfl, hsc, hown, hbel, hal⟩ := hrel
  by_cases hlt : m < s.size
  ·have hgz : (s.extract m s.size).size = s.size - m := len_of s m s.size (Nat.le_refl _)
   have hget := Lib.hid (refgot_any (s.extract m s.size) (by omega))
   have hgo := gotF_ok (s.extract m s.size)
   obtain ⟨f, rfl⟩ : ∃ g, f = g + 1 := ⟨f - 1, by omega⟩
   by_cases he : (gotF (s.extract m s.size)).err = 0
   ·have hg := hgo he
    rw [hgz] at hg
    have hsm := scan_more f s m hlt he
    rw [hsm] at hsc
    clear hsm hgz hgo
    generalize gotF (s.extract m s.size) = g at *
    obtain ⟨gk, gd, gz, ge⟩ := g
    simp only at he hg hsc hget
    subst he
    obtain ⟨hg0, hg1, hg2, hg3⟩ := hg
    replace hsc := Lib.hid hsc
    replace hown := Lib.hid hown
    replace hbel := Lib.hid hbel
    go_wp2_with fail
    refine (hget.out _).mono ?_
    rintro e w1 ⟨rfl, hb1⟩
    have hown1 := own_below hown.out hb1
    have hbel1 := hbel.out.trans (hb1.mono hbel.out.size)
    clear hown hbel hget
    go_wp2_with (at_builtin; refine wpList_append_own _ rfl _ _ 70 rfl w.heap.size 74 i0 (.agg #[.int .i64 0, .string ByteArray.empty]) 2 24 Tryz.underlying70 hi hz0 hz1 hz2 rfl (by decide) _ _ _ rfl ((hown1.alloc _).alloc _) ⟨w1.heap.size + 1, 0, none⟩ 1 1 [.int .i64 (gk : Int), .string gd] rfl rfl ?c1 ?c2 ?c3 ?c4 ?c5 ?_)
    case c1 => exact news2 _ _ _ _ _ (by simp)
    case c2 => exact one2 _ _
    case c3 => unfold maxLen; omega
    case c4 => omega
    case c5 => exact ((hbel1.alloc hbel1.size _).alloc ((hbel1.alloc hbel1.size _).size) _).size
    intro v' w2 hown2 hgrow _
    have hbel2 := ((hbel1.alloc hbel1.size _).alloc (hbel1.alloc hbel1.size _).size _).grown hgrow ((hbel1.alloc hbel1.size _).alloc (hbel1.alloc hbel1.size _).size _).size (fun k hk => ((hown1.lt k hk).1))
    have hup := Lib.hid (upto_next hg0 hg1 hlt hf hsc.out hown2 hbel2 hal)
    clear hown1 hbel1 hown2 hgrow hbel2
    go_wp2_with fail
    go_roundw
    case rel => exact hup.out
    case measure => simp [intOf]; omega
   ·have hsm := scan_err f s m hlt he
    rw [hsm, List.append_nil] at hsc
    clear hsm hgz
    have hx : (((gotF (s.extract m s.size)).err : Int) != 0) = true := by rw [bne_iff_ne]; exact fun h => he (by exact_mod_cast h)
    generalize gotF (s.extract m s.size) = g at *
    obtain ⟨gk, gd, gz, ge⟩ := g
    simp only at he hx hsc hget
    replace hsc := Lib.hid hsc
    replace hown := Lib.hid hown
    clear hgo he
    go_wp2_with fail
    refine (hget.out _).mono ?_
    rintro e w1 ⟨rfl, hb1⟩
    go_wp2_with fail
    go_ret3
    exact scanned_at hsc.out ((own_below hown.out hb1).alloc _) ((hbel.trans (hb1.mono hbel.size)).alloc (Nat.le_trans hbel.size hb1.size) _)
  ·obtain rfl : m = s.size := by omega
   rw [scan_end f s s.size (Nat.le_refl _), List.append_nil] at hsc
   replace hsc := Lib.hid hsc
   go_wp2_with fail
   go_ret3
   exact scanned_at hsc.out hown hbel
end Frm
end
section
open Go.RowKit
namespace Frm
open Dig Crc
end Frm
end
section
open Go.RowKit
namespace Frm
open Dig Crc
end Frm
end
section
open Go.RowKit
namespace Frm
open Dig Crc
def Holds (w : World) (A : Option Addr) (n : Nat) (xs : List Value) : Prop :=
 0 < n -> ∃ b, A = some ⟨b, 0, none⟩ /\ b < w.heap.size /\ ∀ j u, xs[j]? = some u -> w.cell? ⟨b, j, none⟩ = some u
theorem addr0 (b j : Nat) : (⟨b, 0, none⟩ : Addr).add j = ⟨b, j, none⟩ := by
 unfold Addr.add
 split <;> simp_all
theorem holds_own {w : World} {base size n : Nat} {e : TypeId} {v : Value} {xs : List Value} (h : w.ownsRow base e size v n xs) : ∃ A c, v = .slice A n c /\ n <= c /\ Holds w A n xs := by
 rcases h.2 with ⟨rfl, rfl⟩ | ⟨g, cap, cur, rfl, hg, hh, hn, _⟩
 ·exact ⟨none, 0, rfl, Nat.le_refl _, fun hn => absurd hn (by omega)⟩
 ·refine ⟨some ⟨g, 0, none⟩, cap, rfl, hn, fun _ => ⟨g, rfl, (h.lt g rfl).2, fun j u hu => ?_⟩⟩
  have := h.cells (g := g) rfl j u hu
  rwa [addr0] at this
theorem scan_count (f : Nat) (s : ByteArray) (m : Nat) (hm : m <= s.size) : (scanF f s m).1.length <= s.size - m /\ (scanF f s m).2.1 <= s.size /\ (scanF f s m).2.2 <= 10 := by
 induction f generalizing m with
 | zero => exact ⟨by simp [scanF], hm, by simp [scanF]⟩
 | succ f ih =>
  by_cases h : m < s.size
  ·by_cases he : (gotF (s.extract m s.size)).err = 0
   ·rw [scan_more f s m h he]
    have hg := gotF_ok _ he
    rw [len_of s m s.size (Nat.le_refl _)] at hg
    have := ih (m + (gotF (s.extract m s.size)).size) (by omega)
    simp only [List.length_cons]
    exact ⟨by omega, this.2⟩
   ·rw [scan_err f s m h he]
    exact ⟨by simp, hm, gotF_le _⟩
  ·rw [scan_end _ s m (by omega)]
   exact ⟨by simp, hm, by simp⟩
end Frm
end
section
open Go.RowKit
namespace Frm
open Dig
end Frm
end
section
open Go.RowKit
namespace Frm
open Dig Crc
end Frm
end
section
open Go.RowKit Go.ChangeShapes Go.WideShapes
namespace Frm
end Frm
end
end
end Go.Proofs.YtgmnhodajngchaaGreatDoor
