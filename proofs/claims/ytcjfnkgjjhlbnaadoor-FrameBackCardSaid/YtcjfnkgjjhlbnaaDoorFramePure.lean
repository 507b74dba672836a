/- Plain facts on frames (layer 3): a frame's bytes, what is got at the front of bytes, all frames of a row: a frame that is written is got again, cut off it is too short, with a byte changed it is refused. Conditions: those that each lemma states. -/
import Derived.Test.YtcjfnkgjjhlbnaaDoorDigMore
import Derived.Test.YtcjfnkgjjhlbnaaDoorSumPure
import Derived.Lib.Strings
namespace Go.Proofs.YtcjfnkgjjhlbnaaDoor
namespace Frm
open Dig

/-- A sum's four bytes. -/
def sumB (c : Nat) : ByteArray := ⟨#[UInt8.ofNat (c / 16777216), UInt8.ofNat (c / 65536 % 256), UInt8.ofNat (c / 256 % 256), UInt8.ofNat (c % 256)]⟩
/-- A frame's bytes ahead of the sum. -/
def hdr (k : Nat) (s : ByteArray) : ByteArray := ⟨#[UInt8.ofNat k]⟩ ++ textA s
def putA (k : Nat) (s : ByteArray) : ByteArray := hdr k s ++ sumB (Crc.more 0 (hdr k s).data.toList)
/-- What Put answers: bytes, and an error. -/
def putS (k : Int) (s : ByteArray) : ByteArray := if k < 1 ∨ 255 < k then ⟨#[]⟩ else if 65536 < s.size then ⟨#[]⟩ else putA k.toNat s
def putE (k : Int) (s : ByteArray) : Int := if k < 1 ∨ 255 < k then 5 else if 65536 < s.size then 8 else 0

/-- What Get answers of bytes: kind, data, how many bytes, error. -/
structure Got where
  kind : Nat
  data : ByteArray
  size : Nat
  err : Nat
def bad (e : Nat) : Got := ⟨0, ⟨#[]⟩, 0, e⟩
def gotF (s : ByteArray) : Got :=
  match s.data.toList with
  | [] => bad 1
  | c :: r =>
    if c.toNat = 0 then bad 5
    else if (gotT r 65536).2.2 ≠ 0 then bad (gotT r 65536).2.2
    else if s.size < 5 + ((gotT r 65536).2.1 + (gotT r 65536).1) then bad 1
    else if s.extract (1 + ((gotT r 65536).2.1 + (gotT r 65536).1)) (5 + ((gotT r 65536).2.1 + (gotT r 65536).1)) = sumB (Crc.more 0 (s.extract 0 (1 + ((gotT r 65536).2.1 + (gotT r 65536).1))).data.toList) then
      ⟨c.toNat, (s.extract 1 s.size).extract (gotT r 65536).2.1 ((gotT r 65536).2.1 + (gotT r 65536).1), 5 + ((gotT r 65536).2.1 + (gotT r 65536).1), 0⟩
    else bad 10

theorem sumB_size (c : Nat) : (sumB c).size = 4 := rfl
theorem hdr_list (k : Nat) (s : ByteArray) : (hdr k s).data.toList = UInt8.ofNat k :: (numL s.size ++ s.data.toList) := by
  rw [hdr, ByteArray.data_append, Array.toList_append, textA_list]; rfl
theorem hdr_size (k : Nat) (s : ByteArray) : (hdr k s).size = 1 + (nd s.size + 1 + s.size) := by
  rw [hdr, ByteArray.size_append, textA_size]; rfl
theorem putA_size (k : Nat) (s : ByteArray) : (putA k s).size = 5 + (nd s.size + 1 + s.size) := by
  rw [putA, ByteArray.size_append, hdr_size, sumB_size]; omega
theorem putA_list (k : Nat) (s : ByteArray) : (putA k s).data.toList = UInt8.ofNat k :: (numL s.size ++ (s.data.toList ++ (sumB (Crc.more 0 (hdr k s).data.toList)).data.toList)) := by
  rw [putA, ByteArray.data_append, Array.toList_append, hdr_list]; simp

theorem gotT_lt (l : List UInt8) (m : Int) : (gotT l m).2.1 + (gotT l m).1 ≤ l.length ∧ (gotT l m).2.2 ≤ 8 := by
  have h := gotN_lt l
  unfold gotT
  split
  · simp; omega
  · split
    · simp
    · split
      · simp
      · simp; omega
theorem gotT_most (l : List UInt8) : (gotT l 65536).1 ≤ 65536 ∧ (gotT l 65536).2.1 ≤ 9 := by
  have h := gotN_lt l
  unfold gotT
  split
  · simp
  · split
    · simp
    · split
      · simp
      · simp; omega
/-- A text that is written is got again, whatever follows. -/
theorem gotT_text (n : Nat) (hn : n ≤ 65536) (t r : List UInt8) (ht : t.length = n) : gotT (numL n ++ (t ++ r)) 65536 = (n, nd n + 1, 0) := by
  unfold gotT
  rw [got_num n (by omega)]
  simp only [ne_eq, not_true_eq_false, if_false]
  rw [if_neg (by omega), if_neg (by rw [List.length_append, List.length_append, numL_length]; omega)]
/-- Cut off: too short. -/
theorem gotT_cut (n : Nat) (hn : n ≤ 65536) (t : List UInt8) (ht : t.length = n) (k : Nat) (hk : k < nd n + 1 + n) : gotT ((numL n ++ t).take k) 65536 = (0, 0, 1) := by
  by_cases h : k < nd n + 1
  · rw [List.take_append_of_le_length (by rw [numL_length]; omega)]
    unfold gotT
    rw [got_cut n k h]
    rfl
  · obtain ⟨j, rfl⟩ : ∃ j, k = (numL n).length + j := ⟨k - (numL n).length, by rw [numL_length]; omega⟩
    rw [List.take_length_add_append]
    unfold gotT
    rw [got_num n (by omega)]
    simp only [ne_eq, not_true_eq_false, if_false]
    rw [if_neg (by omega), if_pos (by rw [List.length_append, numL_length, List.length_take]; rw [numL_length] at hk; omega)]

theorem bytes_ext {a b : ByteArray} (h : a.data.toList = b.data.toList) : a = b := ByteArray.ext (Array.toList_inj.1 h)
theorem size_list (s : ByteArray) : s.data.toList.length = s.size := by simp
theorem extract_list (s : ByteArray) (a b : Nat) : (s.extract a b).data.toList = (s.data.toList.take b).drop a := by
  rw [Lib.extract_data, List.drop_take]
theorem tail_list (s : ByteArray) : (s.extract 1 s.size).data.toList = s.data.toList.drop 1 := by
  rw [extract_list, List.take_of_length_le (by rw [size_list]; exact Nat.le_refl _)]
theorem kind_nat (k : Nat) (h : k ≤ 255) : (UInt8.ofNat k).toNat = k := by rw [UInt8.toNat_ofNat']; omega

/-- A frame that is written is got again, whatever follows. -/
theorem got_put (k : Nat) (s r : ByteArray) (h1 : 1 ≤ k) (h2 : k ≤ 255) (hs : s.size ≤ 65536) : gotF (putA k s ++ r) = ⟨k, s, (putA k s).size, 0⟩ := by
  have hl : (putA k s ++ r).data.toList = UInt8.ofNat k :: (numL s.size ++ (s.data.toList ++ ((sumB (Crc.more 0 (hdr k s).data.toList)).data.toList ++ r.data.toList))) := by
    rw [ByteArray.data_append, Array.toList_append, putA_list]; simp
  have hg := gotT_text s.size hs s.data.toList ((sumB (Crc.more 0 (hdr k s).data.toList)).data.toList ++ r.data.toList) (size_list s)
  have hsz := putA_size k s
  have hz : (putA k s ++ r).size = (putA k s).size + r.size := ByteArray.size_append
  have hk := kind_nat k h2
  have hh := hdr_size k s
  have e1 : (putA k s ++ r).extract 0 (1 + (nd s.size + 1 + s.size)) = hdr k s := by
    apply bytes_ext
    rw [extract_list, ByteArray.data_append, putA, ByteArray.data_append, Array.toList_append, Array.toList_append, List.append_assoc, List.drop_zero, List.take_append_of_le_length (by rw [size_list]; omega),
      List.take_of_length_le (by rw [size_list]; omega)]
  have e2 : (putA k s ++ r).extract (1 + (nd s.size + 1 + s.size)) (5 + (nd s.size + 1 + s.size)) = sumB (Crc.more 0 (hdr k s).data.toList) := by
    apply bytes_ext
    rw [extract_list, ByteArray.data_append, Array.toList_append, List.take_append_of_le_length (by rw [size_list]; omega), List.take_of_length_le (by rw [size_list]; omega), putA, ByteArray.data_append,
      Array.toList_append, List.drop_append_of_le_length (by rw [size_list]; omega), List.drop_of_length_le (by rw [size_list]; omega), List.nil_append]
  have e3 : ((putA k s ++ r).extract 1 (putA k s ++ r).size).extract (nd s.size + 1) (nd s.size + 1 + s.size) = s := by
    apply bytes_ext
    rw [extract_list, tail_list, hl, List.drop_succ_cons, List.drop_zero, ← List.append_assoc,
      List.take_append_of_le_length (by rw [List.length_append, numL_length, size_list]; omega), List.take_of_length_le (by rw [List.length_append, numL_length, size_list]; omega),
      List.drop_append_of_le_length (by rw [numL_length]; omega), List.drop_of_length_le (by rw [numL_length]; omega), List.nil_append]
  unfold gotF
  rw [hl]
  simp only [hg]
  rw [if_neg (by omega), if_neg (by simp), if_neg (by omega), if_pos (by rw [e1, e2]), e3, hk, hsz]
/-- Cut off, it is too short. -/
theorem got_cutoff (k : Nat) (s : ByteArray) (h1 : 1 ≤ k) (h2 : k ≤ 255) (hs : s.size ≤ 65536) (n : Nat) (hn : n < (putA k s).size) : gotF ((putA k s).extract 0 n) = bad 1 := by
  have hsz := putA_size k s
  have hl : ((putA k s).extract 0 n).data.toList = (UInt8.ofNat k :: (numL s.size ++ (s.data.toList ++ (sumB (Crc.more 0 (hdr k s).data.toList)).data.toList))).take n := by
    rw [extract_list, putA_list, List.drop_zero]
  have hz : ((putA k s).extract 0 n).size = n := by
    rw [← size_list, extract_list, List.drop_zero, List.length_take, size_list]; omega
  unfold gotF
  cases n with
  | zero => rw [hl]; rfl
  | succ n =>
    rw [hl, List.take_succ_cons]
    have hk := kind_nat k h2
    simp only
    rw [if_neg (by omega)]
    by_cases hc : n < nd s.size + 1 + s.size
    · have e : (numL s.size ++ (s.data.toList ++ (sumB (Crc.more 0 (hdr k s).data.toList)).data.toList)).take n = (numL s.size ++ s.data.toList).take n := by
        rw [← List.append_assoc, List.take_append_of_le_length (by rw [List.length_append, numL_length, size_list]; omega)]
      rw [e, gotT_cut s.size hs _ (size_list s) n hc]
      rfl
    · have e : (numL s.size ++ (s.data.toList ++ (sumB (Crc.more 0 (hdr k s).data.toList)).data.toList)).take n = numL s.size ++ (s.data.toList ++ ((sumB (Crc.more 0 (hdr k s).data.toList)).data.toList.take (n - (nd s.size + 1 + s.size)))) := by
        rw [← List.append_assoc, ← List.append_assoc, List.take_append, List.take_of_length_le (by rw [List.length_append, numL_length, size_list]; omega)]
        rw [List.length_append, numL_length, size_list]
      rw [e, gotT_text s.size hs _ _ (size_list s)]
      simp only [ne_eq, not_true_eq_false, if_false]
      rw [if_pos (by omega)]

theorem gotF_err (s : ByteArray) (h : (gotF s).err ≠ 0) : gotF s = bad (gotF s).err := by
  unfold gotF at h ⊢
  cases hl : s.data.toList with
  | nil => rfl
  | cons c r =>
    simp only [hl] at h ⊢
    repeat' split
    all_goals first | rfl | skip
    all_goals simp_all
theorem gotF_ok (s : ByteArray) (h : (gotF s).err = 0) : 0 < (gotF s).size ∧ (gotF s).size ≤ s.size ∧ (gotF s).kind ≤ 255 ∧ (gotF s).data.size ≤ 65536 := by
  unfold gotF at h ⊢
  cases hl : s.data.toList with
  | nil => simp [hl, bad] at h
  | cons c r =>
    have hm := gotT_most r
    have hlt := c.toNat_lt
    simp only [hl] at h ⊢
    split at h
    · simp [bad] at h
    · rename_i h0
      rw [if_neg h0]
      split at h
      · rename_i h1; exact absurd h h1
      · rename_i h1
        rw [if_neg h1]
        split at h
        · simp [bad] at h
        · rename_i h2
          rw [if_neg h2]
          split at h
          · rename_i h3
            rw [if_pos h3]
            refine ⟨by show 0 < 5 + _; omega, by show 5 + _ ≤ _; omega, by show c.toNat ≤ 255; omega, ?_⟩
            show ((s.extract 1 s.size).extract _ _).size ≤ 65536
            rw [ByteArray.size_extract]
            omega
          · simp [bad] at h
theorem gotF_le (s : ByteArray) : (gotF s).err ≤ 10 := by
  unfold gotF
  cases hl : s.data.toList with
  | nil => simp [bad]
  | cons c r =>
    have hg := gotT_lt r 65536
    simp only
    repeat' split
    all_goals simp [bad]
    all_goals omega
end Frm
end Go.Proofs.YtcjfnkgjjhlbnaaDoor
