/- Parts, put together: FramePure, FrameTurn, FramePut, FrameGet, FrameGetRef, FrameLaws, FrameTells, FrameRows, FrameScanRef, FrameNext, FrameScan, FrameSame, FrameBackPure, FrameBack, FrameOpen. -/
import Derived.Test.YtlgjbdfnhaoloaaGreatDoorPDig
import Derived.Test.YtlgjbdfnhaoloaaGreatDoorPSum
import Derived.Lib.Strings
import Derived.Deep.RegionWith
import Derived.Deep.DeepCutAuto
import Derived.Deep.QuietTactic
import Derived.BigQuiet
import Derived.Lib.QuietBelow
import Derived.Outline
import Derived.OwnWalk
import Derived.Laws.OwnMore
import Derived.Laws.IdiomStrings
import Derived.Laws.AppendOwn
import Derived.Below
import Derived.OneCell
import Derived.Deep.CutBlock
import Derived.Deep.SlicePairs
import Derived.OpenShut

/- Plain facts on frames (layer 3): a frame's bytes, what is got at the front of bytes, all frames of a row: a frame that is written is got again, cut off it is too short, with a byte changed it is refused. Conditions: those that each lemma states. -/
section
namespace Go.Proofs.YtlgjbdfnhaoloaaGreatDoor
namespace Frm
open Dig

/-- A sum's four bytes. -/
def sumB (c : Nat) : ByteArray := ⟨#[UInt8.ofNat (c / 16777216), UInt8.ofNat (c / 65536 % 256), UInt8.ofNat (c / 256 % 256), UInt8.ofNat (c % 256)]⟩
/-- A frame's bytes ahead of the sum. -/
def hdr (k : Nat) (s : ByteArray) : ByteArray := ⟨#[UInt8.ofNat k]⟩ ++ textA s
def putA (k : Nat) (s : ByteArray) : ByteArray := hdr k s ++ sumB (Crc.more 0 (hdr k s).data.toList)
/-- What Put answers: bytes, and an error. -/
def putS (k : Int) (s : ByteArray) : ByteArray := if k < 1 ∨ 255 < k then ⟨#[]⟩ else if 65536 < s.size then ⟨#[]⟩ else putA k.toNat s
def putE (k : Int) (s : ByteArray) : Int := if k < 1 ∨ 255 < k then 5 else if 65536 < s.size then 8 else 0

/-- What Get answers of bytes: kind, data, how many bytes, error. -/
structure Got where
  kind : Nat
  data : ByteArray
  size : Nat
  err : Nat
def bad (e : Nat) : Got := ⟨0, ⟨#[]⟩, 0, e⟩
def gotF (s : ByteArray) : Got :=
  match s.data.toList with
  | [] => bad 1
  | c :: r =>
    if c.toNat = 0 then bad 5
    else if (gotT r 65536).2.2 ≠ 0 then bad (gotT r 65536).2.2
    else if s.size < 5 + ((gotT r 65536).2.1 + (gotT r 65536).1) then bad 1
    else if s.extract (1 + ((gotT r 65536).2.1 + (gotT r 65536).1)) (5 + ((gotT r 65536).2.1 + (gotT r 65536).1)) = sumB (Crc.more 0 (s.extract 0 (1 + ((gotT r 65536).2.1 + (gotT r 65536).1))).data.toList) then
      ⟨c.toNat, (s.extract 1 s.size).extract (gotT r 65536).2.1 ((gotT r 65536).2.1 + (gotT r 65536).1), 5 + ((gotT r 65536).2.1 + (gotT r 65536).1), 0⟩
    else bad 10

theorem sumB_size (c : Nat) : (sumB c).size = 4 := rfl
theorem hdr_list (k : Nat) (s : ByteArray) : (hdr k s).data.toList = UInt8.ofNat k :: (numL s.size ++ s.data.toList) := by
  rw [hdr, ByteArray.data_append, Array.toList_append, textA_list]; rfl
theorem hdr_size (k : Nat) (s : ByteArray) : (hdr k s).size = 1 + (nd s.size + 1 + s.size) := by
  rw [hdr, ByteArray.size_append, textA_size]; rfl
theorem putA_size (k : Nat) (s : ByteArray) : (putA k s).size = 5 + (nd s.size + 1 + s.size) := by
  rw [putA, ByteArray.size_append, hdr_size, sumB_size]; omega
theorem putA_list (k : Nat) (s : ByteArray) : (putA k s).data.toList = UInt8.ofNat k :: (numL s.size ++ (s.data.toList ++ (sumB (Crc.more 0 (hdr k s).data.toList)).data.toList)) := by
  rw [putA, ByteArray.data_append, Array.toList_append, hdr_list]; simp

theorem gotT_lt (l : List UInt8) (m : Int) : (gotT l m).2.1 + (gotT l m).1 ≤ l.length ∧ (gotT l m).2.2 ≤ 8 := by
  have h := gotN_lt l
  unfold gotT
  split
  · simp; omega
  · split
    · simp
    · split
      · simp
      · simp; omega
theorem gotT_most (l : List UInt8) : (gotT l 65536).1 ≤ 65536 ∧ (gotT l 65536).2.1 ≤ 9 := by
  have h := gotN_lt l
  unfold gotT
  split
  · simp
  · split
    · simp
    · split
      · simp
      · simp; omega
/-- A text that is written is got again, whatever follows. -/
theorem gotT_text (n : Nat) (hn : n ≤ 65536) (t r : List UInt8) (ht : t.length = n) : gotT (numL n ++ (t ++ r)) 65536 = (n, nd n + 1, 0) := by
  unfold gotT
  rw [got_num n (by omega)]
  simp only [ne_eq, not_true_eq_false, if_false]
  rw [if_neg (by omega), if_neg (by rw [List.length_append, List.length_append, numL_length]; omega)]
/-- Cut off: too short. -/
theorem gotT_cut (n : Nat) (hn : n ≤ 65536) (t : List UInt8) (ht : t.length = n) (k : Nat) (hk : k < nd n + 1 + n) : gotT ((numL n ++ t).take k) 65536 = (0, 0, 1) := by
  by_cases h : k < nd n + 1
  · rw [List.take_append_of_le_length (by rw [numL_length]; omega)]
    unfold gotT
    rw [got_cut n k h]
    rfl
  · obtain ⟨j, rfl⟩ : ∃ j, k = (numL n).length + j := ⟨k - (numL n).length, by rw [numL_length]; omega⟩
    rw [List.take_length_add_append]
    unfold gotT
    rw [got_num n (by omega)]
    simp only [ne_eq, not_true_eq_false, if_false]
    rw [if_neg (by omega), if_pos (by rw [List.length_append, numL_length, List.length_take]; rw [numL_length] at hk; omega)]

theorem bytes_ext {a b : ByteArray} (h : a.data.toList = b.data.toList) : a = b := ByteArray.ext (Array.toList_inj.1 h)
theorem size_list (s : ByteArray) : s.data.toList.length = s.size := by simp
theorem extract_list (s : ByteArray) (a b : Nat) : (s.extract a b).data.toList = (s.data.toList.take b).drop a := by
  rw [Lib.extract_data, List.drop_take]
theorem tail_list (s : ByteArray) : (s.extract 1 s.size).data.toList = s.data.toList.drop 1 := by
  rw [extract_list, List.take_of_length_le (by rw [size_list]; exact Nat.le_refl _)]
theorem kind_nat (k : Nat) (h : k ≤ 255) : (UInt8.ofNat k).toNat = k := by rw [UInt8.toNat_ofNat']; omega

/-- A frame that is written is got again, whatever follows. -/
theorem got_put (k : Nat) (s r : ByteArray) (h1 : 1 ≤ k) (h2 : k ≤ 255) (hs : s.size ≤ 65536) : gotF (putA k s ++ r) = ⟨k, s, (putA k s).size, 0⟩ := by
  have hl : (putA k s ++ r).data.toList = UInt8.ofNat k :: (numL s.size ++ (s.data.toList ++ ((sumB (Crc.more 0 (hdr k s).data.toList)).data.toList ++ r.data.toList))) := by
    rw [ByteArray.data_append, Array.toList_append, putA_list]; simp
  have hg := gotT_text s.size hs s.data.toList ((sumB (Crc.more 0 (hdr k s).data.toList)).data.toList ++ r.data.toList) (size_list s)
  have hsz := putA_size k s
  have hz : (putA k s ++ r).size = (putA k s).size + r.size := ByteArray.size_append
  have hk := kind_nat k h2
  have hh := hdr_size k s
  have e1 : (putA k s ++ r).extract 0 (1 + (nd s.size + 1 + s.size)) = hdr k s := by
    apply bytes_ext
    rw [extract_list, ByteArray.data_append, putA, ByteArray.data_append, Array.toList_append, Array.toList_append, List.append_assoc, List.drop_zero, List.take_append_of_le_length (by rw [size_list]; omega),
      List.take_of_length_le (by rw [size_list]; omega)]
  have e2 : (putA k s ++ r).extract (1 + (nd s.size + 1 + s.size)) (5 + (nd s.size + 1 + s.size)) = sumB (Crc.more 0 (hdr k s).data.toList) := by
    apply bytes_ext
    rw [extract_list, ByteArray.data_append, Array.toList_append, List.take_append_of_le_length (by rw [size_list]; omega), List.take_of_length_le (by rw [size_list]; omega), putA, ByteArray.data_append,
      Array.toList_append, List.drop_append_of_le_length (by rw [size_list]; omega), List.drop_of_length_le (by rw [size_list]; omega), List.nil_append]
  have e3 : ((putA k s ++ r).extract 1 (putA k s ++ r).size).extract (nd s.size + 1) (nd s.size + 1 + s.size) = s := by
    apply bytes_ext
    rw [extract_list, tail_list, hl, List.drop_succ_cons, List.drop_zero, ← List.append_assoc,
      List.take_append_of_le_length (by rw [List.length_append, numL_length, size_list]; omega), List.take_of_length_le (by rw [List.length_append, numL_length, size_list]; omega),
      List.drop_append_of_le_length (by rw [numL_length]; omega), List.drop_of_length_le (by rw [numL_length]; omega), List.nil_append]
  unfold gotF
  rw [hl]
  simp only [hg]
  rw [if_neg (by omega), if_neg (by simp), if_neg (by omega), if_pos (by rw [e1, e2]), e3, hk, hsz]
/-- Cut off, it is too short. -/
theorem got_cutoff (k : Nat) (s : ByteArray) (h1 : 1 ≤ k) (h2 : k ≤ 255) (hs : s.size ≤ 65536) (n : Nat) (hn : n < (putA k s).size) : gotF ((putA k s).extract 0 n) = bad 1 := by
  have hsz := putA_size k s
  have hl : ((putA k s).extract 0 n).data.toList = (UInt8.ofNat k :: (numL s.size ++ (s.data.toList ++ (sumB (Crc.more 0 (hdr k s).data.toList)).data.toList))).take n := by
    rw [extract_list, putA_list, List.drop_zero]
  have hz : ((putA k s).extract 0 n).size = n := by
    rw [← size_list, extract_list, List.drop_zero, List.length_take, size_list]; omega
  unfold gotF
  cases n with
  | zero => rw [hl]; rfl
  | succ n =>
    rw [hl, List.take_succ_cons]
    have hk := kind_nat k h2
    simp only
    rw [if_neg (by omega)]
    by_cases hc : n < nd s.size + 1 + s.size
    · have e : (numL s.size ++ (s.data.toList ++ (sumB (Crc.more 0 (hdr k s).data.toList)).data.toList)).take n = (numL s.size ++ s.data.toList).take n := by
        rw [← List.append_assoc, List.take_append_of_le_length (by rw [List.length_append, numL_length, size_list]; omega)]
      rw [e, gotT_cut s.size hs _ (size_list s) n hc]
      rfl
    · have e : (numL s.size ++ (s.data.toList ++ (sumB (Crc.more 0 (hdr k s).data.toList)).data.toList)).take n = numL s.size ++ (s.data.toList ++ ((sumB (Crc.more 0 (hdr k s).data.toList)).data.toList.take (n - (nd s.size + 1 + s.size)))) := by
        rw [← List.append_assoc, ← List.append_assoc, List.take_append, List.take_of_length_le (by rw [List.length_append, numL_length, size_list]; omega)]
        rw [List.length_append, numL_length, size_list]
      rw [e, gotT_text s.size hs _ _ (size_list s)]
      simp only [ne_eq, not_true_eq_false, if_false]
      rw [if_pos (by omega)]

theorem gotF_err (s : ByteArray) (h : (gotF s).err ≠ 0) : gotF s = bad (gotF s).err := by
  unfold gotF at h ⊢
  cases hl : s.data.toList with
  | nil => rfl
  | cons c r =>
    simp only [hl] at h ⊢
    repeat' split
    all_goals first | rfl | skip
    all_goals simp_all
theorem gotF_ok (s : ByteArray) (h : (gotF s).err = 0) : 0 < (gotF s).size ∧ (gotF s).size ≤ s.size ∧ (gotF s).kind ≤ 255 ∧ (gotF s).data.size ≤ 65536 := by
  unfold gotF at h ⊢
  cases hl : s.data.toList with
  | nil => simp [hl, bad] at h
  | cons c r =>
    have hm := gotT_most r
    have hlt := c.toNat_lt
    simp only [hl] at h ⊢
    split at h
    · simp [bad] at h
    · rename_i h0
      rw [if_neg h0]
      split at h
      · rename_i h1; exact absurd h h1
      · rename_i h1
        rw [if_neg h1]
        split at h
        · simp [bad] at h
        · rename_i h2
          rw [if_neg h2]
          split at h
          · rename_i h3
            rw [if_pos h3]
            refine ⟨by show 0 < 5 + _; omega, by show 5 + _ ≤ _; omega, by show c.toNat ≤ 255; omega, ?_⟩
            show ((s.extract 1 s.size).extract _ _).size ≤ 65536
            rw [ByteArray.size_extract]
            omega
          · simp [bad] at h
theorem gotF_le (s : ByteArray) : (gotF s).err ≤ 10 := by
  unfold gotF
  cases hl : s.data.toList with
  | nil => simp [bad]
  | cons c r =>
    have hg := gotT_lt r 65536
    simp only
    repeat' split
    all_goals simp [bad]
    all_goals omega
end Frm
end Go.Proofs.YtlgjbdfnhaoloaaGreatDoor
end

/- Plain facts on frames with a byte changed: their check sum is another one; got, such a frame is refused, or it is shorter and the byte is one of those that say the length. Conditions: those that each lemma states. -/
section
namespace Go.Proofs.YtlgjbdfnhaoloaaGreatDoor
namespace Frm
open Dig

theorem step_state (c d b : Nat) (hc : c < 4294967296) (hd : d < 4294967296) (hb : b < 256) (h : Crc.byteStep c b = Crc.byteStep d b) : c = d := by
  have h2 := Crc.TN_inj 8 _ _ (Crc.xor_lt _ _ hc (by omega)) (Crc.xor_lt _ _ hd (by omega)) h
  have h3 := congrArg (fun x => x ^^^ b) h2
  simp only [Nat.xor_assoc, Nat.xor_self, Nat.xor_zero] at h3
  exact h3
theorem step_byte (c a b : Nat) (hc : c < 4294967296) (ha : a < 256) (hb : b < 256) (h : Crc.byteStep c a = Crc.byteStep c b) : a = b := by
  have h2 := Crc.TN_inj 8 _ _ (Crc.xor_lt _ _ hc (by omega)) (Crc.xor_lt _ _ hc (by omega)) h
  have h3 := congrArg (fun x => c ^^^ x) h2
  simp only [← Nat.xor_assoc, Nat.xor_self, Nat.zero_xor] at h3
  exact h3
theorem run_state (l : List UInt8) (c d : Nat) (hc : c < 4294967296) (hd : d < 4294967296) (h : Crc.run c l = Crc.run d l) : c = d := by
  induction l generalizing c d with
  | nil => exact h
  | cons b l ih =>
    rw [Crc.run_cons, Crc.run_cons] at h
    exact step_state c d b.toNat hc hd b.toNat_lt (ih _ _ (Crc.byteStep_lt c b hc) (Crc.byteStep_lt d b hd) h)
/-- Texts that differ in one byte alone have different sums. -/
theorem more_differs (l r : List UInt8) (a b : UInt8) (hab : a ≠ b) : Crc.more 0 (l ++ a :: r) ≠ Crc.more 0 (l ++ b :: r) := by
  rw [Ne, Crc.more_eq, Crc.run_append, Crc.run_append, Crc.run_cons, Crc.run_cons]
  intro h
  have hr := Crc.run_lt (4294967295 - 0) l (by omega)
  have h1 := run_state r _ _ (Crc.byteStep_lt _ a hr) (Crc.byteStep_lt _ b hr) h
  have h2 := step_byte _ _ _ hr a.toNat_lt b.toNat_lt h1
  exact hab (UInt8.toNat_inj.1 h2)
theorem sumB_inj (c d : Nat) (hc : c < 4294967296) (hd : d < 4294967296) (h : sumB c = sumB d) : c = d := by
  have h0 := congrArg (fun s : ByteArray => s.data.toList) h
  simp only [sumB, List.cons.injEq] at h0
  obtain ⟨h1, h2, h3, h4, _⟩ := h0
  have e1 := congrArg UInt8.toNat h1
  have e2 := congrArg UInt8.toNat h2
  have e3 := congrArg UInt8.toNat h3
  have e4 := congrArg UInt8.toNat h4
  simp only [UInt8.toNat_ofNat'] at e1 e2 e3 e4
  omega
theorem xor_other (a b : UInt8) (hb : b ≠ 0) : a ^^^ b ≠ a := by
  intro h
  have h2 := congrArg (fun x => a ^^^ x) h
  simp only [← UInt8.xor_assoc, UInt8.xor_self, UInt8.zero_xor] at h2
  exact hb h2
/-- What got with no error says of the bytes. -/
theorem gotF_parts (s : ByteArray) (h : (gotF s).err = 0) : ∃ m, (gotF s).size = m + 4 ∧ m + 4 ≤ s.size ∧ (s.extract m (m + 4)) = sumB (Crc.more 0 (s.extract 0 m).data.toList) ∧
    (∀ r, s.data.toList.tail = r → m = 1 + ((gotT r 65536).2.1 + (gotT r 65536).1)) := by
  unfold gotF at h ⊢
  cases hl : s.data.toList with
  | nil => simp [hl, bad] at h
  | cons c r =>
    simp only [hl] at h ⊢
    split at h
    · simp [bad] at h
    · rename_i h0
      rw [if_neg h0]
      split at h
      · rename_i h1; exact absurd h h1
      · rename_i h1
        rw [if_neg h1]
        split at h
        · simp [bad] at h
        · rename_i h2
          rw [if_neg h2]
          split at h
          · rename_i h3
            rw [if_pos h3]
            refine ⟨1 + ((gotT r 65536).2.1 + (gotT r 65536).1), by show 5 + _ = _; omega, by omega, ?_, fun r' hr => by subst hr; rfl⟩
            rw [← h3]
            congr 1
            omega
          · simp [bad] at h
/-- A text of which byte k is turned by 'by'. -/
def turnAt (l : List UInt8) (k : Nat) (by_ : UInt8) : List UInt8 := l.set k (l.getD k 0 ^^^ by_)
theorem turnAt_split (l : List UInt8) (k : Nat) (b : UInt8) (h : k < l.length) : turnAt l k b = l.take k ++ (l.getD k 0 ^^^ b) :: l.drop (k + 1) := by
  rw [turnAt, List.set_eq_take_append_cons_drop, if_pos h]
theorem split_at (l : List UInt8) (k : Nat) (h : k < l.length) : l = l.take k ++ l.getD k 0 :: l.drop (k + 1) := by
  rw [List.getD_eq_getElem?_getD, List.getElem?_eq_getElem h]
  simp
theorem turnAt_length (l : List UInt8) (k : Nat) (b : UInt8) : (turnAt l k b).length = l.length := by simp [turnAt]
/-- With a byte changed, a frame is refused, or what is got is not as long as it was. -/
theorem turned_size (kd : Nat) (s t : ByteArray) (k : Nat) (b : UInt8) (hb : b ≠ 0) (hk : k < (putA kd s).size) (ht : t.data.toList = turnAt (putA kd s).data.toList k b) (he : (gotF t).err = 0) :
    (gotF t).size < (putA kd s).size := by
  obtain ⟨m, hm, hms, hx, _⟩ := gotF_parts t he
  have hts : t.size = (putA kd s).size := by rw [← size_list, ht, turnAt_length, size_list]
  by_cases hne : m + 4 < (putA kd s).size
  · omega
  · exfalso
    have hpz := putA_size kd s
    have hhz := hdr_size kd s
    have hmh : m = (hdr kd s).size := by omega
    have hl : (putA kd s).data.toList = (hdr kd s).data.toList ++ (sumB (Crc.more 0 (hdr kd s).data.toList)).data.toList := by
      rw [putA, ByteArray.data_append, Array.toList_append]
    have hlen := size_list (hdr kd s)
    have hx2 := congrArg (fun s : ByteArray => s.data.toList) hx
    simp only [extract_list] at hx2
    rw [ht, List.drop_zero, List.take_of_length_le (by rw [turnAt_length, size_list]; omega)] at hx2
    by_cases hkm : k < m
    · -- the byte stands ahead of the sum
      have e1 : (turnAt (putA kd s).data.toList k b).take m = turnAt (hdr kd s).data.toList k b := by
        rw [hl, turnAt, turnAt, List.set_append_left _ _ (by omega), List.take_append_of_le_length (by rw [List.length_set]; omega), List.take_of_length_le (by rw [List.length_set]; omega)]
        congr 2
        rw [List.getD_eq_getElem?_getD, List.getD_eq_getElem?_getD, List.getElem?_append_left (by omega)]
      have e2 : (turnAt (putA kd s).data.toList k b).drop m = (sumB (Crc.more 0 (hdr kd s).data.toList)).data.toList := by
        rw [hl, turnAt, List.set_append_left _ _ (by omega), List.drop_append_of_le_length (by rw [List.length_set]; omega), List.drop_of_length_le (by rw [List.length_set]; omega), List.nil_append]
      rw [e1, e2] at hx2
      have h3 := sumB_inj _ _ (Crc.more_lt _ _) (Crc.more_lt _ _) (bytes_ext hx2)
      rw [turnAt_split _ _ _ (by omega)] at h3
      conv at h3 => lhs; rw [split_at (hdr kd s).data.toList k (by omega)]
      exact more_differs _ _ _ _ (xor_other _ _ hb).symm h3
    · have e1 : (turnAt (putA kd s).data.toList k b).take m = (hdr kd s).data.toList := by
        rw [turnAt, List.take_set_of_le (by omega), hl, List.take_append_of_le_length (by omega), List.take_of_length_le (by omega)]
      have e3 : (putA kd s).data.toList.drop m = (sumB (Crc.more 0 (hdr kd s).data.toList)).data.toList := by
        rw [hl, List.drop_append_of_le_length (by omega), List.drop_of_length_le (by omega), List.nil_append]
      rw [e1, ← e3] at hx2
      have h4 := congrArg (fun l => l[k - m]?) hx2
      simp only [List.getElem?_drop] at h4
      rw [show m + (k - m) = k by omega, turnAt, List.getElem?_set_self (by rw [size_list]; omega), List.getD_eq_getElem?_getD] at h4
      rw [List.getElem?_eq_getElem (by rw [size_list]; omega)] at h4
      simp only [Option.getD_some, Option.some.injEq] at h4
      exact xor_other _ _ hb h4
/-- .. and if it is got all the same, the byte is one of those that say the length. -/
theorem turned_place (kd : Nat) (s t : ByteArray) (k : Nat) (b : UInt8) (hs : s.size ≤ 65535) (hb : b ≠ 0) (hk : k < (putA kd s).size) (ht : t.data.toList = turnAt (putA kd s).data.toList k b) (he : (gotF t).err = 0) :
    1 ≤ k ∧ k ≤ nd s.size + 1 := by
  have hlt := turned_size kd s t k b hb hk ht he
  obtain ⟨m, hm, hms, hx, hr⟩ := gotF_parts t he
  have hpz := putA_size kd s
  by_cases hin : 1 ≤ k ∧ k ≤ nd s.size + 1
  · exact hin
  · exfalso
    have hpl := putA_list kd s
    have key : ∃ u v : List UInt8, u.length = s.size ∧ t.data.toList.tail = numL s.size ++ (u ++ v) := by
      rw [ht]
      by_cases h0 : k = 0
      · subst h0
        refine ⟨s.data.toList, (sumB (Crc.more 0 (hdr kd s).data.toList)).data.toList, size_list s, ?_⟩
        rw [hpl, turnAt, List.set_cons_zero, List.tail_cons]
      · obtain ⟨j, rfl⟩ : ∃ j, k = (numL s.size).length + 1 + j := ⟨k - ((numL s.size).length + 1), by rw [numL_length]; omega⟩
        rw [turnAt, hpl]
        generalize List.getD _ _ _ ^^^ b = x
        rw [show (numL s.size).length + 1 + j = (numL s.size).length + j + 1 by omega, List.set_cons_succ, List.tail_cons, List.set_append_right _ _ (by omega), show (numL s.size).length + j - (numL s.size).length = j by omega]
        by_cases hj : j < s.size
        · rw [List.set_append_left _ _ (by rw [size_list]; exact hj)]
          exact ⟨_, _, by rw [List.length_set, size_list], rfl⟩
        · rw [List.set_append_right _ _ (by rw [size_list]; omega)]
          exact ⟨_, _, size_list s, rfl⟩
    obtain ⟨u, v, hu, htl⟩ := key
    have h1 := hr _ rfl
    rw [htl, gotT_text s.size (by omega) u v hu] at h1
    simp only at h1
    omega
end Frm
end Go.Proofs.YtlgjbdfnhaoloaaGreatDoor
end

/- What frame.Put returns, and the document's own: of any frame its bytes, or an error. They leave alone what was there before. Conditions: the table's two cells, texts no longer than a text can be. -/
section
namespace Go.Proofs.YtlgjbdfnhaoloaaGreatDoor
open Go.RowKit
namespace Frm
open Dig Crc

theorem sum_bytes (c : Nat) (hc : c < 4294967296) (w : World) : Calls Tryz.prog 55 #[.int .u32 c] w fun e w' => e = .returned (.string (sumB c)) ∧ Below w.heap.size w w' := bytes_any c hc w
theorem bcell {B : Nat} {W w1 : World} (hb : Below B W w1) : ∀ b o, b < B → w1.cell? ⟨b, o, none⟩ = W.cell? ⟨b, o, none⟩ := fun b o h => hb.cell (p := ⟨b, o, none⟩) h
theorem conv_kind (k : Nat) (_h : k ≤ 255) : IntKind.u8.wrap (k : Int) = ((UInt8.ofNat k).toNat : Int) := by rw [IntKind.wrap_u8, UInt8.toNat_ofNat']; omega

set_option maxHeartbeats 400000 in
theorem put_low (k : Int) (s : ByteArray) (h : k < 1) (w : World) :
    Calls Tryz.prog 29 #[.agg #[.int .i64 k, .string s]] w fun e w' => e = .returned (.tuple #[.string ⟨#[]⟩, .int .i64 5]) ∧ Below w.heap.size w w' := by
  go_enter Tryz.func29, Tryz.ntmps29
  go_wp2
  go_ret2
  exact ⟨rfl, by go_grown⟩
set_option maxHeartbeats 400000 in
theorem put_high (k : Int) (s : ByteArray) (h : 255 < k) (w : World) :
    Calls Tryz.prog 29 #[.agg #[.int .i64 k, .string s]] w fun e w' => e = .returned (.tuple #[.string ⟨#[]⟩, .int .i64 5]) ∧ Below w.heap.size w w' := by
  go_enter Tryz.func29, Tryz.ntmps29
  go_wp2
  go_ret2
  exact ⟨rfl, by go_grown⟩
set_option maxHeartbeats 400000 in
theorem put_long (k : Int) (s : ByteArray) (h1 : 1 ≤ k) (h2 : k ≤ 255) (h : 65536 < s.size) (hs : s.size ≤ 9223372036854775807) (w : World) :
    Calls Tryz.prog 29 #[.agg #[.int .i64 k, .string s]] w fun e w' => e = .returned (.tuple #[.string ⟨#[]⟩, .int .i64 8]) ∧ Below w.heap.size w w' := by
  go_enter Tryz.func29, Tryz.ntmps29
  go_wp2
  go_ret2
  exact ⟨rfl, by go_grown⟩
set_option maxHeartbeats 1600000 in
theorem put_ok (k : Nat) (s : ByteArray) (h1 : 1 ≤ k) (h2 : k ≤ 255) (h : s.size ≤ 65536) (w : World) (ht : Tab w) :
    Calls Tryz.prog 29 #[.agg #[.int .i64 (k : Int), .string s]] w fun e w' => e = .returned (.tuple #[.string (putA k s), .int .i64 0]) ∧ Below w.heap.size w w' := by
  have hkk := conv_kind k h2
  have hcv := fun c b W hc => run_one_byte (UInt8.ofNat k) c b W hc
  have hsz := hdr_size k s
  have hnd := nd_le s.size
  have hpz := putA_size k s
  have hadd := fun (W : World) => run_string_add_sum (P := Tryz.prog) W ⟨#[UInt8.ofNat k]⟩ (textA s) (by rw [← ByteArray.size_append]; show (hdr k s).size ≤ _; omega)
  have hadd2 := fun (W : World) => run_string_add_sum (P := Tryz.prog) W (hdr k s) (sumB (more 0 (hdr k s).data.toList)) (by rw [← ByteArray.size_append]; show (putA k s).size ≤ _; omega)
  have hH : Hid (⟨#[UInt8.ofNat k]⟩ ++ textA s = hdr k s) := Lib.hid rfl
  have hP : Hid (hdr k s ++ sumB (more 0 (hdr k s).data.toList) = putA k s) := Lib.hid rfl
  have hml := more_lt 0 (hdr k s).data.toList
  have hof := Lib.hid (of_any (hdr k s) (by omega))
  have hby := Lib.hid (sum_bytes (more 0 (hdr k s).data.toList) hml)
  replace hadd := Lib.hid hadd
  replace hadd2 := Lib.hid hadd2
  clear hsz hnd hpz hml
  generalize hdr k s = H at *
  generalize more 0 H.data.toList = c at *
  generalize putA k s = R at *
  generalize UInt8.ofNat k = kb at *
  go_enter Tryz.func29, Tryz.ntmps29
  go_wp2
  go_cut [4] (fun x wx => x = .string H ∧ Below w.heap.size w wx)
  case first =>
    have hadd3 := hadd.out
    clear hadd hadd2 hof hby hP
    go_region_with (go_at_call 54; refine (text_any s (by omega) _).mono ?_; rintro e w1 ⟨rfl, hb1⟩; have hc1 := bcell hb1)
    all_goals (go_wp2_with fail; go_meet; exact ⟨by rw [hH.out], by first | exact chain2 (by go_grown) hb1 | exact (chain2 (by go_grown) hb1).alloc (by have := hb1.size; simp at this; omega) _⟩)
  case rest =>
    obtain ⟨rfl, hbx⟩ := hcut
    clear hcv hH hadd hkk
    go_wp2_with fail
    refine (hof.out _ (ht.below hbx)).mono ?_
    rintro e w2 ⟨rfl, rfl⟩
    go_wp2_with fail
    refine (hby.out _).mono ?_
    rintro e w2 ⟨rfl, hb2⟩
    have hadd3 := hadd2.out w2
    clear hof hby hadd2
    go_wp2
    go_ret2
    exact ⟨by rw [hP.out]; rfl, chain2 hbx hb2⟩
theorem put_any (k : Int) (s : ByteArray) (hs : s.size ≤ 9223372036854775807) (w : World) (ht : Tab w) :
    Calls Tryz.prog 29 #[.agg #[.int .i64 k, .string s]] w fun e w' => e = .returned (.tuple #[.string (putS k s), .int .i64 (putE k s)]) ∧ Below w.heap.size w w' := by
  unfold putS putE
  by_cases h1 : k < 1
  · rw [if_pos (Or.inl h1), if_pos (Or.inl h1)]
    exact put_low k s h1 w
  · by_cases h2 : 255 < k
    · rw [if_pos (Or.inr h2), if_pos (Or.inr h2)]
      exact put_high k s h2 w
    · have hn : ¬ (k < 1 ∨ 255 < k) := by omega
      rw [if_neg hn, if_neg hn]
      by_cases h3 : 65536 < s.size
      · rw [if_pos h3, if_pos h3]
        exact put_long k s (by omega) (by omega) h3 hs w
      · rw [if_neg h3, if_neg h3]
        obtain ⟨k, rfl⟩ := Int.eq_ofNat_of_zero_le (show 0 ≤ k by omega)
        exact put_ok k s (by omega) (by omega) (by omega) w ht
end Frm
end Go.Proofs.YtlgjbdfnhaoloaaGreatDoor
end

/- What frame.Get returns, and the document's own: of any bytes the frame at their front, or an error. They leave alone what was there before. Conditions: the table's two cells, texts no longer than a text can be. -/
section
namespace Go.Proofs.YtlgjbdfnhaoloaaGreatDoor
open Go.RowKit
namespace Frm
open Dig Crc

set_option maxHeartbeats 400000 in
theorem get_nothing (s : ByteArray) (he : s.toList.isEmpty = true) (w : World) :
    Calls Tryz.prog 71 #[.string s] w fun e w' => e = .returned (.tuple #[.agg #[.int .i64 0, .string ⟨#[]⟩], .int .i64 0, .int .i64 1]) ∧ Below w.heap.size w w' := by
  go_enter Tryz.func71, Tryz.ntmps71
  go_wp2
  go_returns
  exact ⟨rfl, by go_grown⟩
set_option maxHeartbeats 400000 in
theorem get_kind (s : ByteArray) (h0 : 0 < s.size) (he : s.toList.isEmpty = false) (hk : (s[0].toNat : Int) < 1) (w : World) :
    Calls Tryz.prog 71 #[.string s] w fun e w' => e = .returned (.tuple #[.agg #[.int .i64 0, .string ⟨#[]⟩], .int .i64 0, .int .i64 5]) ∧ Below w.heap.size w w' := by
  go_enter Tryz.func71, Tryz.ntmps71
  go_wp2
  go_returns
  exact ⟨rfl, by go_grown⟩

/-- A new block of two cells, behind what leaves alone what was there. -/
theorem box2 {w w1 : World} {a b : Value} {t : TypeId} (hb : Below (w.alloc (.cells #[a, b] t)).heap.size (w.alloc (.cells #[a, b] t)) w1) :
    w1.cell? ⟨w.heap.size, 0, none⟩ = some a ∧ w1.cell? ⟨w.heap.size, 1, none⟩ = some b ∧ w1.frozen? ⟨w.heap.size, 0, none⟩ = false ∧ w1.frozen? ⟨w.heap.size, 1, none⟩ = false ∧ w.heap.size < w1.heap.size ∧ Below w.heap.size w w1 := by
  have hz : w.heap.size < (w.alloc (.cells #[a, b] t)).heap.size := by simp
  refine ⟨?_, ?_, ?_, ?_, Nat.lt_of_lt_of_le hz hb.size, chain2 ((Below.refl _ w).alloc (Nat.le_refl _) _) hb⟩
  · rw [hb.cell (p := ⟨w.heap.size, 0, none⟩) hz]; simp [go_sem]
  · rw [hb.cell (p := ⟨w.heap.size, 1, none⟩) hz]; simp [go_sem]
  · rw [hb.frozen (p := ⟨w.heap.size, 0, none⟩) hz]; simp [go_sem]
  · rw [hb.frozen (p := ⟨w.heap.size, 1, none⟩) hz]; simp [go_sem]

theorem set2 {w1 : World} {g : Nat} {x y : Value} (c0 : w1.cell? ⟨g, 0, none⟩ = some x) (c1 : w1.cell? ⟨g, 1, none⟩ = some y) :
    (∀ a, (w1.setCell ⟨g, 0, none⟩ a).cell? ⟨g, 0, none⟩ = some a) ∧ (∀ a b, ((w1.setCell ⟨g, 0, none⟩ a).setCell ⟨g, 1, none⟩ b).cell? ⟨g, 1, none⟩ = some b) ∧
    (∀ a b, ((w1.setCell ⟨g, 0, none⟩ a).setCell ⟨g, 1, none⟩ b).cell? ⟨g, 0, none⟩ = some a) := by
  have hne : (⟨g, 0, none⟩ : Addr) ≠ ⟨g, 1, none⟩ := by simp
  have h0 : ∀ a, (w1.setCell ⟨g, 0, none⟩ a).cell? ⟨g, 0, none⟩ = some a := fun a => World.cell?_setCell_same w1 _ _ c0
  refine ⟨h0, fun a b => ?_, fun a b => ?_⟩
  · exact World.cell?_setCell_same _ _ _ ((World.cell?_setCell_other w1 _ _ _ hne).trans c1)
  · exact (World.cell?_setCell_other _ _ _ _ hne.symm).trans (h0 a)

theorem of_grown {w0 : World} (ht : Tab w0) (s : ByteArray) (hs : s.size ≤ 9223372036854775807) (d : Nat) (os : Array Obj) :
    Calls Tryz.prog 56 #[.string s] (Sort.grow (redrawn w0 d) os) fun e w' => e = .returned (.int .u32 (more 0 s.data.toList : Nat)) ∧ ∃ p : Regrown, w' = Sort.grow (redrawn w0 p.d) p.os :=
  Calls.regrown_of ((of_any s hs _ (ht.below (below_regrown w0 d os))).mono fun _ _ ⟨he, hw⟩ => ⟨he, hw ▸ Below.refl _ _⟩)

set_option maxHeartbeats 400000 in
theorem get_text (s : ByteArray) (hs : s.size ≤ 9223372036854775807) (h0 : 0 < s.size) (he : s.toList.isEmpty = false) (hk : (1 : Int) ≤ (s[0].toNat : Int)) (x : Nat) (hx : ((x : Int) != 0) = true) (D : ByteArray) (m : Int)
    (hG : Hid (∀ w, Calls Tryz.prog 85 #[.string (s.extract 1 s.size), .int .i64 65536] w fun e w' => e = .returned (.tuple #[.string D, .int .i64 m, .int .i64 (x : Int)]) ∧ Below w.heap.size w w')) (w : World) :
    Calls Tryz.prog 71 #[.string s] w fun e w' => e = .returned (.tuple #[.agg #[.int .i64 0, .string ⟨#[]⟩], .int .i64 0, .int .i64 (x : Int)]) ∧ Below w.heap.size w w' := by
  have hlt := s[0].toNat_lt
  go_enter Tryz.func71, Tryz.ntmps71
  go_wp2_with fail
  refine (hG.out _).mono ?_
  rintro e w1 ⟨rfl, hb⟩
  obtain ⟨c0, c1, f0, f1, hz, hbel⟩ := box2 hb
  clear hb
  go_wp2
  obtain ⟨e0, e1, e2⟩ := set2 c0 c1
  refine bodyPost_ret (v := .tuple #[.agg #[.int .i64 0, .string ⟨#[]⟩], .int .i64 0, .int .i64 (x : Int)]) (by simp [results, Tryz.results71, go_sem, e0, e1]) rfl ⟨rfl, (hbel.setCell (Nat.le_refl _) _).setCell (Nat.le_refl _) _⟩

theorem neq_lists {a b : ByteArray} (h : a ≠ b) : (a.toList == b.toList) = false := by
  rw [beq_eq_false_iff_ne]
  intro e
  rw [ByteArray.toList_eq, ByteArray.toList_eq] at e
  exact h (bytes_ext e)
theorem len_of (s : ByteArray) (a b : Nat) (h : b ≤ s.size) : (s.extract a b).size = b - a := by rw [ByteArray.size_extract, Nat.min_eq_left h]

set_option maxHeartbeats 400000 in
theorem get_short (s : ByteArray) (hs : s.size ≤ 140737488351232) (h0 : 0 < s.size) (he : s.toList.isEmpty = false) (hk : (1 : Int) ≤ (s[0].toNat : Int)) (D : ByteArray) (m : Nat) (hm : m ≤ 140737488351232) (hl : s.size < 5 + m)
    (hG : Hid (∀ w, Calls Tryz.prog 85 #[.string (s.extract 1 s.size), .int .i64 65536] w fun e w' => e = .returned (.tuple #[.string D, .int .i64 (m : Int), .int .i64 0]) ∧ Below w.heap.size w w')) (w : World) :
    Calls Tryz.prog 71 #[.string s] w fun e w' => e = .returned (.tuple #[.agg #[.int .i64 0, .string ⟨#[]⟩], .int .i64 0, .int .i64 1]) ∧ Below w.heap.size w w' := by
  have hlt := s[0].toNat_lt
  go_enter Tryz.func71, Tryz.ntmps71
  go_wp2_with fail
  refine (hG.out _).mono ?_
  rintro e w1 ⟨rfl, hb⟩
  obtain ⟨c0, c1, f0, f1, hz, hbel⟩ := box2 hb
  clear hb
  go_wp2
  obtain ⟨e0, e1, e2⟩ := set2 c0 c1
  refine bodyPost_ret (v := .tuple #[.agg #[.int .i64 0, .string ⟨#[]⟩], .int .i64 0, .int .i64 1]) (by simp [results, Tryz.results71, go_sem, e0, e1]) rfl ⟨rfl, (hbel.setCell (Nat.le_refl _) _).setCell (Nat.le_refl _) _⟩

set_option maxHeartbeats 400000 in
theorem get_ok (s : ByteArray) (hs : s.size ≤ 140737488351232) (h0 : 0 < s.size) (he : s.toList.isEmpty = false) (hk : (1 : Int) ≤ (s[0].toNat : Int)) (D : ByteArray) (m : Nat) (hm : m ≤ 140737488351232) (hl : 5 + m ≤ s.size)
    (hG : Hid (∀ w, Calls Tryz.prog 85 #[.string (s.extract 1 s.size), .int .i64 65536] w fun e w' => e = .returned (.tuple #[.string D, .int .i64 (m : Int), .int .i64 0]) ∧ Below w.heap.size w w'))
    (heq : s.extract (1 + m) (1 + m + 4) = sumB (more 0 (s.extract 0 (1 + m)).data.toList)) (w : World) (ht : Tab w) :
    Calls Tryz.prog 71 #[.string s] w fun e w' => e = .returned (.tuple #[.agg #[.int .i64 (s[0].toNat : Int), .string D], .int .i64 ((5 + m : Nat) : Int), .int .i64 0]) ∧ Below w.heap.size w w' := by
  have hlt := s[0].toNat_lt
  have hz := len_of s 0 (1 + m) (by omega)
  have hml := more_lt 0 (s.extract 0 (1 + m)).data.toList
  have hof := fun (w0 : World) (ht : Tab w0) (d : Nat) (os : Array Obj) => of_grown ht (s.extract 0 (1 + m)) (by omega) d os
  have hby := sum_bytes (more 0 (s.extract 0 (1 + m)).data.toList) hml
  generalize more 0 (s.extract 0 (1 + m)).data.toList = c at *
  replace hof := Lib.hid hof
  replace hby := Lib.hid hby
  replace ht := Lib.hid ht
  clear hml hz
  have i1 : IntKind.i64.wrap (1 + (m : Int)) = 1 + (m : Int) := IntWalk.i64_in _ (by omega)
  have hfin : (1 + (m : Int) + 4) = ((5 + m : Nat) : Int) := by omega
  replace hfin := Lib.hid hfin
  go_enter Tryz.func71, Tryz.ntmps71
  go_wp2_with fail
  refine (hG.out _).mono ?_
  rintro e w1 ⟨rfl, hb⟩
  go_wp2_with fail
  have ht1 : Tab w1 := ht.out.below (box2 hb).2.2.2.2.2
  have i2 : IntKind.i64.wrap (1 + (m : Int) + 4) = 1 + (m : Int) + 4 := IntWalk.i64_in _ (by omega)
  refine wp_region_quiet_below (by kernel_rfl) (by kernel_rfl) ?_
  repeat (go_big_quiet_step (first | exact hof.out _ ht1 _ _ | exact Calls.regrown_of (hby.out _)))
  refine wpQuiet_nil ?_
  intro _ hw'
  obtain ⟨⟨dq, osq⟩, hw''⟩ := hw'
  subst hw''
  have hbq := below_regrown w1 dq osq
  generalize Sort.grow (redrawn w1 dq) osq = w2 at *
  obtain ⟨c0, c1, f0, f1, hz, hbel⟩ := box2 (chain2 hb hbq)
  clear hb hbq hof hby ht1 i1 i2
  go_wp2
  obtain ⟨e0, e1, e2⟩ := set2 c0 c1
  refine bodyPost_ret (v := .tuple #[.agg #[.int .i64 (s[0].toNat : Int), .string D], .int .i64 (1 + (m : Int) + 4), .int .i64 0]) (by simp [results, Tryz.results71, go_sem, e0, e1]) rfl ⟨by rw [hfin.out], (hbel.setCell (Nat.le_refl _) _).setCell (Nat.le_refl _) _⟩

set_option maxHeartbeats 400000 in
theorem get_sum (s : ByteArray) (hs : s.size ≤ 140737488351232) (h0 : 0 < s.size) (he : s.toList.isEmpty = false) (hk : (1 : Int) ≤ (s[0].toNat : Int)) (D : ByteArray) (m : Nat) (hm : m ≤ 140737488351232) (hl : 5 + m ≤ s.size)
    (hG : Hid (∀ w, Calls Tryz.prog 85 #[.string (s.extract 1 s.size), .int .i64 65536] w fun e w' => e = .returned (.tuple #[.string D, .int .i64 (m : Int), .int .i64 0]) ∧ Below w.heap.size w w'))
    (hne : s.extract (1 + m) (1 + m + 4) ≠ sumB (more 0 (s.extract 0 (1 + m)).data.toList)) (w : World) (ht : Tab w) :
    Calls Tryz.prog 71 #[.string s] w fun e w' => e = .returned (.tuple #[.agg #[.int .i64 0, .string ⟨#[]⟩], .int .i64 0, .int .i64 10]) ∧ Below w.heap.size w w' := by
  have hlt := s[0].toNat_lt
  have hz := len_of s 0 (1 + m) (by omega)
  have hml := more_lt 0 (s.extract 0 (1 + m)).data.toList
  have hof := fun (w0 : World) (ht : Tab w0) (d : Nat) (os : Array Obj) => of_grown ht (s.extract 0 (1 + m)) (by omega) d os
  have hby := sum_bytes (more 0 (s.extract 0 (1 + m)).data.toList) hml
  generalize more 0 (s.extract 0 (1 + m)).data.toList = c at *
  generalize sumB c = B at *
  replace hof := Lib.hid hof
  replace hby := Lib.hid hby
  replace ht := Lib.hid ht
  have hnb := neq_lists hne
  clear hne
  clear hml hz
  have i1 : IntKind.i64.wrap (1 + (m : Int)) = 1 + (m : Int) := IntWalk.i64_in _ (by omega)
  go_enter Tryz.func71, Tryz.ntmps71
  go_wp2_with fail
  refine (hG.out _).mono ?_
  rintro e w1 ⟨rfl, hb⟩
  go_wp2_with fail
  have ht1 : Tab w1 := ht.out.below (box2 hb).2.2.2.2.2
  have i2 : IntKind.i64.wrap (1 + (m : Int) + 4) = 1 + (m : Int) + 4 := IntWalk.i64_in _ (by omega)
  refine wp_region_quiet_below (by kernel_rfl) (by kernel_rfl) ?_
  repeat (go_big_quiet_step (first | exact hof.out _ ht1 _ _ | exact Calls.regrown_of (hby.out _)))
  refine wpQuiet_nil ?_
  intro _ hw'
  obtain ⟨⟨dq, osq⟩, hw''⟩ := hw'
  subst hw''
  have hbq := below_regrown w1 dq osq
  generalize Sort.grow (redrawn w1 dq) osq = w2 at *
  obtain ⟨c0, c1, f0, f1, hz, hbel⟩ := box2 (chain2 hb hbq)
  clear hb hbq hof hby ht1 i1 i2
  go_wp2
  obtain ⟨e0, e1, e2⟩ := set2 c0 c1
  refine bodyPost_ret (v := .tuple #[.agg #[.int .i64 0, .string ⟨#[]⟩], .int .i64 0, .int .i64 10]) (by simp [results, Tryz.results71, go_sem, e0, e1]) rfl ⟨rfl, (hbel.setCell (Nat.le_refl _) _).setCell (Nat.le_refl _) _⟩

/-- Get, of any bytes. -/
theorem get_any (s : ByteArray) (hs : s.size ≤ 140737488351232) (w : World) (ht : Tab w) :
    Calls Tryz.prog 71 #[.string s] w fun e w' => e = .returned (.tuple #[.agg #[.int .i64 ((gotF s).kind : Int), .string (gotF s).data], .int .i64 ((gotF s).size : Int), .int .i64 ((gotF s).err : Int)]) ∧ Below w.heap.size w w' := by
  have he : s.toList = s.data.toList := ByteArray.toList_eq s
  unfold gotF
  cases h : s.data.toList with
  | nil => exact get_nothing s (by rw [he, h]; rfl) w
  | cons c r =>
    have hsz := size_cons s h
    have hc : s[0]'(by omega) = c := byte_at s 0 (by omega) (by rw [h]; rfl)
    have he' : s.toList.isEmpty = false := by rw [he, h]; rfl
    have htl : (s.extract 1 s.size).data.toList = r := by rw [tail_list, h]; rfl
    have hgt := gettext_any (s.extract 1 s.size) 65536 (by rw [← size_list, htl]; omega) (by omega)
    rw [htl] at hgt
    have hlt := gotT_lt r 65536
    simp only
    generalize gotT r 65536 = g at *
    obtain ⟨n, k, x⟩ := g
    simp only at hgt hlt ⊢
    by_cases h1 : c.toNat = 0
    · rw [if_pos h1]
      exact get_kind s (by omega) he' (by rw [hc]; omega) w
    · rw [if_neg h1]
      by_cases h2 : x = 0
      · subst h2
        rw [if_neg (by omega)]
        have hG : Hid (∀ w, Calls Tryz.prog 85 #[.string (s.extract 1 s.size), .int .i64 65536] w fun e w' => e = .returned (.tuple #[.string ((s.extract 1 s.size).extract k (k + n)), .int .i64 ((k + n : Nat) : Int), .int .i64 0]) ∧ Below w.heap.size w w') := Lib.hid hgt
        by_cases h3 : s.size < 5 + (k + n)
        · rw [if_pos h3]
          exact get_short s hs (by omega) he' (by rw [hc]; omega) _ (k + n) (by omega) h3 hG w
        · rw [if_neg h3]
          have e5 : 5 + (k + n) = 1 + (k + n) + 4 := by omega
          by_cases h4 : s.extract (1 + (k + n)) (5 + (k + n)) = sumB (more 0 (s.extract 0 (1 + (k + n))).data.toList)
          · rw [if_pos h4]
            rw [e5] at h4
            have := get_ok s hs (by omega) he' (by rw [hc]; omega) _ (k + n) (by omega) (by omega) hG h4 w ht
            rw [hc] at this
            exact this
          · rw [if_neg h4]
            rw [e5] at h4
            exact get_sum s hs (by omega) he' (by rw [hc]; omega) _ (k + n) (by omega) (by omega) hG h4 w ht
      · rw [if_pos h2]
        exact get_text s (by omega) (by omega) he' (by rw [hc]; omega) x (by rw [bne_iff_ne]; omega) _ _ (Lib.hid hgt) w
end Frm
end Go.Proofs.YtlgjbdfnhaoloaaGreatDoor
end

/- What the document's own Get returns for frames: of any bytes the frame at their front, or an error. It leaves alone what was there before. Conditions: texts no longer than a text can be. -/
section
namespace Go.Proofs.YtlgjbdfnhaoloaaGreatDoor
open Go.RowKit
namespace Frm
open Dig Crc


end Frm
end Go.Proofs.YtlgjbdfnhaoloaaGreatDoor
end

/- For all inputs FrameWrites and FrameLimits return true. Conditions: the table's two cells, texts no longer than a text can be. -/
section
namespace Go.Proofs.YtlgjbdfnhaoloaaGreatDoor
open Go.RowKit
namespace Frm
open Dig Crc


theorem put_is (k : Int) (s t : ByteArray) (x : Int) (hs : s.size ≤ 9223372036854775807) (h1 : putS k s = t) (h2 : putE k s = x) (w : World) (ht : Tab w) :
    Calls Tryz.prog 29 #[.agg #[.int .i64 k, .string s]] w fun e w' => e = .returned (.tuple #[.string t, .int .i64 x]) ∧ Below w.heap.size w w' := by
  subst h1 h2; exact put_any k s hs w ht
theorem get_is (s : ByteArray) (g : Got) (hs : s.size ≤ 140737488351232) (h : gotF s = g) (w : World) (ht : Tab w) :
    Calls Tryz.prog 71 #[.string s] w fun e w' => e = .returned (.tuple #[.agg #[.int .i64 (g.kind : Int), .string g.data], .int .i64 (g.size : Int), .int .i64 (g.err : Int)]) ∧ Below w.heap.size w w' := by
  subst h; exact get_any s hs w ht
theorem put_one : putS 1 ⟨#[97]⟩ = ⟨#[1, 1, 1, 97, 176, 108, 251, 23]⟩ := by
  have h : (putS 1 ⟨#[97]⟩).data.toList = [1, 1, 1, 97, 176, 108, 251, 23] := by decide +kernel
  exact bytes_ext h
theorem got_one : gotF ⟨#[1, 1, 1, 97, 176, 108, 251, 23, 120]⟩ = ⟨1, ⟨#[97]⟩, 8, 0⟩ := by
  have h := got_put 1 ⟨#[97]⟩ ⟨#[120]⟩ (by omega) (by omega) (by decide)
  have e : putA 1 ⟨#[97]⟩ = ⟨#[1, 1, 1, 97, 176, 108, 251, 23]⟩ := by
    have := put_one
    unfold putS at this
    rw [if_neg (by omega), if_neg (by decide)] at this
    exact this
  rw [e] at h
  exact h


theorem infoU8 : (Tryz.prog.info? 5).map (fun i => (i.zero, i.size, i.bytes)) = some (some (.int .u8 0), 1, 1) := by kernel_rfl
theorem lim_n (x : Int) : ∃ n : Nat, 65530 ≤ n ∧ n ≤ 65541 ∧ 65530 + (IntKind.u64.wrap x).tmod 12 = (n : Int) := by
  have h0 : 0 ≤ IntKind.u64.wrap x := by rw [IntKind.wrap_u64]; omega
  rw [Int.tmod_eq_emod_of_nonneg h0]
  exact ⟨(65530 + IntKind.u64.wrap x % 12).toNat, by omega, by omega, by omega⟩
theorem app_nil (s : ByteArray) : s ++ ⟨#[]⟩ = s := by
  apply bytes_ext
  rw [ByteArray.data_append]; simp
/-- n bytes that are 0. -/
def zeros (n : Nat) : ByteArray := ⟨(List.replicate n (0 : UInt8)).toArray⟩
theorem zeros_size (n : Nat) : (zeros n).size = n := by
  show (List.replicate n (0 : UInt8)).toArray.size = n
  simp
theorem run_zeros (g n : Nat) (w : World) (h : w.ownsRow g 5 1 (.slice (some ⟨g, 0, none⟩) n n) n (madeCells #[Value.int .u8 0] n).toList) :
    (convert 42 9 (.slice (some ⟨g, 0, none⟩) n n)).run Tryz.prog w = .ok (.string (zeros n)) w := by
  have hc := h.cells (g := g) rfl
  rw [toList_madeCells_one] at hc
  have h2 := run_convert_bytes_back (P := Tryz.prog) w 42 9 5 ⟨g, 0, none⟩ n (List.replicate n (0 : UInt8)) (by kernel_rfl) (by kernel_rfl) (by kernel_rfl) (fun j hj => by
    rw [List.length_replicate] at hj
    rw [hc j (.int .u8 0) (by simp [hj])]
    simp)
  rw [List.length_replicate] at h2
  exact h2
theorem below_grown {w w1 : World} (h : w.grownBy w1 none) : Below w.heap.size w w1 :=
  ⟨h.os, h.tape, h.output, h.size, fun k hk => h.block k hk (by simp)⟩

end Frm
end Go.Proofs.YtlgjbdfnhaoloaaGreatDoor
end

/- For all inputs FrameTells returns true. Conditions: the table's two cells, texts no longer than a text can be. -/
section
namespace Go.Proofs.YtlgjbdfnhaoloaaGreatDoor
open Go.RowKit
namespace Frm
open Dig Crc

theorem xor_by (c : UInt8) (b : Nat) (hb : b < 256) : bits .xor .u8 (c.toNat : Int) (b : Int) = ((c ^^^ UInt8.ofNat b).toNat : Int) := by
  have hc := c.toNat_lt
  rw [Crc.xor_toNat, UInt8.toNat_ofNat', Nat.mod_eq_of_lt hb]
  have hx : c.toNat ^^^ b < 2 ^ 8 := Nat.xor_lt_two_pow (by omega) (by omega)
  have h1 : (BitVec.ofInt 8 (c.toNat : Int)).toNat = c.toNat := by
    rw [BitVec.ofInt_natCast, BitVec.toNat_ofNat]; exact Nat.mod_eq_of_lt (by omega)
  have h2 : (BitVec.ofInt 8 (b : Int)).toNat = b := by
    rw [BitVec.ofInt_natCast, BitVec.toNat_ofNat]; exact Nat.mod_eq_of_lt (by omega)
  show IntKind.u8.wrap ((BitVec.ofInt 8 (c.toNat : Int) ^^^ BitVec.ofInt 8 (b : Int)).toNat : Int) = _
  rw [BitVec.toNat_xor, h1, h2, IntKind.wrap_u8]
  omega
theorem pick_at (x : Int) (n : Nat) (h0 : 0 < n) (h : n ≤ 1000000000) : ∃ k : Nat, k < n ∧ wrap64 ((IntKind.u64.wrap x).tmod (n : Int)) = (k : Int) := by
  have h0 : 0 ≤ IntKind.u64.wrap x := by rw [IntKind.wrap_u64]; omega
  rw [Int.tmod_eq_emod_of_nonneg h0]
  have h1 := Int.emod_nonneg (IntKind.u64.wrap x) (show ((n : Int)) ≠ 0 by omega)
  have h2 := Int.emod_lt_of_pos (IntKind.u64.wrap x) (show (0 : Int) < (n : Int) by omega)
  refine ⟨(IntKind.u64.wrap x % (n : Int)).toNat, by omega, ?_⟩
  rw [IntWalk.wrap64_in _ (by omega)]
  omega


theorem nd_two (n : Nat) (h : n < 65536) : nd n ≤ 2 := by
  unfold nd
  repeat' split
  all_goals omega
/-- A text with byte j turned. -/
def turnA (P : ByteArray) (j b : Nat) : ByteArray := ⟨(turnAt P.data.toList j (UInt8.ofNat b)).toArray⟩
theorem turnA_size (P : ByteArray) (j b : Nat) : (turnA P j b).size = P.size := by
  show (turnAt P.data.toList j (UInt8.ofNat b)).toArray.size = _
  rw [List.size_toArray, turnAt_length, size_list]


end Frm
end Go.Proofs.YtlgjbdfnhaoloaaGreatDoor
end

/- Plain facts on rows of frames: all that are got from the front on, whatever the bytes; frames that are written one behind the other are got as they were, cut off anywhere those that are whole. Conditions: those that each lemma states. -/
section
namespace Go.Proofs.YtlgjbdfnhaoloaaGreatDoor
open Go.RowKit
namespace Frm
open Dig

/-- All frames from place m on: the frames, the place behind them, the error. -/
def scanF : Nat → ByteArray → Nat → List (Nat × ByteArray) × Nat × Nat
  | 0, _, m => ([], m, 0)
  | f + 1, s, m =>
    if m < s.size then
      if (gotF (s.extract m s.size)).err ≠ 0 then ([], m, (gotF (s.extract m s.size)).err)
      else (((gotF (s.extract m s.size)).kind, (gotF (s.extract m s.size)).data) :: (scanF f s (m + (gotF (s.extract m s.size)).size)).1, (scanF f s (m + (gotF (s.extract m s.size)).size)).2)
    else ([], m, 0)
theorem scan_end (f : Nat) (s : ByteArray) (m : Nat) (h : s.size ≤ m) : scanF f s m = ([], m, 0) := by
  cases f with
  | zero => rfl
  | succ f => rw [scanF, if_neg (by omega)]
theorem scan_err (f : Nat) (s : ByteArray) (m : Nat) (h : m < s.size) (he : (gotF (s.extract m s.size)).err ≠ 0) : scanF (f + 1) s m = ([], m, (gotF (s.extract m s.size)).err) := by
  rw [scanF, if_pos h, if_pos he]
theorem scan_more (f : Nat) (s : ByteArray) (m : Nat) (h : m < s.size) (he : (gotF (s.extract m s.size)).err = 0) :
    scanF (f + 1) s m = (((gotF (s.extract m s.size)).kind, (gotF (s.extract m s.size)).data) :: (scanF f s (m + (gotF (s.extract m s.size)).size)).1, (scanF f s (m + (gotF (s.extract m s.size)).size)).2) := by
  rw [scanF, if_pos h, if_neg (by omega)]
/-- The cells of a row of frames. -/
def cellsL : List (Nat × ByteArray) → List Value
  | [] => []
  | p :: l => .int .i64 (p.1 : Int) :: .string p.2 :: cellsL l
theorem cellsL_append (a b : List (Nat × ByteArray)) : cellsL (a ++ b) = cellsL a ++ cellsL b := by
  induction a with
  | nil => rfl
  | cons p a ih => simp [cellsL, ih]
theorem cellsL_length (l : List (Nat × ByteArray)) : (cellsL l).length = l.length * 2 := by
  induction l with
  | nil => rfl
  | cons p a ih => simp [cellsL, ih]; omega
theorem cellsL_kind (l : List (Nat × ByteArray)) (i : Nat) (h : i < l.length) : (cellsL l)[i * 2]? = some (.int .i64 ((l[i]).1 : Int)) := by
  induction l generalizing i with
  | nil => simp at h
  | cons p a ih =>
    cases i with
    | zero => rfl
    | succ i =>
      rw [show (i + 1) * 2 = i * 2 + 1 + 1 by omega]
      simp only [cellsL, List.getElem?_cons_succ, List.getElem_cons_succ]
      exact ih i (by simpa using h)
theorem cellsL_data (l : List (Nat × ByteArray)) (i : Nat) (h : i < l.length) : (cellsL l)[i * 2 + 1]? = some (.string (l[i]).2) := by
  induction l generalizing i with
  | nil => simp at h
  | cons p a ih =>
    cases i with
    | zero => rfl
    | succ i =>
      rw [show (i + 1) * 2 + 1 = (i * 2 + 1) + 1 + 1 by omega]
      simp only [cellsL, List.getElem?_cons_succ, List.getElem_cons_succ]
      exact ih i (by simpa using h)
theorem own_below {w w1 : World} {base size n : Nat} {e : TypeId} {v : Value} {xs : List Value} (h : w.ownsRow base e size v n xs) (hb : Below w.heap.size w w1) : w1.ownsRow base e size v n xs :=
  h.kept (row := none) ⟨hb.os, hb.tape, hb.output, hb.size, fun k hk _ => hb.block k hk⟩ (by cases v.ownBlock <;> simp)

/-! Frames that are written one behind the other. -/
def allA : List (Nat × ByteArray) → List UInt8
  | [] => []
  | p :: l => (putA p.1 p.2).data.toList ++ allA l
def okF (l : List (Nat × ByteArray)) : Prop := ∀ p ∈ l, 1 ≤ p.1 ∧ p.1 ≤ 255 ∧ p.2.size ≤ 65536
theorem allA_append (a b : List (Nat × ByteArray)) : allA (a ++ b) = allA a ++ allA b := by
  induction a with
  | nil => rfl
  | cons p a ih => simp [allA, ih]
/-- All frames that are whole ahead of a cut, and no more; whatever is cut off is too short. -/
theorem scan_all (l : List (Nat × ByteArray)) (hl : okF l) (s : ByteArray) (m f : Nat) (hf : s.size < m + f) (tail : List UInt8)
    (hs : s.data.toList.drop m = allA l ++ tail) (ht : tail = [] ∨ ∃ p : Nat × ByteArray, 1 ≤ p.1 ∧ p.1 ≤ 255 ∧ p.2.size ≤ 65536 ∧ tail.length < (putA p.1 p.2).size ∧ tail = (putA p.1 p.2).data.toList.take tail.length) (hm : m ≤ s.size) :
    scanF f s m = (l, m + (allA l).length, if tail = [] then 0 else 1) := by
  induction l generalizing m f with
  | nil =>
    simp only [allA, List.nil_append, List.length_nil, Nat.add_zero] at hs ⊢
    by_cases h0 : tail = []
    · rw [if_pos h0]
      apply scan_end
      have := congrArg List.length hs
      rw [List.length_drop, size_list, h0] at this
      simp at this
      omega
    · rw [if_neg h0]
      have hlen := congrArg List.length hs
      rw [List.length_drop, size_list] at hlen
      have hpos : 0 < tail.length := List.length_pos_iff.2 h0
      rcases ht with h1 | ⟨p, h1, h2, h3, h4, h5⟩
      · exact absurd h1 h0
      · obtain ⟨f, rfl⟩ : ∃ g, f = g + 1 := ⟨f - 1, by omega⟩
        have hx : s.extract m s.size = (putA p.1 p.2).extract 0 tail.length := by
          apply bytes_ext
          rw [extract_list, extract_list, List.take_of_length_le (by rw [size_list]; exact Nat.le_refl _), hs, List.drop_zero]
          exact h5
        have hg := got_cutoff p.1 p.2 h1 h2 h3 tail.length h4
        rw [← hx] at hg
        rw [scan_err f s m (by omega) (by rw [hg]; simp [bad]), hg]
        rfl
  | cons p l ih =>
    obtain ⟨h1, h2, h3⟩ := hl p (by simp)
    have hpz := putA_size p.1 p.2
    have hlen := congrArg List.length hs
    rw [List.length_drop, size_list, List.length_append, allA, List.length_append, size_list] at hlen
    obtain ⟨f, rfl⟩ : ∃ g, f = g + 1 := ⟨f - 1, by omega⟩
    have hx : s.extract m s.size = putA p.1 p.2 ++ ⟨(allA l ++ tail).toArray⟩ := by
      apply bytes_ext
      rw [extract_list, List.take_of_length_le (by rw [size_list]; exact Nat.le_refl _), hs, ByteArray.data_append, Array.toList_append, allA, List.append_assoc]
    have hg := got_put p.1 p.2 ⟨(allA l ++ tail).toArray⟩ h1 h2 h3
    rw [← hx] at hg
    have hs2 : s.data.toList.drop (m + (putA p.1 p.2).size) = allA l ++ tail := by
      rw [← List.drop_drop, hs, allA, List.append_assoc, List.drop_append_of_le_length (by rw [size_list]; omega), List.drop_of_length_le (by rw [size_list]; omega), List.nil_append]
    rw [scan_more f s m (by omega) (by rw [hg]), hg]
    simp only
    rw [ih (fun q hq => hl q (by simp [hq])) (m + (putA p.1 p.2).size) f (by omega) hs2 (by omega)]
    simp only [allA, List.length_append, size_list, Nat.add_assoc]
end Frm
end Go.Proofs.YtlgjbdfnhaoloaaGreatDoor
end

/- What the document's own Scan returns: of any bytes all frames from the front on, how many bytes are theirs, and what stopped it. It leaves alone what was there before. Condition: a text of at most 1000000000 bytes. -/
section
namespace Go.Proofs.YtlgjbdfnhaoloaaGreatDoor
open Go.RowKit
namespace Frm
open Dig Crc


/-- What a scan leaves: a row of its own with the frames. -/
def Scanned (t : TypeId) (s : ByteArray) (w : World) (e : Ending) (w' : World) : Prop :=
  ∃ v, e = .returned (.tuple #[v, .int .i64 ((scanF (s.size + 1) s 0).2.1 : Int), .int .i64 ((scanF (s.size + 1) s 0).2.2 : Int)]) ∧
    w'.ownsRow w.heap.size t 2 v (scanF (s.size + 1) s 0).1.length (cellsL (scanF (s.size + 1) s 0).1) ∧ Below w.heap.size w w'
/-- What holds at the head of each round. -/
def Upto (t : TypeId) (s : ByteArray) (w : World) (v n : Value) (wr : World) : Prop :=
  ∃ (m f : Nat) (acc : List (Nat × ByteArray)), m ≤ s.size ∧ s.size < m + f ∧ n = .int .i64 (m : Int) ∧ scanF (s.size + 1) s 0 = (acc ++ (scanF f s m).1, (scanF f s m).2) ∧
    wr.ownsRow w.heap.size t 2 v acc.length (cellsL acc) ∧ Below w.heap.size w wr ∧ acc.length ≤ m

theorem scanned_at {t : TypeId} {s : ByteArray} {w w2 : World} {v : Value} {acc : List (Nat × ByteArray)} {m e : Nat} (hsc : scanF (s.size + 1) s 0 = (acc, m, e)) (hown : w2.ownsRow w.heap.size t 2 v acc.length (cellsL acc)) (hb : Below w.heap.size w w2) :
    Scanned t s w (.returned (.tuple #[v, .int .i64 (m : Int), .int .i64 (e : Int)])) w2 := ⟨v, by rw [hsc], by rw [hsc]; exact hown, hb⟩
theorem news2 (W : World) (a b : Value) (t : TypeId) (g : Nat) (hg : g = W.heap.size) : ∀ (j : Nat) (u : Value), [a, b][j]? = some u → (W.alloc (.cells #[a, b] t)).cell? ((⟨g, 0, none⟩ : Addr).add j) = some u := by
  subst hg
  intro j u hu
  have hadd : (⟨W.heap.size, 0, none⟩ : Addr).add j = ⟨W.heap.size, j, none⟩ := by unfold Addr.add; split <;> simp_all
  rw [hadd, World.cell?_alloc_at _ _ _ _ rfl]
  match j, hu with
  | 0, hu => simpa using hu
  | 1, hu => simpa using hu
theorem one2 (k : Int) (d : ByteArray) : ∀ u ∈ [Value.int .i64 k, Value.string d], u.oneCell' = true := by
  intro u hu
  simp only [List.mem_cons, List.not_mem_nil, or_false] at hu
  rcases hu with rfl | rfl <;> rfl
/-- A round more. -/
theorem upto_next {t : TypeId} {s : ByteArray} {w w2 : World} {v : Value} {acc : List (Nat × ByteArray)} {m f k z : Nat} {d : ByteArray} (hz0 : 0 < z) (hz : z ≤ s.size - m) (hm : m < s.size) (hf : s.size < m + (f + 1))
    (hsc : scanF (s.size + 1) s 0 = (acc ++ (k, d) :: (scanF f s (m + z)).1, (scanF f s (m + z)).2)) (hown : w2.ownsRow w.heap.size t 2 v (acc.length + 1) (cellsL acc ++ [.int .i64 (k : Int), .string d])) (hb : Below w.heap.size w w2) (hal : acc.length ≤ m) :
    Upto t s w v (.int .i64 ((m : Int) + (z : Int))) w2 := by
  refine ⟨m + z, f, acc ++ [(k, d)], by omega, by omega, by simp, ?_, ?_, hb, by simp; omega⟩
  · rw [hsc, List.append_assoc]; rfl
  · rw [List.length_append, cellsL_append]; exact hown

end Frm
end Go.Proofs.YtlgjbdfnhaoloaaGreatDoor
end

/- What the closure within frame.Scan returns that moves on behind each frame: the frame at the place that it captured, or an error; the place is behind it then. It leaves alone all else that was there before. Conditions: the table's two cells, a text of at most 1000000000 bytes. -/
section
namespace Go.Proofs.YtlgjbdfnhaoloaaGreatDoor
open Go.RowKit
namespace Frm
open Dig Crc

/-- What a call of the closure leaves. -/
def Next (g : Got) (m ba : Nat) (w : World) (e : Ending) (w' : World) : Prop :=
  e = .returned (.tuple #[.agg #[.int .i64 (g.kind : Int), .string g.data], .int .i64 (g.err : Int)]) ∧ w.grownBy w' (some ba) ∧ w'.heap[ba]? = some (.cells #[.int .i64 (((m + g.size : Nat)) : Int)] 3 (0, 0))

end Frm
end Go.Proofs.YtlgjbdfnhaoloaaGreatDoor
end

/- What frame.Scan returns: of any bytes all frames from the front on, how many bytes are theirs, and what stopped it. It leaves alone what was there before. Conditions: the table's two cells, a text of at most 1000000000 bytes. -/
section
namespace Go.Proofs.YtlgjbdfnhaoloaaGreatDoor
open Go.RowKit
namespace Frm
open Dig Crc

theorem infoF : (Tryz.prog.info? 63).map (fun i => (i.zero, i.size, i.bytes)) = some (some (.agg #[.int .i64 0, .string ByteArray.empty]), 2, 24) := by kernel_rfl

/-- What holds at the head of each round. -/
def UptoC (s : ByteArray) (w : World) (v : Value) (wr : World) : Prop :=
  ∃ (m f : Nat) (acc : List (Nat × ByteArray)), m ≤ s.size ∧ s.size < m + f ∧ scanF (s.size + 1) s 0 = (acc ++ (scanF f s m).1, (scanF f s m).2) ∧
    wr.ownsRow (w.heap.size + 2) 63 2 v acc.length (cellsL acc) ∧ Below w.heap.size w wr ∧ acc.length ≤ m ∧
    wr.heap[w.heap.size]? = some (.cells #[.string s] 9 (0, 0)) ∧ wr.heap[w.heap.size + 1]? = some (.cells #[.int .i64 (m : Int)] 3 (0, 0)) ∧ w.heap.size + 2 ≤ wr.heap.size

theorem own_le {w : World} {base base' size n : Nat} {e : TypeId} {v : Value} {xs : List Value} (h : w.ownsRow base e size v n xs) (hb : base' ≤ base) : w.ownsRow base' e size v n xs := by
  refine ⟨h.1, ?_⟩
  rcases h.2 with h1 | ⟨g, cap, cur, hv, hg, r⟩
  · exact .inl h1
  · exact .inr ⟨g, cap, cur, hv, by omega, r⟩
theorem own_apart {w w1 : World} {base size n b : Nat} {e : TypeId} {v : Value} {xs : List Value} (h : w.ownsRow base e size v n xs) (hg : w.grownBy w1 (some b)) (hb : b < base) : w1.ownsRow base e size v n xs :=
  h.kept hg (by
    cases hv : v.ownBlock with
    | none => exact .inl rfl
    | some k =>
      have := (h.lt k hv).1
      exact .inr (by simp; omega))
/-- The place at which a scan stands. -/
def placeOf (w : World) (b : Nat) : Nat := match w.cell? ⟨b, 0, none⟩ with
  | some x => (intOf x).toNat
  | none => 0
theorem place_of {w : World} {b m : Nat} {t : TypeId} (h : w.heap[b]? = some (.cells #[.int .i64 (m : Int)] t (0, 0))) : placeOf w b = m := by
  unfold placeOf; rw [cell_of_one h]; simp [intOf]

/-- A round more. -/
theorem upto_nextC {s : ByteArray} {w w2 : World} {v : Value} {acc : List (Nat × ByteArray)} {m f k z : Nat} {d : ByteArray} (hz0 : 0 < z) (hz : z ≤ s.size - m) (hm : m < s.size) (hf : s.size < m + (f + 1))
    (hsc : scanF (s.size + 1) s 0 = (acc ++ (k, d) :: (scanF f s (m + z)).1, (scanF f s (m + z)).2)) (hown : w2.ownsRow (w.heap.size + 2) 63 2 v (acc.length + 1) (cellsL acc ++ [.int .i64 (k : Int), .string d])) (hb : Below w.heap.size w w2) (hal : acc.length ≤ m)
    (h_s : w2.heap[w.heap.size]? = some (.cells #[.string s] 9 (0, 0))) (h_a : w2.heap[w.heap.size + 1]? = some (.cells #[.int .i64 ((m + z : Nat) : Int)] 3 (0, 0))) (hz2 : w.heap.size + 2 ≤ w2.heap.size) :
    UptoC s w v w2 := by
  refine ⟨m + z, f, acc ++ [(k, d)], by omega, by omega, ?_, ?_, hb, by simp; omega, h_s, h_a, hz2⟩
  · rw [hsc, List.append_assoc]; rfl
  · rw [List.length_append, cellsL_append]; exact hown

end Frm
end Go.Proofs.YtlgjbdfnhaoloaaGreatDoor
end

/- For all texts FrameReads returns true; what 'same' returns of two rows that hold the same frames. Conditions: the table's two cells, texts no longer than a text can be. -/
section
namespace Go.Proofs.YtlgjbdfnhaoloaaGreatDoor
open Go.RowKit
namespace Frm
open Dig Crc

/-- A slice value that stands at a block's head holds these cells. -/
def Holds (w : World) (A : Option Addr) (n : Nat) (xs : List Value) : Prop :=
  0 < n → ∃ b, A = some ⟨b, 0, none⟩ ∧ b < w.heap.size ∧ ∀ j u, xs[j]? = some u → w.cell? ⟨b, j, none⟩ = some u
theorem Holds.below {w w1 : World} {A : Option Addr} {n : Nat} {xs : List Value} (h : Holds w A n xs) (hb : Below w.heap.size w w1) : Holds w1 A n xs := fun hn => by
  obtain ⟨b, hA, hl, hc⟩ := h hn
  exact ⟨b, hA, Nat.lt_of_lt_of_le hl hb.size, fun j u hu => (hb.cell (p := ⟨b, j, none⟩) hl).trans (hc j u hu)⟩
theorem addr0 (b j : Nat) : (⟨b, 0, none⟩ : Addr).add j = ⟨b, j, none⟩ := by
  unfold Addr.add
  split <;> simp_all
theorem holds_own {w : World} {base size n : Nat} {e : TypeId} {v : Value} {xs : List Value} (h : w.ownsRow base e size v n xs) : ∃ A c, v = .slice A n c ∧ n ≤ c ∧ Holds w A n xs := by
  rcases h.2 with ⟨rfl, rfl⟩ | ⟨g, cap, cur, rfl, hg, hh, hn, _⟩
  · exact ⟨none, 0, rfl, Nat.le_refl _, fun hn => absurd hn (by omega)⟩
  · refine ⟨some ⟨g, 0, none⟩, cap, rfl, hn, fun _ => ⟨g, rfl, (h.lt g rfl).2, fun j u hu => ?_⟩⟩
    have := h.cells (g := g) rfl j u hu
    rwa [addr0] at this


theorem scan_count (f : Nat) (s : ByteArray) (m : Nat) (hm : m ≤ s.size) : (scanF f s m).1.length ≤ s.size - m ∧ (scanF f s m).2.1 ≤ s.size ∧ (scanF f s m).2.2 ≤ 10 := by
  induction f generalizing m with
  | zero => exact ⟨by simp [scanF], hm, by simp [scanF]⟩
  | succ f ih =>
    by_cases h : m < s.size
    · by_cases he : (gotF (s.extract m s.size)).err = 0
      · rw [scan_more f s m h he]
        have hg := gotF_ok _ he
        rw [len_of s m s.size (Nat.le_refl _)] at hg
        have := ih (m + (gotF (s.extract m s.size)).size) (by omega)
        simp only [List.length_cons]
        exact ⟨by omega, this.2⟩
      · rw [scan_err f s m h he]
        exact ⟨by simp, hm, gotF_le _⟩
    · rw [scan_end _ s m (by omega)]
      exact ⟨by simp, hm, by simp⟩



end Frm
end Go.Proofs.YtlgjbdfnhaoloaaGreatDoor
end

/- Plain facts for FrameBack: of frames that are written one behind the other, which are whole ahead of a cut; where each ends. Conditions: those that each lemma states. -/
section
namespace Go.Proofs.YtlgjbdfnhaoloaaGreatDoor
open Go.RowKit
namespace Frm
open Dig

/-- Of any frames those that are written: kinds from 1 to 255 (data is short enough). -/
def okl : List (Int × ByteArray) → List (Nat × ByteArray)
  | [] => []
  | p :: l => if p.1 < 1 ∨ 255 < p.1 then okl l else (p.1.toNat, p.2) :: okl l
theorem okl_append (a b : List (Int × ByteArray)) : okl (a ++ b) = okl a ++ okl b := by
  induction a with
  | nil => rfl
  | cons p a ih =>
    simp only [List.cons_append, okl]
    split
    · exact ih
    · rw [ih]; rfl
/-- Where each frame ends. -/
def endsL (l : List (Nat × ByteArray)) : List Value := (List.range l.length).map fun j => .int .i64 (((allA (l.take (j + 1))).length : Nat) : Int)
theorem endsL_length (l : List (Nat × ByteArray)) : (endsL l).length = l.length := by simp [endsL]
theorem endsL_at (l : List (Nat × ByteArray)) (j : Nat) (h : j < l.length) : (endsL l)[j]? = some (.int .i64 (((allA (l.take (j + 1))).length : Nat) : Int)) := by
  rw [endsL, List.getElem?_map, List.getElem?_range h]; rfl
theorem endsL_snoc (l : List (Nat × ByteArray)) (p : Nat × ByteArray) : endsL (l ++ [p]) = endsL l ++ [.int .i64 (((allA (l ++ [p])).length : Nat) : Int)] := by
  unfold endsL
  rw [List.length_append, List.length_cons, List.length_nil, Nat.zero_add, List.range_succ, List.map_append]
  congr 1
  · apply List.map_congr_left
    intro j hj
    have := List.mem_range.1 hj
    rw [List.take_append_of_le_length (by omega)]
  · simp only [List.map_cons, List.map_nil]
    rw [List.take_of_length_le (by simp)]
theorem allA_pos (l : List (Nat × ByteArray)) : 6 * l.length ≤ (allA l).length := by
  induction l with
  | nil => simp [allA]
  | cons p l ih =>
    have := putA_size p.1 p.2
    rw [allA, List.length_append, size_list, List.length_cons]
    omega
theorem allA_most (l : List (Nat × ByteArray)) (h : ∀ p ∈ l, p.2.size ≤ 2000) : (allA l).length ≤ 2014 * l.length := by
  induction l with
  | nil => simp [allA]
  | cons p l ih =>
    have h1 := putA_size p.1 p.2
    have h2 := nd_le p.2.size
    have h3 := h p (by simp)
    have h4 := ih (fun q hq => h q (by simp [hq]))
    rw [allA, List.length_append, size_list, List.length_cons]
    omega
theorem allA_take (l : List (Nat × ByteArray)) (j : Nat) (h : j < l.length) : (allA (l.take (j + 1))).length = (allA (l.take j)).length + (putA l[j].1 l[j].2).size := by
  rw [List.take_succ_eq_append_getElem h, allA_append, List.length_append]
  simp [allA]
theorem allA_mono (l : List (Nat × ByteArray)) (i j : Nat) (h : i ≤ j) : (allA (l.take i)).length ≤ (allA (l.take j)).length := by
  have e : l.take j = l.take i ++ (l.take j).drop i := by
    have := (List.take_append_drop i (l.take j)).symm
    rwa [List.take_take, Nat.min_eq_left h] at this
  rw [e, allA_append, List.length_append]
  omega
/-- How many frames are whole ahead of a cut. -/
theorem whole_of (l : List (Nat × ByteArray)) (cut n : Nat) (hn : n ≤ l.length) : ∃ W, W ≤ n ∧ ∀ j, j < n → ((allA (l.take (j + 1))).length ≤ cut ↔ j < W) := by
  induction n with
  | zero => exact ⟨0, Nat.le_refl _, fun j hj => absurd hj (by omega)⟩
  | succ n ih =>
    obtain ⟨W, hW, h⟩ := ih (by omega)
    by_cases hc : (allA (l.take (n + 1))).length ≤ cut
    · refine ⟨n + 1, Nat.le_refl _, fun j hj => ⟨fun _ => hj, fun _ => ?_⟩⟩
      exact Nat.le_trans (allA_mono l (j + 1) (n + 1) (by omega)) hc
    · refine ⟨W, by omega, fun j hj => ?_⟩
      by_cases hjn : j < n
      · exact h j hjn
      · obtain rfl : j = n := by omega
        exact ⟨fun h2 => absurd h2 hc, fun h2 => by omega⟩
/-- All frames, with nothing behind them. -/
theorem scan_whole (l : List (Nat × ByteArray)) (hl : okF l) (s : ByteArray) (hs : s.data.toList = allA l) : scanF (s.size + 1) s 0 = (l, s.size, 0) := by
  have h := scan_all l hl s 0 (s.size + 1) (by omega) [] (by simpa using hs) (.inl rfl) (by omega)
  rw [if_pos rfl, Nat.zero_add, ← hs, size_list] at h
  exact h
/-- Cut off: those that are whole, and the rest is too short. -/
theorem scan_cut (l : List (Nat × ByteArray)) (hl : okF l) (s : ByteArray) (hs : s.data.toList = allA l) (cut : Nat) (hc : cut < s.size) (W : Nat) (hW : W ≤ l.length) (h : ∀ j, j < l.length → ((allA (l.take (j + 1))).length ≤ cut ↔ j < W)) :
    scanF ((s.extract 0 cut).size + 1) (s.extract 0 cut) 0 = (l.take W, (allA (l.take W)).length, if cut = (allA (l.take W)).length then 0 else 1) ∧ (allA (l.take W)).length ≤ cut := by
  have hz : (s.extract 0 cut).size = cut := by rw [← size_list, extract_list, List.drop_zero, List.length_take, size_list]; omega
  have hlen := size_list s
  have hWl : W < l.length := by
    rcases Nat.lt_or_ge W l.length with h1 | h1
    · exact h1
    · exfalso
      have e : W = l.length := by omega
      subst e
      cases hl0 : l.length with
      | zero =>
        have : l = [] := List.eq_nil_of_length_eq_zero hl0
        subst this
        rw [hs] at hlen
        simp [allA] at hlen
        omega
      | succ k =>
        have h2 := (h k (by omega)).2 (by omega)
        rw [List.take_of_length_le (by omega), ← hs] at h2
        omega
  have hend : (allA (l.take W)).length ≤ cut := by
    cases W with
    | zero => simp [allA]
    | succ k => exact (h k (by omega)).2 (by omega)
  have hnext : cut < (allA (l.take (W + 1))).length := by
    rcases Nat.lt_or_ge cut (allA (l.take (W + 1))).length with h1 | h1
    · exact h1
    · have := (h W hWl).1 h1
      omega
  have hat := allA_take l W hWl
  have hsplit : allA l = allA (l.take W) ++ ((putA l[W].1 l[W].2).data.toList ++ allA (l.drop (W + 1))) := by
    conv => lhs; rw [← List.take_append_drop W l, allA_append, List.drop_eq_getElem_cons hWl]
    rfl
  have hok := hl l[W] (List.getElem_mem hWl)
  have htl : (s.extract 0 cut).data.toList.drop 0 = allA (l.take W) ++ (putA l[W].1 l[W].2).data.toList.take (cut - (allA (l.take W)).length) := by
    rw [List.drop_zero, extract_list, List.drop_zero, hs, hsplit, List.take_append, List.take_of_length_le hend, List.take_append_of_le_length (by rw [size_list]; omega)]
  have hpl : ((putA l[W].1 l[W].2).data.toList.take (cut - (allA (l.take W)).length)).length = cut - (allA (l.take W)).length := by
    rw [List.length_take, size_list]; omega
  have hall := scan_all (l.take W) (fun p hp => hl p (List.mem_of_mem_take hp)) (s.extract 0 cut) 0 ((s.extract 0 cut).size + 1) (by omega) _ htl
    (.inr ⟨l[W], hok.1, hok.2.1, hok.2.2, by rw [hpl]; omega, by rw [hpl]⟩) (by omega)
  refine ⟨?_, hend⟩
  rw [hall, Nat.zero_add]
  congr 2
  by_cases hcut : cut = (allA (l.take W)).length
  · rw [if_pos hcut, if_pos (List.length_eq_zero_iff.1 (by rw [hpl]; omega))]
  · rw [if_neg hcut, if_neg (fun e => by rw [e] at hpl; simp at hpl; omega)]
end Frm
end Go.Proofs.YtlgjbdfnhaoloaaGreatDoor
end

/- For all rows of frames and every cut FrameBack returns true. Conditions: the table's two cells; the row's cells read as frames. -/
section
namespace Go.Proofs.YtlgjbdfnhaoloaaGreatDoor
open Go.RowKit
namespace Frm
open Dig Crc

/-- A row of frames that came in. -/
def FramesAt (fs : List (Int × ByteArray)) (A : Option Addr) (w : World) : Prop :=
  0 < fs.length → ∃ b off, A = some ⟨b, off, none⟩ ∧ b < w.heap.size ∧ ∀ i (h : i < fs.length), w.cell? ⟨b, off + i * 2, none⟩ = some (.int .i64 fs[i].1) ∧ w.cell? ⟨b, off + i * 2 + 1, none⟩ = some (.string fs[i].2) ∧
    -9223372036854775808 ≤ fs[i].1 ∧ fs[i].1 ≤ 9223372036854775807 ∧ fs[i].2.size ≤ 9223372036854775807


theorem okl_le (l : List (Int × ByteArray)) : (okl l).length ≤ l.length := by
  induction l with
  | nil => simp [okl]
  | cons p l ih => simp only [okl]; split <;> simp <;> omega
theorem okl_ok (l : List (Int × ByteArray)) (h : ∀ p ∈ l, p.2.size ≤ 2000) : okF (okl l) ∧ ∀ p ∈ okl l, p.2.size ≤ 2000 := by
  induction l with
  | nil => exact ⟨fun p hp => by simp [okl] at hp, fun p hp => by simp [okl] at hp⟩
  | cons p l ih =>
    have h2 := ih (fun q hq => h q (by simp [hq]))
    simp only [okl]
    split
    · exact h2
    · rename_i hk
      have hp := h p (by simp)
      refine ⟨fun q hq => ?_, fun q hq => ?_⟩
      · rcases List.mem_cons.1 hq with rfl | hq
        · exact ⟨by simp; omega, by simp; omega, by simp; omega⟩
        · exact h2.1 q hq
      · rcases List.mem_cons.1 hq with rfl | hq
        · exact hp
        · exact h2.2 q hq

/-- How many are whole, where they end, when the first j are gone through. -/
def Counted (l : List (Nat × ByteArray)) (W : Nat) (a b i : Value) : Prop :=
  ∃ j : Nat, j ≤ l.length ∧ i = .int .i64 (j : Int) ∧ ((j ≤ W ∧ a = .int .i64 (j : Int) ∧ b = .int .i64 (((allA (l.take j)).length : Nat) : Int)) ∨ (W < j ∧ a = .int .i64 (W : Int) ∧ b = .int .i64 (((allA (l.take W)).length : Nat) : Int)))
theorem counted_yes {l : List (Nat × ByteArray)} {W j : Nat} (h : j < W) (hl : j < l.length) : Counted l W (.int .i64 ((j : Int) + 1)) (.int .i64 (((allA (l.take (j + 1))).length : Nat) : Int)) (.int .i64 ((j : Int) + 1)) :=
  ⟨j + 1, by omega, by simp, .inl ⟨by omega, by simp, rfl⟩⟩
theorem counted_end {l : List (Nat × ByteArray)} {W j : Nat} (h : j ≤ W) (h2 : ¬ j < W) (hl : j < l.length) : Counted l W (.int .i64 (j : Int)) (.int .i64 (((allA (l.take j)).length : Nat) : Int)) (.int .i64 ((j : Int) + 1)) := by
  obtain rfl : j = W := by omega
  exact ⟨j + 1, by omega, by simp, .inr ⟨by omega, rfl, rfl⟩⟩
theorem counted_past {l : List (Nat × ByteArray)} {W j : Nat} (h : W < j) (hl : j < l.length) : Counted l W (.int .i64 (W : Int)) (.int .i64 (((allA (l.take W)).length : Nat) : Int)) (.int .i64 ((j : Int) + 1)) :=
  ⟨j + 1, by omega, by simp, .inr ⟨by omega, rfl, rfl⟩⟩
theorem counted_done {l : List (Nat × ByteArray)} {W j : Nat} {a b : Value} (h : l.length ≤ j) (hW : W ≤ l.length)
    (hab : (j ≤ W ∧ a = .int .i64 (j : Int) ∧ b = .int .i64 (((allA (l.take j)).length : Nat) : Int)) ∨ (W < j ∧ a = .int .i64 (W : Int) ∧ b = .int .i64 (((allA (l.take W)).length : Nat) : Int))) :
    a = .int .i64 (W : Int) ∧ b = .int .i64 (((allA (l.take W)).length : Nat) : Int) := by
  rcases hab with ⟨h1, h2, h3⟩ | ⟨_, h2, h3⟩
  · obtain rfl : j = W := by omega
    exact ⟨h2, h3⟩
  · exact ⟨h2, h3⟩

theorem cells_prefix (l : List (Nat × ByteArray)) (W : Nat) (j : Nat) (u : Value) (h : (cellsL (l.take W))[j]? = some u) : (cellsL l)[j]? = some u := by
  have e : cellsL l = cellsL (l.take W) ++ cellsL (l.drop W) := by rw [← cellsL_append, List.take_append_drop]
  rw [e, List.getElem?_append_left (List.getElem?_eq_some_iff.1 h).1, h]

theorem take_short {fs : List (Int × ByteArray)} {k : Nat} {p : Int × ByteArray} (htk : fs.take (k + 1) = fs.take k ++ [p]) (hp : p.2.size ≤ 2000) (hsm : ∀ q ∈ fs.take k, q.2.size ≤ 2000) : ∀ q ∈ fs.take (k + 1), q.2.size ≤ 2000 := by
  intro q hq
  rw [htk] at hq
  rcases List.mem_append.1 hq with h | h
  · exact hsm q h
  · obtain rfl : q = p := by simpa using h
    exact hp

theorem infoInt : (Tryz.prog.info? 3).map (fun i => (i.zero, i.size, i.bytes)) = some (some (.int .i64 0), 1, 8) := by kernel_rfl
theorem own_ne {w : World} {b1 b2 s1 s2 n1 n2 : Nat} {e1 e2 : TypeId} {v1 v2 : Value} {x1 x2 : List Value} (h1 : w.ownsRow b1 e1 s1 v1 n1 x1) (h2 : w.ownsRow b2 e2 s2 v2 n2 x2) (hne : e1 ≠ e2) : v1.ownBlock = none ∨ v1.ownBlock ≠ v2.ownBlock := by
  rcases h1.2 with ⟨rfl, _⟩ | ⟨g, cap, cur, rfl, _, hh, _⟩
  · exact .inl rfl
  · rcases h2.2 with ⟨rfl, _⟩ | ⟨g2, cap2, cur2, rfl, _, hh2, _⟩
    · exact .inr (by simp [Value.ownBlock])
    · refine .inr fun e => ?_
      have : g = g2 := by simpa [Value.ownBlock] using e
      subst this
      rw [hh] at hh2
      injection hh2 with hh2
      injection hh2 with _ he
      exact hne he
theorem news1 (W : World) (a : Value) (t : TypeId) (g : Nat) (hg : g = W.heap.size) : ∀ (j : Nat) (u : Value), [a][j]? = some u → (W.alloc (.cells #[a] t)).cell? ((⟨g, 0, none⟩ : Addr).add j) = some u := by
  subst hg
  intro j u hu
  have hadd : (⟨W.heap.size, 0, none⟩ : Addr).add j = ⟨W.heap.size, j, none⟩ := by unfold Addr.add; split <;> simp_all
  rw [hadd, World.cell?_alloc_at _ _ _ _ rfl]
  match j, hu with
  | 0, hu => simpa using hu
theorem one1 (k : Int) : ∀ u ∈ [Value.int .i64 k], u.oneCell' = true := by
  intro u hu
  obtain rfl : u = Value.int .i64 k := by simpa using hu
  rfl
theorem gone_count (fs : List (Int × ByteArray)) (k : Nat) (hk : k ≤ 20) : (okl (fs.take k)).length ≤ 20 := by
  have h2 := okl_le (fs.take k)
  rw [List.length_take] at h2
  omega
theorem gone_size {fs : List (Int × ByteArray)} {k : Nat} {S : ByteArray} (hk : k ≤ 20) (hS : S.data.toList = allA (okl (fs.take k))) (hsm : ∀ p ∈ fs.take k, p.2.size ≤ 2000) : S.size ≤ 40280 := by
  have h := allA_most _ (okl_ok _ hsm).2
  have h2 := gone_count fs k hk
  rw [← hS, size_list] at h
  omega


/-- What the argument reads as: a row of frames. -/
def IsFrames (v : Value) (w : World) : Prop := ∃ (fs : List (Int × ByteArray)) (A : Option Addr) (c : Nat), v = .slice A fs.length c ∧ fs.length ≤ 9223372036854775807 ∧ FramesAt fs A w
end Frm
end Go.Proofs.YtlgjbdfnhaoloaaGreatDoor
end

/- A row of frames among the arguments, opened: each cell holds what was read. No condition. -/
section
namespace Go.Proofs.YtlgjbdfnhaoloaaGreatDoor
open Go.RowKit Go.ChangeShapes Go.WideShapes
namespace Frm

def strOfV : Value → ByteArray
  | .string s => s
  | _ => ⟨#[]⟩
end Frm
end Go.Proofs.YtlgjbdfnhaoloaaGreatDoor
end
