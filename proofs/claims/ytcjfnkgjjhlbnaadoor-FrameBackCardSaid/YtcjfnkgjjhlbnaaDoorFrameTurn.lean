/- Plain facts on frames with a byte changed: their check sum is another one; got, such a frame is refused, or it is shorter and the byte is one of those that say the length. Conditions: those that each lemma states. -/
import Derived.Test.YtcjfnkgjjhlbnaaDoorFramePure
namespace Go.Proofs.YtcjfnkgjjhlbnaaDoor
namespace Frm
open Dig

theorem step_state (c d b : Nat) (hc : c < 4294967296) (hd : d < 4294967296) (hb : b < 256) (h : Crc.byteStep c b = Crc.byteStep d b) : c = d := by
  have h2 := Crc.TN_inj 8 _ _ (Crc.xor_lt _ _ hc (by omega)) (Crc.xor_lt _ _ hd (by omega)) h
  have h3 := congrArg (fun x => x ^^^ b) h2
  simp only [Nat.xor_assoc, Nat.xor_self, Nat.xor_zero] at h3
  exact h3
theorem step_byte (c a b : Nat) (hc : c < 4294967296) (ha : a < 256) (hb : b < 256) (h : Crc.byteStep c a = Crc.byteStep c b) : a = b := by
  have h2 := Crc.TN_inj 8 _ _ (Crc.xor_lt _ _ hc (by omega)) (Crc.xor_lt _ _ hc (by omega)) h
  have h3 := congrArg (fun x => c ^^^ x) h2
  simp only [← Nat.xor_assoc, Nat.xor_self, Nat.zero_xor] at h3
  exact h3
theorem run_state (l : List UInt8) (c d : Nat) (hc : c < 4294967296) (hd : d < 4294967296) (h : Crc.run c l = Crc.run d l) : c = d := by
  induction l generalizing c d with
  | nil => exact h
  | cons b l ih =>
    rw [Crc.run_cons, Crc.run_cons] at h
    exact step_state c d b.toNat hc hd b.toNat_lt (ih _ _ (Crc.byteStep_lt c b hc) (Crc.byteStep_lt d b hd) h)
/-- Texts that differ in one byte alone have different sums. -/
theorem more_differs (l r : List UInt8) (a b : UInt8) (hab : a ≠ b) : Crc.more 0 (l ++ a :: r) ≠ Crc.more 0 (l ++ b :: r) := by
  rw [Ne, Crc.more_eq, Crc.run_append, Crc.run_append, Crc.run_cons, Crc.run_cons]
  intro h
  have hr := Crc.run_lt (4294967295 - 0) l (by omega)
  have h1 := run_state r _ _ (Crc.byteStep_lt _ a hr) (Crc.byteStep_lt _ b hr) h
  have h2 := step_byte _ _ _ hr a.toNat_lt b.toNat_lt h1
  exact hab (UInt8.toNat_inj.1 h2)
theorem sumB_inj (c d : Nat) (hc : c < 4294967296) (hd : d < 4294967296) (h : sumB c = sumB d) : c = d := by
  have h0 := congrArg (fun s : ByteArray => s.data.toList) h
  simp only [sumB, List.cons.injEq] at h0
  obtain ⟨h1, h2, h3, h4, _⟩ := h0
  have e1 := congrArg UInt8.toNat h1
  have e2 := congrArg UInt8.toNat h2
  have e3 := congrArg UInt8.toNat h3
  have e4 := congrArg UInt8.toNat h4
  simp only [UInt8.toNat_ofNat'] at e1 e2 e3 e4
  omega
theorem xor_other (a b : UInt8) (hb : b ≠ 0) : a ^^^ b ≠ a := by
  intro h
  have h2 := congrArg (fun x => a ^^^ x) h
  simp only [← UInt8.xor_assoc, UInt8.xor_self, UInt8.zero_xor] at h2
  exact hb h2
/-- What got with no error says of the bytes. -/
theorem gotF_parts (s : ByteArray) (h : (gotF s).err = 0) : ∃ m, (gotF s).size = m + 4 ∧ m + 4 ≤ s.size ∧ (s.extract m (m + 4)) = sumB (Crc.more 0 (s.extract 0 m).data.toList) ∧
    (∀ r, s.data.toList.tail = r → m = 1 + ((gotT r 65536).2.1 + (gotT r 65536).1)) := by
  unfold gotF at h ⊢
  cases hl : s.data.toList with
  | nil => simp [hl, bad] at h
  | cons c r =>
    simp only [hl] at h ⊢
    split at h
    · simp [bad] at h
    · rename_i h0
      rw [if_neg h0]
      split at h
      · rename_i h1; exact absurd h h1
      · rename_i h1
        rw [if_neg h1]
        split at h
        · simp [bad] at h
        · rename_i h2
          rw [if_neg h2]
          split at h
          · rename_i h3
            rw [if_pos h3]
            refine ⟨1 + ((gotT r 65536).2.1 + (gotT r 65536).1), by show 5 + _ = _; omega, by omega, ?_, fun r' hr => by subst hr; rfl⟩
            rw [← h3]
            congr 1
            omega
          · simp [bad] at h
/-- A text of which byte k is turned by 'by'. -/
def turnAt (l : List UInt8) (k : Nat) (by_ : UInt8) : List UInt8 := l.set k (l.getD k 0 ^^^ by_)
theorem turnAt_split (l : List UInt8) (k : Nat) (b : UInt8) (h : k < l.length) : turnAt l k b = l.take k ++ (l.getD k 0 ^^^ b) :: l.drop (k + 1) := by
  rw [turnAt, List.set_eq_take_append_cons_drop, if_pos h]
theorem split_at (l : List UInt8) (k : Nat) (h : k < l.length) : l = l.take k ++ l.getD k 0 :: l.drop (k + 1) := by
  rw [List.getD_eq_getElem?_getD, List.getElem?_eq_getElem h]
  simp
theorem turnAt_length (l : List UInt8) (k : Nat) (b : UInt8) : (turnAt l k b).length = l.length := by simp [turnAt]
/-- With a byte changed, a frame is refused, or what is got is not as long as it was. -/
theorem turned_size (kd : Nat) (s t : ByteArray) (k : Nat) (b : UInt8) (hb : b ≠ 0) (hk : k < (putA kd s).size) (ht : t.data.toList = turnAt (putA kd s).data.toList k b) (he : (gotF t).err = 0) :
    (gotF t).size < (putA kd s).size := by
  obtain ⟨m, hm, hms, hx, _⟩ := gotF_parts t he
  have hts : t.size = (putA kd s).size := by rw [← size_list, ht, turnAt_length, size_list]
  by_cases hne : m + 4 < (putA kd s).size
  · omega
  · exfalso
    have hpz := putA_size kd s
    have hhz := hdr_size kd s
    have hmh : m = (hdr kd s).size := by omega
    have hl : (putA kd s).data.toList = (hdr kd s).data.toList ++ (sumB (Crc.more 0 (hdr kd s).data.toList)).data.toList := by
      rw [putA, ByteArray.data_append, Array.toList_append]
    have hlen := size_list (hdr kd s)
    have hx2 := congrArg (fun s : ByteArray => s.data.toList) hx
    simp only [extract_list] at hx2
    rw [ht, List.drop_zero, List.take_of_length_le (by rw [turnAt_length, size_list]; omega)] at hx2
    by_cases hkm : k < m
    · -- the byte stands ahead of the sum
      have e1 : (turnAt (putA kd s).data.toList k b).take m = turnAt (hdr kd s).data.toList k b := by
        rw [hl, turnAt, turnAt, List.set_append_left _ _ (by omega), List.take_append_of_le_length (by rw [List.length_set]; omega), List.take_of_length_le (by rw [List.length_set]; omega)]
        congr 2
        rw [List.getD_eq_getElem?_getD, List.getD_eq_getElem?_getD, List.getElem?_append_left (by omega)]
      have e2 : (turnAt (putA kd s).data.toList k b).drop m = (sumB (Crc.more 0 (hdr kd s).data.toList)).data.toList := by
        rw [hl, turnAt, List.set_append_left _ _ (by omega), List.drop_append_of_le_length (by rw [List.length_set]; omega), List.drop_of_length_le (by rw [List.length_set]; omega), List.nil_append]
      rw [e1, e2] at hx2
      have h3 := sumB_inj _ _ (Crc.more_lt _ _) (Crc.more_lt _ _) (bytes_ext hx2)
      rw [turnAt_split _ _ _ (by omega)] at h3
      conv at h3 => lhs; rw [split_at (hdr kd s).data.toList k (by omega)]
      exact more_differs _ _ _ _ (xor_other _ _ hb).symm h3
    · have e1 : (turnAt (putA kd s).data.toList k b).take m = (hdr kd s).data.toList := by
        rw [turnAt, List.take_set_of_le (by omega), hl, List.take_append_of_le_length (by omega), List.take_of_length_le (by omega)]
      have e3 : (putA kd s).data.toList.drop m = (sumB (Crc.more 0 (hdr kd s).data.toList)).data.toList := by
        rw [hl, List.drop_append_of_le_length (by omega), List.drop_of_length_le (by omega), List.nil_append]
      rw [e1, ← e3] at hx2
      have h4 := congrArg (fun l => l[k - m]?) hx2
      simp only [List.getElem?_drop] at h4
      rw [show m + (k - m) = k by omega, turnAt, List.getElem?_set_self (by rw [size_list]; omega), List.getD_eq_getElem?_getD] at h4
      rw [List.getElem?_eq_getElem (by rw [size_list]; omega)] at h4
      simp only [Option.getD_some, Option.some.injEq] at h4
      exact xor_other _ _ hb h4
/-- .. and if it is got all the same, the byte is one of those that say the length. -/
theorem turned_place (kd : Nat) (s t : ByteArray) (k : Nat) (b : UInt8) (hs : s.size ≤ 65535) (hb : b ≠ 0) (hk : k < (putA kd s).size) (ht : t.data.toList = turnAt (putA kd s).data.toList k b) (he : (gotF t).err = 0) :
    1 ≤ k ∧ k ≤ nd s.size + 1 := by
  have hlt := turned_size kd s t k b hb hk ht he
  obtain ⟨m, hm, hms, hx, hr⟩ := gotF_parts t he
  have hpz := putA_size kd s
  by_cases hin : 1 ≤ k ∧ k ≤ nd s.size + 1
  · exact hin
  · exfalso
    have hpl := putA_list kd s
    have key : ∃ u v : List UInt8, u.length = s.size ∧ t.data.toList.tail = numL s.size ++ (u ++ v) := by
      rw [ht]
      by_cases h0 : k = 0
      · subst h0
        refine ⟨s.data.toList, (sumB (Crc.more 0 (hdr kd s).data.toList)).data.toList, size_list s, ?_⟩
        rw [hpl, turnAt, List.set_cons_zero, List.tail_cons]
      · obtain ⟨j, rfl⟩ : ∃ j, k = (numL s.size).length + 1 + j := ⟨k - ((numL s.size).length + 1), by rw [numL_length]; omega⟩
        rw [turnAt, hpl]
        generalize List.getD _ _ _ ^^^ b = x
        rw [show (numL s.size).length + 1 + j = (numL s.size).length + j + 1 by omega, List.set_cons_succ, List.tail_cons, List.set_append_right _ _ (by omega), show (numL s.size).length + j - (numL s.size).length = j by omega]
        by_cases hj : j < s.size
        · rw [List.set_append_left _ _ (by rw [size_list]; exact hj)]
          exact ⟨_, _, by rw [List.length_set, size_list], rfl⟩
        · rw [List.set_append_right _ _ (by rw [size_list]; omega)]
          exact ⟨_, _, size_list s, rfl⟩
    obtain ⟨u, v, hu, htl⟩ := key
    have h1 := hr _ rfl
    rw [htl, gotT_text s.size (by omega) u v hu] at h1
    simp only at h1
    omega
end Frm
end Go.Proofs.YtcjfnkgjjhlbnaaDoor
