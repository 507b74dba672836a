/- BitsFill, walked: what fills the last byte is 0. -/
import Derived.Test.YtblfhmajonnceaaBitLaws
namespace Go.Proofs.Ytblfhmajonnceaa
open Go.RowKit
namespace Bit
open Dsk Ob
set_option linter.unusedVariables false

theorem bitsAt_byte (l : List UInt8) (k : Nat) : bitsAt l (8 * k) 8 = bitsOf (l.getD k 0).toNat 8 := by
  apply List.ext_getElem?
  intro i
  by_cases h : i < 8
  · rw [bitsOf_getElem _ _ _ h]
    unfold bitsAt
    rw [List.getElem?_map, List.getElem?_range h, Option.map_some]
    unfold bitAt
    have e1 : (8 * k + i) / 8 = k := by omega
    have e2 : 7 - (8 * k + i) % 8 = 8 - 1 - i := by omega
    rw [e1, e2, Nat.testBit_eq_decide_div_mod_eq]
    rfl
  · rw [List.getElem?_eq_none (by rw [bitsAt_length]; omega), List.getElem?_eq_none (by rw [bitsOf_length]; omega)]
theorem pack_bits (l : List UInt8) : pack (bitsAt l 0 (8 * l.length)) = l := by
  have hl : (bitsAt l 0 (8 * l.length)).length = 8 * l.length := bitsAt_length _ _ _
  have hp : (pack (bitsAt l 0 (8 * l.length))).length = l.length := by rw [pack_length, hl]; unfold nb; omega
  refine bitAt_inj _ _ hp fun i hi => ?_
  rw [hp] at hi
  have hi2 : i < (bitsAt l 0 (8 * l.length)).length := by omega
  have := bitAt_packTo (nb (bitsAt l 0 (8 * l.length)).length) (bitsAt l 0 (8 * l.length)) i (by rw [hl]; unfold nb; omega) hi2
  unfold pack
  rw [this]
  simp [bitsAt]
theorem chunk_left (A B : List Bool) (a j : Nat) (hA : A.length = 8 * a) (hj : j < a) : chunkAt (A ++ B) j = chunkAt A j := by
  unfold chunkAt
  rw [List.drop_append_of_le_length (by omega), List.take_append_of_le_length (by rw [List.length_drop]; omega)]
theorem chunk_right (A B : List Bool) (a j : Nat) (hA : A.length = 8 * a) : chunkAt (A ++ B) (a + j) = chunkAt B j := by
  unfold chunkAt
  have e : 8 * (a + j) = A.length + 8 * j := by rw [hA]; omega
  rw [e, List.drop_length_add_append]
theorem pack_app (A B : List Bool) (a : Nat) (hA : A.length = 8 * a) : pack (A ++ B) = pack A ++ pack B := by
  have e1 : nb A.length = a := by rw [hA]; unfold nb; omega
  have e2 : nb (A ++ B).length = a + nb B.length := by rw [List.length_append, hA]; unfold nb; omega
  unfold pack packTo
  rw [e2, e1, List.range_add, List.map_append, List.map_map]
  congr 1
  · apply List.map_congr_left
    intro j hj
    have : j < a := by simpa using hj
    unfold pk; rw [chunk_left A B a j hA this]
  · apply List.map_congr_left
    intro j _
    show UInt8.ofNat (pk (A ++ B) (a + j)) = _
    unfold pk; rw [chunk_right A B a j hA]
theorem pack_one (B : List Bool) (h0 : 0 < B.length) (h8 : B.length ≤ 8) : pack B = [UInt8.ofNat (numOf B * 2 ^ (8 - B.length))] := by
  have e : nb B.length = 1 := by unfold nb; omega
  unfold pack packTo
  rw [e]
  show [UInt8.ofNat (pk B 0)] = _
  unfold pk chunkAt
  rw [Nat.mul_zero, List.drop_zero, List.take_of_length_le h8]
theorem low_byte (v m : Nat) (_ : 1 ≤ m) (hm : m ≤ 8) : v % 256 * 2 ^ (8 - m) % 256 = v % 2 ^ m * 2 ^ (8 - m) := by
  have e : 256 = 2 ^ m * 2 ^ (8 - m) := by
    rw [← Nat.pow_add, show m + (8 - m) = 8 by omega]
  have e2 : v % 256 % 2 ^ m = v % 2 ^ m := by
    have h : 256 = 2 ^ m * 2 ^ (8 - m) := e
    rw [h, Nat.mod_mul_right_mod]
  conv => lhs; rw [show (256 : Nat) = 2 ^ m * 2 ^ (8 - m) from e]
  rw [Nat.mul_mod_mul_right, ← e, e2]
theorem fill_bytes (l : List UInt8) (v m : Nat) (h1 : 1 ≤ m) (hm : m ≤ 8) : pack (bitsAt l 0 (8 * l.length) ++ bitsOf v m) = l ++ [UInt8.ofNat (v % 256 * 2 ^ (8 - m) % 256)] := by
  rw [pack_app _ _ l.length (bitsAt_length _ _ _), pack_bits, pack_one _ (by rw [bitsOf_length]; omega) (by rw [bitsOf_length]; exact hm), numOf_bitsOf, bitsOf_length, low_byte v m h1 hm]

theorem bytes_pack (s : ByteArray) : (⟨(pack (bitsAt s.data.toList 0 (8 * s.size))).toArray⟩ : ByteArray) = s := by
  have h := pack_bits s.data.toList
  have e : s.data.toList.length = s.size := by simp
  rw [e] at h
  rw [h]
theorem mod_mul (v p : Int) : v * p % 256 = v % 256 * p % 256 := by
  conv => lhs; rw [Int.mul_emod]
  conv => rhs; rw [Int.mul_emod, Int.emod_emod]
theorem cnt_in {m : Nat} (h : m ≤ 64) : cnt (m : Int) = m := by unfold cnt; omega
theorem pick8 (n : Int) : ∃ m : Nat, 1 ≤ m ∧ m ≤ 8 ∧ wrap64 (1 + wrap64 ((IntKind.u64.wrap n).tmod 8)) = (m : Int) := by
  have h0 : 0 ≤ IntKind.u64.wrap n := by rw [IntKind.wrap_u64]; omega
  rw [Int.tmod_eq_emod_of_nonneg h0]
  refine ⟨(1 + IntKind.u64.wrap n % 8).toNat, by omega, by omega, ?_⟩
  rw [IntWalk.wrap64_in (IntKind.u64.wrap n % 8) (by omega), IntWalk.wrap64_in _ (by omega)]
  omega
theorem fill_text (s : ByteArray) (v m : Nat) (h1 : 1 ≤ m) (h8 : m ≤ 8) : ∃ T : ByteArray, (⟨(pack (bitsAt s.data.toList 0 (8 * s.size) ++ bitsOf v m)).toArray⟩ : ByteArray) = T ∧ ∃ h : T.size = s.size + 1, T.extract 0 s.size = s ∧ ((T[s.size]'(by omega)).toNat = v % 256 * 2 ^ (8 - m) % 256) := by
  have h := fill_bytes s.data.toList v m h1 h8
  have e : s.data.toList.length = s.size := by simp
  rw [e] at h
  refine ⟨_, rfl, ?_, ?_, ?_⟩
  · show (pack (bitsAt s.data.toList 0 (8 * s.size) ++ bitsOf v m)).toArray.size = _
    rw [h]; simp
  · rw [h]
    apply ByteArray.ext
    simp
  · have e2 : ∀ (l : List UInt8) (hl : s.size < (⟨l.toArray⟩ : ByteArray).size), l = s.data.toList ++ [UInt8.ofNat (v % 256 * 2 ^ (8 - m) % 256)] → ((⟨l.toArray⟩ : ByteArray)[s.size]'hl).toNat = v % 256 * 2 ^ (8 - m) % 256 := by
      intro l hl e3
      subst e3
      show (((s.data.toList ++ [UInt8.ofNat (v % 256 * 2 ^ (8 - m) % 256)]).toArray)[s.size]'_).toNat = _
      have hs : s.size = s.data.toList.length := by simp
      simp only [List.getElem_toArray]
      rw [List.getElem_append_right (by omega)]
      simp
    exact e2 _ _ h
set_option maxRecDepth 100000 in
set_option maxHeartbeats 1600000 in
theorem fill_any (s : ByteArray) (v : Nat) (n : Int) (hs : s.size ≤ 1000) (hv : v < 18446744073709551616) (hn0 : -9223372036854775808 ≤ n) (hn1 : n ≤ 9223372036854775807) (w : World) :
    Calls Try.prog 6 #[.string s, .int .u64 (v : Int), .int .i64 n] w fun e w' => e = .returned (.bool true) ∧ Below w.heap.size w w' := by
  replace hv := Lib.hid hv
  go_enter Try.func6, Try.ntmps6
  go_wp2_with fail
  refine (works_true w).mono ?_
  rintro x w1 ⟨rfl, hb⟩
  replace hb := Lib.hid hb
  go_wp2_with fail
  refine (newWriter_any w1).mono ?_
  intro x w2 hx
  obtain ⟨q, rfl, h1⟩ := WMade.own hb.out hx
  clear hx hb
  replace h1 := Lib.hid h1
  go_wp2_with fail
  go_loopw [8] (fun i wr => ∃ k : Nat, k ≤ s.size ∧ i = .int .i64 k ∧ OwnW w q (bitsAt s.data.toList 0 (8 * k)) wr) (fun i _ => s.size - (intOf i).toNat)
  case atStart => exact ⟨0, Nat.zero_le _, rfl, h1.out⟩
  case round =>
    obtain ⟨k, hk, rfl, hst⟩ := hrel
    replace hst := Lib.hid hst
    by_cases hlt : k < s.size
    · have hnx : Hid (bitsAt s.data.toList 0 (8 * k) ++ bitsOf (s[k]).toNat (cnt 8) = bitsAt s.data.toList 0 (8 * (k + 1))) := Lib.hid (by
        rw [Nat.mul_add, bitsAt_add, Nat.zero_add, bitsAt_byte, List.getD_eq_getElem?_getD, List.getElem?_eq_getElem (by simpa using hlt)]
        rfl)
      have hw : IntKind.u64.wrap ((s[k]).toNat : Int) = ((s[k]).toNat : Int) := by have := (s[k]).toNat_lt; rw [IntKind.wrap_u64]; omega
      have hput := Lib.hid (OwnW.put hst.out (s[k]).toNat 8 (by rw [bitsAt_length]; omega) (by have := (s[k]).toNat_lt; omega) hnx.out)
      go_wp2_with fail
      refine hput.out.mono ?_
      rintro x w3 ⟨rfl, h3⟩
      replace h3 := Lib.hid h3
      clear hst hnx hput hw
      go_wp2_with fail
      go_roundw
      case rel => exact ⟨k + 1, by omega, by go_num, h3.out⟩
      case measure => simp [intOf]; omega
    · obtain rfl : k = s.size := by omega
      clear h1 hlt
      go_wp2_with fail
      refine (OwnW.text hst.out (s := s) (bytes_pack s)).mono ?_
      rintro x w3 ⟨rfl, rfl⟩
      go_wp2_with fail
      refine (OwnW.len hst.out (n := 8 * s.size) (bitsAt_length _ _ _)).mono ?_
      rintro x w3 ⟨rfl, rfl⟩
      go_wp2_with fail
      obtain ⟨m, hm1, hm8, hm⟩ := pick8 n
      rw [hm]
      clear hm
      obtain ⟨T, hT, ht1, ht2, ht3⟩ := fill_text s v m hm1 hm8
      refine (OwnW.put hst.out v (m : Int) (by rw [bitsAt_length]; omega) hv.out (L' := bitsAt s.data.toList 0 (8 * s.size) ++ bitsOf v m) (by rw [cnt_in (show m ≤ 64 by omega)])).mono ?_
      rintro x w3 ⟨rfl, h3⟩
      replace h3 := Lib.hid h3
      replace hT := Lib.hid hT
      clear hst
      go_wp2_with fail
      refine (OwnW.text h3.out hT.out).mono ?_
      rintro x w4 ⟨rfl, rfl⟩
      go_wp2_with fail
      clear hT hv hn0 hn1
      have i1 : IntKind.i64.wrap ((s.size : Int) + 1) = (s.size : Int) + 1 := IntWalk.i64_in _ (by omega)
      have i2 : IntKind.i64.wrap (8 - (m : Int)) = 8 - (m : Int) := IntWalk.i64_in _ (by omega)
      have i3 : (8 - (m : Int)).toNat = 8 - m := by omega
      have i4 : 0 ≤ 8 - (m : Int) := by omega
      go_quiet (fail)
      rw [show (((v : Int) * 2 ^ (8 - m) % 256) == ((v : Int) % 256 * 2 ^ (8 - m) % 256)) = true from beq_iff_eq.2 (mod_mul (v : Int) _)]
      clear i1 i2 i4
      go_wp2_with fail
      go_ret
      exact ⟨rfl, h3.out.bel.trans ((upon_drewN (fun _ => False) _ _).below h3.out.bel.size fun _ f => f.elim)⟩
set_option maxHeartbeats 1600000 in
theorem fill_long (s : ByteArray) (v : Int) (n : Int) (hs0 : s.size ≤ 140737488351232) (hs : 1000 < s.size) (w : World) :
    Calls Try.prog 6 #[.string s, .int .u64 v, .int .i64 n] w fun e w' => e = .returned (.bool true) ∧ Below w.heap.size w w' := by
  go_enter Try.func6, Try.ntmps6
  go_wp2_with fail
  refine (works_true w).mono ?_
  rintro x w1 ⟨rfl, hb⟩
  go_wp2_with fail
  go_ret
  exact ⟨rfl, hb⟩
theorem fill_true (s : ByteArray) (v n : Int) (hs : s.size ≤ 140737488351232) (hv0 : 0 ≤ v) (hv1 : v ≤ 18446744073709551615) (hn0 : -9223372036854775808 ≤ n) (hn1 : n ≤ 9223372036854775807) (w : World) :
    Calls Try.prog 6 #[.string s, .int .u64 v, .int .i64 n] w fun e w' => e = .returned (.bool true) ∧ Below w.heap.size w w' := by
  by_cases h : s.size ≤ 1000
  · obtain ⟨x, rfl⟩ := Int.eq_ofNat_of_zero_le hv0
    exact fill_any s x n h (by omega) hn0 hn1 w
  · exact fill_long s v n hs (by omega) w
end Bit
end Go.Proofs.Ytblfhmajonnceaa
