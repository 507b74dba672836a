/- What the document's own Num, Signed, Text, GetNum, GetSigned and GetText (package barographref01) return: the same as the program's. They leave alone what was there before. Conditions: numbers of 64 bits, texts no longer than a text can be. -/
import Derived.Test.YtcjfnkgjjhlbnaaDoorDigRef
import Derived.Test.YtcjfnkgjjhlbnaaDoorDigTextBack
namespace Go.Proofs.YtcjfnkgjjhlbnaaDoor
open Go.RowKit
namespace Dig

set_option maxHeartbeats 400000 in
theorem refnum_calls (n : Nat) (hn : n < 18446744073709551616) (w : World) :
    Calls Tryd.prog 27 #[.int .u64 n] w fun e w' => e = .returned (.string ⟨(numL n).toArray⟩) ∧ Below w.heap.size w w' := by
  have hnd := nd_le n
  have hl := dig_length n
  have hcv : ∀ (c k : Nat) (W : World), W.cell? ⟨k, 0, none⟩ = some (.int .u8 (nd n : Int)) → (convert 46 9 (.slice (some ⟨k, 0, none⟩) 1 c)).run Tryd.prog W = .ok (.string ⟨#[UInt8.ofNat (nd n)]⟩) W := fun c k W hc =>
    run_one_byte (UInt8.ofNat (nd n)) c k W (by rw [hc, UInt8.toNat_ofNat']; congr 3; omega)
  go_enter Tryd.func27, Tryd.ntmps27
  go_wp2_with fail
  refine (refdigits_calls n hn _).mono ?_
  rintro e w1 ⟨rfl, hb1⟩
  go_wp2
  go_ret
  refine ⟨ret_string ?_, ?_⟩
  · rw [ByteArray.mk_append_mk]; rfl
  · exact hb1.alloc hb1.size _

theorem refnum_any (x : Int) (h0 : 0 ≤ x) (h1 : x ≤ 18446744073709551615) (w : World) :
    Calls Tryd.prog 27 #[.int .u64 x] w fun e w' => e = .returned (.string ⟨(numL x.toNat).toArray⟩) ∧ Below w.heap.size w w' := by
  obtain ⟨n, rfl⟩ := Int.eq_ofNat_of_zero_le h0
  exact refnum_calls n (by omega) w


set_option maxHeartbeats 400000 in
theorem reftext_any (s : ByteArray) (hs : s.size ≤ 4611686018427387904) (w : World) :
    Calls Tryd.prog 19 #[.string s] w fun e w' => e = .returned (.string (textA s)) ∧ Below w.heap.size w w' := by
  go_enter Tryd.func19, Tryd.ntmps19
  go_wp2_with fail
  refine (refnum_any _ (by omega) (by omega) _).mono ?_
  rintro e w1 ⟨rfl, hb⟩
  rw [Int.toNat_natCast]
  have hz := textA_size s
  have hn := nd_le s.size
  have hadd := run_string_add_sum (P := Tryd.prog) w1 ⟨(numL s.size).toArray⟩ s (by rw [← ByteArray.size_append]; show (textA s).size ≤ _; omega)
  clear hz hn
  go_wp2
  go_ret
  exact ⟨rfl, hb⟩

theorem digs_get (s : ByteArray) (k j : Nat) (_h : k < s.size) (hj : j < k) (h2 : j + 1 < s.size) : s[j + 1]'h2 = (digs s k).getD j 0 := by
  have hsz : s.data.size = s.size := rfl
  apply byte_at s (j + 1) h2
  have e : (digs s k)[j]? = s.data.toList[j + 1]? := by
    simp only [digs]
    rw [List.getElem?_take_of_lt hj, List.getElem?_drop, Nat.add_comm]
  rw [List.getD_eq_getElem?_getD, e, List.getElem?_eq_getElem (by simp; omega)]
  rfl

set_option maxHeartbeats 400000 in
theorem refget_ok (s : ByteArray) (k : Nat) (hs : s.size ≤ 9223372036854775807) (h0 : 0 < s.size) (he : s.toList.isEmpty = false) (hk : s[0].toNat = k) (hk0 : 0 < k) (hk8 : k ≤ 8) (hlen : k < s.size) (h1 : 1 < s.size) (hz : ((s[1].toNat : Int) == 0) = false) (w : World) :
    Calls Tryd.prog 30 #[.string s] w fun e w' => e = .returned (.tuple #[.int .u64 (valL (digs s k) : Int), .int .i64 ((k : Int) + 1), .int .i64 0]) ∧ Below w.heap.size w w' := by
  go_enter Tryd.func30, Tryd.ntmps30
  go_wp2
  go_loop [6, 7] (fun x i => ∃ j : Nat, j ≤ k ∧ x = .int .u64 (valL ((digs s k).take j) : Int) ∧ i = .int .i64 ((j : Int) + 1)) (fun _ i => k + 1 - (intOf i).toNat)
  case atStart => exact ⟨0, Nat.zero_le _, rfl, rfl⟩
  case round =>
    obtain ⟨j, hj, rfl, rfl⟩ := hrel
    by_cases hlt : j < k
    · have ht := Lib.hid (digs_take s k j hlen hlt)
      have h2 : j + 1 < s.size := by omega
      have hd := digs_get s k j hlen hlt h2
      have hv : valL ((digs s k).take j) < 72057594037927936 := by
        have h := val_lt ((digs s k).take j)
        have h2 : 256 ^ ((digs s k).take j).length ≤ 256 ^ 7 := Nat.pow_le_pow_right (by omega) (by rw [List.length_take]; omega)
        simp only [show (256 : Nat) ^ 7 = 72057594037927936 by decide] at h2
        omega
      generalize (digs s k).getD j 0 = d at *
      have hdl := d.toNat_lt
      go_wp2
      go_round
      case rel =>
        refine ⟨j + 1, by omega, ?_, by go_num⟩
        rw [ht.out, val_snoc]
        go_num
      case measure => simp [intOf]; omega
    · obtain rfl : j = k := by omega
      have ht := Lib.hid (List.take_of_length_le (Nat.le_of_eq (digs_length s j hlen)))
      go_wp2
      go_ret3
      exact ⟨ret3_eq (by rw [ht.out]) rfl, Below.refl _ _⟩

set_option maxHeartbeats 400000 in
theorem refget_none (s : ByteArray) (hs : s.size ≤ 9223372036854775807) (h0 : 0 < s.size) (he : s.toList.isEmpty = false) (hk : s[0].toNat = 0) (w : World) :
    Calls Tryd.prog 30 #[.string s] w fun e w' => e = .returned (.tuple #[.int .u64 0, .int .i64 1, .int .i64 0]) ∧ Below w.heap.size w w' := by
  have hse : ¬ s = ByteArray.empty := by rintro rfl; simp at h0
  go_enter Tryd.func30, Tryd.ntmps30
  go_wp2
  go_rounds 1
  go_ret3
  exact ⟨rfl, Below.refl _ _⟩

set_option maxHeartbeats 400000 in
theorem refget_empty (s : ByteArray) (he : s.toList.isEmpty = true) (w : World) :
    Calls Tryd.prog 30 #[.string s] w fun e w' => e = .returned (.tuple #[.int .u64 0, .int .i64 0, .int .i64 1]) ∧ Below w.heap.size w w' := by
  go_enter Tryd.func30, Tryd.ntmps30
  go_wp2
  go_ret3
  exact ⟨rfl, Below.refl _ _⟩

set_option maxHeartbeats 400000 in
theorem refget_range (s : ByteArray) (h0 : 0 < s.size) (he : s.toList.isEmpty = false) (hk : (8 : Int) < (s[0].toNat : Int)) (w : World) :
    Calls Tryd.prog 30 #[.string s] w fun e w' => e = .returned (.tuple #[.int .u64 0, .int .i64 0, .int .i64 2]) ∧ Below w.heap.size w w' := by
  have hlt := s[0].toNat_lt
  go_enter Tryd.func30, Tryd.ntmps30
  go_wp2
  go_ret3
  exact ⟨rfl, Below.refl _ _⟩

set_option maxHeartbeats 400000 in
theorem refget_short (s : ByteArray) (_hs : s.size ≤ 9223372036854775807) (h0 : 0 < s.size) (he : s.toList.isEmpty = false) (hk : (s[0].toNat : Int) ≤ 8) (hl : (s.size : Int) ≤ (s[0].toNat : Int)) (w : World) :
    Calls Tryd.prog 30 #[.string s] w fun e w' => e = .returned (.tuple #[.int .u64 0, .int .i64 0, .int .i64 1]) ∧ Below w.heap.size w w' := by
  go_enter Tryd.func30, Tryd.ntmps30
  go_wp2
  go_ret3
  exact ⟨rfl, Below.refl _ _⟩

set_option maxHeartbeats 400000 in
theorem refget_field (s : ByteArray) (hs : s.size ≤ 9223372036854775807) (h0 : 0 < s.size) (he : s.toList.isEmpty = false) (hk : (s[0].toNat : Int) ≤ 8) (hk0 : (0 : Int) < (s[0].toNat : Int)) (hl : (s[0].toNat : Int) < (s.size : Int))
    (h1 : 1 < s.size) (hz : ((s[1].toNat : Int) == 0) = true) (w : World) :
    Calls Tryd.prog 30 #[.string s] w fun e w' => e = .returned (.tuple #[.int .u64 0, .int .i64 0, .int .i64 3]) ∧ Below w.heap.size w w' := by
  go_enter Tryd.func30, Tryd.ntmps30
  go_wp2
  go_ret3
  exact ⟨rfl, Below.refl _ _⟩

/-- What the document's GetNum returns of any text. -/
theorem refget_any (s : ByteArray) (hs : s.size ≤ 9223372036854775807) (w : World) :
    Calls Tryd.prog 30 #[.string s] w fun e w' => e = .returned (.tuple #[.int .u64 ((gotN s.data.toList).1 : Int), .int .i64 ((gotN s.data.toList).2.1 : Int), .int .i64 ((gotN s.data.toList).2.2 : Int)]) ∧ Below w.heap.size w w' := by
  have he : s.toList = s.data.toList := ByteArray.toList_eq s
  cases h : s.data.toList with
  | nil => exact refget_empty s (by rw [he, h]; rfl) w
  | cons c r =>
    have hsz := size_cons s h
    have hc : s[0]'(by omega) = c := byte_at s 0 (by omega) (by rw [h]; rfl)
    have he' : s.toList.isEmpty = false := by rw [he, h]; rfl
    by_cases h1 : 8 < c.toNat
    · rw [gotN_range h1]
      exact refget_range s (by omega) he' (by rw [hc]; omega) w
    · by_cases h2 : r.length < c.toNat
      · rw [gotN_short h1 h2]
        exact refget_short s hs (by omega) he' (by rw [hc]; omega) (by rw [hc]; omega) w
      · by_cases h0 : c.toNat = 0
        · rw [gotN_ok h1 h2 (by omega)]
          have := refget_none s hs (by omega) he' (by rw [hc]; exact h0) w
          rw [h0]
          exact this
        · obtain ⟨d, r', rfl⟩ : ∃ d r', r = d :: r' := by
            cases r with
            | nil => simp at h2; omega
            | cons d r' => exact ⟨d, r', rfl⟩
          have hd : s[1]'(by simp at hsz; omega) = d := byte_at s 1 _ (by rw [h]; rfl)
          by_cases h3 : d = 0
          · rw [gotN_field h1 h2 ⟨by omega, by rw [h3]; rfl⟩]
            exact refget_field s hs (by omega) he' (by rw [hc]; omega) (by rw [hc]; omega) (by rw [hc]; omega) (by simp at hsz; omega) (by rw [hd, h3]; rfl) w
          · rw [gotN_ok h1 h2 (by rintro ⟨_, h4⟩; exact h3 (by simpa using h4))]
            have hd0 : d.toNat ≠ 0 := fun e => h3 (by rw [← UInt8.toNat_inj]; simpa using e)
            have := refget_ok s c.toNat hs (by omega) he' (by rw [hc]) (by omega) (by omega) (by omega) (by simp at hsz; omega) (by rw [hd]; simpa using hd0) w
            have e2 : digs s c.toNat = (d :: r').take c.toNat := by rw [digs, h]; rfl
            rw [e2] at this
            exact this
end Dig
end Go.Proofs.YtcjfnkgjjhlbnaaDoor
