/- What digits.GetNum returns: the number at the front of the bytes, or why there is none; it leaves alone what was there before. Condition: the text is no longer than a text can be. -/
import Derived.Test.YtcjfnkgjjhlbnaaDoorRows
import Derived.Test.YtcjfnkgjjhlbnaaDoorDigPure
import Derived.WalkKit
import Derived.WalkSpells
import Derived.WalkLawsBesides
import Derived.Handy
import Derived.Lib.Hide
import Derived.Laws.IdiomStrings
namespace Go.Proofs.YtcjfnkgjjhlbnaaDoor
open Go.RowKit
namespace Dig

theorem ret3_eq {k1 k2 k3 : IntKind} {a a' b b' c : Int} (h1 : a = a') (h2 : b = b') : Ending.returned (.tuple #[.int k1 a, .int k2 b, .int k3 c]) = .returned (.tuple #[.int k1 a', .int k2 b', .int k3 c]) := by rw [h1, h2]
/-- The k bytes behind the first. -/
def digs (s : ByteArray) (k : Nat) : List UInt8 := (s.data.toList.drop 1).take k
theorem digs_length (s : ByteArray) (k : Nat) (h : k < s.size) : (digs s k).length = k := by
  have : s.data.size = s.size := rfl
  simp [digs]; omega
theorem digs_cell (s : ByteArray) (k c e : Nat) (h : k < s.size) (w : World) (j : Nat) (hj : j < k) :
    (w.alloc (.cells (bytesRow (s.extract 1 (1 + k)) c) e ((bytesRow (s.extract 1 (1 + k)) c).size, (bytesRow (s.extract 1 (1 + k)) c).size + 1))).cell? ⟨w.heap.size, j, none⟩ = some (.int .u8 (((digs s k).getD j 0).toNat : Int)) := by
  have hsz : s.data.size = s.size := rfl
  have hd : (s.extract 1 (1 + k)).data.size = k := by
    have : (s.extract 1 (1 + k)).data.size = (s.extract 1 (1 + k)).size := rfl
    rw [this, ByteArray.size_extract]; omega
  rw [World.cell?_alloc_mark, bytesRow_at _ _ _ (by omega)]
  congr 3
  rw [List.getD_eq_getElem?_getD, List.getElem?_eq_getElem (by rw [digs_length s k h]; exact hj), Option.getD_some]
  simp [digs, Nat.add_comm]
theorem digs_take (s : ByteArray) (k j : Nat) (h : k < s.size) (hj : j < k) : (digs s k).take (j + 1) = (digs s k).take j ++ [(digs s k).getD j 0] := by
  have hl := digs_length s k h
  rw [List.take_succ_eq_append_getElem (by omega), List.getD_eq_getElem?_getD, List.getElem?_eq_getElem (by omega), Option.getD_some]
theorem or_shift (v d : Nat) (hv : v < 72057594037927936) (hd : d < 256) : bits .or .u64 ((v : Int) * 256) (IntKind.u64.wrap (d : Int)) = ((256 * v + d : Nat) : Int) := by
  have hw : ∀ n : Int, 0 ≤ n → n < 2 ^ 64 → IntKind.u64.wrap n = n := fun n h0 h1 => IntWalk.u64_in n ⟨h0, by omega⟩
  rw [hw _ (by omega) (by omega), bits_join .u64 64 (by decide) hw 8 _ _ (by omega) (by omega) (by omega) (by omega) (by omega) (by omega)]
  omega

set_option maxHeartbeats 400000 in
theorem get_ok (s : ByteArray) (k : Nat) (hs : s.size ≤ 9223372036854775807) (h0 : 0 < s.size) (he : s.toList.isEmpty = false) (hk : s[0].toNat = k) (hk0 : 0 < k) (hk8 : k ≤ 8) (hlen : k < s.size) (h1 : 1 < s.size) (hz : ((s[1].toNat : Int) == 0) = false) (w : World) :
    Calls Tryd.prog 29 #[.string s] w fun e w' => e = .returned (.tuple #[.int .u64 (valL (digs s k) : Int), .int .i64 ((k : Int) + 1), .int .i64 0]) ∧ Below w.heap.size w w' := by
  have hcv := fun (W : World) (t : ByteArray) => run_bytes_of_string (P := Tryd.prog) W 9 46 5 t (by kernel_rfl) (by kernel_rfl) (by kernel_rfl)
  have hmin : min (1 + k) s.size - 1 = k := by omega
  have hcl := fun j hj => digs_cell s k (grownCap w k 0 5) 5 hlen w j hj
  have hb : Below w.heap.size w (w.alloc (.cells (bytesRow (s.extract 1 (1 + k)) (grownCap w k 0 5)) 5 ((bytesRow (s.extract 1 (1 + k)) (grownCap w k 0 5)).size, (bytesRow (s.extract 1 (1 + k)) (grownCap w k 0 5)).size + 1))).drew := by go_grown
  replace hcl := Lib.hid hcl
  replace hb := Lib.hid hb
  go_enter Tryd.func29, Tryd.ntmps29
  go_wp2
  clear hmin hcv
  go_loop [6, 34] (fun x i => ∃ j : Nat, j ≤ k ∧ x = .int .u64 (valL ((digs s k).take j) : Int) ∧ i = .int .i64 (j : Int)) (fun _ i => k - (intOf i).toNat)
  case atStart => exact ⟨0, Nat.zero_le _, rfl, rfl⟩
  case round =>
    obtain ⟨j, hj, rfl, rfl⟩ := hrel
    by_cases hlt : j < k
    · have hc := hcl.out j hlt
      have ht := Lib.hid (digs_take s k j hlen hlt)
      have hv : valL ((digs s k).take j) < 72057594037927936 := by
        have h := val_lt ((digs s k).take j)
        have h2 : 256 ^ ((digs s k).take j).length ≤ 256 ^ 7 := Nat.pow_le_pow_right (by omega) (by rw [List.length_take]; omega)
        simp only [show (256 : Nat) ^ 7 = 72057594037927936 by decide] at h2
        omega
      generalize (digs s k).getD j 0 = d at *
      go_wp2
      go_round
      case rel =>
        refine ⟨j + 1, by omega, ?_, by go_num⟩
        rw [ht.out, val_snoc, or_shift _ _ hv d.toNat_lt]
      case measure => simp [intOf]; omega
    · obtain rfl : j = k := by omega
      have ht := Lib.hid (List.take_of_length_le (Nat.le_of_eq (digs_length s j hlen)))
      go_wp2
      go_ret3
      exact ⟨ret3_eq (by rw [ht.out]) (Int.add_comm _ _), hb.out⟩

set_option maxHeartbeats 400000 in
theorem get_none (s : ByteArray) (hs : s.size ≤ 9223372036854775807) (h0 : 0 < s.size) (he : s.toList.isEmpty = false) (hk : s[0].toNat = 0) (w : World) :
    Calls Tryd.prog 29 #[.string s] w fun e w' => e = .returned (.tuple #[.int .u64 0, .int .i64 1, .int .i64 0]) ∧ Below w.heap.size w w' := by
  have hcv := fun (W : World) (t : ByteArray) => run_bytes_of_string (P := Tryd.prog) W 9 46 5 t (by kernel_rfl) (by kernel_rfl) (by kernel_rfl)
  have hmin : min 1 s.size - 1 = 0 := by omega
  go_enter Tryd.func29, Tryd.ntmps29
  go_wp2
  clear hmin hcv
  go_rounds 1
  go_ret3
  exact ⟨rfl, by go_grown⟩

set_option maxHeartbeats 400000 in
theorem get_empty (s : ByteArray) (he : s.toList.isEmpty = true) (w : World) :
    Calls Tryd.prog 29 #[.string s] w fun e w' => e = .returned (.tuple #[.int .u64 0, .int .i64 0, .int .i64 1]) ∧ Below w.heap.size w w' := by
  go_enter Tryd.func29, Tryd.ntmps29
  go_wp2
  go_ret3
  exact ⟨rfl, Below.refl _ _⟩

set_option maxHeartbeats 400000 in
theorem get_range (s : ByteArray) (_hs : s.size ≤ 9223372036854775807) (h0 : 0 < s.size) (he : s.toList.isEmpty = false) (hk : (8 : Int) < (s[0].toNat : Int)) (w : World) :
    Calls Tryd.prog 29 #[.string s] w fun e w' => e = .returned (.tuple #[.int .u64 0, .int .i64 0, .int .i64 2]) ∧ Below w.heap.size w w' := by
  have hlt := s[0].toNat_lt
  go_enter Tryd.func29, Tryd.ntmps29
  go_wp2
  go_ret3
  exact ⟨rfl, Below.refl _ _⟩

set_option maxHeartbeats 400000 in
theorem get_short (s : ByteArray) (hs : s.size ≤ 9223372036854775807) (h0 : 0 < s.size) (he : s.toList.isEmpty = false) (hk : (s[0].toNat : Int) ≤ 8) (hl : (s.size : Int) - 1 < (s[0].toNat : Int)) (w : World) :
    Calls Tryd.prog 29 #[.string s] w fun e w' => e = .returned (.tuple #[.int .u64 0, .int .i64 0, .int .i64 1]) ∧ Below w.heap.size w w' := by
  go_enter Tryd.func29, Tryd.ntmps29
  go_wp2
  go_ret3
  exact ⟨rfl, Below.refl _ _⟩

set_option maxHeartbeats 400000 in
theorem get_field (s : ByteArray) (hs : s.size ≤ 9223372036854775807) (h0 : 0 < s.size) (he : s.toList.isEmpty = false) (hk : (s[0].toNat : Int) ≤ 8) (hk0 : (0 : Int) < (s[0].toNat : Int)) (hl : (s[0].toNat : Int) ≤ (s.size : Int) - 1)
    (h1 : 1 < s.size) (hz : ((s[1].toNat : Int) == 0) = true) (w : World) :
    Calls Tryd.prog 29 #[.string s] w fun e w' => e = .returned (.tuple #[.int .u64 0, .int .i64 0, .int .i64 3]) ∧ Below w.heap.size w w' := by
  go_enter Tryd.func29, Tryd.ntmps29
  go_wp2
  go_ret3
  exact ⟨rfl, Below.refl _ _⟩

theorem size_cons (s : ByteArray) {c : UInt8} {r : List UInt8} (h : s.data.toList = c :: r) : s.size = r.length + 1 := by
  have := congrArg List.length h
  simpa using this
theorem byte_at (s : ByteArray) (i : Nat) (h : i < s.size) {c : UInt8} (hc : s.data.toList[i]? = some c) : s[i] = c := by
  have h2 : i < s.data.toList.length := by simpa using h
  have e : s[i] = s.data.toList[i] := rfl
  rw [List.getElem?_eq_getElem h2] at hc
  rw [e]
  exact Option.some.inj hc
/-- What GetNum returns of any text. -/
theorem get_any (s : ByteArray) (hs : s.size ≤ 9223372036854775807) (w : World) :
    Calls Tryd.prog 29 #[.string s] w fun e w' => e = .returned (.tuple #[.int .u64 ((gotN s.data.toList).1 : Int), .int .i64 ((gotN s.data.toList).2.1 : Int), .int .i64 ((gotN s.data.toList).2.2 : Int)]) ∧ Below w.heap.size w w' := by
  have he : s.toList = s.data.toList := ByteArray.toList_eq s
  cases h : s.data.toList with
  | nil => exact get_empty s (by rw [he, h]; rfl) w
  | cons c r =>
    have hsz := size_cons s h
    have hc : s[0]'(by omega) = c := byte_at s 0 (by omega) (by rw [h]; rfl)
    have he' : s.toList.isEmpty = false := by rw [he, h]; rfl
    by_cases h1 : 8 < c.toNat
    · rw [gotN_range h1]
      exact get_range s hs (by omega) he' (by rw [hc]; omega) w
    · by_cases h2 : r.length < c.toNat
      · rw [gotN_short h1 h2]
        exact get_short s hs (by omega) he' (by rw [hc]; omega) (by rw [hc]; omega) w
      · by_cases h0 : c.toNat = 0
        · rw [gotN_ok h1 h2 (by omega)]
          have := get_none s hs (by omega) he' (by rw [hc]; exact h0) w
          rw [h0]
          exact this
        · obtain ⟨d, r', rfl⟩ : ∃ d r', r = d :: r' := by
            cases r with
            | nil => simp at h2; omega
            | cons d r' => exact ⟨d, r', rfl⟩
          have hd : s[1]'(by simp at hsz; omega) = d := byte_at s 1 _ (by rw [h]; rfl)
          by_cases h3 : d = 0
          · rw [gotN_field h1 h2 ⟨by omega, by rw [h3]; rfl⟩]
            exact get_field s hs (by omega) he' (by rw [hc]; omega) (by rw [hc]; omega) (by rw [hc]; omega) (by simp at hsz; omega) (by rw [hd, h3]; rfl) w
          · rw [gotN_ok h1 h2 (by rintro ⟨_, h4⟩; exact h3 (by simpa using h4))]
            have hd0 : d.toNat ≠ 0 := fun e => h3 (by rw [← UInt8.toNat_inj]; simpa using e)
            have := get_ok s c.toNat hs (by omega) he' (by rw [hc]) (by omega) (by omega) (by omega) (by simp at hsz; omega) (by rw [hd]; simpa using hd0) w
            have e2 : digs s c.toNat = (d :: r').take c.toNat := by rw [digs, h]; rfl
            rw [e2] at this
            exact this
end Dig
end Go.Proofs.YtcjfnkgjjhlbnaaDoor
