/- What digits.Num returns: a number's bytes, and it leaves alone what was there before. Condition: the number is one of 64 bits without a sign. -/
import Derived.Test.YtcjfnkgjjhlbnaaDoorRows
import Derived.Test.YtcjfnkgjjhlbnaaDoorDigPure
import Derived.WalkKit
import Derived.WalkSpells
import Derived.WalkLawsBesides
import Derived.Handy
import Derived.Lib.Hide
namespace Go.Proofs.YtcjfnkgjjhlbnaaDoor
open Go.RowKit
namespace Dig

theorem addr_add (b o j : Nat) : (⟨b, o, none⟩ : Addr).add j = ⟨b, o + j, none⟩ := by
  unfold Addr.add
  split <;> simp_all
/-- The array of nine bytes when k digits of n are put into it from its end. -/
def room (n k : Nat) : Array Value := ((List.replicate (9 - k) (0 : UInt8) ++ low k n).map fun b => Value.int .u8 (b.toNat : Int)).toArray
theorem room_size (n k : Nat) (hk : k ≤ 9) : (room n k).size = 9 := by simp [room, low_length]; omega

theorem room_get (n k i : Nat) (hk : k ≤ 9) (hi : i < 9) : (room n k)[i]? = some (.int .u8 (((List.replicate (9 - k) (0 : UInt8) ++ low k n).getD i 0).toNat : Int)) := by
  unfold room
  have hl : (List.replicate (9 - k) (0 : UInt8) ++ low k n).length = 9 := by simp [low_length]; omega
  rw [List.getElem?_toArray, List.getElem?_map, List.getD_eq_getElem?_getD, List.getElem?_eq_getElem (by omega)]
  rfl
theorem room_next (n k m : Nat) (hkm : k + m = 8) (b : UInt8) (hb : b = UInt8.ofNat (n / 256 ^ k % 256)) :
    (room n k).setIfInBounds m (.int .u8 (b.toNat : Int)) = room n (k + 1) := by
  unfold room
  rw [List.setIfInBounds_toArray, ← List.map_set]
  congr 2
  subst hb
  rw [show 9 - k = m + 1 by omega, show 9 - (k + 1) = m by omega, List.replicate_succ', low, List.append_assoc, List.set_append_right _ _ (by simp)]
  simp
theorem room_end (n k m : Nat) (hkm : k + m = 8) (b : UInt8) :
    (room n k).setIfInBounds m (.int .u8 (b.toNat : Int)) = ((List.replicate m (0 : UInt8) ++ b :: low k n).map fun b => Value.int .u8 (b.toNat : Int)).toArray := by
  unfold room
  rw [List.setIfInBounds_toArray, ← List.map_set]
  congr 2
  rw [show 9 - k = m + 1 by omega, List.replicate_succ', List.append_assoc, List.set_append_right _ _ (by simp)]
  simp
theorem q_pos (n k : Nat) (hk : k < nd n) : 0 < n / 256 ^ k := by
  apply Nat.div_pos _ (Nat.pow_pos (by omega))
  have := nd_pos_ge n (by omega)
  exact Nat.le_trans (Nat.pow_le_pow_right (by omega) (by omega)) this
theorem q_zero (n : Nat) (hn : n < 18446744073709551616) : n / 256 ^ nd n = 0 := Nat.div_eq_of_lt (nd_lt n hn)
theorem q_next (n k : Nat) : n / 256 ^ (k + 1) = n / 256 ^ k / 256 := by rw [Nat.pow_succ, Nat.div_div_eq_div_mul]

set_option maxHeartbeats 400000 in
theorem num_calls (n : Nat) (hn : n < 18446744073709551616) (w : World) :
    Calls Tryd.prog 25 #[.int .u64 n] w fun e w' => e = .returned (.string ⟨(numL n).toArray⟩) ∧ Below w.heap.size w w' := by
  go_enter Tryd.func25, Tryd.ntmps25
  go_wp2
  go_loopw [0, 4, 5] (fun x at_ c wr => ∃ k m : Nat, k + m = 8 ∧ x = .int .u64 ((n / 256 ^ k : Nat) : Int) ∧ at_ = .int .i64 ((m : Int) + 1) ∧ c = .int .i64 (k : Int) ∧ k ≤ nd n ∧ wr = w.alloc (.cells (room n k) 62)) (fun _ _ c _ => 9 - (intOf c).toNat)
  case atStart => exact ⟨0, 8, rfl, by simp, rfl, rfl, Nat.zero_le _, rfl⟩
  case round =>
    obtain ⟨k, m, hkm, rfl, rfl, rfl, hk, rfl⟩ := hrel
    have hle : n / 256 ^ k ≤ n := Nat.div_le_self _ _
    have hnx := Lib.hid (q_next n k)
    have hnd := nd_le n
    have hsz := room_size n k (by omega)
    by_cases hlt : k < nd n
    · have hpos := q_pos n k hlt
      have hrn := Lib.hid (room_next n k m hkm _ rfl)
      generalize hq : n / 256 ^ k = q at *
      replace hq := Lib.hid hq
      have hne : ((q : Int) != 0) = true := by simp; omega
      obtain ⟨b, hb, hb'⟩ : ∃ b : UInt8, b = UInt8.ofNat (q % 256) ∧ IntKind.u8.wrap (q : Int) = (b.toNat : Int) := ⟨_, rfl, by rw [IntKind.wrap_u8, UInt8.toNat_ofNat']; simp; try omega⟩
      replace hb := Lib.hid hb
      replace hsz := Lib.hid hsz
      have hc : (room n k)[m]? = some (.int .u8 (((List.replicate (9 - k) (0 : UInt8) ++ low k n).getD m 0).toNat : Int)) := room_get n k m (by omega) (by omega)
      go_wp2
      go_roundw
      case rel =>
        refine ⟨k + 1, m - 1, by omega, ?_, ?_, by go_num, by omega, ?_⟩
        · rw [hnx.out]; rfl
        · rw [show ((m : Nat) : Int) = ((m - 1 : Nat) : Int) + 1 by omega]
        · have hb2 := hb.out
          rw [← hrn.out, hb2]
      case measure => simp [intOf]; omega
    · have hkn : nd n = k := by omega
      have hz := q_zero n hn
      rw [hkn] at hz
      have hre := Lib.hid (room_end n k m hkm)
      have hc : (room n k)[m]? = some (.int .u8 (((List.replicate (9 - k) (0 : UInt8) ++ low k n).getD m 0).toNat : Int)) := room_get n k m (by omega) (by omega)
      replace hsz := Lib.hid hsz
      clear hnx hle hlt hk
      rw [hz]
      clear hz
      have hk8 : k ≤ 8 := by omega
      replace hkn := Lib.hid hkn
      have hm8 : m ≤ 8 := by omega
      replace hkm := Lib.hid hkm
      have hsl : ∀ (W : World), (Instr.sliceAt 62 (.pointer (some ⟨w.heap.size, 0, none⟩)) (some (.int .i64 (m : Int))) none none).run Tryd.prog W = .ok (.slice (some ⟨w.heap.size, m, none⟩) (9 - m) (9 - m)) W := by
        intro W
        have hp : ∀ (W : World), (Instr.sliceAt 62 (.pointer (some ⟨w.heap.size, 0, none⟩)) (some (.int .i64 (m : Int))) none none).run Tryd.prog W = ((sizeOf (Tryd.prog.elem 62)).run Tryd.prog W).andThen fun s w' => .ok (slicedAt ⟨w.heap.size, 0, none⟩ (m : Int).toNat (Tryd.prog.arrayLen 62) (Tryd.prog.arrayLen 62) s) w' := fun W =>
          run_sliceAt_array_l W _ _ (by kernel_rfl) _ _ (by omega) (by rw [show Tryd.prog.arrayLen 62 = 9 by kernel_rfl]; omega)
        rw [hp, show Tryd.prog.arrayLen 62 = 9 by kernel_rfl, show (sizeOf (Tryd.prog.elem 62)).run Tryd.prog W = .ok 1 W by kernel_rfl]
        simp only [Result.andThen, slicedAt, Int.toNat_natCast]
        rw [if_neg (by omega)]
        rw [addr_add]
        simp
      have hcv : (convert 46 9 (.slice (some ⟨w.heap.size, m, none⟩) (9 - m) (9 - m))).run Tryd.prog (w.alloc (.cells ((room n k).setIfInBounds m (.int .u8 (k : Int))) 62)) = .ok (.string ⟨(numL n).toArray⟩) (w.alloc (.cells ((room n k).setIfInBounds m (.int .u8 (k : Int))) 62)) := by
        have hkm := hkm.out
        have hb : (k : Int) = ((UInt8.ofNat (nd n)).toNat : Int) := by rw [hkn.out, UInt8.toNat_ofNat']; omega
        have hl : 9 - m = (numL n).length := by rw [numL_length, hkn.out]; omega
        rw [hb, hre.out, hl]
        apply run_convert_bytes_back _ _ _ 5 _ _ _ (by kernel_rfl) (by kernel_rfl) (by kernel_rfl)
        intro j hj
        rw [addr_add, World.cell?_alloc_at _ _ _ _ rfl]
        rw [List.getElem?_toArray, List.getElem?_map, List.getElem?_append_right (by simp)]
        simp only [List.length_replicate, Nat.add_sub_cancel_left]
        have hn2 : UInt8.ofNat (nd n) :: low k n = numL n := by rw [numL, dig, hkn.out]
        rw [hn2, List.getElem?_eq_getElem hj]
        rfl
      go_wp2
      go_ret
      exact ⟨rfl, by go_grown⟩
end Dig
end Go.Proofs.YtcjfnkgjjhlbnaaDoor
