/- How long a chunk's text is to be; whether its last byte is filled up with bits 0 (layer 9). -/
import Derived.Test.YtadlkfdjdjaakaaDoorCkMk
set_option maxRecDepth 100000
namespace Go.Proofs.YtadlkfdjdjaakaaDoor
open Go.RowKit Go.Sort
namespace Ck
open Bit Dsk Ob Dig
set_option linter.unusedVariables false

/-- What is wrong with the length. -/
def lenE (n m : Nat) : Nat := if n < (m + 7) / 8 then 1 else if (m + 7) / 8 < n then 6 else 0
theorem up_even {m : Nat} (h : m % 8 = 0) : (m + 7) / 8 = m / 8 := by omega
theorem up_odd {m : Nat} (h : m % 8 ≠ 0) : (m + 7) / 8 = m / 8 + 1 := by omega
theorem ret_i {a b : Int} (h : a = b) : Ending.returned (.int .i64 a) = .returned (.int .i64 b) := by rw [h]
set_option maxHeartbeats 1600000 in
theorem len_any (w : World) (s : ByteArray) (m : Nat) (hs : s.size ≤ 140737488355328) (hm : m < 18446744073709551616) :
    Calls Tryd.prog 28 #[.string s, .int .u64 (m : Int)] w fun e w' => e = .returned (.int .i64 (lenE s.size m : Int)) ∧ New0 w w' := by
  have i1 : IntKind.u64.wrap (s.size : Int) = (s.size : Int) := by rw [IntKind.wrap_u64]; omega
  have td : Int.tdiv (m : Int) 8 = ((m / 8 : Nat) : Int) := by rw [Int.tdiv_eq_ediv_of_nonneg (by omega)]; omega
  have tm : Int.tmod (m : Int) 8 = ((m % 8 : Nat) : Int) := by rw [Int.tmod_eq_emod_of_nonneg (by omega)]; omega
  have i2 : IntKind.u64.wrap ((m / 8 : Nat) : Int) = ((m / 8 : Nat) : Int) := by rw [IntKind.wrap_u64]; omega
  have i3 : IntKind.u64.wrap (((m / 8 : Nat) : Int) + 1) = ((m / 8 + 1 : Nat) : Int) := by rw [IntKind.wrap_u64]; omega
  by_cases h0 : m % 8 = 0
  · have hup := up_even h0
    have hd : ((m : Int) % 8 != 0) = false := by rw [bne_eq_false_iff_eq]; omega
    by_cases h1 : s.size < m / 8
    · have hr := Lib.hid (show lenE s.size m = 1 by unfold lenE; rw [hup, if_pos h1])
      clear hup
      have h1' : (s.size : Int) < (m : Int) / 8 := by omega
      go_enter Tryd.func28, Tryd.ntmps28
      go_wp2_with fail
      go_ret
      exact ⟨ret_i (by rw [hr.out]; rfl), Upon.refl _ _⟩
    · by_cases h2 : m / 8 < s.size
      · have hr := Lib.hid (show lenE s.size m = 6 by unfold lenE; rw [hup, if_neg h1, if_pos h2])
        clear hup
        have h1' : ¬ (s.size : Int) < (m : Int) / 8 := by omega
        have h2' : (m : Int) / 8 < (s.size : Int) := by omega
        go_enter Tryd.func28, Tryd.ntmps28
        go_wp2_with fail
        go_ret
        exact ⟨ret_i (by rw [hr.out]; rfl), Upon.refl _ _⟩
      · have hr := Lib.hid (show lenE s.size m = 0 by unfold lenE; rw [hup, if_neg h1, if_neg h2])
        clear hup
        have h1' : ¬ (s.size : Int) < (m : Int) / 8 := by omega
        have h2' : ¬ (m : Int) / 8 < (s.size : Int) := by omega
        go_enter Tryd.func28, Tryd.ntmps28
        go_wp2_with fail
        go_ret
        exact ⟨ret_i (by rw [hr.out]; rfl), Upon.refl _ _⟩
  · have hup := up_odd h0
    have hd : ((m : Int) % 8 != 0) = true := by rw [bne_iff_ne]; omega
    by_cases h1 : s.size < m / 8 + 1
    · have hr := Lib.hid (show lenE s.size m = 1 by unfold lenE; rw [hup, if_pos h1])
      clear hup
      have h1' : (s.size : Int) < (m : Int) / 8 + 1 := by omega
      go_enter Tryd.func28, Tryd.ntmps28
      go_wp2_with fail
      go_ret
      exact ⟨ret_i (by rw [hr.out]; rfl), Upon.refl _ _⟩
    · by_cases h2 : m / 8 + 1 < s.size
      · have hr := Lib.hid (show lenE s.size m = 6 by unfold lenE; rw [hup, if_neg h1, if_pos h2])
        clear hup
        have h1' : ¬ (s.size : Int) < (m : Int) / 8 + 1 := by omega
        have h2' : (m : Int) / 8 + 1 < (s.size : Int) := by omega
        go_enter Tryd.func28, Tryd.ntmps28
        go_wp2_with fail
        go_ret
        exact ⟨ret_i (by rw [hr.out]; rfl), Upon.refl _ _⟩
      · have hr := Lib.hid (show lenE s.size m = 0 by unfold lenE; rw [hup, if_neg h1, if_neg h2])
        clear hup
        have h1' : ¬ (s.size : Int) < (m : Int) / 8 + 1 := by omega
        have h2' : ¬ (m : Int) / 8 + 1 < (s.size : Int) := by omega
        go_enter Tryd.func28, Tryd.ntmps28
        go_wp2_with fail
        go_ret
        exact ⟨ret_i (by rw [hr.out]; rfl), Upon.refl _ _⟩

theorem byte_fill : ∀ b : Fin 256, ∀ k : Fin 8, (∀ j : Fin 8, k.val ≤ j.val → b.val / 2 ^ (7 - j.val) % 2 = 0) ↔ b.val * 2 ^ k.val % 256 = 0 := by decide +kernel
/-- Only the last byte has bits that fill. -/
theorem fill_last {R : List UInt8} {m n : Nat} (h1 : R.length = n + 1) (h2 : m / 8 = n) : Filled R m ↔ (R.getD n 0).toNat * 2 ^ (m % 8) % 256 = 0 := by
  have hb := byte_fill ⟨(R.getD n 0).toNat, (R.getD n 0).toNat_lt⟩ ⟨m % 8, by omega⟩
  simp only at hb
  rw [← hb]
  constructor
  · intro hf j hj
    have := hf (8 * n + j.val) (by omega) (by have := j.isLt; omega)
    have e := bitAt_num R (8 * n + j.val)
    rw [this, show (8 * n + j.val) / 8 = n by have := j.isLt; omega, show (8 * n + j.val) % 8 = j.val by have := j.isLt; omega] at e
    exact e.symm
  · intro hj i hi1 hi2
    have e := bitAt_num R i
    rw [show i / 8 = n by omega] at e
    have := hj ⟨i % 8, by omega⟩ (by show m % 8 ≤ i % 8; omega)
    rw [this] at e
    cases hb : bitAt R i with
    | false => rfl
    | true => rw [hb] at e; cases e
theorem int_shl (a k : Nat) : ((a * 2 ^ k % 256 : Nat) : Int) = (a : Int) * 2 ^ k % 256 := by rw [Int.natCast_emod, Int.natCast_mul, Int.natCast_pow]; rfl
theorem fill_none {R : List UInt8} {m : Nat} (h : R.length = m / 8) : Filled R m := fun i h1 h2 => by omega
theorem last_byte {s : ByteArray} {n : Nat} (h : n < s.size) : s.data.toList.getD n 0 = s[n] := by
  rw [List.getD_eq_getElem?_getD, List.getElem?_eq_getElem (by rw [Array.length_toList]; exact h)]
  rfl
set_option maxHeartbeats 1600000 in
theorem filled_any (w : World) (s : ByteArray) (m : Nat) (hs : s.size ≤ 140737488355328) (h1 : m ≤ 8 * s.size) (h2 : s.size ≤ (m + 7) / 8) :
    Calls Tryd.prog 42 #[.string s, .int .i64 (m : Int)] w fun e w' => ∃ b : Bool, e = .returned (.bool b) ∧ (b = true ↔ Filled s.data.toList m) ∧ New0 w w' := by
  have hlen : s.data.toList.length = s.size := by rw [Array.length_toList]; rfl
  by_cases h0 : m % 8 = 0
  · have hf := Lib.hid (fill_none (R := s.data.toList) (m := m) (by omega))
    have hd : ((m : Int) % 8 == 0) = true := by rw [beq_iff_eq]; omega
    clear hlen h2
    go_enter Tryd.func42, Tryd.ntmps42
    go_wp2_with fail
    go_ret
    exact ⟨true, rfl, ⟨fun _ => hf.out, fun _ => rfl⟩, Upon.refl _ _⟩
  · have hf := fill_last (R := s.data.toList) (m := m) (n := s.size - 1) (by omega) (by omega)
    have hd : ((m : Int) % 8 == 0) = false := by rw [beq_eq_false_iff_ne]; omega
    have hlt : s.size - 1 < s.size := by omega
    have hpos : 1 ≤ s.size := by omega
    rw [last_byte hlt] at hf
    have hidx : wrap64 ((s.size : Int) - 1) = ((s.size - 1 : Nat) : Int) := by rw [IntWalk.wrap64_in _ (by omega)]; omega
    replace hf := Lib.hid hf
    clear hlen h2
    go_enter Tryd.func42, Tryd.ntmps42
    go_wp2_with fail
    go_ret
    refine ⟨_, rfl, ?_, Upon.refl _ _⟩
    rw [hf.out, beq_iff_eq, ← int_shl]
    exact Int.natCast_eq_zero
end Ck
end Go.Proofs.YtadlkfdjdjaakaaDoor
