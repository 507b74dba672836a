/- The program's labels (layer 10): isCount, comparePairs, Compare, Get; strings.Compare, cmp.Compare. -/
import Derived.Test.YtoamgmbpainpjaaLbRef3
import Derived.Lib.Bytealg
import Derived.Lib.Small
set_option maxRecDepth 100000
namespace Go.Proofs.Ytoamgmbpainpjaa
open Go.RowKit Go.Sort
namespace Lb
open Bit Dsk Ob Dig
set_option linter.unusedVariables false

theorem cb_less : ∀ x y : List UInt8, Op.bytesLess x y = true → Lib.compareBytes x y = -1
  | _, [], h => by simp [Op.bytesLess] at h
  | [], _ :: _, _ => rfl
  | a :: x, b :: y, h => by
    simp only [Op.bytesLess, Bool.or_eq_true, decide_eq_true_eq, Bool.and_eq_true, beq_iff_eq] at h
    unfold Lib.compareBytes
    rcases h with h | ⟨rfl, h⟩
    · rw [if_pos h]
    · rw [if_neg (UInt8.lt_irrefl a), if_neg (UInt8.lt_irrefl a)]; exact cb_less x y h
theorem cb_more : ∀ x y : List UInt8, Op.bytesLess y x = true → Lib.compareBytes x y = 1
  | [], _, h => by simp [Op.bytesLess] at h
  | _ :: _, [], _ => rfl
  | a :: x, b :: y, h => by
    simp only [Op.bytesLess, Bool.or_eq_true, decide_eq_true_eq, Bool.and_eq_true, beq_iff_eq] at h
    unfold Lib.compareBytes
    rcases h with h | ⟨rfl, h⟩
    · have h2 : ¬ a < b := fun k => by rw [UInt8.lt_iff_toNat_lt] at h k; omega
      rw [if_neg h2, if_pos h]
    · rw [if_neg (UInt8.lt_irrefl b), if_neg (UInt8.lt_irrefl b)]; exact cb_more x y h
theorem cb_same : ∀ x : List UInt8, Lib.compareBytes x x = 0
  | [] => rfl
  | a :: x => by unfold Lib.compareBytes; rw [if_neg (UInt8.lt_irrefl a), if_neg (UInt8.lt_irrefl a)]; exact cb_same x
theorem cb_of_lt {a b : ByteArray} (h : lt a b = true) : Lib.compareBytes a.data.toList b.data.toList = -1 := by
  have := cb_less _ _ h; rwa [ByteArray.toList_eq, ByteArray.toList_eq] at this
theorem cb_of_gt {a b : ByteArray} (h : lt b a = true) : Lib.compareBytes a.data.toList b.data.toList = 1 := by
  have := cb_more _ _ h; rwa [ByteArray.toList_eq, ByteArray.toList_eq] at this
theorem cb_of_eq (a : ByteArray) : Lib.compareBytes a.data.toList a.data.toList = 0 := cb_same _

set_option maxHeartbeats 800000 in
theorem bytealgcmp_any (a b : ByteArray) (w : World) :
    Calls Try.prog 44 #[.string a, .string b] w fun e w' => e = .returned (.int .i64 (Lib.compareBytes a.data.toList b.data.toList)) ∧ w' = w := by
  go_enter Try.func44, Try.ntmps44
  go_wp2
  rw [run_callFunc_extern Try.func45 (by kernel_rfl) (by kernel_rfl) (by kernel_rfl) (e := Extern.BytealgCompare.compare) (by kernel_rfl), Lib.run_compareString]
  simp only [Result.andThen]
  rw [Oper.upon_value]
  go_wp2
  go_ret
  exact ⟨rfl, rfl⟩
theorem strcmp_any (a b : ByteArray) (w : World) :
    Calls Try.prog 39 #[.string a, .string b] w fun e w' => e = .returned (.int .i64 (Lib.compareBytes a.data.toList b.data.toList)) ∧ w' = w := by
  go_enter Try.func39, Try.ntmps39
  go_wp2_with (go_at_call 44; refine (bytealgcmp_any _ _ _).mono ?_; rintro e w' ⟨rfl, rfl⟩)
  go_ret
  exact ⟨rfl, rfl⟩
theorem isnan_any (x : Int) (w : World) :
    Calls Try.prog 40 #[.int .i64 x] w fun e w' => e = .returned (.bool false) ∧ w' = w := by
  go_enter Try.func40, Try.ntmps40
  go_wp2_with fail
  go_ret
  exact ⟨by simp, rfl⟩
set_option maxHeartbeats 800000 in
theorem cmpint_any (x y : Int) (w : World) :
    Calls Try.prog 32 #[.int .i64 x, .int .i64 y] w fun e w' => e = .returned (.int .i64 (if x < y then -1 else if y < x then 1 else 0)) ∧ w' = w := by
  obtain ⟨R, hR⟩ : ∃ R : Int, (if x < y then -1 else if y < x then 1 else 0) = R := ⟨_, rfl⟩
  rw [hR]
  by_cases h1 : x < y
  · rw [if_pos h1] at hR
    replace hR := Lib.hid hR
    go_enter Try.func32, Try.ntmps32
    go_wp2_with (go_at_call 40; refine (isnan_any _ _).mono ?_; rintro e w' ⟨rfl, rfl⟩)
    go_ret
    exact ⟨ret_i hR.out, rfl⟩
  · rw [if_neg h1] at hR
    by_cases h2 : y < x
    · rw [if_pos h2] at hR
      replace hR := Lib.hid hR
      go_enter Try.func32, Try.ntmps32
      go_wp2_with (go_at_call 40; refine (isnan_any _ _).mono ?_; rintro e w' ⟨rfl, rfl⟩)
      go_ret
      exact ⟨ret_i hR.out, rfl⟩
    · rw [if_neg h2] at hR
      replace hR := Lib.hid hR
      go_enter Try.func32, Try.ntmps32
      go_wp2_with (go_at_call 40; refine (isnan_any _ _).mono ?_; rintro e w' ⟨rfl, rfl⟩)
      go_ret
      exact ⟨ret_i hR.out, rfl⟩
theorem iscount_any (x : Int) (w : World) :
    Calls Try.prog 28 #[.int .u64 x] w fun e w' => e = .returned (.bool (decide (1 ≤ x) && decide (x ≤ 8))) ∧ w' = w := by
  by_cases h1 : 1 ≤ x
  · have hR : Hid (decide (x ≤ 8) = (decide (1 ≤ x) && decide (x ≤ 8))) := Lib.hid (by rw [decide_eq_true h1, Bool.true_and])
    go_enter Try.func28, Try.ntmps28
    go_wp2_with fail
    go_ret
    exact ⟨ret_b hR.out, rfl⟩
  · have hR : Hid (false = (decide (1 ≤ x) && decide (x ≤ 8))) := Lib.hid (by rw [decide_eq_false h1, Bool.false_and])
    go_enter Try.func28, Try.ntmps28
    go_wp2_with fail
    go_ret
    exact ⟨ret_b hR.out, rfl⟩
/-- isCount of a natural number. -/
theorem iscount_nat (n : Nat) (w : World) {b : Bool} (h : b = true ↔ 1 ≤ n ∧ n ≤ 8) :
    Calls Try.prog 28 #[.int .u64 (n : Int)] w fun e w' => e = .returned (.bool b) ∧ w' = w :=
  (iscount_any n w).mono fun e w' ⟨h1, h2⟩ => ⟨by
    rw [h1]; congr 2
    rw [Bool.eq_iff_iff, h, Bool.and_eq_true, decide_eq_true_eq, decide_eq_true_eq]; omega, h2⟩

/-! ### comparePairs -/
/-- How two pairs stand. -/
def cmpP (p q : Pr) : Int := if p.1 = q.1 then Lib.compareBytes p.2.data.toList q.2.data.toList else Lib.compareBytes p.1.data.toList q.1.data.toList
theorem cmpP_lt {p q : Pr} (h : ltP p q = true) : cmpP p q = -1 := by
  unfold cmpP
  rcases ltP_iff.1 h with h | ⟨h1, h2⟩
  · rw [if_neg (lt_ne h), cb_of_lt h]
  · rw [if_pos h1, cb_of_lt h2]
theorem cmpP_gt {p q : Pr} (h : ltP q p = true) : cmpP p q = 1 := by
  unfold cmpP
  rcases ltP_iff.1 h with h | ⟨h1, h2⟩
  · rw [if_neg (lt_ne h).symm, cb_of_gt h]
  · rw [if_pos h1.symm, cb_of_gt h2]
set_option maxHeartbeats 1600000 in
theorem cmppairs_any (p q : Pr) (w : World) :
    Calls Try.prog 31 #[.agg #[.string p.1, .string p.2], .agg #[.string q.1, .string q.2]] w fun e w' => e = .returned (.int .i64 (cmpP p q)) ∧ New0 w w' := by
  obtain ⟨a1, a2⟩ := p
  obtain ⟨b1, b2⟩ := q
  obtain ⟨R, hR⟩ : ∃ R, cmpP (a1, a2) (b1, b2) = R := ⟨_, rfl⟩
  rw [hR]
  by_cases h1 : a1 = b1
  · subst h1
    have hE : Hid (Lib.compareBytes a2.data.toList b2.data.toList = R) := Lib.hid (by rw [← hR]; exact (if_pos rfl).symm)
    have d1 : (a1.toList == a1.toList) = true := beq_self_eq_true _
    clear hR
    go_enter Try.func31, Try.ntmps31
    go_wp2_with (go_at_call 39; refine (strcmp_any _ _ _).mono ?_; rintro e w' ⟨rfl, rfl⟩)
    go_ret
    exact ⟨ret_i hE.out, ((Upon.refl _ w).alloc _).alloc _⟩
  · have hE : Hid (Lib.compareBytes a1.data.toList b1.data.toList = R) := Lib.hid (by rw [← hR]; exact (if_neg h1).symm)
    have d1 : (a1.toList == b1.toList) = false := by rw [toList_beq]; exact decide_eq_false h1
    clear hR
    go_enter Try.func31, Try.ntmps31
    go_wp2_with (go_at_call 39; refine (strcmp_any _ _ _).mono ?_; rintro e w' ⟨rfl, rfl⟩)
    go_ret
    exact ⟨ret_i hE.out, ((Upon.refl _ w).alloc _).alloc _⟩
end Lb
end Go.Proofs.Ytoamgmbpainpjaa
