/- Parts, put together: LbCmp, LbNam, LbGet, LbChk, LbEncP, LbPairP, LbDecP, LbProg. -/
import Derived.Test.YtlgjbcmloochiaaGreatDoorZaPLb1
import Derived.Lib.Bytealg
import Derived.Lib.Small
import Derived.Laws.RangeString
import Derived.Laws.RangeAny
import Derived.Lib.QuietBelow

/- The program's labels (layer 10): isCount, comparePairs, Compare, Get; strings.Compare, cmp.Compare. -/
section
set_option maxRecDepth 100000
namespace Go.Proofs.YtlgjbcmloochiaaGreatDoor
open Go.RowKit Go.Sort
namespace Lb
open Bit Dsk Ob Dig
set_option linter.unusedVariables false

theorem cb_less : ∀ x y : List UInt8, Op.bytesLess x y = true → Lib.compareBytes x y = -1
  | _, [], h => by simp [Op.bytesLess] at h
  | [], _ :: _, _ => rfl
  | a :: x, b :: y, h => by
    simp only [Op.bytesLess, Bool.or_eq_true, decide_eq_true_eq, Bool.and_eq_true, beq_iff_eq] at h
    unfold Lib.compareBytes
    rcases h with h | ⟨rfl, h⟩
    · rw [if_pos h]
    · rw [if_neg (UInt8.lt_irrefl a), if_neg (UInt8.lt_irrefl a)]; exact cb_less x y h
theorem cb_more : ∀ x y : List UInt8, Op.bytesLess y x = true → Lib.compareBytes x y = 1
  | [], _, h => by simp [Op.bytesLess] at h
  | _ :: _, [], _ => rfl
  | a :: x, b :: y, h => by
    simp only [Op.bytesLess, Bool.or_eq_true, decide_eq_true_eq, Bool.and_eq_true, beq_iff_eq] at h
    unfold Lib.compareBytes
    rcases h with h | ⟨rfl, h⟩
    · have h2 : ¬ a < b := fun k => by rw [UInt8.lt_iff_toNat_lt] at h k; omega
      rw [if_neg h2, if_pos h]
    · rw [if_neg (UInt8.lt_irrefl b), if_neg (UInt8.lt_irrefl b)]; exact cb_more x y h
theorem cb_of_lt {a b : ByteArray} (h : lt a b = true) : Lib.compareBytes a.data.toList b.data.toList = -1 := by
  have := cb_less _ _ h; rwa [ByteArray.toList_eq, ByteArray.toList_eq] at this
theorem cb_of_gt {a b : ByteArray} (h : lt b a = true) : Lib.compareBytes a.data.toList b.data.toList = 1 := by
  have := cb_more _ _ h; rwa [ByteArray.toList_eq, ByteArray.toList_eq] at this

set_option maxHeartbeats 800000 in
theorem bytealgcmp_any (a b : ByteArray) (w : World) :
    Calls Tryz.prog 191 #[.string a, .string b] w fun e w' => e = .returned (.int .i64 (Lib.compareBytes a.data.toList b.data.toList)) ∧ w' = w := by
  go_enter Tryz.func191, Tryz.ntmps191
  go_wp2
  rw [run_callFunc_extern Tryz.func215 (by kernel_rfl) (by kernel_rfl) (by kernel_rfl) (e := Extern.BytealgCompare.compare) (by kernel_rfl), Lib.run_compareString]
  simp only [Result.andThen]
  rw [Oper.upon_value]
  go_wp2
  go_ret
  exact ⟨rfl, rfl⟩
theorem strcmp_any (a b : ByteArray) (w : World) :
    Calls Tryz.prog 164 #[.string a, .string b] w fun e w' => e = .returned (.int .i64 (Lib.compareBytes a.data.toList b.data.toList)) ∧ w' = w := by
  go_enter Tryz.func164, Tryz.ntmps164
  go_wp2_with (go_at_call 191; refine (bytealgcmp_any _ _ _).mono ?_; rintro e w' ⟨rfl, rfl⟩)
  go_ret
  exact ⟨rfl, rfl⟩
theorem isnan_any (x : Int) (w : World) :
    Calls Tryz.prog 165 #[.int .i64 x] w fun e w' => e = .returned (.bool false) ∧ w' = w := by
  go_enter Tryz.func165, Tryz.ntmps165
  go_wp2_with fail
  go_ret
  exact ⟨by simp, rfl⟩
set_option maxHeartbeats 800000 in
theorem cmpint_any (x y : Int) (w : World) :
    Calls Tryz.prog 126 #[.int .i64 x, .int .i64 y] w fun e w' => e = .returned (.int .i64 (if x < y then -1 else if y < x then 1 else 0)) ∧ w' = w := by
  obtain ⟨R, hR⟩ : ∃ R : Int, (if x < y then -1 else if y < x then 1 else 0) = R := ⟨_, rfl⟩
  rw [hR]
  by_cases h1 : x < y
  · rw [if_pos h1] at hR
    replace hR := Lib.hid hR
    go_enter Tryz.func126, Tryz.ntmps126
    go_wp2_with (go_at_call 165; refine (isnan_any _ _).mono ?_; rintro e w' ⟨rfl, rfl⟩)
    go_ret
    exact ⟨ret_i hR.out, rfl⟩
  · rw [if_neg h1] at hR
    by_cases h2 : y < x
    · rw [if_pos h2] at hR
      replace hR := Lib.hid hR
      go_enter Tryz.func126, Tryz.ntmps126
      go_wp2_with (go_at_call 165; refine (isnan_any _ _).mono ?_; rintro e w' ⟨rfl, rfl⟩)
      go_ret
      exact ⟨ret_i hR.out, rfl⟩
    · rw [if_neg h2] at hR
      replace hR := Lib.hid hR
      go_enter Tryz.func126, Tryz.ntmps126
      go_wp2_with (go_at_call 165; refine (isnan_any _ _).mono ?_; rintro e w' ⟨rfl, rfl⟩)
      go_ret
      exact ⟨ret_i hR.out, rfl⟩
theorem iscount_any (x : Int) (w : World) :
    Calls Tryz.prog 122 #[.int .u64 x] w fun e w' => e = .returned (.bool (decide (1 ≤ x) && decide (x ≤ 8))) ∧ w' = w := by
  by_cases h1 : 1 ≤ x
  · have hR : Hid (decide (x ≤ 8) = (decide (1 ≤ x) && decide (x ≤ 8))) := Lib.hid (by rw [decide_eq_true h1, Bool.true_and])
    go_enter Tryz.func122, Tryz.ntmps122
    go_wp2_with fail
    go_ret
    exact ⟨ret_b hR.out, rfl⟩
  · have hR : Hid (false = (decide (1 ≤ x) && decide (x ≤ 8))) := Lib.hid (by rw [decide_eq_false h1, Bool.false_and])
    go_enter Tryz.func122, Tryz.ntmps122
    go_wp2_with fail
    go_ret
    exact ⟨ret_b hR.out, rfl⟩
/-- isCount of a natural number. -/
theorem iscount_nat (n : Nat) (w : World) {b : Bool} (h : b = true ↔ 1 ≤ n ∧ n ≤ 8) :
    Calls Tryz.prog 122 #[.int .u64 (n : Int)] w fun e w' => e = .returned (.bool b) ∧ w' = w :=
  (iscount_any n w).mono fun e w' ⟨h1, h2⟩ => ⟨by
    rw [h1]; congr 2
    rw [Bool.eq_iff_iff, h, Bool.and_eq_true, decide_eq_true_eq, decide_eq_true_eq]; omega, h2⟩

/-! ### comparePairs -/
/-- How two pairs stand. -/
def cmpP (p q : Pr) : Int := if p.1 = q.1 then Lib.compareBytes p.2.data.toList q.2.data.toList else Lib.compareBytes p.1.data.toList q.1.data.toList
theorem cmpP_lt {p q : Pr} (h : ltP p q = true) : cmpP p q = -1 := by
  unfold cmpP
  rcases ltP_iff.1 h with h | ⟨h1, h2⟩
  · rw [if_neg (lt_ne h), cb_of_lt h]
  · rw [if_pos h1, cb_of_lt h2]
theorem cmpP_gt {p q : Pr} (h : ltP q p = true) : cmpP p q = 1 := by
  unfold cmpP
  rcases ltP_iff.1 h with h | ⟨h1, h2⟩
  · rw [if_neg (lt_ne h).symm, cb_of_gt h]
  · rw [if_pos h1.symm, cb_of_gt h2]
set_option maxHeartbeats 1600000 in
theorem cmppairs_any (p q : Pr) (w : World) :
    Calls Tryz.prog 125 #[.agg #[.string p.1, .string p.2], .agg #[.string q.1, .string q.2]] w fun e w' => e = .returned (.int .i64 (cmpP p q)) ∧ New0 w w' := by
  obtain ⟨a1, a2⟩ := p
  obtain ⟨b1, b2⟩ := q
  obtain ⟨R, hR⟩ : ∃ R, cmpP (a1, a2) (b1, b2) = R := ⟨_, rfl⟩
  rw [hR]
  by_cases h1 : a1 = b1
  · subst h1
    have hE : Hid (Lib.compareBytes a2.data.toList b2.data.toList = R) := Lib.hid (by rw [← hR]; exact (if_pos rfl).symm)
    have d1 : (a1.toList == a1.toList) = true := beq_self_eq_true _
    clear hR
    go_enter Tryz.func125, Tryz.ntmps125
    go_wp2_with (go_at_call 164; refine (strcmp_any _ _ _).mono ?_; rintro e w' ⟨rfl, rfl⟩)
    go_ret
    exact ⟨ret_i hE.out, ((Upon.refl _ w).alloc _).alloc _⟩
  · have hE : Hid (Lib.compareBytes a1.data.toList b1.data.toList = R) := Lib.hid (by rw [← hR]; exact (if_neg h1).symm)
    have d1 : (a1.toList == b1.toList) = false := by rw [toList_beq]; exact decide_eq_false h1
    clear hR
    go_enter Tryz.func125, Tryz.ntmps125
    go_wp2_with (go_at_call 164; refine (strcmp_any _ _ _).mono ?_; rintro e w' ⟨rfl, rfl⟩)
    go_ret
    exact ⟨ret_i hE.out, ((Upon.refl _ w).alloc _).alloc _⟩
end Lb
end Go.Proofs.YtlgjbcmloochiaaGreatDoor
end

/- The program's labels (layer 10): isName, isValue. -/
section
set_option maxRecDepth 100000
namespace Go.Proofs.YtlgjbcmloochiaaGreatDoor
open Go.RowKit Go.Sort
namespace Lb
open Bit Dsk Ob Dig
set_option linter.unusedVariables false

theorem upon_iter (w : World) (s : ByteArray) (p : Nat) : New0 w (w.iter s p) := (Upon.refl _ w).alloc _
/-- What a step of the range over a text gives: the byte, if it is below 128; else a rune that is no less. -/
theorem sign_at (s : ByteArray) (j : Nat) (h : j < s.size) : ∃ r k : Nat, Utf8.decode s j = (r, k) ∧ ((s[j].toNat < 128 ∧ r = s[j].toNat ∧ k = 1) ∨ (128 ≤ s[j].toNat ∧ 128 ≤ r)) := by
  by_cases ha : s[j].toNat < 128
  · exact ⟨_, _, decode_ascii s j h ha, .inl ⟨ha, rfl, rfl⟩⟩
  · exact ⟨_, _, rfl, .inr ⟨by omega, (decode_high s j h (by omega)).1⟩⟩
theorem emp_size {s : ByteArray} (h : s.toList = []) : s.size = 0 := by
  rw [ByteArray.toList_eq] at h
  have := congrArg List.length h
  simpa using this
set_option maxHeartbeats 1600000 in
theorem isname_any (s : ByteArray) (w : World) :
    Calls Tryz.prog 123 #[.string s] w fun e w' => e = .returned (.bool (nm s)) ∧ New0 w w' := by
  by_cases h0 : s.size = 0
  · have hN : Hid (nm s = false) := Lib.hid (by simp [nm, h0])
    have d0 : (s.toList == []) = true := by
      rw [beq_iff_eq, ByteArray.toList_eq, ← List.length_eq_zero_iff]; simpa using h0
    go_enter Tryz.func123, Tryz.ntmps123
    go_wp2_with fail
    go_ret
    exact ⟨ret_b hN.out.symm, Upon.refl _ _⟩
  have d0 : (s.toList == []) = false := by
    rw [beq_eq_false_iff_ne]; exact fun e => h0 (emp_size e)
  by_cases h1 : 32 < s.size
  · have hN : Hid (nm s = false) := Lib.hid (by
      cases h : nm s with
      | false => rfl
      | true => have := (nm_size h).2; omega)
    have d1 : (32 : Int) < (s.size : Int) := by omega
    go_enter Tryz.func123, Tryz.ntmps123
    go_wp2_with fail
    go_ret
    exact ⟨ret_b hN.out.symm, Upon.refl _ _⟩
  have d1 : ¬ (32 : Int) < (s.size : Int) := by omega
  have hs1 : 1 ≤ s.size := by omega
  have hs2 : s.size ≤ 32 := by omega
  clear h1 h0
  go_enter Tryz.func123, Tryz.ntmps123
  go_wp2_with fail
  clear d0 d1
  go_loopw [] (fun wr => ∃ j : Nat, j ≤ s.size ∧ Hid (∀ i (h : i < s.size), i < j → nmB s[i] = true) ∧ wr = w.iter s j) (fun wr => s.size - wr.iterPos w.heap.size)
  case atStart => exact ⟨0, Nat.zero_le _, Lib.hid (fun i _ h => absurd h (Nat.not_lt_zero i)), rfl⟩
  case round =>
    obtain ⟨j, hj, hall, rfl⟩ := hrel
    by_cases hlt : j < s.size
    · have hnx : Hid (nmB s[j] = true → ∀ i (h : i < s.size), i < j + 1 → nmB s[i] = true) := Lib.hid fun h0 i h1 h2 => by
        by_cases e : i = j
        · subst e; exact h0
        · exact hall.out i h1 (by omega)
      have hbad := Lib.hid (nm_no (s := s) hlt)
      clear hall
      obtain ⟨r, k, hd, hcase⟩ := sign_at s j hlt
      have hst : ∀ ty, (Instr.next (.pointer (some ⟨w.heap.size, 0, none⟩)) true ty).run Tryz.prog (w.iter s j) = .ok (.tuple #[.bool true, .int .i64 j, .int .i32 r]) (w.iter s (j + k)) := fun ty => by
        rw [run_next_any w s j ty hlt, hd]
      rcases hcase with ⟨hx, hr, rfl⟩ | ⟨hx, hr⟩
      · have hB : Hid (nmB s[j] = ((decide (97 ≤ r) && decide (r ≤ 122)) || decide (r = 95))) := Lib.hid (by rw [hr]; rfl)
        clear hr
        by_cases c1 : r = 95
        · subst c1
          have d1 : (((95 : Nat) : Int) != 95) = false := by decide
          have hG := Lib.hid (hnx.out (by rw [hB.out]; rfl))
          clear hnx hbad hB
          go_wp2_with fail
          go_roundw
          case rel => exact ⟨j + 1, hlt, hG, rfl⟩
          case measure => simp; omega
        · have d2 : ((r : Int) != 95) = true := by rw [bne_iff_ne]; omega
          by_cases c2 : r < 97
          · have d3 : (r : Int) < 97 := by omega
            have hN := Lib.hid (hbad.out (by rw [hB.out]; simp; omega))
            clear hnx hbad hB
            go_wp2_with fail
            go_ret
            exact ⟨ret_b hN.out.symm, upon_iter w s _⟩
          · have d3 : ¬ (r : Int) < 97 := by omega
            by_cases c3 : 122 < r
            · have d4 : (122 : Int) < (r : Int) := by omega
              have hN := Lib.hid (hbad.out (by rw [hB.out]; simp; omega))
              clear hnx hbad hB
              go_wp2_with fail
              go_ret
              exact ⟨ret_b hN.out.symm, upon_iter w s _⟩
            · have d4 : ¬ (122 : Int) < (r : Int) := by omega
              have hG := Lib.hid (hnx.out (by rw [hB.out]; simp; omega))
              clear hnx hbad hB
              go_wp2_with fail
              go_roundw
              case rel => exact ⟨j + 1, hlt, hG, rfl⟩
              case measure => simp; omega
      · have hB : Hid (nmB s[j] = false) := Lib.hid (by unfold nmB; simp; omega)
        have d2 : ((r : Int) != 95) = true := by rw [bne_iff_ne]; omega
        have d3 : ¬ (r : Int) < 97 := by omega
        have d4 : (122 : Int) < (r : Int) := by omega
        have hN := Lib.hid (hbad.out hB.out)
        clear hnx hbad hB
        go_wp2_with fail
        go_ret
        exact ⟨ret_b hN.out.symm, upon_iter w s _⟩
    · have he := Lib.hid (nm_end hall.out hlt)
      have hN : Hid (nm s = true) := Lib.hid (by rw [he.out, decide_eq_true hs1, decide_eq_true hs2]; rfl)
      have hst : ∀ ty, (Instr.next (.pointer (some ⟨w.heap.size, 0, none⟩)) true ty).run Tryz.prog (w.iter s j) = _ := fun ty => run_next_end w s j ty hlt
      clear hall he
      go_wp2_with fail
      go_ret
      exact ⟨ret_b hN.out.symm, upon_iter w s j⟩
set_option maxHeartbeats 1600000 in
theorem isvalue_any (s : ByteArray) (w : World) :
    Calls Tryz.prog 124 #[.string s] w fun e w' => e = .returned (.bool (vl s)) ∧ New0 w w' := by
  by_cases h0 : s.size = 0
  · have hN : Hid (vl s = false) := Lib.hid (by simp [vl, h0])
    have d0 : (s.toList == []) = true := by
      rw [beq_iff_eq, ByteArray.toList_eq, ← List.length_eq_zero_iff]; simpa using h0
    go_enter Tryz.func124, Tryz.ntmps124
    go_wp2_with fail
    go_ret
    exact ⟨ret_b hN.out.symm, Upon.refl _ _⟩
  have d0 : (s.toList == []) = false := by
    rw [beq_eq_false_iff_ne]; exact fun e => h0 (emp_size e)
  by_cases h1 : 64 < s.size
  · have hN : Hid (vl s = false) := Lib.hid (by
      cases h : vl s with
      | false => rfl
      | true => have := (vl_size h).2; omega)
    have d1 : (64 : Int) < (s.size : Int) := by omega
    go_enter Tryz.func124, Tryz.ntmps124
    go_wp2_with fail
    go_ret
    exact ⟨ret_b hN.out.symm, Upon.refl _ _⟩
  have d1 : ¬ (64 : Int) < (s.size : Int) := by omega
  have hs1 : 1 ≤ s.size := by omega
  have hs2 : s.size ≤ 64 := by omega
  clear h1 h0
  go_enter Tryz.func124, Tryz.ntmps124
  go_wp2_with fail
  clear d0 d1
  go_loopw [] (fun wr => ∃ j : Nat, j ≤ s.size ∧ Hid (∀ i (h : i < s.size), i < j → vlB s[i] = true) ∧ wr = w.iter s j) (fun wr => s.size - wr.iterPos w.heap.size)
  case atStart => exact ⟨0, Nat.zero_le _, Lib.hid (fun i _ h => absurd h (Nat.not_lt_zero i)), rfl⟩
  case round =>
    obtain ⟨j, hj, hall, rfl⟩ := hrel
    by_cases hlt : j < s.size
    · have hnx : Hid (vlB s[j] = true → ∀ i (h : i < s.size), i < j + 1 → vlB s[i] = true) := Lib.hid fun h0 i h1 h2 => by
        by_cases e : i = j
        · subst e; exact h0
        · exact hall.out i h1 (by omega)
      have hbad := Lib.hid (vl_no (s := s) hlt)
      clear hall
      obtain ⟨r, k, hd, hcase⟩ := sign_at s j hlt
      have hst : ∀ ty, (Instr.next (.pointer (some ⟨w.heap.size, 0, none⟩)) true ty).run Tryz.prog (w.iter s j) = .ok (.tuple #[.bool true, .int .i64 j, .int .i32 r]) (w.iter s (j + k)) := fun ty => by
        rw [run_next_any w s j ty hlt, hd]
      rcases hcase with ⟨hx, hr, rfl⟩ | ⟨hx, hr⟩
      · have hB : Hid (vlB s[j] = (decide (32 ≤ r) && decide (r ≤ 126))) := Lib.hid (by rw [hr]; rfl)
        clear hr
        by_cases c2 : r < 32
        · have d3 : (r : Int) < 32 := by omega
          have hN := Lib.hid (hbad.out (by rw [hB.out]; simp; omega))
          clear hnx hbad hB
          go_wp2_with fail
          go_ret
          exact ⟨ret_b hN.out.symm, upon_iter w s _⟩
        · have d3 : ¬ (r : Int) < 32 := by omega
          by_cases c3 : 126 < r
          · have d4 : (126 : Int) < (r : Int) := by omega
            have hN := Lib.hid (hbad.out (by rw [hB.out]; simp; omega))
            clear hnx hbad hB
            go_wp2_with fail
            go_ret
            exact ⟨ret_b hN.out.symm, upon_iter w s _⟩
          · have d4 : ¬ (126 : Int) < (r : Int) := by omega
            have hG := Lib.hid (hnx.out (by rw [hB.out]; simp; omega))
            clear hnx hbad hB
            go_wp2_with fail
            go_roundw
            case rel => exact ⟨j + 1, hlt, hG, rfl⟩
            case measure => simp; omega
      · have hB : Hid (vlB s[j] = false) := Lib.hid (by unfold vlB; simp; omega)
        have d3 : ¬ (r : Int) < 32 := by omega
        have d4 : (126 : Int) < (r : Int) := by omega
        have hN := Lib.hid (hbad.out hB.out)
        clear hnx hbad hB
        go_wp2_with fail
        go_ret
        exact ⟨ret_b hN.out.symm, upon_iter w s _⟩
    · have he := Lib.hid (vl_end hall.out hlt)
      have hN : Hid (vl s = true) := Lib.hid (by rw [he.out, decide_eq_true hs1, decide_eq_true hs2]; rfl)
      have hst : ∀ ty, (Instr.next (.pointer (some ⟨w.heap.size, 0, none⟩)) true ty).run Tryz.prog (w.iter s j) = _ := fun ty => run_next_end w s j ty hlt
      clear hall he
      go_wp2_with fail
      go_ret
      exact ⟨ret_b hN.out.symm, upon_iter w s j⟩
end Lb
end Go.Proofs.YtlgjbcmloochiaaGreatDoor
end

/- The program's labels (layer 10): Get, Compare. -/
section
set_option maxRecDepth 100000
namespace Go.Proofs.YtlgjbcmloochiaaGreatDoor
open Go.RowKit Go.Sort
namespace Lb
open Bit Dsk Ob Dig
set_option linter.unusedVariables false

theorem cmpP_eq (l m : List Pr) {j : Nat} (ha : j < l.length) (hb : j < m.length) (hn : l[j] ≠ m[j]) : cmp (l.drop j) (m.drop j) = cmpP l[j] m[j] := by
  rcases three l[j] m[j] with h | h | ⟨h1, h2, h3⟩
  · rw [cmp_less ha hb h, cmpP_lt h]
  · exact absurd h hn
  · rw [cmp_gr ha hb h1 h2, cmpP_gt h3]
theorem cmp_tail (l m : List Pr) {j : Nat} (h : j = min l.length m.length) : cmp (l.drop j) (m.drop j) = if (l.length : Int) < (m.length : Int) then -1 else if (m.length : Int) < (l.length : Int) then 1 else 0 := by
  by_cases ha : j < l.length
  · have hb : ¬ j < m.length := by omega
    rw [cmp_end2 ha hb, if_neg (by omega), if_pos (by omega)]
  · by_cases hb : j < m.length
    · rw [cmp_end1 ha hb, if_pos (by omega)]
    · rw [cmp_end0 ha hb, if_neg (by omega), if_neg (by omega)]
theorem pairQ {w : World} {p q : Pr} {z : Int} (h : cmpP p q = z) (d : Nat) (os : Array Go.Obj) :
    Calls Tryz.prog 125 #[.agg #[.string p.1, .string p.2], .agg #[.string q.1, .string q.2]] (grow (redrawn w d) os) fun e w' => e = .returned (.int .i64 z) ∧ Below (grow (redrawn w d) os).heap.size (grow (redrawn w d) os) w' := by
  subst h
  exact (cmppairs_any p q _).mono fun e w' ⟨h1, h2⟩ => ⟨h1, belowOf h2⟩
set_option maxHeartbeats 3200000 in
theorem compare_any (w : World) (S S' : Nat → Prop) (v1 v2 : Value) (l m : List Pr) (h1 : View w S v1 l) (h2 : View w S' v2 m) :
    Calls Tryz.prog 76 #[v1, v2] w fun e w' => e = .returned (.int .i64 (cmp l m)) ∧ New0 w w' := by
  obtain ⟨A, c, rfl, hc1, hc2⟩ := Rw.View.shape h1
  obtain ⟨A', c', rfl, hc1', hc2'⟩ := Rw.View.shape h2
  have hl := Nat.le_trans hc1 hc2
  have hl' := Nat.le_trans hc1' hc2'
  unfold maxLen at hl hl'
  clear hc1 hc2 hc1' hc2'
  replace h1 := Lib.hid h1
  replace h2 := Lib.hid h2
  obtain ⟨R, hR⟩ : ∃ R : Int, (if (l.length : Int) < (m.length : Int) then -1 else if (m.length : Int) < (l.length : Int) then 1 else 0) = R := ⟨_, rfl⟩
  have HT := Lib.hid (fun w => by have := cmpint_any (l.length : Int) (m.length : Int) w; rw [hR] at this; exact this)
  have htail : Hid (∀ j : Nat, j = min l.length m.length → cmp (l.drop j) (m.drop j) = R) := Lib.hid (fun j h => by rw [cmp_tail l m h, hR])
  clear hR
  go_enter Tryz.func76, Tryz.ntmps76
  go_wp2_with fail
  all_goals
    go_loopw [11] (fun ov wr => ∃ j : Nat, ov = .int .i64 (j : Int) ∧ j ≤ l.length ∧ j ≤ m.length ∧ Hid (cmp (l.drop j) (m.drop j) = cmp l m) ∧ Hid (New0 w wr)) (fun ov _ => l.length - (intOf ov).toNat)
    case atStart => exact ⟨0, rfl, Nat.zero_le _, Nat.zero_le _, Lib.hid rfl, Lib.hid (Upon.refl _ _)⟩
    case round =>
      obtain ⟨j, rfl, hj, hj', hg, hu⟩ := hrel
      by_cases hmin : j < min l.length m.length
      · have hlt : j < l.length := by omega
        have hlt' : j < m.length := by omega
        obtain ⟨b, off, rfl, -, -, hcells⟩ := View.cells h1.out (by omega)
        obtain ⟨b', off', rfl, -, -, hcells'⟩ := View.cells h2.out (by omega)
        obtain ⟨x0, x1⟩ := hcells j hlt
        obtain ⟨y0, y1⟩ := hcells' j hlt'
        have r0 := New0.cells hu.out x0
        have r1 := New0.cells hu.out x1
        have s0 := New0.cells hu.out y0
        have s1 := New0.cells hu.out y1
        clear hcells hcells' h1 h2 hmin x0 x1 y0 y1 htail HT
        have q1 := Lib.hid (fun h => (cmp_step hlt hlt' h).symm.trans hg.out)
        have q2 := Lib.hid (fun h => (cmpP_eq l m hlt hlt' h).symm.trans hg.out)
        clear hg
        obtain ⟨p, hp⟩ : ∃ p, l[j] = p := ⟨_, rfl⟩
        obtain ⟨q, hq⟩ : ∃ q, m[j] = q := ⟨_, rfl⟩
        rw [hp] at r0 r1 q1 q2
        rw [hq] at s0 s1 q1 q2
        clear hp hq
        by_cases he : p = q
        · have hR := Lib.hid (q1.out he)
          subst he
          obtain ⟨a1, a2⟩ := p
          clear q1 q2
          go_wp2_with fail
          go_quiet (fail)
          go_wp2_with fail
          go_roundw
          case rel => exact ⟨j + 1, by go_num, hlt, hlt', hR, Lib.hid (hu.out.trans (upon_drewN _ wr _))⟩
          case measure => simp [intOf]; omega
        · have hR := Lib.hid (q2.out he)
          obtain ⟨a1, a2⟩ := p
          obtain ⟨b1, b2⟩ := q
          by_cases e1 : a1 = b1
          · subst e1
            have e2 : ¬ a2 = b2 := fun e2 => he (by rw [e2])
            have d4 : (a2.toList == b2.toList) = false := by rw [toList_beq]; exact decide_eq_false e2
            have d5 : decide (a2 = b2) = false := decide_eq_false e2
            clear q1 q2 he
            go_wp2_with fail
            go_quiet (fail)
            have t0 := New0.cells (upon_drewN _ wr nq) r0
            have t1 := New0.cells (upon_drewN _ wr nq) r1
            have t2 := New0.cells (upon_drewN _ wr nq) s0
            have t3 := New0.cells (upon_drewN _ wr nq) s1
            have hu2 := Lib.hid (hu.out.trans (upon_drewN _ wr nq))
            clear r0 r1 s0 s1 hu
            generalize wr.drewN nq = w5 at *
            have y0 := fun d os => cell_regrown t0 d os
            have y1 := fun d os => cell_regrown t1 d os
            have y2 := fun d os => cell_regrown t2 d os
            have y3 := fun d os => cell_regrown t3 d os
            have HP := Lib.hid (fun d os => pairQ (w := w5) hR.out d os)
            clear t0 t1 t2 t3
            go_wp2_with fail
            refine wp_region_quiet_below (by kernel_rfl) (by kernel_rfl) ?_
            repeat (go_big_quiet_step (first
              | exact Calls.regrown_of (HP.out _ _)))
            refine wpQuiet_nil ?_
            intro _ hw'
            obtain ⟨⟨dq, osq⟩, hw''⟩ := hw'
            subst hw''
            have hu6 := Lib.hid (hu2.out.trans (newOf (below_regrown w5 dq osq)))
            clear HP hu2 y0 y1 y2 y3 hR
            go_wp2_with fail
            go_ret
            exact ⟨rfl, hu6.out⟩
          · have d4 : (a1.toList == b1.toList) = false := by rw [toList_beq]; exact decide_eq_false e1
            have d5 : decide (a1 = b1) = false := decide_eq_false e1
            clear q1 q2 he
            go_wp2_with fail
            go_quiet (fail)
            have t0 := New0.cells (upon_drewN _ wr nq) r0
            have t1 := New0.cells (upon_drewN _ wr nq) r1
            have t2 := New0.cells (upon_drewN _ wr nq) s0
            have t3 := New0.cells (upon_drewN _ wr nq) s1
            have hu2 := Lib.hid (hu.out.trans (upon_drewN _ wr nq))
            clear r0 r1 s0 s1 hu
            generalize wr.drewN nq = w5 at *
            have y0 := fun d os => cell_regrown t0 d os
            have y1 := fun d os => cell_regrown t1 d os
            have y2 := fun d os => cell_regrown t2 d os
            have y3 := fun d os => cell_regrown t3 d os
            have HP := Lib.hid (fun d os => pairQ (w := w5) hR.out d os)
            clear t0 t1 t2 t3
            go_wp2_with fail
            refine wp_region_quiet_below (by kernel_rfl) (by kernel_rfl) ?_
            repeat (go_big_quiet_step (first
              | exact Calls.regrown_of (HP.out _ _)))
            refine wpQuiet_nil ?_
            intro _ hw'
            obtain ⟨⟨dq, osq⟩, hw''⟩ := hw'
            subst hw''
            have hu6 := Lib.hid (hu2.out.trans (newOf (below_regrown w5 dq osq)))
            clear HP hu2 y0 y1 y2 y3 hR
            go_wp2_with fail
            go_ret
            exact ⟨rfl, hu6.out⟩
      · have hfin := Lib.hid ((htail.out j (by omega)).symm.trans hg.out)
        first
          | (have hlt : ¬ j < m.length := by omega)
          | (have hlt : ¬ j < l.length := by omega)
        clear hg h1 h2 hmin htail
        go_wp2_with fail
        refine (HT.out _).mono ?_
        rintro e w2 ⟨rfl, rfl⟩
        clear HT
        go_wp2_with fail
        go_ret
        exact ⟨ret_i hfin.out, hu.out⟩
end Lb
end Go.Proofs.YtlgjbcmloochiaaGreatDoor
end

/- The program's labels (layer 10): Check, Encode. -/
section
set_option maxRecDepth 100000
namespace Go.Proofs.YtlgjbcmloochiaaGreatDoor
open Go.RowKit Go.Sort
namespace Lb
open Bit Dsk Ob Dig
set_option linter.unusedVariables false

theorem newcell0 {w w' : World} {x y : ByteArray} (h : New0 (w.alloc (.cells #[.string x, .string y] 72 (0, 0))) w') : w'.cell? ⟨w.heap.size, 0, none⟩ = some (.string x) := New0.cells h (by rw [Lib.cell_of_heap (cell_new w _)]; rfl)
theorem newcell1 {w w' : World} {x y : ByteArray} (h : New0 (w.alloc (.cells #[.string x, .string y] 72 (0, 0))) w') : w'.cell? ⟨w.heap.size, 1, none⟩ = some (.string y) := New0.cells h (by rw [Lib.cell_of_heap (cell_new w _)]; rfl)
theorem nameP (s : ByteArray) {b : Bool} (h : nm s = b) (w : World) : Calls Tryz.prog 123 #[.string s] w fun e w' => e = .returned (.bool b) ∧ New0 w w' := by
  subst h; exact isname_any s w
theorem valueP (s : ByteArray) {b : Bool} (h : vl s = b) (w : World) : Calls Tryz.prog 124 #[.string s] w fun e w' => e = .returned (.bool b) ∧ New0 w w' := by
  subst h; exact isvalue_any s w
set_option maxHeartbeats 3200000 in
theorem check_any (w : World) (S : Nat → Prop) (v : Value) (l : List Pr) (hv : View w S v l) (hsm : Sml l) :
    Calls Tryz.prog 75 #[v] w fun e w' => e = .returned (.int .i64 (chk l : Int)) ∧ New0 w w' := by
  obtain ⟨A, c, rfl, hc1, hc2⟩ := Rw.View.shape hv
  have hlen := Nat.le_trans hc1 hc2
  unfold maxLen at hlen
  clear hc1 hc2
  replace hv := Lib.hid hv
  clear hsm
  by_cases h1 : ¬ (1 ≤ l.length ∧ l.length ≤ 8)
  · have hR : Hid ((16 : Int) = (chk l : Int)) := Lib.hid (by rw [chk_few (by omega)]; rfl)
    have HK := Lib.hid (fun w => iscount_nat l.length w (b := false) (by simp; omega))
    clear h1 hv
    go_enter Tryz.func75, Tryz.ntmps75
    go_wp2_with fail
    refine (HK.out _).mono ?_
    rintro e w1 ⟨rfl, rfl⟩
    clear HK
    go_wp2_with fail
    go_ret
    exact ⟨ret_i hR.out, Upon.refl _ _⟩
  have HK := Lib.hid (fun w => iscount_nat l.length w (b := true) (by simp; omega))
  obtain ⟨b, off, rfl, -, -, hcells⟩ := View.cells hv.out (by omega)
  replace hcells := Lib.hid hcells
  have hl1 : 1 ≤ l.length := by omega
  have hl8 : l.length ≤ 8 := by omega
  clear hv h1
  go_enter Tryz.func75, Tryz.ntmps75
  go_wp2_with fail
  refine (HK.out _).mono ?_
  rintro e w1 ⟨rfl, rfl⟩
  clear HK
  go_wp2_with fail
  go_loopw [12] (fun ov wr => ∃ j : Nat, ov = .int .i64 (j : Int) ∧ j ≤ l.length ∧ Hid (Good (l.take j)) ∧ Hid (New0 w1 wr)) (fun ov _ => l.length - (intOf ov).toNat)
  case atStart => exact ⟨0, rfl, Nat.zero_le _, Lib.hid Good.nil, Lib.hid (Upon.refl _ _)⟩
  case round =>
    obtain ⟨j, rfl, hj, hg, hu⟩ := hrel
    by_cases hlt : j < l.length
    · obtain ⟨x0, x1⟩ := hcells.out j hlt
      have r0 := New0.cells hu.out x0
      have r1 := New0.cells hu.out x1
      have hst := Lib.hid (hg.out.step hlt)
      have hR1 := Lib.hid (chk_name (l := l) hlt)
      have hR2 := Lib.hid (chk_value (l := l) hlt)
      have hR3 := Lib.hid (fun i hi hij => chk_order (l := l) (i := i) hi hlt hij)
      obtain ⟨a1, ha1⟩ : ∃ a1, l[j].1 = a1 := ⟨_, rfl⟩
      obtain ⟨a2, ha2⟩ : ∃ a2, l[j].2 = a2 := ⟨_, rfl⟩
      rw [ha1] at r0 hst hR1
      rw [ha2] at r1 hst hR2
      replace hR3 : Hid (∀ i (hi : i < l.length), j = i + 1 → lt l[i].1 a1 = false → chk l = 16) := Lib.hid (fun i hi hij h => hR3.out i hi hij (by rw [ha1]; exact h))
      clear ha1 ha2 hg x0 x1
      cases hn : nm a1 with
      | false =>
        have HN := Lib.hid (nameP a1 hn)
        have hR : Hid ((16 : Int) = (chk l : Int)) := Lib.hid (by rw [hR1.out hn]; rfl)
        clear hst hR1 hR2 hR3 hn hcells
        go_wp2_with fail
        refine (HN.out _).mono ?_
        rintro e w2 ⟨rfl, hu2⟩
        have c0 := newcell0 hu2
        have c1 := newcell1 hu2
        have hu3 := Lib.hid ((hu.out.alloc _).trans hu2)
        clear HN hu hu2 r0 r1
        go_wp2_with fail
        go_ret
        exact ⟨ret_i hR.out, hu3.out⟩
      | true =>
        have HN := Lib.hid (nameP a1 hn)
        cases hvv : vl a2 with
        | false =>
          have HV := Lib.hid (valueP a2 hvv)
          have hR : Hid ((16 : Int) = (chk l : Int)) := Lib.hid (by rw [hR2.out hvv]; rfl)
          clear hst hR1 hR2 hR3 hn hvv hcells
          go_wp2_with fail
          refine (HN.out _).mono ?_
          rintro e w2 ⟨rfl, hu2⟩
          have c0 := newcell0 hu2
          have c1 := newcell1 hu2
          have hu3 := Lib.hid ((hu.out.alloc _).trans hu2)
          clear HN hu hu2 r0 r1
          go_wp2_with fail
          refine (HV.out _).mono ?_
          rintro e w3 ⟨rfl, hu4⟩
          have hu5 := Lib.hid (hu3.out.trans hu4)
          clear HV hu3 hu4 c0 c1
          go_wp2_with fail
          go_ret
          exact ⟨ret_i hR.out, hu5.out⟩
        | true =>
          have HV := Lib.hid (valueP a2 hvv)
          by_cases h0 : j = 0
          · have hG := Lib.hid (hst.out hn hvv (fun i _ e => by omega))
            have hj0 : decide (0 < j) = false := decide_eq_false (by omega)
            clear hst hR1 hR2 hR3 hn hvv h0
            go_wp2_with fail
            refine (HN.out _).mono ?_
            rintro e w2 ⟨rfl, hu2⟩
            have c0 := newcell0 hu2
            have c1 := newcell1 hu2
            have hu3 := Lib.hid ((hu.out.alloc _).trans hu2)
            clear HN hu hu2 r0 r1
            go_wp2_with fail
            refine (HV.out _).mono ?_
            rintro e w3 ⟨rfl, hu4⟩
            have hu5 := Lib.hid (hu3.out.trans hu4)
            have d0 := New0.cells hu4 c0
            clear HV hu3 hu4 c0 c1
            go_wp2_with fail
            go_quiet (fail)
            go_wp2_with fail
            go_roundw
            case rel => exact ⟨j + 1, by go_num, hlt, hG, Lib.hid (hu5.out.trans (upon_drewN _ w3 _))⟩
            case measure => simp [intOf]; omega
          · obtain ⟨i, hi⟩ : ∃ i, j = i + 1 := ⟨j - 1, by omega⟩
            have hil : i < l.length := by omega
            have y0 := New0.cells hu.out (hcells.out i hil).1
            have hidx : IntKind.i64.wrap ((j : Int) - 1) = (i : Int) := by rw [IntKind.wrap_i64]; omega
            have hj0 : decide (0 < j) = true := decide_eq_true (by omega)
            replace hR3 := Lib.hid (hR3.out i hil hi)
            replace hst := Lib.hid (hst.out hn hvv)
            obtain ⟨p1, hp1⟩ : ∃ p1, l[i].1 = p1 := ⟨_, rfl⟩
            rw [hp1] at y0 hR3
            cases ho : lt p1 a1 with
            | false =>
              have hR : Hid ((16 : Int) = (chk l : Int)) := Lib.hid (by rw [hR3.out ho]; rfl)
              have d3 : (Op.bytesLess a1.toList p1.toList || a1.toList == p1.toList) = true := at_least ho
              clear hst hR1 hR2 hR3 hn hvv hp1 ho hi hcells
              go_wp2_with fail
              refine (HN.out _).mono ?_
              rintro e w2 ⟨rfl, hu2⟩
              have c0 := newcell0 hu2
              have c1 := newcell1 hu2
              have z0 := New0.cells (((Upon.refl _ wr).alloc _).trans hu2) y0
              have hu3 := Lib.hid ((hu.out.alloc _).trans hu2)
              clear HN hu hu2 r0 r1 y0
              go_wp2_with fail
              refine (HV.out _).mono ?_
              rintro e w3 ⟨rfl, hu4⟩
              have hu5 := Lib.hid (hu3.out.trans hu4)
              have d0 := New0.cells hu4 c0
              have d1 := New0.cells hu4 z0
              clear HV hu3 hu4 c0 c1 z0
              go_wp2_with fail
              go_quiet (fail)
              go_wp2_with fail
              go_ret
              exact ⟨ret_i hR.out, hu5.out.trans (upon_drewN _ w3 _)⟩
            | true =>
              have hG := Lib.hid (hst.out (fun i' h' e => by
                obtain rfl : i' = i := by omega
                rw [hp1]; exact ho))
              have d3 : (Op.bytesLess a1.toList p1.toList || a1.toList == p1.toList) = false := at_least ho
              clear hst hR1 hR2 hR3 hn hvv hp1 ho hi
              go_wp2_with fail
              refine (HN.out _).mono ?_
              rintro e w2 ⟨rfl, hu2⟩
              have c0 := newcell0 hu2
              have c1 := newcell1 hu2
              have z0 := New0.cells (((Upon.refl _ wr).alloc _).trans hu2) y0
              have hu3 := Lib.hid ((hu.out.alloc _).trans hu2)
              clear HN hu hu2 r0 r1 y0
              go_wp2_with fail
              refine (HV.out _).mono ?_
              rintro e w3 ⟨rfl, hu4⟩
              have hu5 := Lib.hid (hu3.out.trans hu4)
              have d0 := New0.cells hu4 c0
              have d1 := New0.cells hu4 z0
              clear HV hu3 hu4 c0 c1 z0
              go_wp2_with fail
              go_quiet (fail)
              go_wp2_with fail
              go_roundw
              case rel => exact ⟨j + 1, by go_num, hlt, hG, Lib.hid (hu5.out.trans (upon_drewN _ w3 _))⟩
              case measure => simp [intOf]; omega
    · have hR : Hid ((0 : Int) = (chk l : Int)) := Lib.hid (by rw [chk_ok (Ok.of hl1 hl8 hlt hg.out)]; rfl)
      clear hg hcells
      go_wp2_with fail
      go_ret
      exact ⟨ret_i hR.out, hu.out⟩
end Lb
end Go.Proofs.YtlgjbcmloochiaaGreatDoor
end

/- The program's labels (layer 10): Encode. -/
section
set_option maxRecDepth 100000
namespace Go.Proofs.YtlgjbcmloochiaaGreatDoor
open Go.RowKit Go.Sort
namespace Lb
open Bit Dsk Ob Dig
set_option linter.unusedVariables false

theorem check_ok (w : World) (S : Nat → Prop) (v : Value) (l : List Pr) (hv : View w S v l) (hsm : Sml l) (hok : Ok l) :
    Calls Tryz.prog 75 #[v] w fun e w' => e = .returned (.int .i64 0) ∧ New0 w w' :=
  (check_any w S v l hv hsm).mono fun e w' ⟨h1, h2⟩ => ⟨by rw [h1, chk_ok hok]; rfl, h2⟩
theorem check_no (w : World) (S : Nat → Prop) (v : Value) (l : List Pr) (hv : View w S v l) (hsm : Sml l) (hok : ¬ Ok l) :
    Calls Tryz.prog 75 #[v] w fun e w' => e = .returned (.int .i64 16) ∧ New0 w w' :=
  (check_any w S v l hv hsm).mono fun e w' ⟨h1, h2⟩ => ⟨by rw [h1, chk_no hok]; rfl, h2⟩
theorem So.step' {l : List Pr} {j : Nat} {s : ByteArray} (h : So l j s) (hj : j < l.length) : So l (j + 1) (s ++ (textA l[j].1 ++ textA l[j].2)) := by
  have := h.step hj
  rwa [ByteArray.append_assoc] at this
set_option maxHeartbeats 3200000 in
theorem encode_any (w : World) (S : Nat → Prop) (v : Value) (l : List Pr) (hv : View w S v l) (hsm : Sml l) :
    Calls Tryz.prog 110 #[v] w fun e w' => e = encR l ∧ New0 w w' := by
  by_cases hok : Ok l
  · have HC := Lib.hid (check_ok w S v l hv hsm hok)
    obtain ⟨A, c, rfl, -, -⟩ := Rw.View.shape hv
    have h1 := hok.one
    have h8 := hok.few
    obtain ⟨b, off, rfl, -, -, hcells⟩ := View.cells hv (by omega)
    replace hcells := Lib.hid hcells
    replace hok := Lib.hid hok
    have HN : Hid (∀ w, Calls Tryz.prog 109 #[.int .u64 (l.length : Int)] w fun e w' => e = .returned (.string ⟨(numL l.length).toArray⟩) ∧ Below w.heap.size w w') := Lib.hid fun w => by
      have := Dig.num_any (l.length : Int) (by omega) (by omega) w
      rw [Int.toNat_natCast] at this
      exact this
    clear hv hsm
    go_enter Tryz.func110, Tryz.ntmps110
    go_wp2_with fail
    refine HC.out.mono ?_
    rintro e w1 ⟨rfl, hu1⟩
    replace hu1 := Lib.hid hu1
    clear HC
    go_wp2_with fail
    refine (HN.out _).mono ?_
    rintro e w2 ⟨rfl, hb2⟩
    have hu2 := Lib.hid (hu1.out.trans (newOf hb2))
    clear HN hb2 hu1
    go_wp2_with fail
    go_loopw [5, 19] (fun sv ov wr => ∃ (j : Nat) (s : ByteArray), sv = .string s ∧ ov = .int .i64 (j : Int) ∧ j ≤ l.length ∧ Hid (So l j s) ∧ Hid (New0 w wr)) (fun _ ov _ => l.length - (intOf ov).toNat)
    case atStart => exact ⟨0, _, rfl, rfl, Nat.zero_le _, Lib.hid (So.start l), hu2⟩
    case round =>
      clear hu2
      obtain ⟨j, s, rfl, rfl, hj, hso, hu⟩ := hrel
      by_cases hlt : j < l.length
      · obtain ⟨x0, x1⟩ := hcells.out j hlt
        have r0 := New0.cells hu.out x0
        have r1 := New0.cells hu.out x1
        have hs1 := hso.out.size hok.out
        have hsm := hok.out.good.small _ (List.getElem_mem hlt)
        have hnx := hso.out.step' hlt
        obtain ⟨a1, ha1⟩ : ∃ a1, l[j].1 = a1 := ⟨_, rfl⟩
        obtain ⟨a2, ha2⟩ : ∃ a2, l[j].2 = a2 := ⟨_, rfl⟩
        rw [ha1] at r0 hsm hnx
        rw [ha2] at r1 hsm hnx
        have hu3 := Lib.hid (hu.out.alloc (.cells #[.string a1, .string a2] 72 (0, 0)))
        have k0 := newcell0 (Upon.refl (fun _ => False) (wr.alloc (.cells #[.string a1, .string a2] 72 (0, 0))))
        have k1 := newcell1 (Upon.refl (fun _ => False) (wr.alloc (.cells #[.string a1, .string a2] 72 (0, 0))))
        obtain ⟨wq, hwq⟩ : ∃ wq, wr.alloc (.cells #[.string a1, .string a2] 72 (0, 0)) = wq := ⟨_, rfl⟩
        rw [hwq] at k0 k1 hu3
        have H1 := fun d os => Dig.text_any a1 (by omega) (grow (redrawn wq d) os)
        have H2 := fun d os => Dig.text_any a2 (by omega) (grow (redrawn wq d) os)
        have hz1 := textA_few (s := a1) (by omega)
        have hz2 := textA_few (s := a2) (by omega)
        obtain ⟨t1, ht1⟩ : ∃ t1, textA a1 = t1 := ⟨_, rfl⟩
        obtain ⟨t2, ht2⟩ : ∃ t2, textA a2 = t2 := ⟨_, rfl⟩
        rw [ht1] at H1 hz1 hnx
        rw [ht2] at H2 hz2 hnx
        have hadd1 := fun W => run_string_add_sum (P := Tryz.prog) W t1 t2 (by omega)
        have hadd2 := fun W => run_string_add_sum (P := Tryz.prog) W s (t1 ++ t2) (by rw [ByteArray.size_append]; omega)
        have y0 := fun d os => cell_regrown k0 d os
        have y1 := fun d os => cell_regrown k1 d os
        replace H1 := Lib.hid H1
        replace H2 := Lib.hid H2
        replace hnx := Lib.hid hnx
        replace hwq := Lib.hid hwq
        clear ha1 ha2 ht1 ht2 x0 x1 hso hs1 hsm hz1 hz2
        go_wp2_with fail
        rw [hwq.out]
        clear hwq hu r0 r1
        refine wp_region_quiet_below (by kernel_rfl) (by kernel_rfl) ?_
        repeat (go_big_quiet_step (first
          | exact Calls.regrown_of (H1.out _ _)
          | exact Calls.regrown_of (H2.out _ _)))
        refine wpQuiet_nil ?_
        intro _ hw'
        obtain ⟨⟨dq, osq⟩, hw''⟩ := hw'
        subst hw''
        have hu5 := Lib.hid (hu3.out.trans (newOf (below_regrown wq dq osq)))
        clear hu3 H1 H2 k0 k1 y0 y1 hadd1 hadd2
        generalize grow (redrawn wq dq) osq = w5 at *
        go_wp2_with fail
        go_roundw
        case rel => exact ⟨j + 1, _, rfl, by go_num, hlt, hnx, hu5⟩
        case measure => simp [intOf]; omega
      · have hR : Hid (Ending.returned (.tuple #[.string s, .int .i64 0]) = encR l) := Lib.hid (by rw [encR_ok hok.out, hso.out.last hlt])
        clear hso
        go_wp2_with fail
        go_ret2
        exact ⟨hR.out, hu.out⟩
  · have HC := Lib.hid (check_no w S v l hv hsm hok)
    obtain ⟨A, c, rfl, -, -⟩ := Rw.View.shape hv
    have hR := Lib.hid (encR_no hok)
    clear hv hsm hok
    go_enter Tryz.func110, Tryz.ntmps110
    go_wp2_with fail
    refine HC.out.mono ?_
    rintro e w1 ⟨rfl, hu1⟩
    replace hu1 := Lib.hid hu1
    clear HC
    go_wp2_with fail
    go_ret2
    exact ⟨hR.out.symm, hu1.out⟩
end Lb
end Go.Proofs.YtlgjbcmloochiaaGreatDoor
end

/- The program's labels (layer 10): getPair. -/
section
set_option maxRecDepth 100000
namespace Go.Proofs.YtlgjbcmloochiaaGreatDoor
open Go.RowKit Go.Sort
namespace Lb
open Bit Dsk Ob Dig
set_option linter.unusedVariables false

end Lb
end Go.Proofs.YtlgjbcmloochiaaGreatDoor
end

/- The program's labels (layer 10): Decode. -/
section
set_option maxRecDepth 100000
namespace Go.Proofs.YtlgjbcmloochiaaGreatDoor
open Go.RowKit Go.Sort
namespace Lb
open Bit Dsk Ob Dig
set_option linter.unusedVariables false

/-- A row of pairs of the call's own. -/
def Own1 (w0 w : World) (u : Value) (l : List Pr) : Prop := Mine w u l ∧ (∀ g, u.ownBlock = some g → w0.heap.size ≤ g) ∧ New0 w0 w
theorem Own1.step {w0 w w' : World} {u : Value} {l : List Pr} (h : Own1 w0 w u l) (hu : New0 w w') : Own1 w0 w' u l := ⟨h.1.new hu, h.2.1, h.2.2.trans hu⟩
theorem Own1.app {w0 w w' : World} {u u' : Value} {l m : List Pr} (h : Own1 w0 w u l) (hown : Mine w' u' m) (hg : w.grownBy w' u.ownBlock) (hb : u'.ownBlock = u.ownBlock ∨ u'.ownBlock = some w.heap.size) : Own1 w0 w' u' m :=
  ⟨hown, fun g hk => by
    rw [hk] at hb
    rcases hb with hb | hb
    · exact h.2.1 g hb.symm
    · have : g = w.heap.size := by simpa using hb
      have := h.2.2.size
      omega, Rw.grown_new (v' := u') hg (fun g hk => h.2.1 g hk) w0 (Nat.le_refl _) h.2.2⟩
end Lb
end Go.Proofs.YtlgjbcmloochiaaGreatDoor
end

/- The program's labels (layer 10): contracts of all five functions. -/
section

end
