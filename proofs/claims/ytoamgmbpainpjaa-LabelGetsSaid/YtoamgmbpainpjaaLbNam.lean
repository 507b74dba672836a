/- The program's labels (layer 10): isName, isValue. -/
import Derived.Test.YtoamgmbpainpjaaLbRef3
import Derived.Laws.RangeString
import Derived.Laws.RangeAny
set_option maxRecDepth 100000
namespace Go.Proofs.Ytoamgmbpainpjaa
open Go.RowKit Go.Sort
namespace Lb
open Bit Dsk Ob Dig
set_option linter.unusedVariables false

theorem upon_iter (w : World) (s : ByteArray) (p : Nat) : New0 w (w.iter s p) := (Upon.refl _ w).alloc _
/-- What a step of the range over a text gives: the byte, if it is below 128; else a rune that is no less. -/
theorem sign_at (s : ByteArray) (j : Nat) (h : j < s.size) : ∃ r k : Nat, Utf8.decode s j = (r, k) ∧ ((s[j].toNat < 128 ∧ r = s[j].toNat ∧ k = 1) ∨ (128 ≤ s[j].toNat ∧ 128 ≤ r)) := by
  by_cases ha : s[j].toNat < 128
  · exact ⟨_, _, decode_ascii s j h ha, .inl ⟨ha, rfl, rfl⟩⟩
  · exact ⟨_, _, rfl, .inr ⟨by omega, (decode_high s j h (by omega)).1⟩⟩
theorem emp_size {s : ByteArray} (h : s.toList = []) : s.size = 0 := by
  rw [ByteArray.toList_eq] at h
  have := congrArg List.length h
  simpa using this
set_option maxHeartbeats 1600000 in
theorem isname_any (s : ByteArray) (w : World) :
    Calls Try.prog 29 #[.string s] w fun e w' => e = .returned (.bool (nm s)) ∧ New0 w w' := by
  by_cases h0 : s.size = 0
  · have hN : Hid (nm s = false) := Lib.hid (by simp [nm, h0])
    have d0 : (s.toList == []) = true := by
      rw [beq_iff_eq, ByteArray.toList_eq, ← List.length_eq_zero_iff]; simpa using h0
    go_enter Try.func29, Try.ntmps29
    go_wp2_with fail
    go_ret
    exact ⟨ret_b hN.out.symm, Upon.refl _ _⟩
  have d0 : (s.toList == []) = false := by
    rw [beq_eq_false_iff_ne]; exact fun e => h0 (emp_size e)
  by_cases h1 : 32 < s.size
  · have hN : Hid (nm s = false) := Lib.hid (by
      cases h : nm s with
      | false => rfl
      | true => have := (nm_size h).2; omega)
    have d1 : (32 : Int) < (s.size : Int) := by omega
    go_enter Try.func29, Try.ntmps29
    go_wp2_with fail
    go_ret
    exact ⟨ret_b hN.out.symm, Upon.refl _ _⟩
  have d1 : ¬ (32 : Int) < (s.size : Int) := by omega
  have hs1 : 1 ≤ s.size := by omega
  have hs2 : s.size ≤ 32 := by omega
  clear h1 h0
  go_enter Try.func29, Try.ntmps29
  go_wp2_with fail
  clear d0 d1
  go_loopw [] (fun wr => ∃ j : Nat, j ≤ s.size ∧ Hid (∀ i (h : i < s.size), i < j → nmB s[i] = true) ∧ wr = w.iter s j) (fun wr => s.size - wr.iterPos w.heap.size)
  case atStart => exact ⟨0, Nat.zero_le _, Lib.hid (fun i _ h => absurd h (Nat.not_lt_zero i)), rfl⟩
  case round =>
    obtain ⟨j, hj, hall, rfl⟩ := hrel
    by_cases hlt : j < s.size
    · have hnx : Hid (nmB s[j] = true → ∀ i (h : i < s.size), i < j + 1 → nmB s[i] = true) := Lib.hid fun h0 i h1 h2 => by
        by_cases e : i = j
        · subst e; exact h0
        · exact hall.out i h1 (by omega)
      have hbad := Lib.hid (nm_no (s := s) hlt)
      clear hall
      obtain ⟨r, k, hd, hcase⟩ := sign_at s j hlt
      have hst : ∀ ty, (Instr.next (.pointer (some ⟨w.heap.size, 0, none⟩)) true ty).run Try.prog (w.iter s j) = .ok (.tuple #[.bool true, .int .i64 j, .int .i32 r]) (w.iter s (j + k)) := fun ty => by
        rw [run_next_any w s j ty hlt, hd]
      rcases hcase with ⟨hx, hr, rfl⟩ | ⟨hx, hr⟩
      · have hB : Hid (nmB s[j] = ((decide (97 ≤ r) && decide (r ≤ 122)) || decide (r = 95))) := Lib.hid (by rw [hr]; rfl)
        clear hr
        by_cases c1 : r = 95
        · subst c1
          have d1 : (((95 : Nat) : Int) != 95) = false := by decide
          have hG := Lib.hid (hnx.out (by rw [hB.out]; rfl))
          clear hnx hbad hB
          go_wp2_with fail
          go_roundw
          case rel => exact ⟨j + 1, hlt, hG, rfl⟩
          case measure => simp; omega
        · have d2 : ((r : Int) != 95) = true := by rw [bne_iff_ne]; omega
          by_cases c2 : r < 97
          · have d3 : (r : Int) < 97 := by omega
            have hN := Lib.hid (hbad.out (by rw [hB.out]; simp; omega))
            clear hnx hbad hB
            go_wp2_with fail
            go_ret
            exact ⟨ret_b hN.out.symm, upon_iter w s _⟩
          · have d3 : ¬ (r : Int) < 97 := by omega
            by_cases c3 : 122 < r
            · have d4 : (122 : Int) < (r : Int) := by omega
              have hN := Lib.hid (hbad.out (by rw [hB.out]; simp; omega))
              clear hnx hbad hB
              go_wp2_with fail
              go_ret
              exact ⟨ret_b hN.out.symm, upon_iter w s _⟩
            · have d4 : ¬ (122 : Int) < (r : Int) := by omega
              have hG := Lib.hid (hnx.out (by rw [hB.out]; simp; omega))
              clear hnx hbad hB
              go_wp2_with fail
              go_roundw
              case rel => exact ⟨j + 1, hlt, hG, rfl⟩
              case measure => simp; omega
      · have hB : Hid (nmB s[j] = false) := Lib.hid (by unfold nmB; simp; omega)
        have d2 : ((r : Int) != 95) = true := by rw [bne_iff_ne]; omega
        have d3 : ¬ (r : Int) < 97 := by omega
        have d4 : (122 : Int) < (r : Int) := by omega
        have hN := Lib.hid (hbad.out hB.out)
        clear hnx hbad hB
        go_wp2_with fail
        go_ret
        exact ⟨ret_b hN.out.symm, upon_iter w s _⟩
    · have he := Lib.hid (nm_end hall.out hlt)
      have hN : Hid (nm s = true) := Lib.hid (by rw [he.out, decide_eq_true hs1, decide_eq_true hs2]; rfl)
      have hst : ∀ ty, (Instr.next (.pointer (some ⟨w.heap.size, 0, none⟩)) true ty).run Try.prog (w.iter s j) = _ := fun ty => run_next_end w s j ty hlt
      clear hall he
      go_wp2_with fail
      go_ret
      exact ⟨ret_b hN.out.symm, upon_iter w s j⟩
set_option maxHeartbeats 1600000 in
theorem isvalue_any (s : ByteArray) (w : World) :
    Calls Try.prog 30 #[.string s] w fun e w' => e = .returned (.bool (vl s)) ∧ New0 w w' := by
  by_cases h0 : s.size = 0
  · have hN : Hid (vl s = false) := Lib.hid (by simp [vl, h0])
    have d0 : (s.toList == []) = true := by
      rw [beq_iff_eq, ByteArray.toList_eq, ← List.length_eq_zero_iff]; simpa using h0
    go_enter Try.func30, Try.ntmps30
    go_wp2_with fail
    go_ret
    exact ⟨ret_b hN.out.symm, Upon.refl _ _⟩
  have d0 : (s.toList == []) = false := by
    rw [beq_eq_false_iff_ne]; exact fun e => h0 (emp_size e)
  by_cases h1 : 64 < s.size
  · have hN : Hid (vl s = false) := Lib.hid (by
      cases h : vl s with
      | false => rfl
      | true => have := (vl_size h).2; omega)
    have d1 : (64 : Int) < (s.size : Int) := by omega
    go_enter Try.func30, Try.ntmps30
    go_wp2_with fail
    go_ret
    exact ⟨ret_b hN.out.symm, Upon.refl _ _⟩
  have d1 : ¬ (64 : Int) < (s.size : Int) := by omega
  have hs1 : 1 ≤ s.size := by omega
  have hs2 : s.size ≤ 64 := by omega
  clear h1 h0
  go_enter Try.func30, Try.ntmps30
  go_wp2_with fail
  clear d0 d1
  go_loopw [] (fun wr => ∃ j : Nat, j ≤ s.size ∧ Hid (∀ i (h : i < s.size), i < j → vlB s[i] = true) ∧ wr = w.iter s j) (fun wr => s.size - wr.iterPos w.heap.size)
  case atStart => exact ⟨0, Nat.zero_le _, Lib.hid (fun i _ h => absurd h (Nat.not_lt_zero i)), rfl⟩
  case round =>
    obtain ⟨j, hj, hall, rfl⟩ := hrel
    by_cases hlt : j < s.size
    · have hnx : Hid (vlB s[j] = true → ∀ i (h : i < s.size), i < j + 1 → vlB s[i] = true) := Lib.hid fun h0 i h1 h2 => by
        by_cases e : i = j
        · subst e; exact h0
        · exact hall.out i h1 (by omega)
      have hbad := Lib.hid (vl_no (s := s) hlt)
      clear hall
      obtain ⟨r, k, hd, hcase⟩ := sign_at s j hlt
      have hst : ∀ ty, (Instr.next (.pointer (some ⟨w.heap.size, 0, none⟩)) true ty).run Try.prog (w.iter s j) = .ok (.tuple #[.bool true, .int .i64 j, .int .i32 r]) (w.iter s (j + k)) := fun ty => by
        rw [run_next_any w s j ty hlt, hd]
      rcases hcase with ⟨hx, hr, rfl⟩ | ⟨hx, hr⟩
      · have hB : Hid (vlB s[j] = (decide (32 ≤ r) && decide (r ≤ 126))) := Lib.hid (by rw [hr]; rfl)
        clear hr
        by_cases c2 : r < 32
        · have d3 : (r : Int) < 32 := by omega
          have hN := Lib.hid (hbad.out (by rw [hB.out]; simp; omega))
          clear hnx hbad hB
          go_wp2_with fail
          go_ret
          exact ⟨ret_b hN.out.symm, upon_iter w s _⟩
        · have d3 : ¬ (r : Int) < 32 := by omega
          by_cases c3 : 126 < r
          · have d4 : (126 : Int) < (r : Int) := by omega
            have hN := Lib.hid (hbad.out (by rw [hB.out]; simp; omega))
            clear hnx hbad hB
            go_wp2_with fail
            go_ret
            exact ⟨ret_b hN.out.symm, upon_iter w s _⟩
          · have d4 : ¬ (126 : Int) < (r : Int) := by omega
            have hG := Lib.hid (hnx.out (by rw [hB.out]; simp; omega))
            clear hnx hbad hB
            go_wp2_with fail
            go_roundw
            case rel => exact ⟨j + 1, hlt, hG, rfl⟩
            case measure => simp; omega
      · have hB : Hid (vlB s[j] = false) := Lib.hid (by unfold vlB; simp; omega)
        have d3 : ¬ (r : Int) < 32 := by omega
        have d4 : (126 : Int) < (r : Int) := by omega
        have hN := Lib.hid (hbad.out hB.out)
        clear hnx hbad hB
        go_wp2_with fail
        go_ret
        exact ⟨ret_b hN.out.symm, upon_iter w s _⟩
    · have he := Lib.hid (vl_end hall.out hlt)
      have hN : Hid (vl s = true) := Lib.hid (by rw [he.out, decide_eq_true hs1, decide_eq_true hs2]; rfl)
      have hst : ∀ ty, (Instr.next (.pointer (some ⟨w.heap.size, 0, none⟩)) true ty).run Try.prog (w.iter s j) = _ := fun ty => run_next_end w s j ty hlt
      clear hall he
      go_wp2_with fail
      go_ret
      exact ⟨ret_b hN.out.symm, upon_iter w s j⟩
end Lb
end Go.Proofs.Ytoamgmbpainpjaa
