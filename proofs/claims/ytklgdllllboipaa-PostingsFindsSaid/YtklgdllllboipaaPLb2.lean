/- Parts, put together: LbCmp, LbNam, LbGet, LbChk, LbEncP, LbPairP, LbDecP, LbProg. -/
import Derived.Test.YtklgdllllboipaaPLb1
import Derived.Lib.Bytealg
import Derived.Lib.Small
import Derived.Laws.RangeString
import Derived.Laws.RangeAny
import Derived.Lib.QuietBelow

/- The program's labels (layer 10): isCount, comparePairs, Compare, Get; strings.Compare, cmp.Compare. -/
section
set_option maxRecDepth 100000
namespace Go.Proofs.Ytklgdllllboipaa
open Go.RowKit Go.Sort
namespace Lb
open Bit Dsk Ob Dig
set_option linter.unusedVariables false

theorem cb_less : ∀ x y : List UInt8, Op.bytesLess x y = true → Lib.compareBytes x y = -1
  | _, [], h => by simp [Op.bytesLess] at h
  | [], _ :: _, _ => rfl
  | a :: x, b :: y, h => by
    simp only [Op.bytesLess, Bool.or_eq_true, decide_eq_true_eq, Bool.and_eq_true, beq_iff_eq] at h
    unfold Lib.compareBytes
    rcases h with h | ⟨rfl, h⟩
    · rw [if_pos h]
    · rw [if_neg (UInt8.lt_irrefl a), if_neg (UInt8.lt_irrefl a)]; exact cb_less x y h
theorem cb_more : ∀ x y : List UInt8, Op.bytesLess y x = true → Lib.compareBytes x y = 1
  | [], _, h => by simp [Op.bytesLess] at h
  | _ :: _, [], _ => rfl
  | a :: x, b :: y, h => by
    simp only [Op.bytesLess, Bool.or_eq_true, decide_eq_true_eq, Bool.and_eq_true, beq_iff_eq] at h
    unfold Lib.compareBytes
    rcases h with h | ⟨rfl, h⟩
    · have h2 : ¬ a < b := fun k => by rw [UInt8.lt_iff_toNat_lt] at h k; omega
      rw [if_neg h2, if_pos h]
    · rw [if_neg (UInt8.lt_irrefl b), if_neg (UInt8.lt_irrefl b)]; exact cb_more x y h
theorem cb_same : ∀ x : List UInt8, Lib.compareBytes x x = 0
  | [] => rfl
  | a :: x => by unfold Lib.compareBytes; rw [if_neg (UInt8.lt_irrefl a), if_neg (UInt8.lt_irrefl a)]; exact cb_same x
theorem cb_of_lt {a b : ByteArray} (h : lt a b = true) : Lib.compareBytes a.data.toList b.data.toList = -1 := by
  have := cb_less _ _ h; rwa [ByteArray.toList_eq, ByteArray.toList_eq] at this
theorem cb_of_gt {a b : ByteArray} (h : lt b a = true) : Lib.compareBytes a.data.toList b.data.toList = 1 := by
  have := cb_more _ _ h; rwa [ByteArray.toList_eq, ByteArray.toList_eq] at this
theorem cb_of_eq (a : ByteArray) : Lib.compareBytes a.data.toList a.data.toList = 0 := cb_same _

theorem isnan_any (x : Int) (w : World) :
    Calls Try.prog 62 #[.int .i64 x] w fun e w' => e = .returned (.bool false) ∧ w' = w := by
  go_enter Try.func62, Try.ntmps62
  go_wp2_with fail
  go_ret
  exact ⟨by simp, rfl⟩
theorem iscount_any (x : Int) (w : World) :
    Calls Try.prog 77 #[.int .u64 x] w fun e w' => e = .returned (.bool (decide (1 ≤ x) && decide (x ≤ 8))) ∧ w' = w := by
  by_cases h1 : 1 ≤ x
  · have hR : Hid (decide (x ≤ 8) = (decide (1 ≤ x) && decide (x ≤ 8))) := Lib.hid (by rw [decide_eq_true h1, Bool.true_and])
    go_enter Try.func77, Try.ntmps77
    go_wp2_with fail
    go_ret
    exact ⟨ret_b hR.out, rfl⟩
  · have hR : Hid (false = (decide (1 ≤ x) && decide (x ≤ 8))) := Lib.hid (by rw [decide_eq_false h1, Bool.false_and])
    go_enter Try.func77, Try.ntmps77
    go_wp2_with fail
    go_ret
    exact ⟨ret_b hR.out, rfl⟩
/-- isCount of a natural number. -/
theorem iscount_nat (n : Nat) (w : World) {b : Bool} (h : b = true ↔ 1 ≤ n ∧ n ≤ 8) :
    Calls Try.prog 77 #[.int .u64 (n : Int)] w fun e w' => e = .returned (.bool b) ∧ w' = w :=
  (iscount_any n w).mono fun e w' ⟨h1, h2⟩ => ⟨by
    rw [h1]; congr 2
    rw [Bool.eq_iff_iff, h, Bool.and_eq_true, decide_eq_true_eq, decide_eq_true_eq]; omega, h2⟩

/-! ### comparePairs -/
/-- How two pairs stand. -/
def cmpP (p q : Pr) : Int := if p.1 = q.1 then Lib.compareBytes p.2.data.toList q.2.data.toList else Lib.compareBytes p.1.data.toList q.1.data.toList
theorem cmpP_lt {p q : Pr} (h : ltP p q = true) : cmpP p q = -1 := by
  unfold cmpP
  rcases ltP_iff.1 h with h | ⟨h1, h2⟩
  · rw [if_neg (lt_ne h), cb_of_lt h]
  · rw [if_pos h1, cb_of_lt h2]
theorem cmpP_gt {p q : Pr} (h : ltP q p = true) : cmpP p q = 1 := by
  unfold cmpP
  rcases ltP_iff.1 h with h | ⟨h1, h2⟩
  · rw [if_neg (lt_ne h).symm, cb_of_gt h]
  · rw [if_pos h1.symm, cb_of_gt h2]
end Lb
end Go.Proofs.Ytklgdllllboipaa
end

/- The program's labels (layer 10): isName, isValue. -/
section
set_option maxRecDepth 100000
namespace Go.Proofs.Ytklgdllllboipaa
open Go.RowKit Go.Sort
namespace Lb
open Bit Dsk Ob Dig
set_option linter.unusedVariables false

theorem upon_iter (w : World) (s : ByteArray) (p : Nat) : New0 w (w.iter s p) := (Upon.refl _ w).alloc _
/-- What a step of the range over a text gives: the byte, if it is below 128; else a rune that is no less. -/
theorem sign_at (s : ByteArray) (j : Nat) (h : j < s.size) : ∃ r k : Nat, Utf8.decode s j = (r, k) ∧ ((s[j].toNat < 128 ∧ r = s[j].toNat ∧ k = 1) ∨ (128 ≤ s[j].toNat ∧ 128 ≤ r)) := by
  by_cases ha : s[j].toNat < 128
  · exact ⟨_, _, decode_ascii s j h ha, .inl ⟨ha, rfl, rfl⟩⟩
  · exact ⟨_, _, rfl, .inr ⟨by omega, (decode_high s j h (by omega)).1⟩⟩
theorem emp_size {s : ByteArray} (h : s.toList = []) : s.size = 0 := by
  rw [ByteArray.toList_eq] at h
  have := congrArg List.length h
  simpa using this
set_option maxHeartbeats 1600000 in
theorem isname_any (s : ByteArray) (w : World) :
    Calls Try.prog 78 #[.string s] w fun e w' => e = .returned (.bool (nm s)) ∧ New0 w w' := by
  by_cases h0 : s.size = 0
  · have hN : Hid (nm s = false) := Lib.hid (by simp [nm, h0])
    have d0 : (s.toList == []) = true := by
      rw [beq_iff_eq, ByteArray.toList_eq, ← List.length_eq_zero_iff]; simpa using h0
    go_enter Try.func78, Try.ntmps78
    go_wp2_with fail
    go_ret
    exact ⟨ret_b hN.out.symm, Upon.refl _ _⟩
  have d0 : (s.toList == []) = false := by
    rw [beq_eq_false_iff_ne]; exact fun e => h0 (emp_size e)
  by_cases h1 : 32 < s.size
  · have hN : Hid (nm s = false) := Lib.hid (by
      cases h : nm s with
      | false => rfl
      | true => have := (nm_size h).2; omega)
    have d1 : (32 : Int) < (s.size : Int) := by omega
    go_enter Try.func78, Try.ntmps78
    go_wp2_with fail
    go_ret
    exact ⟨ret_b hN.out.symm, Upon.refl _ _⟩
  have d1 : ¬ (32 : Int) < (s.size : Int) := by omega
  have hs1 : 1 ≤ s.size := by omega
  have hs2 : s.size ≤ 32 := by omega
  clear h1 h0
  go_enter Try.func78, Try.ntmps78
  go_wp2_with fail
  clear d0 d1
  go_loopw [] (fun wr => ∃ j : Nat, j ≤ s.size ∧ Hid (∀ i (h : i < s.size), i < j → nmB s[i] = true) ∧ wr = w.iter s j) (fun wr => s.size - wr.iterPos w.heap.size)
  case atStart => exact ⟨0, Nat.zero_le _, Lib.hid (fun i _ h => absurd h (Nat.not_lt_zero i)), rfl⟩
  case round =>
    obtain ⟨j, hj, hall, rfl⟩ := hrel
    by_cases hlt : j < s.size
    · have hnx : Hid (nmB s[j] = true → ∀ i (h : i < s.size), i < j + 1 → nmB s[i] = true) := Lib.hid fun h0 i h1 h2 => by
        by_cases e : i = j
        · subst e; exact h0
        · exact hall.out i h1 (by omega)
      have hbad := Lib.hid (nm_no (s := s) hlt)
      clear hall
      obtain ⟨r, k, hd, hcase⟩ := sign_at s j hlt
      have hst : ∀ ty, (Instr.next (.pointer (some ⟨w.heap.size, 0, none⟩)) true ty).run Try.prog (w.iter s j) = .ok (.tuple #[.bool true, .int .i64 j, .int .i32 r]) (w.iter s (j + k)) := fun ty => by
        rw [run_next_any w s j ty hlt, hd]
      rcases hcase with ⟨hx, hr, rfl⟩ | ⟨hx, hr⟩
      · have hB : Hid (nmB s[j] = ((decide (97 ≤ r) && decide (r ≤ 122)) || decide (r = 95))) := Lib.hid (by rw [hr]; rfl)
        clear hr
        by_cases c1 : r = 95
        · subst c1
          have d1 : (((95 : Nat) : Int) != 95) = false := by decide
          have hG := Lib.hid (hnx.out (by rw [hB.out]; rfl))
          clear hnx hbad hB
          go_wp2_with fail
          go_roundw
          case rel => exact ⟨j + 1, hlt, hG, rfl⟩
          case measure => simp; omega
        · have d2 : ((r : Int) != 95) = true := by rw [bne_iff_ne]; omega
          by_cases c2 : r < 97
          · have d3 : (r : Int) < 97 := by omega
            have hN := Lib.hid (hbad.out (by rw [hB.out]; simp; omega))
            clear hnx hbad hB
            go_wp2_with fail
            go_ret
            exact ⟨ret_b hN.out.symm, upon_iter w s _⟩
          · have d3 : ¬ (r : Int) < 97 := by omega
            by_cases c3 : 122 < r
            · have d4 : (122 : Int) < (r : Int) := by omega
              have hN := Lib.hid (hbad.out (by rw [hB.out]; simp; omega))
              clear hnx hbad hB
              go_wp2_with fail
              go_ret
              exact ⟨ret_b hN.out.symm, upon_iter w s _⟩
            · have d4 : ¬ (122 : Int) < (r : Int) := by omega
              have hG := Lib.hid (hnx.out (by rw [hB.out]; simp; omega))
              clear hnx hbad hB
              go_wp2_with fail
              go_roundw
              case rel => exact ⟨j + 1, hlt, hG, rfl⟩
              case measure => simp; omega
      · have hB : Hid (nmB s[j] = false) := Lib.hid (by unfold nmB; simp; omega)
        have d2 : ((r : Int) != 95) = true := by rw [bne_iff_ne]; omega
        have d3 : ¬ (r : Int) < 97 := by omega
        have d4 : (122 : Int) < (r : Int) := by omega
        have hN := Lib.hid (hbad.out hB.out)
        clear hnx hbad hB
        go_wp2_with fail
        go_ret
        exact ⟨ret_b hN.out.symm, upon_iter w s _⟩
    · have he := Lib.hid (nm_end hall.out hlt)
      have hN : Hid (nm s = true) := Lib.hid (by rw [he.out, decide_eq_true hs1, decide_eq_true hs2]; rfl)
      have hst : ∀ ty, (Instr.next (.pointer (some ⟨w.heap.size, 0, none⟩)) true ty).run Try.prog (w.iter s j) = _ := fun ty => run_next_end w s j ty hlt
      clear hall he
      go_wp2_with fail
      go_ret
      exact ⟨ret_b hN.out.symm, upon_iter w s j⟩
set_option maxHeartbeats 1600000 in
theorem isvalue_any (s : ByteArray) (w : World) :
    Calls Try.prog 79 #[.string s] w fun e w' => e = .returned (.bool (vl s)) ∧ New0 w w' := by
  by_cases h0 : s.size = 0
  · have hN : Hid (vl s = false) := Lib.hid (by simp [vl, h0])
    have d0 : (s.toList == []) = true := by
      rw [beq_iff_eq, ByteArray.toList_eq, ← List.length_eq_zero_iff]; simpa using h0
    go_enter Try.func79, Try.ntmps79
    go_wp2_with fail
    go_ret
    exact ⟨ret_b hN.out.symm, Upon.refl _ _⟩
  have d0 : (s.toList == []) = false := by
    rw [beq_eq_false_iff_ne]; exact fun e => h0 (emp_size e)
  by_cases h1 : 64 < s.size
  · have hN : Hid (vl s = false) := Lib.hid (by
      cases h : vl s with
      | false => rfl
      | true => have := (vl_size h).2; omega)
    have d1 : (64 : Int) < (s.size : Int) := by omega
    go_enter Try.func79, Try.ntmps79
    go_wp2_with fail
    go_ret
    exact ⟨ret_b hN.out.symm, Upon.refl _ _⟩
  have d1 : ¬ (64 : Int) < (s.size : Int) := by omega
  have hs1 : 1 ≤ s.size := by omega
  have hs2 : s.size ≤ 64 := by omega
  clear h1 h0
  go_enter Try.func79, Try.ntmps79
  go_wp2_with fail
  clear d0 d1
  go_loopw [] (fun wr => ∃ j : Nat, j ≤ s.size ∧ Hid (∀ i (h : i < s.size), i < j → vlB s[i] = true) ∧ wr = w.iter s j) (fun wr => s.size - wr.iterPos w.heap.size)
  case atStart => exact ⟨0, Nat.zero_le _, Lib.hid (fun i _ h => absurd h (Nat.not_lt_zero i)), rfl⟩
  case round =>
    obtain ⟨j, hj, hall, rfl⟩ := hrel
    by_cases hlt : j < s.size
    · have hnx : Hid (vlB s[j] = true → ∀ i (h : i < s.size), i < j + 1 → vlB s[i] = true) := Lib.hid fun h0 i h1 h2 => by
        by_cases e : i = j
        · subst e; exact h0
        · exact hall.out i h1 (by omega)
      have hbad := Lib.hid (vl_no (s := s) hlt)
      clear hall
      obtain ⟨r, k, hd, hcase⟩ := sign_at s j hlt
      have hst : ∀ ty, (Instr.next (.pointer (some ⟨w.heap.size, 0, none⟩)) true ty).run Try.prog (w.iter s j) = .ok (.tuple #[.bool true, .int .i64 j, .int .i32 r]) (w.iter s (j + k)) := fun ty => by
        rw [run_next_any w s j ty hlt, hd]
      rcases hcase with ⟨hx, hr, rfl⟩ | ⟨hx, hr⟩
      · have hB : Hid (vlB s[j] = (decide (32 ≤ r) && decide (r ≤ 126))) := Lib.hid (by rw [hr]; rfl)
        clear hr
        by_cases c2 : r < 32
        · have d3 : (r : Int) < 32 := by omega
          have hN := Lib.hid (hbad.out (by rw [hB.out]; simp; omega))
          clear hnx hbad hB
          go_wp2_with fail
          go_ret
          exact ⟨ret_b hN.out.symm, upon_iter w s _⟩
        · have d3 : ¬ (r : Int) < 32 := by omega
          by_cases c3 : 126 < r
          · have d4 : (126 : Int) < (r : Int) := by omega
            have hN := Lib.hid (hbad.out (by rw [hB.out]; simp; omega))
            clear hnx hbad hB
            go_wp2_with fail
            go_ret
            exact ⟨ret_b hN.out.symm, upon_iter w s _⟩
          · have d4 : ¬ (126 : Int) < (r : Int) := by omega
            have hG := Lib.hid (hnx.out (by rw [hB.out]; simp; omega))
            clear hnx hbad hB
            go_wp2_with fail
            go_roundw
            case rel => exact ⟨j + 1, hlt, hG, rfl⟩
            case measure => simp; omega
      · have hB : Hid (vlB s[j] = false) := Lib.hid (by unfold vlB; simp; omega)
        have d3 : ¬ (r : Int) < 32 := by omega
        have d4 : (126 : Int) < (r : Int) := by omega
        have hN := Lib.hid (hbad.out hB.out)
        clear hnx hbad hB
        go_wp2_with fail
        go_ret
        exact ⟨ret_b hN.out.symm, upon_iter w s _⟩
    · have he := Lib.hid (vl_end hall.out hlt)
      have hN : Hid (vl s = true) := Lib.hid (by rw [he.out, decide_eq_true hs1, decide_eq_true hs2]; rfl)
      have hst : ∀ ty, (Instr.next (.pointer (some ⟨w.heap.size, 0, none⟩)) true ty).run Try.prog (w.iter s j) = _ := fun ty => run_next_end w s j ty hlt
      clear hall he
      go_wp2_with fail
      go_ret
      exact ⟨ret_b hN.out.symm, upon_iter w s j⟩
end Lb
end Go.Proofs.Ytklgdllllboipaa
end

/- The program's labels (layer 10): Get, Compare. -/
section
set_option maxRecDepth 100000
namespace Go.Proofs.Ytklgdllllboipaa
open Go.RowKit Go.Sort
namespace Lb
open Bit Dsk Ob Dig
set_option linter.unusedVariables false

set_option maxHeartbeats 1600000 in
theorem get_any (w : World) (S : Nat → Prop) (v : Value) (l : List Pr) (hv : View w S v l) (n : ByteArray) :
    Calls Try.prog 44 #[v, .string n] w fun e w' => e = .returned (.string (get l n)) ∧ New0 w w' := by
  obtain ⟨A, c, rfl, hc1, hc2⟩ := Rw.View.shape hv
  have hl := Nat.le_trans hc1 hc2
  unfold maxLen at hl
  clear hc1 hc2
  replace hv := Lib.hid hv
  go_enter Try.func44, Try.ntmps44
  go_wp2_with fail
  go_loopw [9] (fun ov wr => ∃ j : Nat, ov = .int .i64 (j : Int) ∧ j ≤ l.length ∧ Hid (get (l.drop j) n = get l n) ∧ Hid (New0 w wr)) (fun ov _ => l.length - (intOf ov).toNat)
  case atStart => exact ⟨0, rfl, Nat.zero_le _, Lib.hid rfl, Lib.hid (Upon.refl _ _)⟩
  case round =>
    obtain ⟨j, rfl, hj, hg, hu⟩ := hrel
    by_cases hlt : j < l.length
    · obtain ⟨b, off, rfl, -, -, hcells⟩ := View.cells hv.out (by omega)
      obtain ⟨x0, x1⟩ := hcells j hlt
      have r0 := New0.cells hu.out x0
      have r1 := New0.cells hu.out x1
      clear hcells hv x0 x1
      have h1 := Lib.hid (fun h => (get_here (n := n) hlt h).symm.trans hg.out)
      have h2 := Lib.hid (fun h => (get_next (n := n) hlt h).symm.trans hg.out)
      clear hg
      obtain ⟨a1, ha1⟩ : ∃ a1, l[j].1 = a1 := ⟨_, rfl⟩
      obtain ⟨a2, ha2⟩ : ∃ a2, l[j].2 = a2 := ⟨_, rfl⟩
      rw [ha1] at r0 h1 h2
      rw [ha2] at r1 h1
      clear ha1 ha2
      by_cases e1 : a1 = n
      · have hR := Lib.hid (h1.out e1)
        have hd : (a1.toList == n.toList) = true := by rw [e1, beq_self_eq_true]
        clear h1 h2 e1
        go_wp2_with fail
        go_ret
        exact ⟨ret_s hR.out, hu.out.alloc _⟩
      · have hR := Lib.hid (h2.out e1)
        have hd : (a1.toList == n.toList) = false := by rw [toList_beq]; exact decide_eq_false e1
        clear h1 h2 e1
        go_wp2_with fail
        go_roundw
        case rel => exact ⟨j + 1, by go_num, hlt, hR, Lib.hid (hu.out.alloc _)⟩
        case measure => simp [intOf]; omega
    · have hR := Lib.hid ((get_end (n := n) hlt).symm.trans hg.out)
      clear hg hv
      go_wp2_with fail
      go_ret
      exact ⟨ret_s hR.out, hu.out⟩
theorem cmpP_eq (l m : List Pr) {j : Nat} (ha : j < l.length) (hb : j < m.length) (hn : l[j] ≠ m[j]) : cmp (l.drop j) (m.drop j) = cmpP l[j] m[j] := by
  rcases three l[j] m[j] with h | h | ⟨h1, h2, h3⟩
  · rw [cmp_less ha hb h, cmpP_lt h]
  · exact absurd h hn
  · rw [cmp_gr ha hb h1 h2, cmpP_gt h3]
theorem cmp_tail (l m : List Pr) {j : Nat} (h : j = min l.length m.length) : cmp (l.drop j) (m.drop j) = if (l.length : Int) < (m.length : Int) then -1 else if (m.length : Int) < (l.length : Int) then 1 else 0 := by
  by_cases ha : j < l.length
  · have hb : ¬ j < m.length := by omega
    rw [cmp_end2 ha hb, if_neg (by omega), if_pos (by omega)]
  · by_cases hb : j < m.length
    · rw [cmp_end1 ha hb, if_pos (by omega)]
    · rw [cmp_end0 ha hb, if_neg (by omega), if_neg (by omega)]
end Lb
end Go.Proofs.Ytklgdllllboipaa
end

/- The program's labels (layer 10): Check, Encode. -/
section
set_option maxRecDepth 100000
namespace Go.Proofs.Ytklgdllllboipaa
open Go.RowKit Go.Sort
namespace Lb
open Bit Dsk Ob Dig
set_option linter.unusedVariables false

theorem newcell0 {w w' : World} {x y : ByteArray} (h : New0 (w.alloc (.cells #[.string x, .string y] 28 (0, 0))) w') : w'.cell? ⟨w.heap.size, 0, none⟩ = some (.string x) := New0.cells h (by rw [Lib.cell_of_heap (cell_new w _)]; rfl)
theorem newcell1 {w w' : World} {x y : ByteArray} (h : New0 (w.alloc (.cells #[.string x, .string y] 28 (0, 0))) w') : w'.cell? ⟨w.heap.size, 1, none⟩ = some (.string y) := New0.cells h (by rw [Lib.cell_of_heap (cell_new w _)]; rfl)
theorem nameP (s : ByteArray) {b : Bool} (h : nm s = b) (w : World) : Calls Try.prog 78 #[.string s] w fun e w' => e = .returned (.bool b) ∧ New0 w w' := by
  subst h; exact isname_any s w
theorem valueP (s : ByteArray) {b : Bool} (h : vl s = b) (w : World) : Calls Try.prog 79 #[.string s] w fun e w' => e = .returned (.bool b) ∧ New0 w w' := by
  subst h; exact isvalue_any s w
set_option maxHeartbeats 3200000 in
theorem check_any (w : World) (S : Nat → Prop) (v : Value) (l : List Pr) (hv : View w S v l) (hsm : Sml l) :
    Calls Try.prog 54 #[v] w fun e w' => e = .returned (.int .i64 (chk l : Int)) ∧ New0 w w' := by
  obtain ⟨A, c, rfl, hc1, hc2⟩ := Rw.View.shape hv
  have hlen := Nat.le_trans hc1 hc2
  unfold maxLen at hlen
  clear hc1 hc2
  replace hv := Lib.hid hv
  clear hsm
  by_cases h1 : ¬ (1 ≤ l.length ∧ l.length ≤ 8)
  · have hR : Hid ((16 : Int) = (chk l : Int)) := Lib.hid (by rw [chk_few (by omega)]; rfl)
    have HK := Lib.hid (fun w => iscount_nat l.length w (b := false) (by simp; omega))
    clear h1 hv
    go_enter Try.func54, Try.ntmps54
    go_wp2_with fail
    refine (HK.out _).mono ?_
    rintro e w1 ⟨rfl, rfl⟩
    clear HK
    go_wp2_with fail
    go_ret
    exact ⟨ret_i hR.out, Upon.refl _ _⟩
  have HK := Lib.hid (fun w => iscount_nat l.length w (b := true) (by simp; omega))
  obtain ⟨b, off, rfl, -, -, hcells⟩ := View.cells hv.out (by omega)
  replace hcells := Lib.hid hcells
  have hl1 : 1 ≤ l.length := by omega
  have hl8 : l.length ≤ 8 := by omega
  clear hv h1
  go_enter Try.func54, Try.ntmps54
  go_wp2_with fail
  refine (HK.out _).mono ?_
  rintro e w1 ⟨rfl, rfl⟩
  clear HK
  go_wp2_with fail
  go_loopw [12] (fun ov wr => ∃ j : Nat, ov = .int .i64 (j : Int) ∧ j ≤ l.length ∧ Hid (Good (l.take j)) ∧ Hid (New0 w1 wr)) (fun ov _ => l.length - (intOf ov).toNat)
  case atStart => exact ⟨0, rfl, Nat.zero_le _, Lib.hid Good.nil, Lib.hid (Upon.refl _ _)⟩
  case round =>
    obtain ⟨j, rfl, hj, hg, hu⟩ := hrel
    by_cases hlt : j < l.length
    · obtain ⟨x0, x1⟩ := hcells.out j hlt
      have r0 := New0.cells hu.out x0
      have r1 := New0.cells hu.out x1
      have hst := Lib.hid (hg.out.step hlt)
      have hR1 := Lib.hid (chk_name (l := l) hlt)
      have hR2 := Lib.hid (chk_value (l := l) hlt)
      have hR3 := Lib.hid (fun i hi hij => chk_order (l := l) (i := i) hi hlt hij)
      obtain ⟨a1, ha1⟩ : ∃ a1, l[j].1 = a1 := ⟨_, rfl⟩
      obtain ⟨a2, ha2⟩ : ∃ a2, l[j].2 = a2 := ⟨_, rfl⟩
      rw [ha1] at r0 hst hR1
      rw [ha2] at r1 hst hR2
      replace hR3 : Hid (∀ i (hi : i < l.length), j = i + 1 → lt l[i].1 a1 = false → chk l = 16) := Lib.hid (fun i hi hij h => hR3.out i hi hij (by rw [ha1]; exact h))
      clear ha1 ha2 hg x0 x1
      cases hn : nm a1 with
      | false =>
        have HN := Lib.hid (nameP a1 hn)
        have hR : Hid ((16 : Int) = (chk l : Int)) := Lib.hid (by rw [hR1.out hn]; rfl)
        clear hst hR1 hR2 hR3 hn hcells
        go_wp2_with fail
        refine (HN.out _).mono ?_
        rintro e w2 ⟨rfl, hu2⟩
        have c0 := newcell0 hu2
        have c1 := newcell1 hu2
        have hu3 := Lib.hid ((hu.out.alloc _).trans hu2)
        clear HN hu hu2 r0 r1
        go_wp2_with fail
        go_ret
        exact ⟨ret_i hR.out, hu3.out⟩
      | true =>
        have HN := Lib.hid (nameP a1 hn)
        cases hvv : vl a2 with
        | false =>
          have HV := Lib.hid (valueP a2 hvv)
          have hR : Hid ((16 : Int) = (chk l : Int)) := Lib.hid (by rw [hR2.out hvv]; rfl)
          clear hst hR1 hR2 hR3 hn hvv hcells
          go_wp2_with fail
          refine (HN.out _).mono ?_
          rintro e w2 ⟨rfl, hu2⟩
          have c0 := newcell0 hu2
          have c1 := newcell1 hu2
          have hu3 := Lib.hid ((hu.out.alloc _).trans hu2)
          clear HN hu hu2 r0 r1
          go_wp2_with fail
          refine (HV.out _).mono ?_
          rintro e w3 ⟨rfl, hu4⟩
          have hu5 := Lib.hid (hu3.out.trans hu4)
          clear HV hu3 hu4 c0 c1
          go_wp2_with fail
          go_ret
          exact ⟨ret_i hR.out, hu5.out⟩
        | true =>
          have HV := Lib.hid (valueP a2 hvv)
          by_cases h0 : j = 0
          · have hG := Lib.hid (hst.out hn hvv (fun i _ e => by omega))
            have hj0 : decide (0 < j) = false := decide_eq_false (by omega)
            clear hst hR1 hR2 hR3 hn hvv h0
            go_wp2_with fail
            refine (HN.out _).mono ?_
            rintro e w2 ⟨rfl, hu2⟩
            have c0 := newcell0 hu2
            have c1 := newcell1 hu2
            have hu3 := Lib.hid ((hu.out.alloc _).trans hu2)
            clear HN hu hu2 r0 r1
            go_wp2_with fail
            refine (HV.out _).mono ?_
            rintro e w3 ⟨rfl, hu4⟩
            have hu5 := Lib.hid (hu3.out.trans hu4)
            have d0 := New0.cells hu4 c0
            clear HV hu3 hu4 c0 c1
            go_wp2_with fail
            go_quiet (fail)
            go_wp2_with fail
            go_roundw
            case rel => exact ⟨j + 1, by go_num, hlt, hG, Lib.hid (hu5.out.trans (upon_drewN _ w3 _))⟩
            case measure => simp [intOf]; omega
          · obtain ⟨i, hi⟩ : ∃ i, j = i + 1 := ⟨j - 1, by omega⟩
            have hil : i < l.length := by omega
            have y0 := New0.cells hu.out (hcells.out i hil).1
            have hidx : IntKind.i64.wrap ((j : Int) - 1) = (i : Int) := by rw [IntKind.wrap_i64]; omega
            have hj0 : decide (0 < j) = true := decide_eq_true (by omega)
            replace hR3 := Lib.hid (hR3.out i hil hi)
            replace hst := Lib.hid (hst.out hn hvv)
            obtain ⟨p1, hp1⟩ : ∃ p1, l[i].1 = p1 := ⟨_, rfl⟩
            rw [hp1] at y0 hR3
            cases ho : lt p1 a1 with
            | false =>
              have hR : Hid ((16 : Int) = (chk l : Int)) := Lib.hid (by rw [hR3.out ho]; rfl)
              have d3 : (Op.bytesLess a1.toList p1.toList || a1.toList == p1.toList) = true := at_least ho
              clear hst hR1 hR2 hR3 hn hvv hp1 ho hi hcells
              go_wp2_with fail
              refine (HN.out _).mono ?_
              rintro e w2 ⟨rfl, hu2⟩
              have c0 := newcell0 hu2
              have c1 := newcell1 hu2
              have z0 := New0.cells (((Upon.refl _ wr).alloc _).trans hu2) y0
              have hu3 := Lib.hid ((hu.out.alloc _).trans hu2)
              clear HN hu hu2 r0 r1 y0
              go_wp2_with fail
              refine (HV.out _).mono ?_
              rintro e w3 ⟨rfl, hu4⟩
              have hu5 := Lib.hid (hu3.out.trans hu4)
              have d0 := New0.cells hu4 c0
              have d1 := New0.cells hu4 z0
              clear HV hu3 hu4 c0 c1 z0
              go_wp2_with fail
              go_quiet (fail)
              go_wp2_with fail
              go_ret
              exact ⟨ret_i hR.out, hu5.out.trans (upon_drewN _ w3 _)⟩
            | true =>
              have hG := Lib.hid (hst.out (fun i' h' e => by
                obtain rfl : i' = i := by omega
                rw [hp1]; exact ho))
              have d3 : (Op.bytesLess a1.toList p1.toList || a1.toList == p1.toList) = false := at_least ho
              clear hst hR1 hR2 hR3 hn hvv hp1 ho hi
              go_wp2_with fail
              refine (HN.out _).mono ?_
              rintro e w2 ⟨rfl, hu2⟩
              have c0 := newcell0 hu2
              have c1 := newcell1 hu2
              have z0 := New0.cells (((Upon.refl _ wr).alloc _).trans hu2) y0
              have hu3 := Lib.hid ((hu.out.alloc _).trans hu2)
              clear HN hu hu2 r0 r1 y0
              go_wp2_with fail
              refine (HV.out _).mono ?_
              rintro e w3 ⟨rfl, hu4⟩
              have hu5 := Lib.hid (hu3.out.trans hu4)
              have d0 := New0.cells hu4 c0
              have d1 := New0.cells hu4 z0
              clear HV hu3 hu4 c0 c1 z0
              go_wp2_with fail
              go_quiet (fail)
              go_wp2_with fail
              go_roundw
              case rel => exact ⟨j + 1, by go_num, hlt, hG, Lib.hid (hu5.out.trans (upon_drewN _ w3 _))⟩
              case measure => simp [intOf]; omega
    · have hR : Hid ((0 : Int) = (chk l : Int)) := Lib.hid (by rw [chk_ok (Ok.of hl1 hl8 hlt hg.out)]; rfl)
      clear hg hcells
      go_wp2_with fail
      go_ret
      exact ⟨ret_i hR.out, hu.out⟩
end Lb
end Go.Proofs.Ytklgdllllboipaa
end

/- The program's labels (layer 10): Encode. -/
section
set_option maxRecDepth 100000
namespace Go.Proofs.Ytklgdllllboipaa
open Go.RowKit Go.Sort
namespace Lb
open Bit Dsk Ob Dig
set_option linter.unusedVariables false

theorem check_ok (w : World) (S : Nat → Prop) (v : Value) (l : List Pr) (hv : View w S v l) (hsm : Sml l) (hok : Ok l) :
    Calls Try.prog 54 #[v] w fun e w' => e = .returned (.int .i64 0) ∧ New0 w w' :=
  (check_any w S v l hv hsm).mono fun e w' ⟨h1, h2⟩ => ⟨by rw [h1, chk_ok hok]; rfl, h2⟩
theorem check_no (w : World) (S : Nat → Prop) (v : Value) (l : List Pr) (hv : View w S v l) (hsm : Sml l) (hok : ¬ Ok l) :
    Calls Try.prog 54 #[v] w fun e w' => e = .returned (.int .i64 16) ∧ New0 w w' :=
  (check_any w S v l hv hsm).mono fun e w' ⟨h1, h2⟩ => ⟨by rw [h1, chk_no hok]; rfl, h2⟩
theorem So.step' {l : List Pr} {j : Nat} {s : ByteArray} (h : So l j s) (hj : j < l.length) : So l (j + 1) (s ++ (textA l[j].1 ++ textA l[j].2)) := by
  have := h.step hj
  rwa [ByteArray.append_assoc] at this
end Lb
end Go.Proofs.Ytklgdllllboipaa
end

/- The program's labels (layer 10): getPair. -/
section
set_option maxRecDepth 100000
namespace Go.Proofs.Ytklgdllllboipaa
open Go.RowKit Go.Sort
namespace Lb
open Bit Dsk Ob Dig
set_option linter.unusedVariables false

/-- What getPair answers: of no pair, of one. -/
def pairE (r : List UInt8) : Nat := if (txt 32 r).2.2 ≠ 0 then (txt 32 r).2.2 else (txt 64 (txt 32 r).2.1).2.2
end Lb
end Go.Proofs.Ytklgdllllboipaa
end

/- The program's labels (layer 10): Decode. -/
section
set_option maxRecDepth 100000
namespace Go.Proofs.Ytklgdllllboipaa
open Go.RowKit Go.Sort
namespace Lb
open Bit Dsk Ob Dig
set_option linter.unusedVariables false

theorem txt_small {m : Int} {r r1 : List UInt8} {a : ByteArray} (h : txt m r = (a, r1, 0)) (hr : r.length ≤ 9223372036854775807) : a.size ≤ 9223372036854775807 := by
  have h1 : (txt m r).1 = a := by rw [h]
  have : a.size ≤ r.length := by
    rw [← h1]
    show ((r.drop (gotT r m).2.1).take (gotT r m).1).toArray.size ≤ _
    rw [List.size_toArray, List.length_take, List.length_drop]; omega
  omega
theorem txt_left {m : Int} {r r1 : List UInt8} {a : ByteArray} {x : Nat} (h : txt m r = (a, r1, x)) : r1.length ≤ r.length := by
  have h1 : (txt m r).2.1 = r1 := by rw [h]
  rw [← h1]
  show (r.drop _).length ≤ _
  rw [List.length_drop]; omega
/-- A row of pairs of the call's own. -/
def Own1 (w0 w : World) (u : Value) (l : List Pr) : Prop := Mine w u l ∧ (∀ g, u.ownBlock = some g → w0.heap.size ≤ g) ∧ New0 w0 w
theorem Own1.step {w0 w w' : World} {u : Value} {l : List Pr} (h : Own1 w0 w u l) (hu : New0 w w') : Own1 w0 w' u l := ⟨h.1.new hu, h.2.1, h.2.2.trans hu⟩
theorem Own1.app {w0 w w' : World} {u u' : Value} {l m : List Pr} (h : Own1 w0 w u l) (hown : Mine w' u' m) (hg : w.grownBy w' u.ownBlock) (hb : u'.ownBlock = u.ownBlock ∨ u'.ownBlock = some w.heap.size) : Own1 w0 w' u' m :=
  ⟨hown, fun g hk => by
    rw [hk] at hb
    rcases hb with hb | hb
    · exact h.2.1 g hb.symm
    · have : g = w.heap.size := by simpa using hb
      have := h.2.2.size
      omega, Rw.grown_new (v' := u') hg (fun g hk => h.2.1 g hk) w0 (Nat.le_refl _) h.2.2⟩
theorem view_two (w : World) (a b : ByteArray) : View ((w.alloc (.cells #[.string a, .string b] 28 (0, 0))).alloc (.cells #[.string a, .string b] 28 (0, 0))) All (.slice (some ⟨w.heap.size + 1, 0, none⟩) 1 1) [(a, b)] := by
  have h := view_one (cell_new (w.alloc (.cells #[.string a, .string b] 28 (0, 0))) (.cells #[.string a, .string b] 28 (0, 0)))
  have e : (w.alloc (.cells #[.string a, .string b] 28 (0, 0))).heap.size = w.heap.size + 1 := by simp
  rw [e] at h
  exact h
/-- What Decode's end is. -/
def DecE (w : World) (sl : List UInt8) (e : Ending) (w' : World) : Prop := ∃ v, e = .returned (.tuple #[v, .int .i64 ((dec sl).2 : Int)]) ∧ View w' (Nw w) v (dec sl).1 ∧ New0 w w'
theorem DecE.no {w w' : World} {sl : List UInt8} {x : Nat} {z : Int} (h : dec sl = ([], x)) (hz : z = x) (hu : New0 w w') : DecE w sl (.returned (.tuple #[.slice none 0 0, .int .i64 z])) w' := by
  subst hz
  unfold DecE
  rw [h]
  exact ⟨_, rfl, Rw.View.noth _ _ _, hu⟩
theorem DecE.yes {w w' : World} {sl : List UInt8} {l : List Pr} {v : Value} (h : dec sl = (l, 0)) (hu : Own1 w w' v l) : DecE w sl (.returned (.tuple #[v, .int .i64 0])) w' := by
  unfold DecE
  rw [h]
  exact ⟨v, rfl, hu.1.view.mono fun b _ hb => hu.2.1 b hb, hu.2.2⟩
end Lb
end Go.Proofs.Ytklgdllllboipaa
end

/- The program's labels (layer 10): contracts of all five functions. -/
section

end
