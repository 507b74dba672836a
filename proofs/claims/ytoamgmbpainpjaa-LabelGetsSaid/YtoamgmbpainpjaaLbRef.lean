/- The document's own labels (layer 10): Name, Value, Check, Get, Compare. -/
import Derived.Test.YtoamgmbpainpjaaLbRow
import Derived.BigQuiet
import Derived.WalkLawsBesides
set_option maxRecDepth 100000
namespace Go.Proofs.Ytoamgmbpainpjaa
open Go.RowKit Go.Sort
namespace Lb
open Bit Dsk Ob Dig
set_option linter.unusedVariables false

theorem quiet2 {P : Program} {f : FuncId} {args : Array Value} {w : World} {v : Value} (h : ∀ m, Calls P f args (w.drewN m) fun e w' => e = .returned v ∧ ∃ k, w' = (w.drewN m).drewN k) (n x : Nat) :
    Calls P f args (w.drewN (n + x)) fun e w' => e = .returned v ∧ ∃ k, w' = w.drewN (n + k) :=
  (h (n + x)).mono fun e w' ⟨h1, k, h2⟩ => ⟨h1, x + k, by rw [h2, World.drewN_drewN, Nat.add_assoc]⟩
theorem all_iff {f : UInt8 → Bool} {s : ByteArray} : s.data.toList.all f = true ↔ ∀ i (h : i < s.size), f s[i] = true := by
  rw [List.all_eq_true]
  constructor
  · intro h i hi
    exact h _ (List.mem_iff_getElem.2 ⟨i, by simpa using hi, rfl⟩)
  · intro h b hb
    obtain ⟨i, hi, rfl⟩ := List.mem_iff_getElem.1 hb
    exact h i (by simpa using hi)
theorem nm_no {s : ByteArray} {i : Nat} (hi : i < s.size) (h : nmB s[i] = false) : nm s = false := by
  cases hn : nm s with
  | false => rfl
  | true =>
    simp only [nm, Bool.and_eq_true] at hn
    rw [all_iff.1 hn.1.1 i hi] at h; cases h
theorem vl_no {s : ByteArray} {i : Nat} (hi : i < s.size) (h : vlB s[i] = false) : vl s = false := by
  cases hn : vl s with
  | false => rfl
  | true =>
    simp only [vl, Bool.and_eq_true] at hn
    rw [all_iff.1 hn.1.1 i hi] at h; cases h
theorem nm_end {s : ByteArray} {j : Nat} (h : ∀ i (h : i < s.size), i < j → nmB s[i] = true) (hj : ¬ j < s.size) : nm s = (decide (1 ≤ s.size) && decide (s.size ≤ 32)) := by
  have : s.data.toList.all nmB = true := all_iff.2 fun i hi => h i hi (by omega)
  unfold nm; rw [this]; simp
theorem vl_end {s : ByteArray} {j : Nat} (h : ∀ i (h : i < s.size), i < j → vlB s[i] = true) (hj : ¬ j < s.size) : vl s = (decide (1 ≤ s.size) && decide (s.size ≤ 64)) := by
  have : s.data.toList.all vlB = true := all_iff.2 fun i hi => h i hi (by omega)
  unfold vl; rw [this]; simp
theorem ret_b {a b : Bool} (h : a = b) : Ending.returned (.bool a) = .returned (.bool b) := by rw [h]
theorem ret_i {a b : Int} (h : a = b) : Ending.returned (.int .i64 a) = .returned (.int .i64 b) := by rw [h]

set_option maxHeartbeats 1600000 in
theorem refname_any (s : ByteArray) (hs : s.size ≤ 9223372036854775807) (w : World) :
    Calls Try.prog 22 #[.string s] w fun e w' => e = .returned (.bool (nm s)) ∧ ∃ n, w' = w.drewN n := by
  go_enter Try.func22, Try.ntmps22
  go_wp2_with fail
  go_loopw [3] (fun ov wr => ∃ j : Nat, ov = .int .i64 (j : Int) ∧ j ≤ s.size ∧ Hid (∀ i (h : i < s.size), i < j → nmB s[i] = true) ∧ wr = w) (fun ov _ => s.size - (intOf ov).toNat)
  case atStart => exact ⟨0, rfl, Nat.zero_le _, Lib.hid (fun i _ h => absurd h (Nat.not_lt_zero i)), rfl⟩
  case round =>
    obtain ⟨j, rfl, hj, hall, rfl⟩ := hrel
    by_cases hlt : j < s.size
    · have hnx : Hid (nmB s[j] = true → ∀ i (h : i < s.size), i < j + 1 → nmB s[i] = true) := Lib.hid fun h0 i h1 h2 => by
        by_cases e : i = j
        · subst e; exact h0
        · exact hall.out i h1 (by omega)
      have hbad := Lib.hid (nm_no (s := s) hlt)
      clear hall
      obtain ⟨x, hx⟩ : ∃ x : Nat, s[j].toNat = x := ⟨_, rfl⟩
      have hxi : (s[j].toNat : Int) = (x : Int) := by rw [hx]
      have hB : Hid (nmB s[j] = ((decide (97 ≤ x) && decide (x ≤ 122)) || decide (x = 95))) := Lib.hid (by rw [← hx]; rfl)
      clear hx
      by_cases c1 : x = 95
      · subst c1
        have hG := Lib.hid (hnx.out (by rw [hB.out]; rfl))
        have d1 : ((95 : Nat) : Int) < 97 := by decide
        have d2 : (((95 : Nat) : Int) != 95) = false := by decide
        clear hnx hbad hB
        go_wp2_with fail
        go_roundw
        case rel => exact ⟨j + 1, by go_num, hlt, hG, trivial⟩
        case measure => simp [intOf]; omega
      · have d2 : ((x : Int) != 95) = true := by rw [bne_iff_ne]; omega
        by_cases c2 : x < 97
        · have d1 : (x : Int) < 97 := by omega
          have hN := Lib.hid (hbad.out (by rw [hB.out]; simp; omega))
          clear hnx hbad hB
          go_wp2_with fail
          go_ret
          exact ⟨ret_b hN.out.symm, 0, rfl⟩
        · have d1 : ¬ (x : Int) < 97 := by omega
          by_cases c3 : 122 < x
          · have d3 : (122 : Int) < (x : Int) := by omega
            have hN := Lib.hid (hbad.out (by rw [hB.out]; simp; omega))
            clear hnx hbad hB
            go_wp2_with fail
            go_ret
            exact ⟨ret_b hN.out.symm, 0, rfl⟩
          · have d3 : ¬ (122 : Int) < (x : Int) := by omega
            have hG := Lib.hid (hnx.out (by rw [hB.out]; simp; omega))
            clear hnx hbad hB
            go_wp2_with fail
            go_roundw
            case rel => exact ⟨j + 1, by go_num, hlt, hG, trivial⟩
            case measure => simp [intOf]; omega
    · have he := Lib.hid (nm_end hall.out hlt)
      clear hall
      by_cases c1 : 1 ≤ s.size
      · have hN : Hid (decide ((s.size : Int) ≤ 32) = nm s) := Lib.hid (by rw [he.out, decide_eq_true c1, Bool.true_and]; exact decide_eq_decide.2 (by omega))
        go_wp2_with fail
        go_ret
        exact ⟨ret_b hN.out, 0, rfl⟩
      · have hN : Hid (nm s = false) := Lib.hid (by rw [he.out]; simp [c1])
        go_wp2_with fail
        go_ret
        exact ⟨ret_b hN.out.symm, 0, rfl⟩
set_option maxHeartbeats 1600000 in
theorem refvalue_any (s : ByteArray) (hs : s.size ≤ 9223372036854775807) (w : World) :
    Calls Try.prog 23 #[.string s] w fun e w' => e = .returned (.bool (vl s)) ∧ ∃ n, w' = w.drewN n := by
  go_enter Try.func23, Try.ntmps23
  go_wp2_with fail
  go_loopw [3] (fun ov wr => ∃ j : Nat, ov = .int .i64 (j : Int) ∧ j ≤ s.size ∧ Hid (∀ i (h : i < s.size), i < j → vlB s[i] = true) ∧ wr = w) (fun ov _ => s.size - (intOf ov).toNat)
  case atStart => exact ⟨0, rfl, Nat.zero_le _, Lib.hid (fun i _ h => absurd h (Nat.not_lt_zero i)), rfl⟩
  case round =>
    obtain ⟨j, rfl, hj, hall, rfl⟩ := hrel
    by_cases hlt : j < s.size
    · have hnx : Hid (vlB s[j] = true → ∀ i (h : i < s.size), i < j + 1 → vlB s[i] = true) := Lib.hid fun h0 i h1 h2 => by
        by_cases e : i = j
        · subst e; exact h0
        · exact hall.out i h1 (by omega)
      have hbad := Lib.hid (vl_no (s := s) hlt)
      clear hall
      obtain ⟨x, hx⟩ : ∃ x : Nat, s[j].toNat = x := ⟨_, rfl⟩
      have hxi : (s[j].toNat : Int) = (x : Int) := by rw [hx]
      have hB : Hid (vlB s[j] = (decide (32 ≤ x) && decide (x ≤ 126))) := Lib.hid (by rw [← hx]; rfl)
      clear hx
      by_cases c2 : x < 32
      · have d1 : (x : Int) < 32 := by omega
        have hN := Lib.hid (hbad.out (by rw [hB.out]; simp; omega))
        clear hnx hbad hB
        go_wp2_with fail
        go_ret
        exact ⟨ret_b hN.out.symm, 0, rfl⟩
      · have d1 : ¬ (x : Int) < 32 := by omega
        by_cases c3 : 126 < x
        · have d3 : (126 : Int) < (x : Int) := by omega
          have hN := Lib.hid (hbad.out (by rw [hB.out]; simp; omega))
          clear hnx hbad hB
          go_wp2_with fail
          go_ret
          exact ⟨ret_b hN.out.symm, 0, rfl⟩
        · have d3 : ¬ (126 : Int) < (x : Int) := by omega
          have hG := Lib.hid (hnx.out (by rw [hB.out]; simp; omega))
          clear hnx hbad hB
          go_wp2_with fail
          go_roundw
          case rel => exact ⟨j + 1, by go_num, hlt, hG, trivial⟩
          case measure => simp [intOf]; omega
    · have he := Lib.hid (vl_end hall.out hlt)
      clear hall
      by_cases c1 : 1 ≤ s.size
      · have hN : Hid (decide ((s.size : Int) ≤ 64) = vl s) := Lib.hid (by rw [he.out, decide_eq_true c1, Bool.true_and]; exact decide_eq_decide.2 (by omega))
        go_wp2_with fail
        go_ret
        exact ⟨ret_b hN.out, 0, rfl⟩
      · have hN : Hid (vl s = false) := Lib.hid (by rw [he.out]; simp [c1])
        go_wp2_with fail
        go_ret
        exact ⟨ret_b hN.out.symm, 0, rfl⟩

theorem ret_s {a b : ByteArray} (h : a = b) : Ending.returned (.string a) = .returned (.string b) := by rw [h]
theorem get_zero (l : List Pr) (n : ByteArray) : get (l.drop 0) n = get l n := rfl
set_option maxHeartbeats 1600000 in
theorem refget_any' (w : World) (S : Nat → Prop) (v : Value) (l : List Pr) (hv : View w S v l) (n : ByteArray) :
    Calls Try.prog 17 #[v, .string n] w fun e w' => e = .returned (.string (get l n)) ∧ ∃ k, w' = w.drewN k := by
  obtain ⟨A, c, rfl, hc1, hc2⟩ := Rw.View.shape hv
  have hl := Nat.le_trans hc1 hc2
  unfold maxLen at hl
  clear hc1 hc2
  replace hv := Lib.hid hv
  go_enter Try.func17, Try.ntmps17
  go_wp2_with fail
  go_loopw [5] (fun ov wr => ∃ j : Nat, ov = .int .i64 (j : Int) ∧ j ≤ l.length ∧ Hid (get (l.drop j) n = get l n) ∧ wr = w) (fun ov _ => l.length - (intOf ov).toNat)
  case atStart => exact ⟨0, rfl, Nat.zero_le _, Lib.hid rfl, rfl⟩
  case round =>
    obtain ⟨j, rfl, hj, hg, rfl⟩ := hrel
    by_cases hlt : j < l.length
    · obtain ⟨b, off, rfl, -, -, hcells⟩ := View.cells hv.out (by omega)
      obtain ⟨x0, x1⟩ := hcells j hlt
      clear hcells hv
      have h1 := Lib.hid (fun h => (get_here (n := n) hlt h).symm.trans hg.out)
      have h2 := Lib.hid (fun h => (get_next (n := n) hlt h).symm.trans hg.out)
      clear hg
      obtain ⟨a1, ha1⟩ : ∃ a1, l[j].1 = a1 := ⟨_, rfl⟩
      obtain ⟨a2, ha2⟩ : ∃ a2, l[j].2 = a2 := ⟨_, rfl⟩
      rw [ha1] at x0 h1 h2
      rw [ha2] at x1 h1
      clear ha1 ha2
      by_cases e1 : a1 = n
      · have hR := Lib.hid (h1.out e1)
        have hd : (a1.toList == n.toList) = true := by rw [e1, beq_self_eq_true]
        clear h1 h2 e1
        go_wp2_with fail
        go_ret
        exact ⟨ret_s hR.out, 0, rfl⟩
      · have hR := Lib.hid (h2.out e1)
        have hd : (a1.toList == n.toList) = false := by rw [toList_beq]; exact decide_eq_false e1
        clear h1 h2 e1
        go_wp2_with fail
        go_roundw
        case rel => exact ⟨j + 1, by go_num, hlt, hR, trivial⟩
        case measure => simp [intOf]; omega
    · have hR := Lib.hid ((get_end (n := n) hlt).symm.trans hg.out)
      clear hg hv
      go_wp2_with fail
      go_ret
      exact ⟨ret_s hR.out, 0, rfl⟩
end Lb
end Go.Proofs.Ytoamgmbpainpjaa
