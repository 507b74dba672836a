/- The program's labels (layer 10): Get, Compare. -/
import Derived.Test.YtoamgmbpainpjaaLbCmp
set_option maxRecDepth 100000
namespace Go.Proofs.Ytoamgmbpainpjaa
open Go.RowKit Go.Sort
namespace Lb
open Bit Dsk Ob Dig
set_option linter.unusedVariables false

set_option maxHeartbeats 1600000 in
theorem get_any (w : World) (S : Nat → Prop) (v : Value) (l : List Pr) (hv : View w S v l) (n : ByteArray) :
    Calls Try.prog 16 #[v, .string n] w fun e w' => e = .returned (.string (get l n)) ∧ New0 w w' := by
  obtain ⟨A, c, rfl, hc1, hc2⟩ := Rw.View.shape hv
  have hl := Nat.le_trans hc1 hc2
  unfold maxLen at hl
  clear hc1 hc2
  replace hv := Lib.hid hv
  go_enter Try.func16, Try.ntmps16
  go_wp2_with fail
  go_loopw [9] (fun ov wr => ∃ j : Nat, ov = .int .i64 (j : Int) ∧ j ≤ l.length ∧ Hid (get (l.drop j) n = get l n) ∧ Hid (New0 w wr)) (fun ov _ => l.length - (intOf ov).toNat)
  case atStart => exact ⟨0, rfl, Nat.zero_le _, Lib.hid rfl, Lib.hid (Upon.refl _ _)⟩
  case round =>
    obtain ⟨j, rfl, hj, hg, hu⟩ := hrel
    by_cases hlt : j < l.length
    · obtain ⟨b, off, rfl, -, -, hcells⟩ := View.cells hv.out (by omega)
      obtain ⟨x0, x1⟩ := hcells j hlt
      have r0 := New0.cells hu.out x0
      have r1 := New0.cells hu.out x1
      clear hcells hv x0 x1
      have h1 := Lib.hid (fun h => (get_here (n := n) hlt h).symm.trans hg.out)
      have h2 := Lib.hid (fun h => (get_next (n := n) hlt h).symm.trans hg.out)
      clear hg
      obtain ⟨a1, ha1⟩ : ∃ a1, l[j].1 = a1 := ⟨_, rfl⟩
      obtain ⟨a2, ha2⟩ : ∃ a2, l[j].2 = a2 := ⟨_, rfl⟩
      rw [ha1] at r0 h1 h2
      rw [ha2] at r1 h1
      clear ha1 ha2
      by_cases e1 : a1 = n
      · have hR := Lib.hid (h1.out e1)
        have hd : (a1.toList == n.toList) = true := by rw [e1, beq_self_eq_true]
        clear h1 h2 e1
        go_wp2_with fail
        go_ret
        exact ⟨ret_s hR.out, hu.out.alloc _⟩
      · have hR := Lib.hid (h2.out e1)
        have hd : (a1.toList == n.toList) = false := by rw [toList_beq]; exact decide_eq_false e1
        clear h1 h2 e1
        go_wp2_with fail
        go_roundw
        case rel => exact ⟨j + 1, by go_num, hlt, hR, Lib.hid (hu.out.alloc _)⟩
        case measure => simp [intOf]; omega
    · have hR := Lib.hid ((get_end (n := n) hlt).symm.trans hg.out)
      clear hg hv
      go_wp2_with fail
      go_ret
      exact ⟨ret_s hR.out, hu.out⟩
theorem cmpP_eq (l m : List Pr) {j : Nat} (ha : j < l.length) (hb : j < m.length) (hn : l[j] ≠ m[j]) : cmp (l.drop j) (m.drop j) = cmpP l[j] m[j] := by
  rcases three l[j] m[j] with h | h | ⟨h1, h2, h3⟩
  · rw [cmp_less ha hb h, cmpP_lt h]
  · exact absurd h hn
  · rw [cmp_gr ha hb h1 h2, cmpP_gt h3]
theorem cmp_tail (l m : List Pr) {j : Nat} (h : j = min l.length m.length) : cmp (l.drop j) (m.drop j) = if (l.length : Int) < (m.length : Int) then -1 else if (m.length : Int) < (l.length : Int) then 1 else 0 := by
  by_cases ha : j < l.length
  · have hb : ¬ j < m.length := by omega
    rw [cmp_end2 ha hb, if_neg (by omega), if_pos (by omega)]
  · by_cases hb : j < m.length
    · rw [cmp_end1 ha hb, if_pos (by omega)]
    · rw [cmp_end0 ha hb, if_neg (by omega), if_neg (by omega)]
theorem pairQ {w : World} {p q : Pr} {z : Int} (h : cmpP p q = z) (d : Nat) (os : Array Go.Obj) :
    Calls Try.prog 31 #[.agg #[.string p.1, .string p.2], .agg #[.string q.1, .string q.2]] (grow (redrawn w d) os) fun e w' => e = .returned (.int .i64 z) ∧ Below (grow (redrawn w d) os).heap.size (grow (redrawn w d) os) w' := by
  subst h
  exact (cmppairs_any p q _).mono fun e w' ⟨h1, h2⟩ => ⟨h1, belowOf h2⟩
set_option maxHeartbeats 3200000 in
theorem compare_any (w : World) (S S' : Nat → Prop) (v1 v2 : Value) (l m : List Pr) (h1 : View w S v1 l) (h2 : View w S' v2 m) :
    Calls Try.prog 14 #[v1, v2] w fun e w' => e = .returned (.int .i64 (cmp l m)) ∧ New0 w w' := by
  obtain ⟨A, c, rfl, hc1, hc2⟩ := Rw.View.shape h1
  obtain ⟨A', c', rfl, hc1', hc2'⟩ := Rw.View.shape h2
  have hl := Nat.le_trans hc1 hc2
  have hl' := Nat.le_trans hc1' hc2'
  unfold maxLen at hl hl'
  clear hc1 hc2 hc1' hc2'
  replace h1 := Lib.hid h1
  replace h2 := Lib.hid h2
  obtain ⟨R, hR⟩ : ∃ R : Int, (if (l.length : Int) < (m.length : Int) then -1 else if (m.length : Int) < (l.length : Int) then 1 else 0) = R := ⟨_, rfl⟩
  have HT := Lib.hid (fun w => by have := cmpint_any (l.length : Int) (m.length : Int) w; rw [hR] at this; exact this)
  have htail : Hid (∀ j : Nat, j = min l.length m.length → cmp (l.drop j) (m.drop j) = R) := Lib.hid (fun j h => by rw [cmp_tail l m h, hR])
  clear hR
  go_enter Try.func14, Try.ntmps14
  go_wp2_with fail
  all_goals
    go_loopw [11] (fun ov wr => ∃ j : Nat, ov = .int .i64 (j : Int) ∧ j ≤ l.length ∧ j ≤ m.length ∧ Hid (cmp (l.drop j) (m.drop j) = cmp l m) ∧ Hid (New0 w wr)) (fun ov _ => l.length - (intOf ov).toNat)
    case atStart => exact ⟨0, rfl, Nat.zero_le _, Nat.zero_le _, Lib.hid rfl, Lib.hid (Upon.refl _ _)⟩
    case round =>
      obtain ⟨j, rfl, hj, hj', hg, hu⟩ := hrel
      by_cases hmin : j < min l.length m.length
      · have hlt : j < l.length := by omega
        have hlt' : j < m.length := by omega
        obtain ⟨b, off, rfl, -, -, hcells⟩ := View.cells h1.out (by omega)
        obtain ⟨b', off', rfl, -, -, hcells'⟩ := View.cells h2.out (by omega)
        obtain ⟨x0, x1⟩ := hcells j hlt
        obtain ⟨y0, y1⟩ := hcells' j hlt'
        have r0 := New0.cells hu.out x0
        have r1 := New0.cells hu.out x1
        have s0 := New0.cells hu.out y0
        have s1 := New0.cells hu.out y1
        clear hcells hcells' h1 h2 hmin x0 x1 y0 y1 htail HT
        have q1 := Lib.hid (fun h => (cmp_step hlt hlt' h).symm.trans hg.out)
        have q2 := Lib.hid (fun h => (cmpP_eq l m hlt hlt' h).symm.trans hg.out)
        clear hg
        obtain ⟨p, hp⟩ : ∃ p, l[j] = p := ⟨_, rfl⟩
        obtain ⟨q, hq⟩ : ∃ q, m[j] = q := ⟨_, rfl⟩
        rw [hp] at r0 r1 q1 q2
        rw [hq] at s0 s1 q1 q2
        clear hp hq
        by_cases he : p = q
        · have hR := Lib.hid (q1.out he)
          subst he
          obtain ⟨a1, a2⟩ := p
          clear q1 q2
          go_wp2_with fail
          go_quiet (fail)
          go_wp2_with fail
          go_roundw
          case rel => exact ⟨j + 1, by go_num, hlt, hlt', hR, Lib.hid (hu.out.trans (upon_drewN _ wr _))⟩
          case measure => simp [intOf]; omega
        · have hR := Lib.hid (q2.out he)
          obtain ⟨a1, a2⟩ := p
          obtain ⟨b1, b2⟩ := q
          by_cases e1 : a1 = b1
          · subst e1
            have e2 : ¬ a2 = b2 := fun e2 => he (by rw [e2])
            have d4 : (a2.toList == b2.toList) = false := by rw [toList_beq]; exact decide_eq_false e2
            have d5 : decide (a2 = b2) = false := decide_eq_false e2
            clear q1 q2 he
            go_wp2_with fail
            go_quiet (fail)
            have t0 := New0.cells (upon_drewN _ wr nq) r0
            have t1 := New0.cells (upon_drewN _ wr nq) r1
            have t2 := New0.cells (upon_drewN _ wr nq) s0
            have t3 := New0.cells (upon_drewN _ wr nq) s1
            have hu2 := Lib.hid (hu.out.trans (upon_drewN _ wr nq))
            clear r0 r1 s0 s1 hu
            generalize wr.drewN nq = w5 at *
            have y0 := fun d os => cell_regrown t0 d os
            have y1 := fun d os => cell_regrown t1 d os
            have y2 := fun d os => cell_regrown t2 d os
            have y3 := fun d os => cell_regrown t3 d os
            have HP := Lib.hid (fun d os => pairQ (w := w5) hR.out d os)
            clear t0 t1 t2 t3
            go_wp2_with fail
            refine wp_region_quiet_below (by kernel_rfl) (by kernel_rfl) ?_
            repeat (go_big_quiet_step (first
              | exact Calls.regrown_of (HP.out _ _)))
            refine wpQuiet_nil ?_
            intro _ hw'
            obtain ⟨⟨dq, osq⟩, hw''⟩ := hw'
            subst hw''
            have hu6 := Lib.hid (hu2.out.trans (newOf (below_regrown w5 dq osq)))
            clear HP hu2 y0 y1 y2 y3 hR
            go_wp2_with fail
            go_ret
            exact ⟨rfl, hu6.out⟩
          · have d4 : (a1.toList == b1.toList) = false := by rw [toList_beq]; exact decide_eq_false e1
            have d5 : decide (a1 = b1) = false := decide_eq_false e1
            clear q1 q2 he
            go_wp2_with fail
            go_quiet (fail)
            have t0 := New0.cells (upon_drewN _ wr nq) r0
            have t1 := New0.cells (upon_drewN _ wr nq) r1
            have t2 := New0.cells (upon_drewN _ wr nq) s0
            have t3 := New0.cells (upon_drewN _ wr nq) s1
            have hu2 := Lib.hid (hu.out.trans (upon_drewN _ wr nq))
            clear r0 r1 s0 s1 hu
            generalize wr.drewN nq = w5 at *
            have y0 := fun d os => cell_regrown t0 d os
            have y1 := fun d os => cell_regrown t1 d os
            have y2 := fun d os => cell_regrown t2 d os
            have y3 := fun d os => cell_regrown t3 d os
            have HP := Lib.hid (fun d os => pairQ (w := w5) hR.out d os)
            clear t0 t1 t2 t3
            go_wp2_with fail
            refine wp_region_quiet_below (by kernel_rfl) (by kernel_rfl) ?_
            repeat (go_big_quiet_step (first
              | exact Calls.regrown_of (HP.out _ _)))
            refine wpQuiet_nil ?_
            intro _ hw'
            obtain ⟨⟨dq, osq⟩, hw''⟩ := hw'
            subst hw''
            have hu6 := Lib.hid (hu2.out.trans (newOf (below_regrown w5 dq osq)))
            clear HP hu2 y0 y1 y2 y3 hR
            go_wp2_with fail
            go_ret
            exact ⟨rfl, hu6.out⟩
      · have hfin := Lib.hid ((htail.out j (by omega)).symm.trans hg.out)
        first
          | (have hlt : ¬ j < m.length := by omega)
          | (have hlt : ¬ j < l.length := by omega)
        clear hg h1 h2 hmin htail
        go_wp2_with fail
        refine (HT.out _).mono ?_
        rintro e w2 ⟨rfl, rfl⟩
        clear HT
        go_wp2_with fail
        go_ret
        exact ⟨ret_i hfin.out, hu.out⟩
end Lb
end Go.Proofs.Ytoamgmbpainpjaa
