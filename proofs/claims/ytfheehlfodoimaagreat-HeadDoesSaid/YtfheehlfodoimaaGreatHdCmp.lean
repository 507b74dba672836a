/- label's Compare, with what it leaves written out; a series' compare (layer 13). -/
import Derived.Test.YtfheehlfodoimaaGreatPHd5
import Derived.Test.YtfheehlfodoimaaGreatPHeld
set_option maxRecDepth 100000
namespace Go.Proofs.YtfheehlfodoimaaGreat
open Go.RowKit Go.Sort
namespace Hd
open Bit Dsk Ob Dig Nm
set_option linter.unusedVariables false
set_option linter.unusedSimpArgs false
/-- Draws, and new blocks: nothing else. -/
def Grw (w w' : World) : Prop := ∃ q os, w' = grow (w.drewN q) os
theorem Grw.refl (w : World) : Grw w w := ⟨0, #[], by rw [grow_empty]; rfl⟩
theorem Grw.trans {a b c : World} (h : Grw a b) (k : Grw b c) : Grw a c := by
  obtain ⟨q, os, rfl⟩ := h
  obtain ⟨q', os', rfl⟩ := k
  exact ⟨q + q', os ++ os', by simp [grow, World.drewN, Nat.add_assoc, Array.append_assoc]⟩
theorem Grw.drew1 (w : World) (n : Nat) : Grw w (w.drewN n) := ⟨n, #[], by rw [grow_empty]⟩
theorem Grw.drewN {a b : World} (h : Grw a b) (n : Nat) : Grw a (b.drewN n) := h.trans (Grw.drew1 b n)
theorem Grw.alloc1 (w : World) (o : Go.Obj) : Grw w (w.alloc o) := ⟨0, #[o], alloc_eq_grow w o⟩
theorem Grw.alloc {a b : World} (h : Grw a b) (o : Go.Obj) : Grw a (b.alloc o) := h.trans (Grw.alloc1 b o)
theorem Grw.new {a b : World} (h : Grw a b) : New0 a b := by
  obtain ⟨q, os, rfl⟩ := h
  refine ⟨rfl, rfl, rfl, ?_, fun k hk _ => ?_⟩
  · simp [grow, World.drewN]
  · show (a.heap ++ os)[k]? = a.heap[k]?
    rw [Array.getElem?_append_left hk]
set_option maxHeartbeats 1600000 in
theorem pairG0 (p q : Lb.Pr) (w : World) :
    Calls Tryz.prog 93 #[.agg #[.string p.1, .string p.2], .agg #[.string q.1, .string q.2]] w fun e w' => e = .returned (.int .i64 (Lb.cmpP p q)) ∧ Grw w w' := by
  obtain ⟨a1, a2⟩ := p
  obtain ⟨b1, b2⟩ := q
  obtain ⟨R, hR⟩ : ∃ R, Lb.cmpP (a1, a2) (b1, b2) = R := ⟨_, rfl⟩
  rw [hR]
  by_cases h1 : a1 = b1
  · subst h1
    have hE : Hid (Lib.compareBytes a2.data.toList b2.data.toList = R) := Lib.hid (by rw [← hR]; exact (if_pos rfl).symm)
    have d1 : (a1.toList == a1.toList) = true := beq_self_eq_true _
    clear hR
    go_enter Tryz.func93, Tryz.ntmps93
    go_wp2_with (go_at_call 105; refine (Lb.strcmp_any _ _ _).mono ?_; rintro e w' ⟨rfl, rfl⟩)
    go_ret
    exact ⟨Lb.ret_i hE.out, ((Grw.refl w).alloc _).alloc _⟩
  · have hE : Hid (Lib.compareBytes a1.data.toList b1.data.toList = R) := Lib.hid (by rw [← hR]; exact (if_neg h1).symm)
    have d1 : (a1.toList == b1.toList) = false := by rw [Lb.toList_beq]; exact decide_eq_false h1
    clear hR
    go_enter Tryz.func93, Tryz.ntmps93
    go_wp2_with (go_at_call 105; refine (Lb.strcmp_any _ _ _).mono ?_; rintro e w' ⟨rfl, rfl⟩)
    go_ret
    exact ⟨Lb.ret_i hE.out, ((Grw.refl w).alloc _).alloc _⟩
theorem pairG (w : World) {p q : Lb.Pr} {z : Int} (h : Lb.cmpP p q = z) :
    Calls Tryz.prog 93 #[.agg #[.string p.1, .string p.2], .agg #[.string q.1, .string q.2]] w fun e w' => e = .returned (.int .i64 z) ∧ Grw w w' := by
  subst h; exact pairG0 p q w
set_option maxHeartbeats 1600000 in
theorem compareG_any (w : World) (S S' : Nat → Prop) (v1 v2 : Value) (l m : List Lb.Pr) (h1 : Lb.View w S v1 l) (h2 : Lb.View w S' v2 m) :
    Calls Tryz.prog 88 #[v1, v2] w fun e w' => e = .returned (.int .i64 (Lb.cmp l m)) ∧ Grw w w' := by
  obtain ⟨A, c, rfl, hc1, hc2⟩ := Rw.View.shape h1
  obtain ⟨A', c', rfl, hc1', hc2'⟩ := Rw.View.shape h2
  have hl := Nat.le_trans hc1 hc2
  have hl' := Nat.le_trans hc1' hc2'
  unfold maxLen at hl hl'
  clear hc1 hc2 hc1' hc2'
  replace h1 := Lib.hid h1
  replace h2 := Lib.hid h2
  obtain ⟨R, hR⟩ : ∃ R : Int, (if (l.length : Int) < (m.length : Int) then -1 else if (m.length : Int) < (l.length : Int) then 1 else 0) = R := ⟨_, rfl⟩
  have HT := Lib.hid (fun w => by have := Lb.cmpint_any (l.length : Int) (m.length : Int) w; rw [hR] at this; exact this)
  have htail : Hid (∀ j : Nat, j = min l.length m.length → Lb.cmp (l.drop j) (m.drop j) = R) := Lib.hid (fun j h => by rw [Lb.cmp_tail l m h, hR])
  clear hR
  go_enter Tryz.func88, Tryz.ntmps88
  go_wp2_with fail
  all_goals
    go_loopw [11] (fun ov wr => ∃ j : Nat, ov = .int .i64 (j : Int) ∧ j ≤ l.length ∧ j ≤ m.length ∧ Hid (Lb.cmp (l.drop j) (m.drop j) = Lb.cmp l m) ∧ Hid (Grw w wr)) (fun ov _ => l.length - (intOf ov).toNat)
    case atStart => exact ⟨0, rfl, Nat.zero_le _, Nat.zero_le _, Lib.hid rfl, Lib.hid (Grw.refl _)⟩
    case round =>
      obtain ⟨j, rfl, hj, hj', hg, hu⟩ := hrel
      by_cases hmin : j < min l.length m.length
      · have hlt : j < l.length := by omega
        have hlt' : j < m.length := by omega
        obtain ⟨b, off, rfl, -, -, hcells⟩ := Lb.View.cells h1.out (by omega)
        obtain ⟨b', off', rfl, -, -, hcells'⟩ := Lb.View.cells h2.out (by omega)
        obtain ⟨x0, x1⟩ := hcells j hlt
        obtain ⟨y0, y1⟩ := hcells' j hlt'
        have r0 := Lb.New0.cells hu.out.new x0
        have r1 := Lb.New0.cells hu.out.new x1
        have s0 := Lb.New0.cells hu.out.new y0
        have s1 := Lb.New0.cells hu.out.new y1
        clear hcells hcells' h1 h2 hmin x0 x1 y0 y1 htail HT
        have q1 := Lib.hid (fun h => (Lb.cmp_step hlt hlt' h).symm.trans hg.out)
        have q2 := Lib.hid (fun h => (Lb.cmpP_eq l m hlt hlt' h).symm.trans hg.out)
        clear hg
        obtain ⟨p, hp⟩ : ∃ p, l[j] = p := ⟨_, rfl⟩
        obtain ⟨q, hq⟩ : ∃ q, m[j] = q := ⟨_, rfl⟩
        rw [hp] at r0 r1 q1 q2
        rw [hq] at s0 s1 q1 q2
        clear hp hq
        by_cases he : p = q
        · have hR := Lib.hid (q1.out he)
          subst he
          obtain ⟨a1, a2⟩ := p
          clear q1 q2
          go_wp2_with fail
          go_quiet (fail)
          go_wp2_with fail
          go_roundw
          case rel => exact ⟨j + 1, by go_num, hlt, hlt', hR, Lib.hid (hu.out.drewN _)⟩
          case measure => simp [intOf]; omega
        · have hR := Lib.hid (q2.out he)
          obtain ⟨a1, a2⟩ := p
          obtain ⟨b1, b2⟩ := q
          by_cases e1 : a1 = b1
          · subst e1
            have e2 : ¬ a2 = b2 := fun e2 => he (by rw [e2])
            have d4 : (a2.toList == b2.toList) = false := by rw [Lb.toList_beq]; exact decide_eq_false e2
            have d5 : decide (a2 = b2) = false := decide_eq_false e2
            clear q1 q2 he
            go_wp2_with fail
            go_quiet (fail)
            have t0 := Lb.New0.cells (upon_drewN _ wr nq) r0
            have t1 := Lb.New0.cells (upon_drewN _ wr nq) r1
            have t2 := Lb.New0.cells (upon_drewN _ wr nq) s0
            have t3 := Lb.New0.cells (upon_drewN _ wr nq) s1
            have hu2 := Lib.hid (hu.out.drewN nq)
            clear r0 r1 s0 s1 hu
            generalize wr.drewN nq = w5 at *
            have HSS := Lib.hid (fun w' (hu : New0 w5 w') => And.intro (Lb.New0.cells hu t0) (And.intro (Lb.New0.cells hu t1) (And.intro (Lb.New0.cells hu t2) (Lb.New0.cells hu t3))))
            have HP : Hid (∀ W, Calls Tryz.prog 93 #[.agg #[.string a1, .string a2], .agg #[.string a1, .string b2]] W fun e w' => e = .returned (.int .i64 (Lb.cmp l m)) ∧ Grw W w') := Lib.hid (fun W => pairG W (p := (a1, a2)) (q := (a1, b2)) hR.out)
            go_wp2_with fail
            clear t0 t1 t2 t3
            refine HeldS.wp_region_S 9 (S := fun w' => w'.cell? ⟨b, off + j * 2, none⟩ = some (.string a1) ∧ w'.cell? ⟨b, off + j * 2 + 1, none⟩ = some (.string a2) ∧ w'.cell? ⟨b', off' + j * 2, none⟩ = some (.string a1) ∧ w'.cell? ⟨b', off' + j * 2 + 1, none⟩ = some (.string b2)) (by kernel_rfl) (HSS.out _ ((Upon.refl _ w5).drew)) (fun hHeld => ?_)
            refine HeldS.wpAnyS_take (i := 0) [8, 3, 2] (oi := _) (v := ?_) rfl (by kernel_rfl) (by kernel_rfl) (by kernel_rfl) (by kernel_rfl) (by kernel_rfl) (fun _ _ _ h => h) (Or.inl ⟨by rfl, ?_⟩) (by assumption) ?_
            rotate_left
            · (intro w hSw; (try dsimp only at hSw); go_simp; (try with_reducible rfl))
            (try simp only [Act.put, List.setIfInBounds_toArray, List.set_cons_zero, List.set_cons_succ])
            refine HeldS.wpAnyS_take (i := 1) [8, 3, 2] (oi := _) (v := ?_) rfl (by kernel_rfl) (by kernel_rfl) (by kernel_rfl) (by kernel_rfl) (by kernel_rfl) (fun _ _ _ h => h) (Or.inl ⟨by rfl, ?_⟩) (by assumption) ?_
            rotate_left
            · (intro w hSw; (try dsimp only at hSw); go_simp; (try with_reducible rfl))
            (try simp only [Act.put, List.setIfInBounds_toArray, List.set_cons_zero, List.set_cons_succ])
            refine HeldS.wpAnyS_take (i := 2) [8, 3] (oi := _) (v := ?_) rfl (by kernel_rfl) (by kernel_rfl) (by kernel_rfl) (by kernel_rfl) (by kernel_rfl) (fun _ _ _ h => h) (Or.inl ⟨by rfl, ?_⟩) (by assumption) ?_
            rotate_left
            · (intro w hSw; (try dsimp only at hSw); go_simp; (try with_reducible rfl))
            (try simp only [Act.put, List.setIfInBounds_toArray, List.set_cons_zero, List.set_cons_succ])
            refine HeldS.wpAnyS_take (i := 3) [8] (oi := _) (v := ?_) rfl (by kernel_rfl) (by kernel_rfl) (by kernel_rfl) (by kernel_rfl) (by kernel_rfl) (fun _ _ _ h => h) (Or.inl ⟨by rfl, ?_⟩) (by assumption) ?_
            rotate_left
            · (intro w hSw; (try dsimp only at hSw); go_simp; (try with_reducible rfl))
            (try simp only [Act.put, List.setIfInBounds_toArray, List.set_cons_zero, List.set_cons_succ])
            refine HeldS.wpAnyS_take (i := 4) [8, 7, 6] (oi := _) (v := ?_) rfl (by kernel_rfl) (by kernel_rfl) (by kernel_rfl) (by kernel_rfl) (by kernel_rfl) (fun _ _ _ h => h) (Or.inl ⟨by rfl, ?_⟩) (by assumption) ?_
            rotate_left
            · (intro w hSw; (try dsimp only at hSw); go_simp; (try with_reducible rfl))
            (try simp only [Act.put, List.setIfInBounds_toArray, List.set_cons_zero, List.set_cons_succ])
            refine HeldS.wpAnyS_take (i := 5) [8, 7, 6] (oi := _) (v := ?_) rfl (by kernel_rfl) (by kernel_rfl) (by kernel_rfl) (by kernel_rfl) (by kernel_rfl) (fun _ _ _ h => h) (Or.inl ⟨by rfl, ?_⟩) (by assumption) ?_
            rotate_left
            · (intro w hSw; (try dsimp only at hSw); go_simp; (try with_reducible rfl))
            (try simp only [Act.put, List.setIfInBounds_toArray, List.set_cons_zero, List.set_cons_succ])
            refine HeldS.wpAnyS_take (i := 6) [8, 7] (oi := _) (v := ?_) rfl (by kernel_rfl) (by kernel_rfl) (by kernel_rfl) (by kernel_rfl) (by kernel_rfl) (fun _ _ _ h => h) (Or.inl ⟨by rfl, ?_⟩) (by assumption) ?_
            rotate_left
            · (intro w hSw; (try dsimp only at hSw); go_simp; (try with_reducible rfl))
            (try simp only [Act.put, List.setIfInBounds_toArray, List.set_cons_zero, List.set_cons_succ])
            refine HeldS.wpAnyS_take (i := 7) [8] (oi := _) (v := ?_) rfl (by kernel_rfl) (by kernel_rfl) (by kernel_rfl) (by kernel_rfl) (by kernel_rfl) (fun _ _ _ h => h) (Or.inl ⟨by rfl, ?_⟩) (by assumption) ?_
            rotate_left
            · (intro w hSw; (try dsimp only at hSw); go_simp; (try with_reducible rfl))
            (try simp only [Act.put, List.setIfInBounds_toArray, List.set_cons_zero, List.set_cons_succ])
            refine HeldS.wpAnyS_ready (rs := [8]) (by kernel_rfl) (by simp) ?_
            refine HeldS.AllS.cons (o := ⟨some 31, _, _, _, _, _⟩) rfl (fun K hK => ?_) HeldS.AllS.nil
            go_simp
            go_at_call 93
            refine (HP.out _).mono ?_
            rintro e w6 ⟨rfl, hg6⟩
            go_simp
            refine hK.out _ _ (HSS.out _ (((Upon.refl _ w5).drew).trans hg6.new)) (fun hHeld => ?_)
            clear hK K
            (try simp only [Act.put, List.setIfInBounds_toArray, List.set_cons_zero, List.set_cons_succ])
            refine HeldS.wpAnyS_ready (rs := [9]) (by kernel_rfl) (by simp) ?_
            refine HeldS.AllS.last (s := 9) (o := ⟨some 4, _, _, _, _, _⟩) rfl (fun K hK => ?_) HeldS.AllS.nil
            go_simp
            refine hK.out _ _ ?_
            clear hK K
            (try simp only [Act.put, List.setIfInBounds_toArray, List.set_cons_zero, List.set_cons_succ])
            refine HeldS.wpAnyS_done (by kernel_rfl) ?_ _
            have hu6 := Lib.hid ((hu2.out.drewN 1).trans hg6)
            clear HP hu2 HSS hR hg6
            go_wp2_with fail
            go_ret
            exact ⟨rfl, hu6.out⟩
          · have d4 : (a1.toList == b1.toList) = false := by rw [Lb.toList_beq]; exact decide_eq_false e1
            have d5 : decide (a1 = b1) = false := decide_eq_false e1
            clear q1 q2 he
            go_wp2_with fail
            go_quiet (fail)
            have t0 := Lb.New0.cells (upon_drewN _ wr nq) r0
            have t1 := Lb.New0.cells (upon_drewN _ wr nq) r1
            have t2 := Lb.New0.cells (upon_drewN _ wr nq) s0
            have t3 := Lb.New0.cells (upon_drewN _ wr nq) s1
            have hu2 := Lib.hid (hu.out.drewN nq)
            clear r0 r1 s0 s1 hu
            generalize wr.drewN nq = w5 at *
            have HSS := Lib.hid (fun w' (hu : New0 w5 w') => And.intro (Lb.New0.cells hu t0) (And.intro (Lb.New0.cells hu t1) (And.intro (Lb.New0.cells hu t2) (Lb.New0.cells hu t3))))
            have HP : Hid (∀ W, Calls Tryz.prog 93 #[.agg #[.string a1, .string a2], .agg #[.string b1, .string b2]] W fun e w' => e = .returned (.int .i64 (Lb.cmp l m)) ∧ Grw W w') := Lib.hid (fun W => pairG W (p := (a1, a2)) (q := (b1, b2)) hR.out)
            go_wp2_with fail
            clear t0 t1 t2 t3
            refine HeldS.wp_region_S 9 (S := fun w' => w'.cell? ⟨b, off + j * 2, none⟩ = some (.string a1) ∧ w'.cell? ⟨b, off + j * 2 + 1, none⟩ = some (.string a2) ∧ w'.cell? ⟨b', off' + j * 2, none⟩ = some (.string b1) ∧ w'.cell? ⟨b', off' + j * 2 + 1, none⟩ = some (.string b2)) (by kernel_rfl) (HSS.out _ ((Upon.refl _ w5).drew)) (fun hHeld => ?_)
            refine HeldS.wpAnyS_take (i := 0) [8, 3, 2] (oi := _) (v := ?_) rfl (by kernel_rfl) (by kernel_rfl) (by kernel_rfl) (by kernel_rfl) (by kernel_rfl) (fun _ _ _ h => h) (Or.inl ⟨by rfl, ?_⟩) (by assumption) ?_
            rotate_left
            · (intro w hSw; (try dsimp only at hSw); go_simp; (try with_reducible rfl))
            (try simp only [Act.put, List.setIfInBounds_toArray, List.set_cons_zero, List.set_cons_succ])
            refine HeldS.wpAnyS_take (i := 1) [8, 3, 2] (oi := _) (v := ?_) rfl (by kernel_rfl) (by kernel_rfl) (by kernel_rfl) (by kernel_rfl) (by kernel_rfl) (fun _ _ _ h => h) (Or.inl ⟨by rfl, ?_⟩) (by assumption) ?_
            rotate_left
            · (intro w hSw; (try dsimp only at hSw); go_simp; (try with_reducible rfl))
            (try simp only [Act.put, List.setIfInBounds_toArray, List.set_cons_zero, List.set_cons_succ])
            refine HeldS.wpAnyS_take (i := 2) [8, 3] (oi := _) (v := ?_) rfl (by kernel_rfl) (by kernel_rfl) (by kernel_rfl) (by kernel_rfl) (by kernel_rfl) (fun _ _ _ h => h) (Or.inl ⟨by rfl, ?_⟩) (by assumption) ?_
            rotate_left
            · (intro w hSw; (try dsimp only at hSw); go_simp; (try with_reducible rfl))
            (try simp only [Act.put, List.setIfInBounds_toArray, List.set_cons_zero, List.set_cons_succ])
            refine HeldS.wpAnyS_take (i := 3) [8] (oi := _) (v := ?_) rfl (by kernel_rfl) (by kernel_rfl) (by kernel_rfl) (by kernel_rfl) (by kernel_rfl) (fun _ _ _ h => h) (Or.inl ⟨by rfl, ?_⟩) (by assumption) ?_
            rotate_left
            · (intro w hSw; (try dsimp only at hSw); go_simp; (try with_reducible rfl))
            (try simp only [Act.put, List.setIfInBounds_toArray, List.set_cons_zero, List.set_cons_succ])
            refine HeldS.wpAnyS_take (i := 4) [8, 7, 6] (oi := _) (v := ?_) rfl (by kernel_rfl) (by kernel_rfl) (by kernel_rfl) (by kernel_rfl) (by kernel_rfl) (fun _ _ _ h => h) (Or.inl ⟨by rfl, ?_⟩) (by assumption) ?_
            rotate_left
            · (intro w hSw; (try dsimp only at hSw); go_simp; (try with_reducible rfl))
            (try simp only [Act.put, List.setIfInBounds_toArray, List.set_cons_zero, List.set_cons_succ])
            refine HeldS.wpAnyS_take (i := 5) [8, 7, 6] (oi := _) (v := ?_) rfl (by kernel_rfl) (by kernel_rfl) (by kernel_rfl) (by kernel_rfl) (by kernel_rfl) (fun _ _ _ h => h) (Or.inl ⟨by rfl, ?_⟩) (by assumption) ?_
            rotate_left
            · (intro w hSw; (try dsimp only at hSw); go_simp; (try with_reducible rfl))
            (try simp only [Act.put, List.setIfInBounds_toArray, List.set_cons_zero, List.set_cons_succ])
            refine HeldS.wpAnyS_take (i := 6) [8, 7] (oi := _) (v := ?_) rfl (by kernel_rfl) (by kernel_rfl) (by kernel_rfl) (by kernel_rfl) (by kernel_rfl) (fun _ _ _ h => h) (Or.inl ⟨by rfl, ?_⟩) (by assumption) ?_
            rotate_left
            · (intro w hSw; (try dsimp only at hSw); go_simp; (try with_reducible rfl))
            (try simp only [Act.put, List.setIfInBounds_toArray, List.set_cons_zero, List.set_cons_succ])
            refine HeldS.wpAnyS_take (i := 7) [8] (oi := _) (v := ?_) rfl (by kernel_rfl) (by kernel_rfl) (by kernel_rfl) (by kernel_rfl) (by kernel_rfl) (fun _ _ _ h => h) (Or.inl ⟨by rfl, ?_⟩) (by assumption) ?_
            rotate_left
            · (intro w hSw; (try dsimp only at hSw); go_simp; (try with_reducible rfl))
            (try simp only [Act.put, List.setIfInBounds_toArray, List.set_cons_zero, List.set_cons_succ])
            refine HeldS.wpAnyS_ready (rs := [8]) (by kernel_rfl) (by simp) ?_
            refine HeldS.AllS.cons (o := ⟨some 31, _, _, _, _, _⟩) rfl (fun K hK => ?_) HeldS.AllS.nil
            go_simp
            go_at_call 93
            refine (HP.out _).mono ?_
            rintro e w6 ⟨rfl, hg6⟩
            go_simp
            refine hK.out _ _ (HSS.out _ (((Upon.refl _ w5).drew).trans hg6.new)) (fun hHeld => ?_)
            clear hK K
            (try simp only [Act.put, List.setIfInBounds_toArray, List.set_cons_zero, List.set_cons_succ])
            refine HeldS.wpAnyS_ready (rs := [9]) (by kernel_rfl) (by simp) ?_
            refine HeldS.AllS.last (s := 9) (o := ⟨some 4, _, _, _, _, _⟩) rfl (fun K hK => ?_) HeldS.AllS.nil
            go_simp
            refine hK.out _ _ ?_
            clear hK K
            (try simp only [Act.put, List.setIfInBounds_toArray, List.set_cons_zero, List.set_cons_succ])
            refine HeldS.wpAnyS_done (by kernel_rfl) ?_ _
            have hu6 := Lib.hid ((hu2.out.drewN 1).trans hg6)
            clear HP hu2 HSS hR hg6
            go_wp2_with fail
            go_ret
            exact ⟨rfl, hu6.out⟩
      · have hfin := Lib.hid ((htail.out j (by omega)).symm.trans hg.out)
        first
          | (have hlt : ¬ j < m.length := by omega)
          | (have hlt : ¬ j < l.length := by omega)
        clear hg h1 h2 hmin htail
        go_wp2_with fail
        refine (HT.out _).mono ?_
        rintro e w2 ⟨rfl, rfl⟩
        clear HT
        go_wp2_with fail
        go_ret
        exact ⟨Lb.ret_i hfin.out, hu.out⟩
set_option maxHeartbeats 3200000 in
theorem scompare_any (w : World) (R : Nat → Prop) (s1 s2 : Nat) (a1 a2 : Option Addr) (c1 c2 : Nat) (l m : List Lb.Pr) (h1 : w.cell? ⟨s1, 0, none⟩ = some (.slice a1 l.length c1)) (h2 : w.cell? ⟨s2, 0, none⟩ = some (.slice a2 m.length c2))
    (hv1 : Lb.View w R (.slice a1 l.length c1) l) (hv2 : Lb.View w R (.slice a2 m.length c2) m) :
    Calls Tryz.prog 69 #[.pointer (some ⟨s1, 0, none⟩), .pointer (some ⟨s2, 0, none⟩)] w fun e w' => e = .returned (.int .i64 (Lb.cmp l m)) ∧ Grw w w' := by
  have HS := Lib.hid (fun w' (hu : New0 w w') => And.intro (Lb.New0.cells hu h1) (Lb.New0.cells hu h2))
  have HC := Lib.hid (fun w' (hu : New0 w w') => compareG_any w' R R _ _ l m (Rw.View.new hv1 hu) (Rw.View.new hv2 hu))
  clear hv1 hv2
  go_enter Tryz.func69, Tryz.ntmps69
  go_wp2_with fail
  refine HeldS.wp_region_S 9 (S := fun w' => w'.cell? ⟨s1, 0, none⟩ = some (.slice a1 l.length c1) ∧ w'.cell? ⟨s2, 0, none⟩ = some (.slice a2 m.length c2)) (by kernel_rfl) (HS.out _ ((Upon.refl _ w).drew)) (fun hHeld => ?_)
  refine HeldS.wpAnyS_take (i := 0) [8, 3, 2, 1] (oi := _) (v := ?_) rfl (by kernel_rfl) (by kernel_rfl) (by kernel_rfl) (by kernel_rfl) (by kernel_rfl) (fun _ _ _ h => h) (Or.inl ⟨by rfl, ?_⟩) (by assumption) ?_
  rotate_left
  · (intro w hSw; (try dsimp only at hSw); go_simp; (try with_reducible rfl))
  (try simp only [Act.put, List.setIfInBounds_toArray, List.set_cons_zero, List.set_cons_succ])
  refine HeldS.wpAnyS_take (i := 1) [8, 3, 2] (oi := _) (v := ?_) rfl (by kernel_rfl) (by kernel_rfl) (by kernel_rfl) (by kernel_rfl) (by kernel_rfl) (fun _ _ _ h => h) (Or.inl ⟨by rfl, ?_⟩) (by assumption) ?_
  rotate_left
  · (intro w hSw; (try dsimp only at hSw); go_simp; (try with_reducible rfl))
  (try simp only [Act.put, List.setIfInBounds_toArray, List.set_cons_zero, List.set_cons_succ])
  refine HeldS.wpAnyS_take (i := 2) [8, 3] (oi := _) (v := ?_) rfl (by kernel_rfl) (by kernel_rfl) (by kernel_rfl) (by kernel_rfl) (by kernel_rfl) (fun _ _ _ h => h) (Or.inl ⟨by rfl, ?_⟩) (by assumption) ?_
  rotate_left
  · (intro w hSw; (try dsimp only at hSw); go_simp; (try with_reducible rfl))
  (try simp only [Act.put, List.setIfInBounds_toArray, List.set_cons_zero, List.set_cons_succ])
  refine HeldS.wpAnyS_take (i := 3) [8] (oi := _) (v := ?_) rfl (by kernel_rfl) (by kernel_rfl) (by kernel_rfl) (by kernel_rfl) (by kernel_rfl) (fun _ _ _ h => h) (Or.inl ⟨by rfl, ?_⟩) (by assumption) ?_
  rotate_left
  · (intro w hSw; (try dsimp only at hSw); go_simp; (try with_reducible rfl))
  (try simp only [Act.put, List.setIfInBounds_toArray, List.set_cons_zero, List.set_cons_succ])
  refine HeldS.wpAnyS_take (i := 4) [8, 7, 6, 5] (oi := _) (v := ?_) rfl (by kernel_rfl) (by kernel_rfl) (by kernel_rfl) (by kernel_rfl) (by kernel_rfl) (fun _ _ _ h => h) (Or.inl ⟨by rfl, ?_⟩) (by assumption) ?_
  rotate_left
  · (intro w hSw; (try dsimp only at hSw); go_simp; (try with_reducible rfl))
  (try simp only [Act.put, List.setIfInBounds_toArray, List.set_cons_zero, List.set_cons_succ])
  refine HeldS.wpAnyS_take (i := 5) [8, 7, 6] (oi := _) (v := ?_) rfl (by kernel_rfl) (by kernel_rfl) (by kernel_rfl) (by kernel_rfl) (by kernel_rfl) (fun _ _ _ h => h) (Or.inl ⟨by rfl, ?_⟩) (by assumption) ?_
  rotate_left
  · (intro w hSw; (try dsimp only at hSw); go_simp; (try with_reducible rfl))
  (try simp only [Act.put, List.setIfInBounds_toArray, List.set_cons_zero, List.set_cons_succ])
  refine HeldS.wpAnyS_take (i := 6) [8, 7] (oi := _) (v := ?_) rfl (by kernel_rfl) (by kernel_rfl) (by kernel_rfl) (by kernel_rfl) (by kernel_rfl) (fun _ _ _ h => h) (Or.inl ⟨by rfl, ?_⟩) (by assumption) ?_
  rotate_left
  · (intro w hSw; (try dsimp only at hSw); go_simp; (try with_reducible rfl))
  (try simp only [Act.put, List.setIfInBounds_toArray, List.set_cons_zero, List.set_cons_succ])
  refine HeldS.wpAnyS_take (i := 7) [8] (oi := _) (v := ?_) rfl (by kernel_rfl) (by kernel_rfl) (by kernel_rfl) (by kernel_rfl) (by kernel_rfl) (fun _ _ _ h => h) (Or.inl ⟨by rfl, ?_⟩) (by assumption) ?_
  rotate_left
  · (intro w hSw; (try dsimp only at hSw); go_simp; (try with_reducible rfl))
  (try simp only [Act.put, List.setIfInBounds_toArray, List.set_cons_zero, List.set_cons_succ])
  refine HeldS.wpAnyS_ready (rs := [8]) (by kernel_rfl) (by simp) ?_
  refine HeldS.AllS.cons (o := ⟨some 13, _, _, _, _, _⟩) rfl (fun K hK => ?_) HeldS.AllS.nil
  go_simp
  go_at_call 88
  refine (HC.out _ ((Upon.refl _ w).drew)).mono ?_
  rintro e w6 ⟨rfl, hg6⟩
  go_simp
  refine hK.out _ _ (HS.out _ (((Upon.refl _ w).drew).trans hg6.new)) (fun hHeld => ?_)
  clear hK K
  (try simp only [Act.put, List.setIfInBounds_toArray, List.set_cons_zero, List.set_cons_succ])
  refine HeldS.wpAnyS_ready (rs := [9]) (by kernel_rfl) (by simp) ?_
  refine HeldS.AllS.last (s := 9) (o := ⟨some 4, _, _, _, _, _⟩) rfl (fun K hK => ?_) HeldS.AllS.nil
  go_simp
  refine hK.out _ _ ?_
  clear hK K
  (try simp only [Act.put, List.setIfInBounds_toArray, List.set_cons_zero, List.set_cons_succ])
  refine HeldS.wpAnyS_done (by kernel_rfl) ?_ _
  have hu6 := Lib.hid ((Grw.drew1 w 1).trans hg6)
  clear HC HS hg6 h1 h2
  go_wp2_with fail
  go_ret
  exact ⟨rfl, hu6.out⟩
end Hd
end Go.Proofs.YtfheehlfodoimaaGreat
