/- The document's own matchers (layer 11): holds, Is, Same. -/
import Derived.Test.YtckphnemnbejmaaMtRef
set_option maxRecDepth 100000
namespace Go.Proofs.Ytckphnemnbejmaa
open Go.RowKit Go.Sort
namespace Mt
open Bit Dsk Ob Dig
set_option linter.unusedVariables false

theorem emp_is (g : ByteArray) : g.toList.isEmpty = decide (g.size = 0) := by
  by_cases h : g.size = 0
  · rw [decide_eq_true h, List.isEmpty_iff]; exact beq_iff_eq.1 (emp_yes h)
  · rw [decide_eq_false h, ← Bool.not_eq_true, List.isEmpty_iff]; exact beq_eq_false_iff_ne.1 (emp_no h)
theorem holds_1 {n v g : ByteArray} : holds ((1 : Int), n, v) g = decide (g = v) := by simp [holds]
theorem holds_2 {n v g : ByteArray} : holds ((2 : Int), n, v) g = !decide (g = v) := by simp [holds]
theorem holds_3 {n v g : ByteArray} : holds ((3 : Int), n, v) g = pre v g := by simp [holds]
theorem holds_4 {k : Int} {n v g : ByteArray} (h1 : k ≠ 1) (h2 : k ≠ 2) (h3 : k ≠ 3) : holds (k, n, v) g = !decide (g.size = 0) := by simp [holds, h1, h2, h3]
set_option maxHeartbeats 3200000 in
theorem refholds_any (w : World) (m : M) (hb : Bnd1 m) (S : Nat → Prop) (lv : Value) (a : List Lb.Pr) (hv : Lb.View w S lv a) :
    Calls Try.prog 27 #[mv m, lv] w fun e w' => e = .returned (.bool (holds m (Lb.get a m.2.1))) ∧ New0 w w' := by
  obtain ⟨k, n, v⟩ := m
  obtain ⟨-, -, hn, hvz⟩ := hb
  simp only at hn hvz
  unfold mv
  have hU := Lib.hid ((Upon.refl (fun _ => False) w).alloc (.cells #[.int .i64 k, .string n, .string v] 37 (0, 0)))
  have HG := Lib.hid (Lb.refget_any' _ S lv a (Rw.View.new hv hU.out) n)
  obtain ⟨A, c, rfl, -, -⟩ := Rw.View.shape hv
  simp only
  obtain ⟨g, hg⟩ : ∃ g, Lb.get a n = g := ⟨_, rfl⟩
  rw [hg] at HG ⊢
  clear hv hg
  by_cases h1 : k = 1
  · subst h1
    have hR : Hid ((g.toList == v.toList) = holds ((1 : Int), n, v) g) := Lib.hid (by rw [holds_1, Lb.toList_beq])
    go_enter Try.func27, Try.ntmps27
    go_wp2_with fail
    refine HG.out.mono ?_
    rintro e w2 ⟨rfl, n2, rfl⟩
    clear HG
    go_wp2_with fail
    go_ret
    exact ⟨Lb.ret_b hR.out, hU.out.trans (upon_drewN _ _ n2)⟩
  have e1 : (k == 1) = false := by rw [beq_eq_false_iff_ne]; exact h1
  by_cases h2 : k = 2
  · subst h2
    have hR : Hid ((!(g.toList == v.toList)) = holds ((2 : Int), n, v) g) := Lib.hid (by rw [holds_2, Lb.toList_beq])
    clear e1 h1
    go_enter Try.func27, Try.ntmps27
    go_wp2_with fail
    refine HG.out.mono ?_
    rintro e w2 ⟨rfl, n2, rfl⟩
    clear HG
    go_wp2_with fail
    go_ret
    exact ⟨Lb.ret_b hR.out, hU.out.trans (upon_drewN _ _ n2)⟩
  have e2 : (k == 2) = false := by rw [beq_eq_false_iff_ne]; exact h2
  by_cases h3 : k = 3
  · subst h3
    by_cases hs : v.size ≤ g.size
    · have hR : Hid (((g.extract 0 v.size).toList == v.toList) = holds ((3 : Int), n, v) g) := Lib.hid (by rw [holds_3, Lb.toList_beq, pre, decide_eq_true hs, Bool.true_and])
      have d1 : decide ((v.size : Int) ≤ (g.size : Int)) = true := decide_eq_true (by omega)
      have d1' : decide (v.size ≤ g.size) = true := decide_eq_true hs
      clear e1 h1 e2 h2
      go_enter Try.func27, Try.ntmps27
      go_wp2_with fail
      refine HG.out.mono ?_
      rintro e w2 ⟨rfl, n2, rfl⟩
      clear HG
      go_wp2_with fail
      go_quiet (fail)
      go_wp2_with fail
      go_ret
      exact ⟨Lb.ret_b hR.out, hU.out.trans (by first | exact upon_drewN _ _ _ | (rw [World.drewN_drewN]; exact upon_drewN _ _ _))⟩
    · have hR : Hid (false = holds ((3 : Int), n, v) g) := Lib.hid (by rw [holds_3, pre, decide_eq_false hs, Bool.false_and])
      have d1 : decide ((v.size : Int) ≤ (g.size : Int)) = false := decide_eq_false (by omega)
      have d1' : decide (v.size ≤ g.size) = false := decide_eq_false hs
      clear e1 h1 e2 h2 hs
      go_enter Try.func27, Try.ntmps27
      go_wp2_with fail
      refine HG.out.mono ?_
      rintro e w2 ⟨rfl, n2, rfl⟩
      clear HG
      go_wp2_with fail
      go_quiet (fail)
      go_wp2_with fail
      go_ret
      exact ⟨Lb.ret_b hR.out, hU.out.trans (by first | exact upon_drewN _ _ _ | (rw [World.drewN_drewN]; exact upon_drewN _ _ _))⟩
  have e3 : (k == 3) = false := by rw [beq_eq_false_iff_ne]; exact h3
  have hR : Hid ((!g.toList.isEmpty) = holds (k, n, v) g) := Lib.hid (by rw [holds_4 h1 h2 h3, emp_is])
  clear h1 h2 h3
  go_enter Try.func27, Try.ntmps27
  go_wp2_with fail
  refine HG.out.mono ?_
  rintro e w2 ⟨rfl, n2, rfl⟩
  clear HG
  go_wp2_with fail
  go_ret
  exact ⟨Lb.ret_b hR.out, hU.out.trans (upon_drewN _ _ n2)⟩
set_option maxHeartbeats 3200000 in
theorem refis_any (w : World) (S S' : Nat → Prop) (v lv : Value) (l : List M) (a : List Lb.Pr) (hv : View w S v l) (hb : Bnd l) (ha : Lb.View w S' lv a) :
    Calls Try.prog 14 #[v, lv] w fun e w' => e = .returned (.bool (is l a)) ∧ New0 w w' := by
  have HC := Lib.hid (refcheck_any w S v l hv hb)
  have HH := Lib.hid (fun (m : M) (hm : Bnd1 m) w' (hu : New0 w w') => refholds_any w' m hm S' lv a (Rw.View.new ha hu))
  obtain ⟨A, c, rfl, -, -⟩ := Rw.View.shape hv
  obtain ⟨A', c', rfl, -, -⟩ := Rw.View.shape ha
  replace hv := Lib.hid hv
  replace hb := Lib.hid hb
  clear ha
  by_cases h0 : chk l = 0
  · have hall : Hid (all l a = is l a) := Lib.hid (is_all h0).symm
    rw [h0] at HC
    obtain ⟨q, hq⟩ : ∃ q, is l a = q := ⟨_, rfl⟩
    rw [hq] at hall ⊢
    have hfew : l.length ≤ 8 := (chk_zero.1 h0).1
    clear hq h0
    go_enter Try.func14, Try.ntmps14
    go_wp2_with fail
    refine HC.out.mono ?_
    rintro e w2 ⟨rfl, hu2⟩
    replace hu2 := Lib.hid hu2
    clear HC
    go_wp2_with fail
    go_loopw [5, 6] (fun bv ov wr => ∃ (j : Nat) (x : Bool), bv = .bool x ∧ ov = .int .i64 (j : Int) ∧ j ≤ l.length ∧ Hid ((x = true ∧ all (l.drop j) a = q) ∨ (x = false ∧ q = false)) ∧ Hid (New0 w wr)) (fun _ ov _ => l.length - (intOf ov).toNat)
    case atStart => exact ⟨0, true, rfl, rfl, Nat.zero_le _, Lib.hid (.inl ⟨rfl, hall.out⟩), hu2⟩
    case round =>
      clear hall hu2
      obtain ⟨j, x, rfl, rfl, hj, hg, hu⟩ := hrel
      cases x with
      | false =>
        have hq : Hid (false = q) := Lib.hid (by rcases hg.out with ⟨h, -⟩ | ⟨-, h⟩
                                                 · cases h
                                                 · exact h.symm)
        clear hg hv hb HH
        by_cases hlt : j < l.length
        · go_wp2_with fail
          go_ret
          exact ⟨Lb.ret_b hq.out, hu.out⟩
        · go_wp2_with fail
          go_ret
          exact ⟨Lb.ret_b hq.out, hu.out⟩
      | true =>
        replace hg : Hid (all (l.drop j) a = q) := Lib.hid (by rcases hg.out with ⟨-, h⟩ | ⟨h, -⟩
                                                               · exact h
                                                               · cases h)
        by_cases hlt : j < l.length
        · obtain ⟨b, off, rfl, -, -, hcells⟩ := View.cells hv.out (by omega)
          obtain ⟨x0, x1, x2⟩ := hcells j hlt
          have r0 := Lb.New0.cells hu.out x0
          have r1 := Lb.New0.cells hu.out x1
          have r2 := Lb.New0.cells hu.out x2
          have HR := Lib.hid (HH.out l[j] (hb.out _ (List.getElem_mem hlt)) _ hu.out)
          have hno := Lib.hid (fun h => (all_not (a := a) hlt h).symm.trans hg.out)
          have hyes := Lib.hid (fun h => (all_yes (a := a) hlt h).symm.trans hg.out)
          obtain ⟨m, hm⟩ : ∃ m, l[j] = m := ⟨_, rfl⟩
          rw [hm] at r0 r1 r2 HR hno hyes
          clear hcells x0 x1 x2 hm hg HH
          obtain ⟨k, n, v⟩ := m
          unfold mv at HR
          simp only at HR hno hyes r0 r1 r2
          obtain ⟨y, hy⟩ : ∃ y, holds (k, n, v) (Lb.get a n) = y := ⟨_, rfl⟩
          rw [hy] at HR hno hyes
          have hnx : Hid ((y = true ∧ all (l.drop (j + 1)) a = q) ∨ (y = false ∧ q = false)) := Lib.hid (by
            cases y with
            | true => exact .inl ⟨rfl, hyes.out rfl⟩
            | false => exact .inr ⟨rfl, (hno.out rfl).symm⟩)
          clear hno hyes hy
          go_wp2_with fail
          refine HR.out.mono ?_
          rintro e w3 ⟨rfl, hu3⟩
          have hu4 := Lib.hid (hu.out.trans hu3)
          clear HR hu hu3 r0 r1 r2
          go_wp2_with fail
          go_roundw
          case rel => exact ⟨j + 1, y, rfl, by go_num, hlt, hnx, hu4⟩
          case measure => simp [intOf]; omega
        · have hq : Hid (true = q) := Lib.hid (by rw [← hg.out, all_end hlt])
          clear hg hv hb HH
          go_wp2_with fail
          go_ret
          exact ⟨Lb.ret_b hq.out, hu.out⟩
  · have hR : Hid (false = is l a) := Lib.hid (is_no h0).symm
    obtain ⟨z, hz⟩ : ∃ z, chk l = z := ⟨_, rfl⟩
    rw [hz] at HC h0
    have d : ((z : Int) == 0) = false := by rw [beq_eq_false_iff_ne]; omega
    clear hz h0 HH hb
    go_enter Try.func14, Try.ntmps14
    go_wp2_with fail
    refine HC.out.mono ?_
    rintro e w2 ⟨rfl, hu2⟩
    replace hu2 := Lib.hid hu2
    clear HC
    go_wp2_with fail
    go_loopw [5, 6] (fun bv ov wr => bv = .bool false ∧ ov = .int .i64 0 ∧ wr = w2) (fun _ _ _ => 0)
    case atStart => exact ⟨rfl, rfl, rfl⟩
    case round =>
      obtain ⟨rfl, rfl, rfl⟩ := hrel
      by_cases hlt : (0 : Int) < (l.length : Int)
      · go_wp2_with fail
        go_ret
        exact ⟨Lb.ret_b hR.out, hu2.out⟩
      · go_wp2_with fail
        go_ret
        exact ⟨Lb.ret_b hR.out, hu2.out⟩
theorem m_step {l m : List M} {j : Nat} (ha : j < l.length) (hb : j < m.length) (he : l[j] = m[j]) : l.drop j = m.drop j ↔ l.drop (j + 1) = m.drop (j + 1) := by
  rw [List.drop_eq_getElem_cons ha, List.drop_eq_getElem_cons hb, he]; exact ⟨fun h => (List.cons.inj h).2, fun h => by rw [h]⟩
theorem m_diff {l m : List M} {j : Nat} (ha : j < l.length) (hb : j < m.length) (he : l[j] ≠ m[j]) : l.drop j ≠ m.drop j := by
  rw [List.drop_eq_getElem_cons ha, List.drop_eq_getElem_cons hb]; exact fun h => he (List.cons.inj h).1
set_option maxHeartbeats 3200000 in
theorem same_any (w : World) (S S' : Nat → Prop) (v1 v2 : Value) (l m : List M) (h1 : View w S v1 l) (h2 : View w S' v2 m) :
    Calls Try.prog 15 #[v1, v2] w fun e w' => e = .returned (.bool (decide (l = m))) ∧ ∃ n, w' = w.drewN n := by
  obtain ⟨A, c, rfl, hc1, hc2⟩ := Rw.View.shape h1
  obtain ⟨A', c', rfl, hc1', hc2'⟩ := Rw.View.shape h2
  have hl := Nat.le_trans hc1 hc2
  unfold maxLen at hl
  clear hc1 hc2 hc1' hc2'
  replace h1 := Lib.hid h1
  replace h2 := Lib.hid h2
  by_cases hlen : l.length = m.length
  · obtain ⟨q, hq⟩ : ∃ q, decide (l = m) = q := ⟨_, rfl⟩
    have hst : Hid (decide (l.drop 0 = m.drop 0) = q) := Lib.hid hq
    rw [hq]
    have d : ((l.length : Int) != (m.length : Int)) = false := by rw [hlen]; simp
    replace hlen := Lib.hid hlen
    clear hq
    go_enter Try.func15, Try.ntmps15
    go_wp2_with fail
    clear d
    go_loopw [5] (fun ov wr => ∃ j k : Nat, ov = .int .i64 (j : Int) ∧ j ≤ l.length ∧ Hid (decide (l.drop j = m.drop j) = q) ∧ wr = w.drewN k) (fun ov _ => l.length - (intOf ov).toNat)
    case atStart => exact ⟨0, 0, rfl, Nat.zero_le _, hst, rfl⟩
    case round =>
      clear hst
      obtain ⟨j, k, rfl, hj, hg, rfl⟩ := hrel
      by_cases hlt : j < l.length
      · have hlt' : j < m.length := by have := hlen.out; omega
        obtain ⟨b, off, rfl, -, -, hcells⟩ := View.cells h1.out (by omega)
        obtain ⟨b', off', rfl, -, -, hcells'⟩ := View.cells h2.out (by omega)
        obtain ⟨x0, x1, x2⟩ := hcells j hlt
        obtain ⟨y0, y1, y2⟩ := hcells' j hlt'
        have q1 : Hid (l[j] = m[j] → decide (l.drop (j + 1) = m.drop (j + 1)) = q) := Lib.hid (fun h => by rw [← hg.out]; exact decide_eq_decide.2 (m_step hlt hlt' h).symm)
        have q2 : Hid (l[j] ≠ m[j] → false = q) := Lib.hid (fun h => by rw [← hg.out]; exact (decide_eq_false (m_diff hlt hlt' h)).symm)
        clear hcells hcells' h1 h2 hg
        obtain ⟨p, hp⟩ : ∃ p, l[j] = p := ⟨_, rfl⟩
        obtain ⟨q', hq'⟩ : ∃ q', m[j] = q' := ⟨_, rfl⟩
        rw [hp] at x0 x1 x2 q1 q2
        rw [hq'] at y0 y1 y2 q1 q2
        clear hp hq'
        obtain ⟨a1, a2, a3⟩ := p
        obtain ⟨b1, b2, b3⟩ := q'
        simp only at x0 x1 x2 y0 y1 y2
        by_cases e1 : a1 = b1
        · subst e1
          by_cases e2 : a2 = b2
          · subst e2
            by_cases e3 : a3 = b3
            · subst e3
              have hG := Lib.hid (q1.out rfl)
              clear q1 q2
              go_wp2_with fail
              go_quiet (fail)
              go_wp2_with fail
              go_roundw
              case rel => exact ⟨j + 1, _, by go_num, hlt, hG, rfl⟩
              case measure => simp [intOf]; omega
            · have hG := Lib.hid (q2.out (fun h => e3 (Prod.mk.inj (Prod.mk.inj h).2).2))
              have d4 : (a3.toList == b3.toList) = false := by rw [Lb.toList_beq]; exact decide_eq_false e3
              have d5 : decide (a3 = b3) = false := decide_eq_false e3
              clear q1 q2
              go_wp2_with fail
              go_quiet (fail)
              go_wp2_with fail
              go_ret
              exact ⟨Lb.ret_b hG.out, _, by rw [World.drewN_drewN]⟩
          · have hG := Lib.hid (q2.out (fun h => e2 (Prod.mk.inj (Prod.mk.inj h).2).1))
            have d4 : (a2.toList == b2.toList) = false := by rw [Lb.toList_beq]; exact decide_eq_false e2
            have d5 : decide (a2 = b2) = false := decide_eq_false e2
            clear q1 q2
            go_wp2_with fail
            go_quiet (fail)
            go_wp2_with fail
            go_ret
            exact ⟨Lb.ret_b hG.out, _, by rw [World.drewN_drewN]⟩
        · have hG := Lib.hid (q2.out (fun h => e1 (Prod.mk.inj h).1))
          have d4 : (a1 == b1) = false := by rw [beq_eq_false_iff_ne]; exact e1
          have d5 : decide (a1 = b1) = false := decide_eq_false e1
          clear q1 q2
          go_wp2_with fail
          go_quiet (fail)
          go_wp2_with fail
          go_ret
          exact ⟨Lb.ret_b hG.out, _, by rw [World.drewN_drewN]⟩
      · have hG : Hid (true = q) := Lib.hid (by rw [← hg.out]; exact (decide_eq_true (by rw [List.drop_eq_nil_of_le (by omega), List.drop_eq_nil_of_le (by have := hlen.out; omega)])).symm)
        clear hg h1 h2
        go_wp2_with fail
        go_ret
        exact ⟨Lb.ret_b hG.out, k, rfl⟩
  · have hR : Hid (false = decide (l = m)) := Lib.hid (decide_eq_false (fun e => hlen (by rw [e]))).symm
    have d : ((l.length : Int) != (m.length : Int)) = true := by rw [bne_iff_ne]; omega
    clear h1 h2 hlen
    go_enter Try.func15, Try.ntmps15
    go_wp2_with fail
    go_ret
    exact ⟨Lb.ret_b hR.out, 0, rfl⟩
end Mt
end Go.Proofs.Ytckphnemnbejmaa
