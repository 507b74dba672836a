/- The document's own labels (layer 10): Compare, Same, Check, Encode. -/
import Derived.Test.YtoamgmbpainpjaaLbRef
set_option maxRecDepth 100000
namespace Go.Proofs.Ytoamgmbpainpjaa
open Go.RowKit Go.Sort
namespace Lb
open Bit Dsk Ob Dig
set_option linter.unusedVariables false

set_option maxHeartbeats 3200000 in
theorem refcmp_any (w : World) (S S' : Nat → Prop) (v1 v2 : Value) (l m : List Pr) (h1 : View w S v1 l) (h2 : View w S' v2 m) :
    Calls Try.prog 15 #[v1, v2] w fun e w' => e = .returned (.int .i64 (cmp l m)) ∧ ∃ n, w' = w.drewN n := by
  obtain ⟨A, c, rfl, hc1, hc2⟩ := Rw.View.shape h1
  obtain ⟨A', c', rfl, hc1', hc2'⟩ := Rw.View.shape h2
  have hl := Nat.le_trans hc1 hc2
  have hl' := Nat.le_trans hc1' hc2'
  unfold maxLen at hl hl'
  clear hc1 hc2 hc1' hc2'
  replace h1 := Lib.hid h1
  replace h2 := Lib.hid h2
  go_enter Try.func15, Try.ntmps15
  go_wp2_with fail
  go_loopw [5] (fun ov wr => ∃ j k : Nat, ov = .int .i64 (j : Int) ∧ j ≤ l.length ∧ j ≤ m.length ∧ Hid (cmp (l.drop j) (m.drop j) = cmp l m) ∧ wr = w.drewN k) (fun ov _ => l.length - (intOf ov).toNat)
  case atStart => exact ⟨0, 0, rfl, Nat.zero_le _, Nat.zero_le _, Lib.hid rfl, rfl⟩
  case round =>
    obtain ⟨j, k, rfl, hj, hj', hg, rfl⟩ := hrel
    by_cases hlt : j < l.length
    · by_cases hlt' : j < m.length
      · obtain ⟨b, off, rfl, -, -, hcells⟩ := View.cells h1.out (by omega)
        obtain ⟨b', off', rfl, -, -, hcells'⟩ := View.cells h2.out (by omega)
        obtain ⟨x0, x1⟩ := hcells j hlt
        obtain ⟨y0, y1⟩ := hcells' j hlt'
        clear hcells hcells' h1 h2
        have r1 := Lib.hid (fun h => (cmp_less hlt hlt' h).symm.trans hg.out)
        have r2 := Lib.hid (fun h => (cmp_step hlt hlt' h).symm.trans hg.out)
        have r3 := Lib.hid (fun h h' => (cmp_gr hlt hlt' h h').symm.trans hg.out)
        clear hg
        obtain ⟨p, hp⟩ : ∃ p, l[j] = p := ⟨_, rfl⟩
        obtain ⟨q, hq⟩ : ∃ q, m[j] = q := ⟨_, rfl⟩
        rw [hp] at x0 x1 r1 r2 r3
        rw [hq] at y0 y1 r1 r2 r3
        clear hp hq
        obtain ⟨a1, a2⟩ := p
        obtain ⟨b1, b2⟩ := q
        by_cases c1 : lt a1 b1 = true
        · have hR := Lib.hid (r1.out (by rw [ltP_iff]; exact .inl c1))
          have d1 : Op.bytesLess a1.toList b1.toList = true := c1
          clear r1 r2 r3 c1
          go_wp2_with fail
          go_quiet (fail)
          go_wp2_with fail
          go_ret
          exact ⟨ret_i hR.out, k + nq, by rw [World.drewN_drewN]⟩
        · have d1 : Op.bytesLess a1.toList b1.toList = false := Bool.eq_false_iff.2 c1
          by_cases e1 : a1 = b1
          · subst e1
            have d2 : (a1.toList == a1.toList) = true := beq_self_eq_true _
            by_cases c2 : lt a2 b2 = true
            · have hR := Lib.hid (r1.out (by rw [ltP_iff]; exact .inr ⟨rfl, c2⟩))
              have d3 : Op.bytesLess a2.toList b2.toList = true := c2
              clear r1 r2 r3 c1 c2
              go_wp2_with fail
              go_quiet (fail)
              go_wp2_with fail
              go_ret
              exact ⟨ret_i hR.out, k + nq, by rw [World.drewN_drewN]⟩
            · have d3 : Op.bytesLess a2.toList b2.toList = false := Bool.eq_false_iff.2 c2
              by_cases e2 : a2 = b2
              · subst e2
                have hR := Lib.hid (r2.out rfl)
                clear r1 r2 r3 c1 c2
                go_wp2_with fail
                go_quiet (fail)
                go_wp2_with fail
                go_quiet (fail)
                go_wp2_with fail
                go_roundw
                case rel => exact ⟨j + 1, _, by go_num, hlt, hlt', hR, rfl⟩
                case measure => simp [intOf]; omega
              · have hf : ltP (a1, a2) (a1, b2) = false := Bool.eq_false_iff.2 fun h => by
                  rcases ltP_iff.1 h with h | ⟨-, h⟩
                  · exact c1 h
                  · exact c2 h
                have hR := Lib.hid (r3.out hf (fun e => e2 (Prod.mk.inj e).2))
                have d4 : (a2.toList == b2.toList) = false := by rw [toList_beq]; exact decide_eq_false e2
                have d5 : decide (a2 = b2) = false := decide_eq_false e2
                clear r1 r2 r3 c1 c2 hf
                go_wp2_with fail
                go_quiet (fail)
                go_wp2_with fail
                go_quiet (fail)
                go_wp2_with fail
                go_ret
                exact ⟨ret_i hR.out, _, by rw [World.drewN_drewN, World.drewN_drewN]⟩
          · have hf : ltP (a1, a2) (b1, b2) = false := Bool.eq_false_iff.2 fun h => by
              rcases ltP_iff.1 h with h | ⟨h, -⟩
              · exact c1 h
              · exact e1 h
            have hR := Lib.hid (r3.out hf (fun e => e1 (Prod.mk.inj e).1))
            have d4 : (a1.toList == b1.toList) = false := by rw [toList_beq]; exact decide_eq_false e1
            have d5 : decide (a1 = b1) = false := decide_eq_false e1
            clear r1 r2 r3 c1 hf
            go_wp2_with fail
            go_quiet (fail)
            go_wp2_with fail
            go_quiet (fail)
            go_wp2_with fail
            go_ret
            exact ⟨ret_i hR.out, _, by rw [World.drewN_drewN, World.drewN_drewN]⟩
      · have hR := Lib.hid ((cmp_end2 hlt hlt').symm.trans hg.out)
        clear hg h1 h2
        go_wp2_with fail
        go_ret
        exact ⟨ret_i hR.out, k, rfl⟩
    · by_cases hlt' : j < m.length
      · have hR := Lib.hid ((cmp_end1 hlt hlt').symm.trans hg.out)
        clear hg h1 h2
        go_wp2_with fail
        go_ret
        exact ⟨ret_i hR.out, k, rfl⟩
      · have hR := Lib.hid ((cmp_end0 hlt hlt').symm.trans hg.out)
        clear hg h1 h2
        go_wp2_with fail
        go_ret
        exact ⟨ret_i hR.out, k, rfl⟩
theorem cmp_beq (l m : List Pr) : (cmp l m == 0) = decide (l = m) := by
  by_cases h : l = m
  · rw [decide_eq_true h, beq_iff_eq]; exact (cmp_same l m).2 h
  · rw [decide_eq_false h, beq_eq_false_iff_ne]; exact fun e => h ((cmp_same l m).1 e)
theorem same_any (w : World) (S S' : Nat → Prop) (v1 v2 : Value) (l m : List Pr) (h1 : View w S v1 l) (h2 : View w S' v2 m) :
    Calls Try.prog 18 #[v1, v2] w fun e w' => e = .returned (.bool (decide (l = m))) ∧ ∃ n, w' = w.drewN n := by
  have HC := Lib.hid (fun w (h1 : View w S v1 l) (h2 : View w S' v2 m) => refcmp_any w S S' v1 v2 l m h1 h2)
  obtain ⟨A, c, rfl, -, -⟩ := Rw.View.shape h1
  obtain ⟨A', c', rfl, -, -⟩ := Rw.View.shape h2
  replace h1 := Lib.hid h1
  replace h2 := Lib.hid h2
  go_enter Try.func18, Try.ntmps18
  go_wp2_with fail
  refine (HC.out _ h1.out h2.out).mono ?_
  rintro e w2 ⟨rfl, n, rfl⟩
  clear HC h1 h2
  go_wp2_with fail
  go_ret
  exact ⟨ret_b (cmp_beq l m), n, rfl⟩

/-- Names, values: of a text, at a world of draws. -/
theorem nameQ (w : World) (s : ByteArray) (hs : s.size ≤ 9223372036854775807) {b : Bool} (h : nm s = b) (m : Nat) : Calls Try.prog 22 #[.string s] (w.drewN m) fun e w' => e = .returned (.bool b) ∧ ∃ k, w' = (w.drewN m).drewN k := by
  subst h; exact refname_any s hs _
theorem valueQ (w : World) (s : ByteArray) (hs : s.size ≤ 9223372036854775807) {b : Bool} (h : vl s = b) (m : Nat) : Calls Try.prog 23 #[.string s] (w.drewN m) fun e w' => e = .returned (.bool b) ∧ ∃ k, w' = (w.drewN m).drewN k := by
  subst h; exact refvalue_any s hs _
theorem at_least {a b : ByteArray} {t : Bool} (h : lt b a = t) : (Op.bytesLess a.toList b.toList || a.toList == b.toList) = !t := by
  subst h
  rw [toList_beq]
  cases h : lt b a with
  | true =>
    have h2 : Op.bytesLess a.toList b.toList = false := lt_asym h
    rw [h2, decide_eq_false (fun e => lt_ne h e.symm)]; rfl
  | false =>
    by_cases e : a = b
    · rw [decide_eq_true e]; simp
    · have h2 : Op.bytesLess a.toList b.toList = true := by
        cases h3 : Op.bytesLess a.toList b.toList with
        | true => rfl
        | false => exact absurd (lt_tri (a := a) (b := b) h3 h) e
      rw [h2]; rfl
set_option maxHeartbeats 3200000 in
theorem refcheck_any (w : World) (S : Nat → Prop) (v : Value) (l : List Pr) (hv : View w S v l) (hsm : Sml l) :
    Calls Try.prog 13 #[v] w fun e w' => e = .returned (.int .i64 (chk l : Int)) ∧ ∃ n, w' = w.drewN n := by
  obtain ⟨A, c, rfl, -, -⟩ := Rw.View.shape hv
  replace hv := Lib.hid hv
  replace hsm := Lib.hid hsm
  by_cases h1 : l.length < 1
  · have hR : Hid ((16 : Int) = (chk l : Int)) := Lib.hid (by rw [chk_few (.inl h1)]; rfl)
    have d1 : (l.length : Int) < 1 := by omega
    go_enter Try.func13, Try.ntmps13
    go_wp2_with fail
    go_ret
    exact ⟨ret_i hR.out, 0, rfl⟩
  by_cases h8 : 8 < l.length
  · have hR : Hid ((16 : Int) = (chk l : Int)) := Lib.hid (by rw [chk_few (.inr h8)]; rfl)
    have d1 : ¬ (l.length : Int) < 1 := by omega
    have d2 : (8 : Int) < (l.length : Int) := by omega
    go_enter Try.func13, Try.ntmps13
    go_wp2_with fail
    go_ret
    exact ⟨ret_i hR.out, 0, rfl⟩
  obtain ⟨b, off, rfl, -, -, hcells⟩ := View.cells hv.out (by omega)
  replace hcells := Lib.hid hcells
  have d1 : ¬ (l.length : Int) < 1 := by omega
  have d2 : ¬ (8 : Int) < (l.length : Int) := by omega
  have hl1 : 1 ≤ l.length := by omega
  have hl8 : l.length ≤ 8 := by omega
  clear hv h1 h8
  go_enter Try.func13, Try.ntmps13
  go_wp2_with fail
  go_loopw [3] (fun ov wr => ∃ j k : Nat, ov = .int .i64 (j : Int) ∧ j ≤ l.length ∧ Hid (Good (l.take j)) ∧ wr = w.drewN k) (fun ov _ => l.length - (intOf ov).toNat)
  case atStart => exact ⟨0, 0, rfl, Nat.zero_le _, Lib.hid Good.nil, rfl⟩
  case round =>
    obtain ⟨j, k, rfl, hj, hg, rfl⟩ := hrel
    by_cases hlt : j < l.length
    · obtain ⟨x0, x1⟩ := hcells.out j hlt
      have hst := Lib.hid (hg.out.step hlt)
      have hR1 := Lib.hid (chk_name (l := l) hlt)
      have hR2 := Lib.hid (chk_value (l := l) hlt)
      have hR3 := Lib.hid (fun i hi hij => chk_order (l := l) (i := i) hi hlt hij)
      have hsz := hsm.out _ (List.getElem_mem hlt)
      obtain ⟨a1, ha1⟩ : ∃ a1, l[j].1 = a1 := ⟨_, rfl⟩
      obtain ⟨a2, ha2⟩ : ∃ a2, l[j].2 = a2 := ⟨_, rfl⟩
      rw [ha1] at x0 hst hR1 hsz
      rw [ha2] at x1 hst hR2 hsz
      replace hR3 : Hid (∀ i (hi : i < l.length), j = i + 1 → lt l[i].1 a1 = false → chk l = 16) := Lib.hid (fun i hi hij h => hR3.out i hi hij (by rw [ha1]; exact h))
      clear ha1 ha2 hg
      cases hn : nm a1 with
      | false =>
        have HN := Lib.hid (nameQ w a1 hsz.1 hn)
        have hR : Hid ((16 : Int) = (chk l : Int)) := Lib.hid (by rw [hR1.out hn]; rfl)
        clear hst hR1 hR2 hR3 hsz hn hcells hsm
        go_wp2_with fail
        go_quiet ((go_at_call 22; exact quiet2 HN.out _ _))
        go_wp2_with fail
        go_ret
        exact ⟨ret_i hR.out, _, by rw [World.drewN_drewN]⟩
      | true =>
        have HN := Lib.hid (nameQ w a1 hsz.1 hn)
        cases hvv : vl a2 with
        | false =>
          have HV := Lib.hid (valueQ w a2 hsz.2 hvv)
          have hR : Hid ((16 : Int) = (chk l : Int)) := Lib.hid (by rw [hR2.out hvv]; rfl)
          clear hst hR1 hR2 hR3 hsz hn hvv hcells hsm
          go_wp2_with fail
          go_quiet ((first | (go_at_call 22; exact quiet2 HN.out _ _) | (go_at_call 23; exact quiet2 HV.out _ _)))
          go_wp2_with fail
          go_ret
          exact ⟨ret_i hR.out, _, by rw [World.drewN_drewN]⟩
        | true =>
          have HV := Lib.hid (valueQ w a2 hsz.2 hvv)
          by_cases h0 : j = 0
          · have hG := Lib.hid (hst.out hn hvv (fun i _ e => by omega))
            have hj0 : decide (0 < j) = false := decide_eq_false (by omega)
            clear hst hR1 hR2 hR3 hsz hn hvv h0
            go_wp2_with fail
            go_quiet ((first | (go_at_call 22; exact quiet2 HN.out _ _) | (go_at_call 23; exact quiet2 HV.out _ _)))
            go_wp2_with fail
            go_roundw
            case rel => exact ⟨j + 1, _, by go_num, hlt, hG, rfl⟩
            case measure => simp [intOf]; omega
          · obtain ⟨i, hi⟩ : ∃ i, j = i + 1 := ⟨j - 1, by omega⟩
            have hil : i < l.length := by omega
            obtain ⟨y0, -⟩ := hcells.out i hil
            have hidx : IntKind.i64.wrap ((j : Int) - 1) = (i : Int) := by rw [IntKind.wrap_i64]; omega
            have hj0 : decide (0 < j) = true := decide_eq_true (by omega)
            replace hR3 := Lib.hid (hR3.out i hil hi)
            replace hst := Lib.hid (hst.out hn hvv)
            obtain ⟨p1, hp1⟩ : ∃ p1, l[i].1 = p1 := ⟨_, rfl⟩
            rw [hp1] at y0 hR3
            cases ho : lt p1 a1 with
            | false =>
              have hR : Hid ((16 : Int) = (chk l : Int)) := Lib.hid (by rw [hR3.out ho]; rfl)
              have d3 : (Op.bytesLess a1.toList p1.toList || a1.toList == p1.toList) = true := at_least ho
              clear hst hR1 hR2 hR3 hsz hn hvv hp1 ho hi hcells hsm
              go_wp2_with fail
              go_quiet ((first | (go_at_call 22; exact quiet2 HN.out _ _) | (go_at_call 23; exact quiet2 HV.out _ _)))
              go_wp2_with fail
              go_ret
              exact ⟨ret_i hR.out, _, by rw [World.drewN_drewN]⟩
            | true =>
              have hG := Lib.hid (hst.out (fun i' h' e => by
                obtain rfl : i' = i := by omega
                rw [hp1]; exact ho))
              have d3 : (Op.bytesLess a1.toList p1.toList || a1.toList == p1.toList) = false := at_least ho
              clear hst hR1 hR2 hR3 hsz hn hvv hp1 ho hi
              go_wp2_with fail
              go_quiet ((first | (go_at_call 22; exact quiet2 HN.out _ _) | (go_at_call 23; exact quiet2 HV.out _ _)))
              go_wp2_with fail
              go_roundw
              case rel => exact ⟨j + 1, _, by go_num, hlt, hG, rfl⟩
              case measure => simp [intOf]; omega
    · have hR : Hid ((0 : Int) = (chk l : Int)) := Lib.hid (by rw [chk_ok (Ok.of hl1 hl8 hlt hg.out)]; rfl)
      clear hg hcells hsm
      go_wp2_with fail
      go_ret
      exact ⟨ret_i hR.out, k, rfl⟩
end Lb
end Go.Proofs.Ytoamgmbpainpjaa
