/- The document's own matchers (layer 11): right, Check, holds, Is, Same. -/
import Derived.Test.YtckphnemnbejmaaMtRow
set_option maxRecDepth 100000
namespace Go.Proofs.Ytckphnemnbejmaa
open Go.RowKit Go.Sort
namespace Mt
open Bit Dsk Ob Dig
set_option linter.unusedVariables false

def mv (m : M) : Value := .agg #[.int .i64 m.1, .string m.2.1, .string m.2.2]
theorem emp_yes {v : ByteArray} (h : v.size = 0) : (v.toList == []) = true := by
  rw [beq_iff_eq, ByteArray.toList_eq, ← List.length_eq_zero_iff]; simpa using h
theorem emp_no {v : ByteArray} (h : v.size ≠ 0) : (v.toList == []) = false := by
  rw [beq_eq_false_iff_ne]; intro e
  rw [ByteArray.toList_eq] at e
  have h4 : v.data.toList.length = v.size := by simp
  rw [e, List.length_nil] at h4
  exact h h4.symm
theorem right_emp {k : Int} {n v : ByteArray} (ck : ¬ (k < 1 ∨ 4 < k)) (hn : Lb.nm n = true) (h0 : v.size = 0) : right (k, n, v) = 0 := right_ok ck fun h => by
  rcases h with h | ⟨h, -⟩
  · rw [show Lb.nm (k, n, v).2.1 = true from hn] at h; cases h
  · exact h h0
theorem right_val {k : Int} {n v : ByteArray} (ck : ¬ (k < 1 ∨ 4 < k)) (hn : Lb.nm n = true) (hv : Lb.vl v = true) (h4 : k ≠ 4) : right (k, n, v) = 0 := right_ok ck fun h => by
  rcases h with h | ⟨-, h | h⟩
  · rw [show Lb.nm (k, n, v).2.1 = true from hn] at h; cases h
  · rw [show Lb.vl (k, n, v).2.2 = true from hv] at h; cases h
  · exact h4 h
set_option maxHeartbeats 3200000 in
theorem refright_any (w : World) (m : M) (hb : Bnd1 m) :
    Calls Try.prog 24 #[mv m] w fun e w' => e = .returned (.int .i64 (right m : Int)) ∧ New0 w w' := by
  obtain ⟨k, n, v⟩ := m
  obtain ⟨-, -, hn, hv⟩ := hb
  simp only at hn hv
  unfold mv
  have hU := Lib.hid ((Upon.refl (fun _ => False) w).alloc (.cells #[.int .i64 k, .string n, .string v] 37 (0, 0)))
  by_cases c1 : k < 1
  · have hR : Hid ((5 : Int) = (right (k, n, v) : Int)) := Lib.hid (by rw [right_kind (.inl c1)]; rfl)
    go_enter Try.func24, Try.ntmps24
    go_wp2_with fail
    go_ret
    exact ⟨Lb.ret_i hR.out, hU.out⟩
  by_cases c4 : 4 < k
  · have hR : Hid ((5 : Int) = (right (k, n, v) : Int)) := Lib.hid (by rw [right_kind (.inr c4)]; rfl)
    go_enter Try.func24, Try.ntmps24
    go_wp2_with fail
    go_ret
    exact ⟨Lb.ret_i hR.out, hU.out⟩
  have ck : ¬ (k < 1 ∨ 4 < k) := by omega
  have HN := Lib.hid (fun w => Lb.refname_any n hn w)
  have HV := Lib.hid (fun w => Lb.refvalue_any v hv w)
  cases hnm : Lb.nm n with
  | false =>
    have hR : Hid ((3 : Int) = (right (k, n, v) : Int)) := Lib.hid (by rw [right_field ck (.inl hnm)]; rfl)
    rw [hnm] at HN
    clear HV hnm ck
    go_enter Try.func24, Try.ntmps24
    go_wp2_with fail
    refine (HN.out _).mono ?_
    rintro e w2 ⟨rfl, n2, rfl⟩
    clear HN
    go_wp2_with fail
    go_ret
    exact ⟨Lb.ret_i hR.out, hU.out.trans (upon_drewN _ _ n2)⟩
  | true =>
    by_cases h0 : v.size = 0
    · have hR : Hid ((0 : Int) = (right (k, n, v) : Int)) := Lib.hid (by rw [right_emp ck hnm h0]; rfl)
      have d0 := emp_yes h0
      rw [hnm] at HN
      clear HV hnm ck
      go_enter Try.func24, Try.ntmps24
      go_wp2_with fail
      refine (HN.out _).mono ?_
      rintro e w2 ⟨rfl, n2, rfl⟩
      clear HN
      go_wp2_with fail
      all_goals
        go_ret
        exact ⟨Lb.ret_i hR.out, ((Upon.refl _ w).alloc _).trans (upon_drewN _ _ n2)⟩
    · have d0 := emp_no h0
      cases hvl : Lb.vl v with
      | false =>
        have hR : Hid ((3 : Int) = (right (k, n, v) : Int)) := Lib.hid (by rw [right_field ck (.inr ⟨h0, .inl hvl⟩)]; rfl)
        rw [hnm] at HN
        rw [hvl] at HV
        clear hnm ck hvl
        go_enter Try.func24, Try.ntmps24
        go_wp2_with fail
        refine (HN.out _).mono ?_
        rintro e w2 ⟨rfl, n2, rfl⟩
        clear HN
        go_wp2_with fail
        refine (HV.out _).mono ?_
        rintro e w3 ⟨rfl, n3, rfl⟩
        clear HV
        go_wp2_with fail
        go_ret
        exact ⟨Lb.ret_i hR.out, by first | exact (hU.out.trans (upon_drewN _ _ n2)).trans (upon_drewN _ _ n3) | exact hU.out.trans (upon_drewN _ _ (n2 + n3))⟩
      | true =>
        by_cases h4 : k = 4
        · have hR : Hid ((3 : Int) = (right (k, n, v) : Int)) := Lib.hid (by rw [right_field ck (.inr ⟨h0, .inr h4⟩)]; rfl)
          have e4 : (k == 4) = true := by rw [h4]; rfl
          rw [hnm] at HN
          rw [hvl] at HV
          clear hnm ck hvl h4
          go_enter Try.func24, Try.ntmps24
          go_wp2_with fail
          refine (HN.out _).mono ?_
          rintro e w2 ⟨rfl, n2, rfl⟩
          clear HN
          go_wp2_with fail
          refine (HV.out _).mono ?_
          rintro e w3 ⟨rfl, n3, rfl⟩
          clear HV
          go_wp2_with fail
          go_ret
          exact ⟨Lb.ret_i hR.out, by first | exact (hU.out.trans (upon_drewN _ _ n2)).trans (upon_drewN _ _ n3) | exact hU.out.trans (upon_drewN _ _ (n2 + n3))⟩
        · have hR : Hid ((0 : Int) = (right (k, n, v) : Int)) := Lib.hid (by rw [right_val ck hnm hvl h4]; rfl)
          have e4 : (k == 4) = false := by rw [beq_eq_false_iff_ne]; exact h4
          rw [hnm] at HN
          rw [hvl] at HV
          clear hnm ck hvl h4
          go_enter Try.func24, Try.ntmps24
          go_wp2_with fail
          refine (HN.out _).mono ?_
          rintro e w2 ⟨rfl, n2, rfl⟩
          clear HN
          go_wp2_with fail
          refine (HV.out _).mono ?_
          rintro e w3 ⟨rfl, n3, rfl⟩
          clear HV
          go_wp2_with fail
          go_ret
          exact ⟨Lb.ret_i hR.out, by first | exact (hU.out.trans (upon_drewN _ _ n2)).trans (upon_drewN _ _ n3) | exact hU.out.trans (upon_drewN _ _ (n2 + n3))⟩
set_option maxHeartbeats 1600000 in
theorem refcheck_any (w : World) (S : Nat → Prop) (v : Value) (l : List M) (hv : View w S v l) (hb : Bnd l) :
    Calls Try.prog 12 #[v] w fun e w' => e = .returned (.int .i64 (chk l : Int)) ∧ New0 w w' := by
  obtain ⟨A, c, rfl, -, -⟩ := Rw.View.shape hv
  replace hv := Lib.hid hv
  replace hb := Lib.hid hb
  by_cases h8 : 8 < l.length
  · have hR : Hid ((8 : Int) = (chk l : Int)) := Lib.hid (by rw [chk_long h8]; rfl)
    have d2 : (8 : Int) < (l.length : Int) := by omega
    go_enter Try.func12, Try.ntmps12
    go_wp2_with fail
    go_ret
    exact ⟨Lb.ret_i hR.out, Upon.refl _ _⟩
  have d2 : ¬ (8 : Int) < (l.length : Int) := by omega
  have hf : Hid (first l = chk l) := Lib.hid (chk_few h8).symm
  obtain ⟨q, hq⟩ : ∃ q, chk l = q := ⟨_, rfl⟩
  rw [hq] at hf ⊢
  clear hq
  go_enter Try.func12, Try.ntmps12
  go_wp2_with fail
  go_loopw [3] (fun ov wr => ∃ j : Nat, ov = .int .i64 (j : Int) ∧ j ≤ l.length ∧ Hid (first (l.drop j) = q) ∧ Hid (New0 w wr)) (fun ov _ => l.length - (intOf ov).toNat)
  case atStart => exact ⟨0, rfl, Nat.zero_le _, hf, Lib.hid (Upon.refl _ _)⟩
  case round =>
    clear hf
    obtain ⟨j, rfl, hj, hg, hu⟩ := hrel
    by_cases hlt : j < l.length
    · obtain ⟨b, off, rfl, -, -, hcells⟩ := View.cells hv.out (by omega)
      obtain ⟨x0, x1, x2⟩ := hcells j hlt
      have r0 := Lb.New0.cells hu.out x0
      have r1 := Lb.New0.cells hu.out x1
      have r2 := Lb.New0.cells hu.out x2
      have HR := Lib.hid (fun w => refright_any w l[j] (hb.out _ (List.getElem_mem hlt)))
      have hbad := Lib.hid (fun h => (first_bad hlt h).symm.trans hg.out)
      have hgood := Lib.hid (fun h => (first_good hlt h).symm.trans hg.out)
      obtain ⟨m, hm⟩ : ∃ m, l[j] = m := ⟨_, rfl⟩
      rw [hm] at r0 r1 r2 HR hbad hgood
      clear hcells x0 x1 x2 hm hg
      obtain ⟨a, b', c'⟩ := m
      unfold mv at HR
      by_cases he : right (a, b', c') = 0
      · have hG := Lib.hid (hgood.out he)
        rw [he] at HR
        clear hbad hgood he
        go_wp2_with fail
        refine (HR.out _).mono ?_
        rintro e w2 ⟨rfl, hu2⟩
        have hu3 := Lib.hid (hu.out.trans hu2)
        clear HR hu hu2 r0 r1 r2
        go_wp2_with fail
        go_roundw
        case rel => exact ⟨j + 1, by go_num, hlt, hG, hu3⟩
        case measure => simp [intOf]; omega
      · have hG := Lib.hid (hbad.out he)
        obtain ⟨z, hz⟩ : ∃ z, right (a, b', c') = z := ⟨_, rfl⟩
        rw [hz] at HR hG he
        have d : ((z : Int) != 0) = true := by rw [bne_iff_ne]; omega
        have hE : Hid ((z : Int) = (q : Int)) := Lib.hid (by rw [hG.out])
        clear hbad hgood he hz hG
        go_wp2_with fail
        refine (HR.out _).mono ?_
        rintro e w2 ⟨rfl, hu2⟩
        have hu3 := Lib.hid (hu.out.trans hu2)
        clear HR hu hu2 r0 r1 r2
        go_wp2_with fail
        go_ret
        exact ⟨Lb.ret_i hE.out, hu3.out⟩
    · have hE : Hid ((0 : Int) = (q : Int)) := Lib.hid (by have := hg.out; rw [first_end hlt] at this; rw [← this]; rfl)
      clear hg hv hb
      go_wp2_with fail
      go_ret
      exact ⟨Lb.ret_i hE.out, hu.out⟩
end Mt
end Go.Proofs.Ytckphnemnbejmaa
