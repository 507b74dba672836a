/- The document's own records (layer 12): Span, Encode. -/
import Derived.Test.YtkachkoiajdhgaaRcRef
import Derived.Lib.QuietBelow
set_option maxRecDepth 100000
namespace Go.Proofs.Ytkachkoiajdhgaa
open Go.RowKit Go.Sort
namespace Rc
open Bit Dsk Ob Dig
set_option linter.unusedVariables false

theorem refcheck_is (w : World) (S : Nat → Prop) (v : Value) (r : R) (hv : RView w S v r) (hb : Bnd r) {z : Nat} (h : chk r = z) :
    Calls Try.prog 15 #[v] w fun e w' => e = .returned (.int .i64 (z : Int)) ∧ New0 w w' := by
  subst h; exact refcheck_any w S v r hv hb

/-! ### the span -/
def mn (a : Int) (l : List Smp) : Int := l.foldl (fun a x => min a x.2.1) a
def mx (a : Int) (l : List Smp) : Int := l.foldl (fun a x => max a x.2.1) a
def T0 (l : List Smp) : Int := match l with | [] => 0 | x :: _ => x.2.1
theorem T0_at {l : List Smp} (h : 0 < l.length) : T0 l = l[0].2.1 := by cases l with | nil => simp at h | cons x y => rfl
theorem mn_step {l : List Smp} {j : Nat} (h : j < l.length) (a : Int) : mn a (l.take (j + 1)) = min (mn a (l.take j)) l[j].2.1 := by
  rw [List.take_succ_eq_append_getElem h, mn, List.foldl_append]; rfl
theorem mx_step {l : List Smp} {j : Nat} (h : j < l.length) (a : Int) : mx a (l.take (j + 1)) = max (mx a (l.take j)) l[j].2.1 := by
  rw [List.take_succ_eq_append_getElem h, mx, List.foldl_append]; rfl
noncomputable def span (r : R) : Int × Int := if chk r ≠ 0 then (0, 0) else if r.kind = 2 then (r.frm, r.til) else (mn (T0 r.smp) r.smp, mx (T0 r.smp) r.smp)
theorem span_no {r : R} (h : chk r ≠ 0) : span r = (0, 0) := if_pos h
theorem span_del {r : R} (h : chk r = 0) (hk : r.kind = 2) : span r = (r.frm, r.til) := by unfold span; rw [if_neg (by simp [h]), if_pos hk]
theorem span_com {r : R} (h : chk r = 0) (hk : r.kind ≠ 2) : span r = (mn (T0 r.smp) r.smp, mx (T0 r.smp) r.smp) := by unfold span; rw [if_neg (by simp [h]), if_neg hk]
def ret2 (p : Int × Int) : Ending := .returned (.tuple #[.int .i64 p.1, .int .i64 p.2])
set_option maxHeartbeats 6400000 in
theorem refspan_any (w : World) (S : Nat → Prop) (v : Value) (r : R) (hv : RView w S v r) (hb : Bnd r) :
    Calls Try.prog 13 #[v] w fun e w' => e = ret2 (span r) ∧ New0 w w' := by
  obtain ⟨z, hz⟩ : ∃ z, chk r = z := ⟨_, rfl⟩
  have hC := fun w1 (hu : New0 w w1) => refcheck_is w1 S v r (hv.new hu) hb hz
  obtain ⟨A, c, A', c', rfl, hs, hm⟩ := RView.shape hv
  obtain ⟨k, l, ms, a, b⟩ := r
  simp only at hs hm hC ⊢
  obtain ⟨wb, hwb⟩ : ∃ wb, w.alloc (.cells #[.int .i64 k, .slice A l.length c, .slice A' ms.length c', .int .i64 a, .int .i64 b] 25 (0, 0)) = wb := ⟨_, rfl⟩
  have hB := box5 w k (.slice A l.length c) (.slice A' ms.length c') a b
  have hU := Lib.hid ((Upon.refl (fun _ => False) w).alloc (.cells #[.int .i64 k, .slice A l.length c, .slice A' ms.length c', .int .i64 a, .int .i64 b] 25 (0, 0)))
  rw [hwb] at hB hU
  have HC := Lib.hid (hC wb hU.out)
  replace hwb := Lib.hid hwb
  clear hC hm hv hb
  by_cases h0 : z = 0
  · subst h0
    by_cases hk : k = 2
    · subst hk
      have hR : Hid (ret2 (a, b) = ret2 (span ⟨2, l, ms, a, b⟩)) := Lib.hid (by rw [span_del hz rfl])
      have hB2 := Lib.hid (fun w' (hu : New0 wb w') => hB.new hu)
      clear hz hs hB
      go_enter Try.func13, Try.ntmps13
      go_wp2_with fail
      rw [hwb.out]
      refine HC.out.mono ?_
      rintro e w2 ⟨rfl, hu2⟩
      obtain ⟨g0, g1, g2, g3, g4⟩ := hB2.out _ hu2
      have hu := Lib.hid (hU.out.trans hu2)
      clear HC hu2 hB2 hwb
      go_wp2_with fail
      go_quiet (fail)
      go_wp2_with fail
      go_ret2
      exact ⟨hR.out, hu.out.trans (upon_drewN _ w2 _)⟩
    · have hR : Hid (ret2 (mn (T0 l) l, mx (T0 l) l) = ret2 (span ⟨k, l, ms, a, b⟩)) := Lib.hid (by rw [span_com hz hk])
      have hco : Commit ⟨k, l, ms, a, b⟩ := by
        rcases chk_zero.1 hz with h | h
        · exact h
        · exact absurd h.kind hk
      have hone : 1 ≤ l.length := hco.one
      have hfew : l.length ≤ 32 := hco.few
      have ek : (k == 2) = false := by rw [beq_eq_false_iff_ne]; exact hk
      obtain ⟨b0, off, rfl, -, hcells⟩ := SView.cells hs (by omega)
      have hT := T0_at (l := l) (by omega)
      obtain ⟨s0, -, -, t0, -⟩ := hcells 0 (by omega)
      rw [← hT] at t0
      obtain ⟨t, ht⟩ : ∃ t, T0 l = t := ⟨_, rfl⟩
      rw [ht] at t0 hR
      replace hcells := Lib.hid hcells
      have hB2 := Lib.hid (fun w' (hu : New0 wb w') => hB.new hu)
      have t0' := Lib.hid t0
      clear hz hs hB hco hk hT ht t0
      go_enter Try.func13, Try.ntmps13
      go_wp2_with fail
      rw [hwb.out]
      refine HC.out.mono ?_
      rintro e w2 ⟨rfl, hu2⟩
      obtain ⟨g0, g1, g2, g3, g4⟩ := hB2.out _ hu2
      have q0 := Lb.New0.cells (hU.out.trans hu2) t0'.out
      simp only [Nat.zero_mul, Nat.add_zero] at q0
      replace hu2 := Lib.hid hu2
      clear HC hwb
      go_wp2_with fail
      go_quiet (fail)
      have hu3 := Lib.hid (hu2.out.trans (upon_drewN _ w2 nq))
      generalize w2.drewN nq = w3 at *
      clear g0 g1 g2 g3 g4 q0 t0' hu2
      go_wp2_with fail
      go_loopw [4, 5, 6] (fun av bv ov wr => ∃ (j : Nat) (x y : Int), av = .int .i64 x ∧ bv = .int .i64 y ∧ ov = .int .i64 (j : Int) ∧ j ≤ l.length ∧ Hid (x = mn t (l.take j) ∧ y = mx t (l.take j)) ∧ wr = w3) (fun _ _ ov _ => l.length - (intOf ov).toNat)
      case atStart => exact ⟨0, t, t, rfl, rfl, rfl, Nat.zero_le _, Lib.hid ⟨rfl, rfl⟩, rfl⟩
      case round =>
        obtain ⟨j, x, y, rfl, rfl, rfl, hj, hxy, rfl⟩ := hrel
        obtain ⟨g0, g1, g2, g3, g4⟩ := hB2.out _ hu3.out
        by_cases hlt : j < l.length
        · obtain ⟨s, -, -, x1, -⟩ := hcells.out j hlt
          have r1 := Lb.New0.cells (hU.out.trans hu3.out) x1
          have hst : Hid (mn t (l.take (j + 1)) = min x l[j].2.1 ∧ mx t (l.take (j + 1)) = max y l[j].2.1) := Lib.hid ⟨by rw [mn_step hlt, hxy.out.1], by rw [mx_step hlt, hxy.out.2]⟩
          obtain ⟨u, hu⟩ : ∃ u, l[j].2.1 = u := ⟨_, rfl⟩
          rw [hu] at r1 hst
          clear x1 hu hxy
          go_wp2_with fail
          all_goals
            go_roundw
            case rel => exact ⟨j + 1, _, _, rfl, rfl, by go_num, hlt, Lib.hid ⟨by rw [hst.out.1]; omega, by rw [hst.out.2]; omega⟩, trivial⟩
            case measure => simp [intOf]; omega
        · have hR2 : Hid (ret2 (x, y) = ret2 (span ⟨k, l, ms, a, b⟩)) := Lib.hid (by rw [← hR.out, hxy.out.1, hxy.out.2, List.take_of_length_le (by omega)])
          clear hR hxy
          go_wp2_with fail
          go_ret2
          exact ⟨hR2.out, hU.out.trans hu3.out⟩
  · have hR : Hid (ret2 (0, 0) = ret2 (span ⟨k, l, ms, a, b⟩)) := Lib.hid (by rw [span_no (by rw [hz]; exact h0)])
    have dz : ((z : Int) != 0) = true := by rw [bne_iff_ne]; omega
    clear hz hs hB h0
    go_enter Try.func13, Try.ntmps13
    go_wp2_with fail
    rw [hwb.out]
    refine HC.out.mono ?_
    rintro e w2 ⟨rfl, hu2⟩
    have hu := Lib.hid (hU.out.trans hu2)
    clear HC hu2 hwb
    go_wp2_with fail
    go_ret2
    exact ⟨hR.out, hu.out⟩
end Rc
end Go.Proofs.Ytkachkoiajdhgaa
