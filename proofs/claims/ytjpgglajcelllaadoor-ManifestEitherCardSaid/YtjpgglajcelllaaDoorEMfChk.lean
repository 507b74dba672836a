/- Manifests (layer 17): both Checks. Written by wip/tools/mfchk.py. -/
import Derived.Test.YtjpgglajcelllaaDoorEMfFile
import Derived.Test.YtjpgglajcelllaaDoorEMfName
set_option maxRecDepth 100000
namespace Go.Proofs.YtjpgglajcelllaaDoor
open Go.RowKit
namespace Mf
open Bit Dsk Ob Dig
set_option linter.unusedVariables false
set_option maxHeartbeats 6400000 in
theorem refcheck_any (w : World) (S : Nat → Prop) (v : Value) (m : M) (hv : MView w S v m) (hb : Bnd m) :
    Calls Tryd.prog 15 #[v] w fun e w' => e = .returned (.int .i64 (chk m)) ∧ New0 w w' := by
  obtain ⟨A, c, rfl, hn⟩ := hv.shape
  obtain ⟨E, B, P, K, C, l⟩ := m
  have hnb : NBnd l := hb.nms
  simp only at hn ⊢
  clear hb hv
  obtain ⟨wb, hwb⟩ : ∃ wb, w.alloc (.cells #[.int .i64 E, .int .i64 B, .int .i64 P, .int .i64 K, .int .i64 C, .slice A l.length c] 24 (0, 0)) = wb := ⟨_, rfl⟩
  have hB := box6 24 w (.int .i64 E) (.int .i64 B) (.int .i64 P) (.int .i64 K) (.int .i64 C) (.slice A l.length c)
  have hU := Lib.hid ((Upon.refl (fun _ => False) w).alloc (.cells #[.int .i64 E, .int .i64 B, .int .i64 P, .int .i64 K, .int .i64 C, .slice A l.length c] 24 (0, 0)))
  have hv := hn.new ((Upon.refl (fun _ => False) w).alloc (.cells #[.int .i64 E, .int .i64 B, .int .i64 P, .int .i64 K, .int .i64 C, .slice A l.length c] 24 (0, 0)))
  rw [hwb] at hB hU hv
  obtain ⟨k0, k1, k2, k3, k4, k5⟩ := hB.cells
  replace hv := Lib.hid hv
  replace hnb := Lib.hid hnb
  replace hwb := Lib.hid hwb
  clear hn hB
  by_cases c0 : inB E
  rotate_left
  · have hR : Hid ((2 : Int) = chk ⟨E, B, P, K, C, l⟩) := Lib.hid (chk_range (.inl c0)).symm
    have i0 := fun w => in_any E (decide_eq_false c0) w
    clear hv hnb c0
    go_enter Tryd.func15, Tryd.ntmps15
    go_wp2_with fail
    rw [hwb.out]
    go_wp2_with fail
    refine (i0 _).mono ?_
    rintro e w1 ⟨rfl, rfl⟩
    go_wp2_with fail
    go_ret
    exact ⟨Lb.ret_i hR.out, hU.out⟩
  by_cases c1 : inB B
  rotate_left
  · have hR : Hid ((2 : Int) = chk ⟨E, B, P, K, C, l⟩) := Lib.hid (chk_range (.inr (.inl c1))).symm
    have i0 := fun w => in_any E (decide_eq_true c0) w
    have i1 := fun w => in_any B (decide_eq_false c1) w
    clear hv hnb c0 c1
    go_enter Tryd.func15, Tryd.ntmps15
    go_wp2_with fail
    rw [hwb.out]
    go_wp2_with fail
    refine (i0 _).mono ?_
    rintro e w1 ⟨rfl, rfl⟩
    go_wp2_with fail
    refine (i1 _).mono ?_
    rintro e w2 ⟨rfl, rfl⟩
    go_wp2_with fail
    go_ret
    exact ⟨Lb.ret_i hR.out, hU.out⟩
  by_cases c2 : inB P
  rotate_left
  · have hR : Hid ((2 : Int) = chk ⟨E, B, P, K, C, l⟩) := Lib.hid (chk_range (.inr (.inr (.inl c2)))).symm
    have i0 := fun w => in_any E (decide_eq_true c0) w
    have i1 := fun w => in_any B (decide_eq_true c1) w
    have i2 := fun w => in_any P (decide_eq_false c2) w
    clear hv hnb c0 c1 c2
    go_enter Tryd.func15, Tryd.ntmps15
    go_wp2_with fail
    rw [hwb.out]
    go_wp2_with fail
    refine (i0 _).mono ?_
    rintro e w1 ⟨rfl, rfl⟩
    go_wp2_with fail
    refine (i1 _).mono ?_
    rintro e w2 ⟨rfl, rfl⟩
    go_wp2_with fail
    refine (i2 _).mono ?_
    rintro e w3 ⟨rfl, rfl⟩
    go_wp2_with fail
    go_ret
    exact ⟨Lb.ret_i hR.out, hU.out⟩
  by_cases c3 : inB C
  rotate_left
  · have hR : Hid ((2 : Int) = chk ⟨E, B, P, K, C, l⟩) := Lib.hid (chk_range (.inr (.inr (.inr (.inl c3))))).symm
    have i0 := fun w => in_any E (decide_eq_true c0) w
    have i1 := fun w => in_any B (decide_eq_true c1) w
    have i2 := fun w => in_any P (decide_eq_true c2) w
    have i3 := fun w => in_any C (decide_eq_false c3) w
    clear hv hnb c0 c1 c2 c3
    go_enter Tryd.func15, Tryd.ntmps15
    go_wp2_with fail
    rw [hwb.out]
    go_wp2_with fail
    refine (i0 _).mono ?_
    rintro e w1 ⟨rfl, rfl⟩
    go_wp2_with fail
    refine (i1 _).mono ?_
    rintro e w2 ⟨rfl, rfl⟩
    go_wp2_with fail
    refine (i2 _).mono ?_
    rintro e w3 ⟨rfl, rfl⟩
    go_wp2_with fail
    refine (i3 _).mono ?_
    rintro e w4 ⟨rfl, rfl⟩
    go_wp2_with fail
    go_ret
    exact ⟨Lb.ret_i hR.out, hU.out⟩
  have i0 := fun w => in_any E (decide_eq_true c0) w
  have i1 := fun w => in_any B (decide_eq_true c1) w
  have i2 := fun w => in_any P (decide_eq_true c2) w
  have i3 := fun w => in_any C (decide_eq_true c3) w
  by_cases c4 : E = 0
  · have hR : Hid ((2 : Int) = chk ⟨E, B, P, K, C, l⟩) := Lib.hid (chk_range (.inr (.inr (.inr (.inr c4))))).symm
    have d4 : (E == 0) = true := by rw [beq_iff_eq]; exact c4
    clear hv hnb c0 c1 c2 c3 c4
    go_enter Tryd.func15, Tryd.ntmps15
    go_wp2_with fail
    rw [hwb.out]
    go_wp2_with fail
    refine (i0 _).mono ?_
    rintro e w1 ⟨rfl, rfl⟩
    go_wp2_with fail
    refine (i1 _).mono ?_
    rintro e w2 ⟨rfl, rfl⟩
    go_wp2_with fail
    refine (i2 _).mono ?_
    rintro e w3 ⟨rfl, rfl⟩
    go_wp2_with fail
    refine (i3 _).mono ?_
    rintro e w4 ⟨rfl, rfl⟩
    go_wp2_with fail
    go_ret
    exact ⟨Lb.ret_i hR.out, hU.out⟩
  have d4 : (E == 0) = false := by rw [beq_eq_false_iff_ne]; exact c4
  have nb : ¬ badN ⟨E, B, P, K, C, l⟩ := fun h => h.elim (fun h => h c0) fun h => h.elim (fun h => h c1) fun h => h.elim (fun h => h c2) fun h => h.elim (fun h => h c3) c4
  by_cases c5 : P < E
  · have hR : Hid ((9 : Int) = chk ⟨E, B, P, K, C, l⟩) := Lib.hid (chk_order nb c5).symm
    clear hv hnb c0 c1 c2 c3 c4 nb
    go_enter Tryd.func15, Tryd.ntmps15
    go_wp2_with fail
    rw [hwb.out]
    go_wp2_with fail
    refine (i0 _).mono ?_
    rintro e w1 ⟨rfl, rfl⟩
    go_wp2_with fail
    refine (i1 _).mono ?_
    rintro e w2 ⟨rfl, rfl⟩
    go_wp2_with fail
    refine (i2 _).mono ?_
    rintro e w3 ⟨rfl, rfl⟩
    go_wp2_with fail
    refine (i3 _).mono ?_
    rintro e w4 ⟨rfl, rfl⟩
    go_wp2_with fail
    go_ret
    exact ⟨Lb.ret_i hR.out, hU.out⟩
  by_cases c6 : 16 < l.length
  · have hR : Hid ((8 : Int) = chk ⟨E, B, P, K, C, l⟩) := Lib.hid (chk_long nb c5 c6).symm
    have d6 : (16 : Int) < (l.length : Int) := by omega
    clear hv hnb c0 c1 c2 c3 c4 nb
    go_enter Tryd.func15, Tryd.ntmps15
    go_wp2_with fail
    rw [hwb.out]
    go_wp2_with fail
    refine (i0 _).mono ?_
    rintro e w1 ⟨rfl, rfl⟩
    go_wp2_with fail
    refine (i1 _).mono ?_
    rintro e w2 ⟨rfl, rfl⟩
    go_wp2_with fail
    refine (i2 _).mono ?_
    rintro e w3 ⟨rfl, rfl⟩
    go_wp2_with fail
    refine (i3 _).mono ?_
    rintro e w4 ⟨rfl, rfl⟩
    go_wp2_with fail
    go_ret
    exact ⟨Lb.ret_i hR.out, hU.out⟩
  have hbad : Hid (l.all nm = false → (3 : Int) = chk ⟨E, B, P, K, C, l⟩) := Lib.hid fun h => (chk_field nb c5 c6 h).symm
  have hgood : Hid (l.all nm = true → (0 : Int) = chk ⟨E, B, P, K, C, l⟩) := Lib.hid fun h => (chk_ok nb c5 c6 h).symm
  have d6 : ¬ (16 : Int) < (l.length : Int) := by omega
  clear c0 c1 c2 c3 c4 nb
  go_enter Tryd.func15, Tryd.ntmps15
  go_wp2_with fail
  rw [hwb.out]
  go_wp2_with fail
  refine (i0 _).mono ?_
  rintro e w1 ⟨rfl, rfl⟩
  go_wp2_with fail
  refine (i1 _).mono ?_
  rintro e w2 ⟨rfl, rfl⟩
  go_wp2_with fail
  refine (i2 _).mono ?_
  rintro e w3 ⟨rfl, rfl⟩
  go_wp2_with fail
  refine (i3 _).mono ?_
  rintro e w4 ⟨rfl, rfl⟩
  go_wp2_with fail
  clear i0 i1 i2 i3 k0 k1 k2 k3 k4
  go_loopw [3] (fun ov wr => ∃ j : Nat, ov = .int .i64 (j : Int) ∧ j ≤ l.length ∧ Hid (GoodN l j) ∧ wr = wb) (fun ov _ => l.length - (intOf ov).toNat)
  case atStart => exact ⟨0, rfl, Nat.zero_le _, Lib.hid (GoodN.start l), rfl⟩
  case round =>
    obtain ⟨j, rfl, hj, hg, rfl⟩ := hrel
    by_cases hlt : j < l.length
    · obtain ⟨b0, off, rfl, -, -, hcells⟩ := NView.cells hv.out (by omega)
      have x0 := hcells j hlt
      have hz := hnb.out _ (List.getElem_mem hlt)
      clear hcells
      cases hn : nm l[j] with
      | true =>
        have HF := Lib.hid (fun w => file_is l[j] hz hn w)
        have hG := Lib.hid (hg.out.step hlt hn)
        clear hg hn hz hv
        go_wp2_with fail
        refine (HF.out _).mono ?_
        rintro e w5 ⟨rfl, rfl⟩
        clear HF
        go_wp2_with fail
        go_roundw
        case rel => exact ⟨j + 1, by go_num, hlt, hG, (by first | rfl | trivial)⟩
        case measure => simp [intOf]; omega
      | false =>
        have HF := Lib.hid (fun w => file_is l[j] hz hn w)
        have hR := Lib.hid (hbad.out (badN_at hlt hn))
        clear hg hn hz hv
        go_wp2_with fail
        refine (HF.out _).mono ?_
        rintro e w5 ⟨rfl, rfl⟩
        clear HF
        go_wp2_with fail
        go_ret
        exact ⟨Lb.ret_i hR.out, hU.out⟩
    · have hR := Lib.hid (hgood.out (hg.out.last hlt))
      clear hg hv
      go_wp2_with fail
      go_ret
      exact ⟨Lb.ret_i hR.out, hU.out⟩
theorem four_at (a b c d : Int) (W : World) :
    (Instr.index 80 (.agg #[.int .i64 a, .int .i64 b, .int .i64 c, .int .i64 d]) (.int .i64 0)).run Tryd.prog W = .ok (.int .i64 a) W ∧
    (Instr.index 80 (.agg #[.int .i64 a, .int .i64 b, .int .i64 c, .int .i64 d]) (.int .i64 1)).run Tryd.prog W = .ok (.int .i64 b) W ∧
    (Instr.index 80 (.agg #[.int .i64 a, .int .i64 b, .int .i64 c, .int .i64 d]) (.int .i64 2)).run Tryd.prog W = .ok (.int .i64 c) W ∧
    (Instr.index 80 (.agg #[.int .i64 a, .int .i64 b, .int .i64 c, .int .i64 d]) (.int .i64 3)).run Tryd.prog W = .ok (.int .i64 d) W := ⟨by kernel_rfl, by kernel_rfl, by kernel_rfl, by kernel_rfl⟩
/-- Of the first j numbers each is in its bounds. -/
def Nums (E B P C : Int) : Nat → Prop
  | 0 => True
  | 1 => inB E
  | 2 => inB E ∧ inB B
  | 3 => inB E ∧ inB B ∧ inB P
  | _ => inB E ∧ inB B ∧ inB P ∧ inB C
set_option maxHeartbeats 6400000 in
theorem pcheck_any (w : World) (S : Nat → Prop) (v : Value) (m : M) (hv : MView w S v m) (hb : Bnd m) :
    Calls Tryd.prog 14 #[v] w fun e w' => e = .returned (.int .i64 (chk m)) ∧ New0 w w' := by
  obtain ⟨A, c, rfl, hn⟩ := hv.shape
  obtain ⟨E, B, P, K, C, l⟩ := m
  have hnb : NBnd l := hb.nms
  simp only at hn ⊢
  clear hb hv
  obtain ⟨wb, hwb⟩ : ∃ wb, w.alloc (.cells #[.int .i64 E, .int .i64 B, .int .i64 P, .int .i64 K, .int .i64 C, .slice A l.length c] 26 (0, 0)) = wb := ⟨_, rfl⟩
  have hB := box6 26 w (.int .i64 E) (.int .i64 B) (.int .i64 P) (.int .i64 K) (.int .i64 C) (.slice A l.length c)
  have hU := Lib.hid ((Upon.refl (fun _ => False) w).alloc (.cells #[.int .i64 E, .int .i64 B, .int .i64 P, .int .i64 K, .int .i64 C, .slice A l.length c] 26 (0, 0)))
  have hv := hn.new ((Upon.refl (fun _ => False) w).alloc (.cells #[.int .i64 E, .int .i64 B, .int .i64 P, .int .i64 K, .int .i64 C, .slice A l.length c] 26 (0, 0)))
  rw [hwb] at hB hU hv
  obtain ⟨k0, k1, k2, k3, k4, k5⟩ := hB.cells
  replace hv := Lib.hid hv
  replace hnb := Lib.hid hnb
  replace hwb := Lib.hid hwb
  have q0 := fun W => (four_at E B P C W).1
  have q1 := fun W => (four_at E B P C W).2.1
  have q2 := fun W => (four_at E B P C W).2.2.1
  have q3 := fun W => (four_at E B P C W).2.2.2
  have hbad : Hid (badN ⟨E, B, P, K, C, l⟩ → (2 : Int) = chk ⟨E, B, P, K, C, l⟩) := Lib.hid fun h => (chk_range h).symm
  clear hn hB
  go_enter Tryd.func14, Tryd.ntmps14
  go_wp2_with fail
  rw [hwb.out]
  go_wp2_with fail
  go_loopw [14] (fun ov wr => ∃ i : Nat, ov = .int .i64 (i : Int) ∧ i ≤ 4 ∧ Hid (Nums E B P C i) ∧ wr = wb) (fun ov _ => 4 - (intOf ov).toNat)
  case atStart => exact ⟨0, rfl, by omega, Lib.hid trivial, rfl⟩
  case round =>
    obtain ⟨i, rfl, hi, hN, rfl⟩ := hrel
    rcases (show i = 0 ∨ i = 1 ∨ i = 2 ∨ i = 3 ∨ i = 4 by omega) with rfl | rfl | rfl | rfl | rfl
    · by_cases a0 : E < 0
      · have hR := Lib.hid (hbad.out (have h : ¬ inB E := (by unfold inB; omega); .inl h))
        clear hbad hN hv hnb
        go_wp2_with fail
        go_ret
        exact ⟨Lb.ret_i hR.out, hU.out⟩
      by_cases b0 : 99999999 < E
      · have hR := Lib.hid (hbad.out (have h : ¬ inB E := (by unfold inB; omega); .inl h))
        clear hbad hN hv hnb
        go_wp2_with fail
        go_ret
        exact ⟨Lb.ret_i hR.out, hU.out⟩
      have hN2 : Hid (Nums E B P C 1) := Lib.hid (show inB E by unfold inB; omega)
      clear hbad hN hv hnb
      go_wp2_with fail
      go_roundw
      case rel => exact ⟨1, rfl, by omega, hN2, (by first | rfl | trivial)⟩
      case measure => simp [intOf]
    · by_cases a1 : B < 0
      · have hR := Lib.hid (hbad.out (have h : ¬ inB B := (by unfold inB; omega); .inr (.inl h)))
        clear hbad hN hv hnb
        go_wp2_with fail
        go_ret
        exact ⟨Lb.ret_i hR.out, hU.out⟩
      by_cases b1 : 99999999 < B
      · have hR := Lib.hid (hbad.out (have h : ¬ inB B := (by unfold inB; omega); .inr (.inl h)))
        clear hbad hN hv hnb
        go_wp2_with fail
        go_ret
        exact ⟨Lb.ret_i hR.out, hU.out⟩
      have hN2 : Hid (Nums E B P C 2) := Lib.hid ⟨hN.out, (show inB B by unfold inB; omega)⟩
      clear hbad hN hv hnb
      go_wp2_with fail
      go_roundw
      case rel => exact ⟨2, rfl, by omega, hN2, (by first | rfl | trivial)⟩
      case measure => simp [intOf]
    · by_cases a2 : P < 0
      · have hR := Lib.hid (hbad.out (have h : ¬ inB P := (by unfold inB; omega); .inr (.inr (.inl h))))
        clear hbad hN hv hnb
        go_wp2_with fail
        go_ret
        exact ⟨Lb.ret_i hR.out, hU.out⟩
      by_cases b2 : 99999999 < P
      · have hR := Lib.hid (hbad.out (have h : ¬ inB P := (by unfold inB; omega); .inr (.inr (.inl h))))
        clear hbad hN hv hnb
        go_wp2_with fail
        go_ret
        exact ⟨Lb.ret_i hR.out, hU.out⟩
      have hN2 : Hid (Nums E B P C 3) := Lib.hid ⟨hN.out.1, hN.out.2, (show inB P by unfold inB; omega)⟩
      clear hbad hN hv hnb
      go_wp2_with fail
      go_roundw
      case rel => exact ⟨3, rfl, by omega, hN2, (by first | rfl | trivial)⟩
      case measure => simp [intOf]
    · by_cases a3 : C < 0
      · have hR := Lib.hid (hbad.out (have h : ¬ inB C := (by unfold inB; omega); .inr (.inr (.inr (.inl h)))))
        clear hbad hN hv hnb
        go_wp2_with fail
        go_ret
        exact ⟨Lb.ret_i hR.out, hU.out⟩
      by_cases b3 : 99999999 < C
      · have hR := Lib.hid (hbad.out (have h : ¬ inB C := (by unfold inB; omega); .inr (.inr (.inr (.inl h)))))
        clear hbad hN hv hnb
        go_wp2_with fail
        go_ret
        exact ⟨Lb.ret_i hR.out, hU.out⟩
      have hN2 : Hid (Nums E B P C 4) := Lib.hid ⟨hN.out.1, hN.out.2.1, hN.out.2.2, (show inB C by unfold inB; omega)⟩
      clear hbad hN hv hnb
      go_wp2_with fail
      go_roundw
      case rel => exact ⟨4, rfl, by omega, hN2, (by first | rfl | trivial)⟩
      case measure => simp [intOf]
    · obtain ⟨n0, n1, n2, n3⟩ : inB E ∧ inB B ∧ inB P ∧ inB C := hN.out
      clear hN q0 q1 q2 q3
      by_cases c4 : E < 1
      · have hR := Lib.hid (hbad.out (.inr (.inr (.inr (.inr (show E = 0 by unfold inB at n0; omega))))))
        clear hbad hv hnb n0 n1 n2 n3
        go_wp2_with fail
        go_ret
        exact ⟨Lb.ret_i hR.out, hU.out⟩
      have nb : ¬ badN ⟨E, B, P, K, C, l⟩ := fun h => h.elim (fun h => h n0) fun h => h.elim (fun h => h n1) fun h => h.elim (fun h => h n2) fun h => h.elim (fun h => h n3) fun h => by simp only at h; omega
      clear hbad n0 n1 n2 n3
      by_cases c5 : P < E
      · have hR : Hid ((9 : Int) = chk ⟨E, B, P, K, C, l⟩) := Lib.hid (chk_order nb c5).symm
        clear hv hnb nb
        go_wp2_with fail
        go_ret
        exact ⟨Lb.ret_i hR.out, hU.out⟩
      by_cases c6 : 16 < l.length
      · have hR : Hid ((8 : Int) = chk ⟨E, B, P, K, C, l⟩) := Lib.hid (chk_long nb c5 c6).symm
        have d6 : (16 : Int) < (l.length : Int) := by omega
        clear hv hnb nb c6
        go_wp2_with fail
        go_ret
        exact ⟨Lb.ret_i hR.out, hU.out⟩
      have hno : Hid (l.all nm = false → (3 : Int) = chk ⟨E, B, P, K, C, l⟩) := Lib.hid fun h => (chk_field nb c5 c6 h).symm
      have hgood : Hid (l.all nm = true → (0 : Int) = chk ⟨E, B, P, K, C, l⟩) := Lib.hid fun h => (chk_ok nb c5 c6 h).symm
      have d6 : ¬ (16 : Int) < (l.length : Int) := by omega
      cases hn : l.all nm with
      | true =>
        have HA := Lib.hid (pnames_any wr S _ l hv.out hnb.out (by omega) hn)
        have hR := Lib.hid (hgood.out hn)
        clear hno hgood hn hv hnb nb c6
        go_wp2_with fail
        refine HA.out.mono ?_
        rintro e w2 ⟨rfl, hu2⟩
        have hend := Lib.hid (hU.out.trans hu2)
        clear HA hu2 k0 k1 k2 k3 k4 k5
        go_wp2_with fail
        go_ret
        exact ⟨Lb.ret_i hR.out, hend.out⟩
      | false =>
        have HA := Lib.hid (pnames_any wr S _ l hv.out hnb.out (by omega) hn)
        have hR := Lib.hid (hno.out hn)
        clear hno hgood hn hv hnb nb c6
        go_wp2_with fail
        refine HA.out.mono ?_
        rintro e w2 ⟨rfl, hu2⟩
        have hend := Lib.hid (hU.out.trans hu2)
        clear HA hu2 k0 k1 k2 k3 k4 k5
        go_wp2_with fail
        go_ret
        exact ⟨Lb.ret_i hR.out, hend.out⟩
end Mf
end Go.Proofs.YtjpgglajcelllaaDoor
