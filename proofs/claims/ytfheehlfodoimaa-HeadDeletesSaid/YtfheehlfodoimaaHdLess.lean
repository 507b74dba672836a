/- Layer 13's law on deletes: less, points that are not among others. -/
import Derived.Test.YtfheehlfodoimaaPHd1
import Derived.Test.YtfheehlfodoimaaPHd3
import Derived.Laws.StructEq
set_option maxRecDepth 100000
namespace Go.Proofs.Ytfheehlfodoimaa
open Go.RowKit Go.Sort
namespace Hd
open Bit Dsk Ob Dig
set_option linter.unusedVariables false

theorem pt_eql (w : World) (a1 a2 b1 b2 : Int) : (binOp .eql 58 (.agg #[.int .i64 a1, .int .u64 a2]) (.agg #[.int .i64 b1, .int .u64 b2])).run Try.prog w = .ok (.bool (if a1 = b1 then decide (a2 = b2) else false)) w := by
  rw [run_eql_struct, show (10000 : Nat) = 9998 + 1 + 1 from rfl, run_equalIn_agg w _ _ _ _ (by kernel_rfl) (by kernel_rfl)]
  by_cases h : a1 = b1
  · subst h
    by_cases h2 : a2 = b2
    · simp [go_sem, h2, Try.underlying58, Try.underlying2, Try.underlying50]
    · simp [go_sem, h2, Try.underlying58, Try.underlying2, Try.underlying50]
  · simp [go_sem, h, Try.underlying58, Try.underlying2, Try.underlying50]
theorem pt_same (w : World) (a b : Int) : (binOp .eql 58 (.agg #[.int .i64 a, .int .u64 b]) (.agg #[.int .i64 a, .int .u64 b])).run Try.prog w = .ok (.bool true) w := by
  rw [pt_eql, if_pos rfl, decide_eq_true rfl]
theorem pt_other (w : World) (a1 b1 : Int) (a2 b2 : Nat) (h : ((a1, a2) : Pt) ≠ (b1, b2)) : (binOp .eql 58 (.agg #[.int .i64 a1, .int .u64 (a2 : Int)]) (.agg #[.int .i64 b1, .int .u64 (b2 : Int)])).run Try.prog w = .ok (.bool false) w := by
  rw [pt_eql]
  by_cases e : a1 = b1
  · rw [if_pos e, decide_eq_false (fun k => h (by rw [e, show a2 = b2 by omega]))]
  · rw [if_neg e]
theorem less_take (l b : List Pt) {j : Nat} (hj : j < l.length) : lessL (l.take (j + 1)) b = lessL (l.take j) b ++ (if l[j] ∈ b then [] else [l[j]]) := by
  rw [List.take_succ_eq_append_getElem hj, lessL, List.filter_append, lessL]
  congr 1
  rw [List.filter_cons, List.filter_nil]
  by_cases h : l[j] ∈ b
  · rw [if_pos h, decide_eq_false (fun k => k h)]; rfl
  · rw [if_neg h, decide_eq_true h]; rfl
theorem less_le (l b : List Pt) (j : Nat) : (lessL (l.take j) b).length ≤ l.length := Nat.le_trans (List.length_filter_le _ _) (by rw [List.length_take]; omega)
theorem mem_take {b : List Pt} {i : Nat} (hi : i < b.length) (p : Pt) : p ∈ b.take (i + 1) ↔ p ∈ b.take i ∨ p = b[i] := by
  rw [List.take_succ_eq_append_getElem hi, List.mem_append, List.mem_singleton]
set_option maxHeartbeats 3200000 in
theorem less_any (w : World) (S S' : Nat → Prop) (v v2 : Value) (l b : List Pt) (hv : Rw.View layP w S v l) (hv2 : Rw.View layP w S' v2 b) (hlen : l.length ≤ 1000000000) :
    Calls Try.prog 16 #[v, v2] w fun e w' => ∃ u, e = .returned u ∧ OwnP w w' u (lessL l b) := by
  obtain ⟨A, c, rfl, -, -⟩ := Rw.View.shape hv
  obtain ⟨B, cb, rfl, hb1, hb2⟩ := Rw.View.shape hv2
  have hlb := Nat.le_trans hb1 hb2
  unfold maxLen at hlb
  clear hb1 hb2
  replace hv := Lib.hid hv
  replace hv2 := Lib.hid hv2
  have hlen2 := Lib.hid hlen
  go_enter Try.func16, Try.ntmps16
  go_wp2_with fail
  go_loopw [5, 6] (fun u ov wr => ∃ (j : Nat) (m : List Pt), ov = .int .i64 (j : Int) ∧ j ≤ l.length ∧ Hid (lessL (l.take j) b = m) ∧ Hid (OwnP w wr u m)) (fun _ ov _ => l.length - (intOf ov).toNat)
  case atStart => exact ⟨0, [], rfl, Nat.zero_le _, Lib.hid (by simp [lessL]), Lib.hid ⟨Rw.Mine.nil _ _ _, fun g hg => (by cases hg), Upon.refl _ _⟩⟩
  case round =>
    obtain ⟨j, m, rfl, hj, hm, ho⟩ := hrel
    obtain ⟨A7, c7, hu7, -, -⟩ := Rw.View.shape ho.out.1.view
    subst hu7
    by_cases hlt : j < l.length
    · obtain ⟨g, off, rfl, -, -, hc⟩ := pview hv.out (by omega)
      obtain ⟨x0, x1⟩ := hc j hlt
      have hst := less_take l b hlt
      have hle := less_le l b j
      obtain ⟨⟨t, q⟩, hp⟩ : ∃ p, l[j] = p := ⟨_, rfl⟩
      rw [hp] at x0 x1 hst
      simp only at x0 x1
      rw [hm.out] at hst hle
      replace hst := Lib.hid hst
      have hX0 := Lib.hid (fun wq (hu : New0 w wq) => Lb.New0.cells hu x0)
      have hX1 := Lib.hid (fun wq (hu : New0 w wq) => Lb.New0.cells hu x1)
      clear hc hp hm x0 x1
      go_wp2_with fail
      go_loopw [7, 8] (fun nv ov wr' => ∃ i : Nat, nv = .bool (decide (((t, q) : Pt) ∈ b.take i)) ∧ ov = .int .i64 (i : Int) ∧ i ≤ b.length ∧ Hid (OwnP w wr' (.slice A7 m.length c7) m)) (fun _ ov _ => b.length - (intOf ov).toNat)
      case atStart => exact ⟨0, by simp, rfl, Nat.zero_le _, ho⟩
      case round =>
        clear ho
        obtain ⟨i, rfl, rfl, hi, ho⟩ := hrel
        by_cases hib : i < b.length
        · have hmt := mem_take hib ((t, q) : Pt)
          by_cases hin : ((t, q) : Pt) ∈ b.take i
          · have d1 : decide (((t, q) : Pt) ∈ b.take i) = true := decide_eq_true hin
            have d2 : Hid (decide (((t, q) : Pt) ∈ b.take (i + 1)) = true) := Lib.hid (decide_eq_true (hmt.2 (Or.inl hin)))
            clear hmt hin
            rw [d1]
            clear d1
            go_wp2_with fail
            go_quiet (fail)
            go_wp2_with fail
            go_roundw
            case rel => exact ⟨i + 1, by rw [d2.out], by go_num, hib, Lib.hid (ho.out.step (upon_drewN _ _ _))⟩
            case measure => simp [intOf]; omega
          · have d1 : decide (((t, q) : Pt) ∈ b.take i) = false := decide_eq_false hin
            obtain ⟨g2, off2, rfl, -, -, hc2⟩ := pview hv2.out (by omega)
            obtain ⟨y0, y1⟩ := hc2 i hib
            replace y0 := Lb.New0.cells ho.out.2.2 y0
            replace y1 := Lb.New0.cells ho.out.2.2 y1
            have x0 := hX0.out _ ho.out.2.2
            have x1 := hX1.out _ ho.out.2.2
            clear hc2
            obtain ⟨⟨t2, q2⟩, hp2⟩ : ∃ p, b[i] = p := ⟨_, rfl⟩
            rw [hp2] at y0 y1 hmt
            simp only at y0 y1
            rw [d1]
            clear d1 hp2
            by_cases he : ((t, q) : Pt) = (t2, q2)
            · have d2 : Hid (decide (((t, q) : Pt) ∈ b.take (i + 1)) = true) := Lib.hid (decide_eq_true (hmt.2 (Or.inr he)))
              injection he with e1 e2
              subst e1 e2
              have hq := fun wq => pt_same wq t (q : Int)
              clear hmt hin
              go_wp2_with fail
              go_quiet (fail)
              go_wp2_with fail
              go_roundw
              case rel => exact ⟨i + 1, by rw [d2.out], by go_num, hib, Lib.hid (ho.out.step (upon_drewN _ _ _))⟩
              case measure => simp [intOf]; omega
            · have d2 : Hid (decide (((t, q) : Pt) ∈ b.take (i + 1)) = false) := Lib.hid (decide_eq_false (fun k => (hmt.1 k).elim hin he))
              have hq := fun wq => pt_other wq t t2 q q2 he
              clear hmt hin he
              go_wp2_with fail
              go_quiet (fail)
              go_wp2_with fail
              go_roundw
              case rel => exact ⟨i + 1, by rw [d2.out], by go_num, hib, Lib.hid (ho.out.step (upon_drewN _ _ _))⟩
              case measure => simp [intOf]; omega
        · have hie : i = b.length := by omega
          subst hie
          rw [List.take_length]
          by_cases hin : ((t, q) : Pt) ∈ b
          · rw [decide_eq_true hin]
            have hst2 := hst.out
            rw [if_pos hin, List.append_nil] at hst2
            replace hst2 := Lib.hid hst2
            clear hst hin
            go_wp2_with fail
            go_roundw
            case rel => exact ⟨j + 1, m, by go_num, hlt, hst2, ho⟩
            case measure => simp [intOf]; omega
          · rw [decide_eq_false hin]
            have hst2 := hst.out
            rw [if_neg hin] at hst2
            replace hst2 := Lib.hid hst2
            clear hst hin
            have x0 := hX0.out _ ho.out.2.2
            have x1 := hX1.out _ ho.out.2.2
            have hX := Lib.hid (pview_one wr t q)
            have hM := Lib.hid (ho.out.1.new ((Upon.refl _ wr).alloc (.cells #[.int .i64 t, .int .u64 (q : Int)] 58 (0, 0))))
            have hO := Lib.hid (ho.out.step ((Upon.refl _ wr).alloc (.cells #[.int .i64 t, .int .u64 (q : Int)] 58 (0, 0))))
            clear ho
            go_wp2_with (at_builtin; refine Rw.wpList_append typP rfl _ _ rfl _ _ m [(t, q)] All rfl rfl hM.out hX.out (by rw [List.length_singleton]; omega) (by rw [List.length_singleton]; omega) ?_)
            intro v' w6 hown hgr hbl
            have h6 := Lib.hid (hO.out.app hown hgr (hbl.imp id fun h => h.trans (by simp)))
            clear hM hO hX hown hgr hbl
            go_wp2_with fail
            go_roundw
            case rel => exact ⟨j + 1, _, by go_num, hlt, hst2, h6⟩
            case measure => simp [intOf]; omega
    · have hje : j = l.length := by omega
      have hR : Hid (OwnP w wr (.slice A7 m.length c7) (lessL l b)) := Lib.hid (by
        have := ho.out
        rwa [← show lessL l b = m by rw [← hm.out, hje, List.take_length]] at this ⊢)
      clear ho hje hm
      go_wp2_with fail
      go_ret
      exact ⟨_, rfl, hR.out⟩
end Hd
end Go.Proofs.Ytfheehlfodoimaa
