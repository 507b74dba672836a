/- Layer 12: the law's own Great (is a record too much to be looked at). -/
import Derived.Test.YtkachkoiajdhgaaRcLaw0
set_option maxRecDepth 100000
namespace Go.Proofs.Ytkachkoiajdhgaa
open Go.RowKit Go.Sort
namespace Rc
open Bit Dsk Ob Dig Lb
set_option linter.unusedVariables false

/-- A sample that is small. -/
def Fine (x : Smp) : Prop := x.1.length < 1000 ∧ ∀ k (h : k < x.1.length), x.1[k].1.size < 100000 ∧ x.1[k].2.size < 100000
set_option maxHeartbeats 12800000 in
theorem great_any (w : World) (v : Value) (r : R) (hv : RView w All v r) (hb : Bnd r) (hl1 : r.smp.length * 40 ≤ 140737488351232) (hl2 : r.ms.length * 40 ≤ 140737488351232) :
    Calls Try.prog 8 #[v] w fun e w' => ∃ b, e = .returned (.bool b) ∧ New0 w w' ∧ (b = false → r.ms.length < 1000 ∧ r.smp.length < 1000 ∧ ∀ i (h : i < r.smp.length), Fine r.smp[i]) := by
  obtain ⟨A, c, A', c', rfl, hs, hm⟩ := RView.shape hv
  obtain ⟨k, l, ms, a, b⟩ := r
  simp only at hs hm hl1 hl2 ⊢
  obtain ⟨wb, hwb⟩ : ∃ wb, w.alloc (.cells #[.int .i64 k, .slice A l.length c, .slice A' ms.length c', .int .i64 a, .int .i64 b] 25 (0, 0)) = wb := ⟨_, rfl⟩
  have hX := box5 w k (.slice A l.length c) (.slice A' ms.length c') a b
  have ub : New0 w wb := by rw [← hwb]; exact (Upon.refl _ w).alloc _
  rw [hwb] at hX
  obtain ⟨g0, g1, g2, g3, g4⟩ := hX
  have hS := Lib.hid (hs.new ub)
  have hU := Lib.hid ub
  have hbs := Lib.hid hb.smp
  have hfew : l.length ≤ 3518437208780 := by omega
  have hfew2 : ms.length ≤ 3518437208780 := by omega
  have hB := Lib.hid (fun w' (hu : New0 wb w') => And.intro (Lb.New0.cells hu g1) (Lb.New0.cells hu g2))
  replace hwb := Lib.hid hwb
  clear hv hb hs hm hl1 hl2 ub
  go_enter Try.func8, Try.ntmps8
  go_wp2_with fail
  rw [hwb.out]
  go_wp2_with fail
  go_loopw [3, 4] (fun nv ov wr => ∃ N j : Nat, nv = .int .i64 (N : Int) ∧ ov = .int .i64 (j : Int) ∧ j ≤ l.length ∧ N ≤ 9223372036854775807 ∧ Hid (N < 1000 → ms.length + j ≤ N ∧ ∀ i (h : i < l.length), i < j → Fine l[i]) ∧ Hid (New0 wb wr)) (fun _ ov _ => l.length - (intOf ov).toNat)
  case atStart => exact ⟨ms.length, 0, rfl, rfl, Nat.zero_le _, by omega, Lib.hid (fun _ => ⟨Nat.le_refl _, fun i h hi => absurd hi (by omega)⟩), Lib.hid (Upon.refl _ _)⟩
  case round =>
    clear hwb g0 g1 g2 g3 g4
    obtain ⟨N, j, rfl, rfl, hj, hN, hf, hu⟩ := hrel
    obtain ⟨c1, c2⟩ := hB.out _ hu.out
    by_cases hlt : j < l.length
    · by_cases hlN : N < 1000
      · have e1 : (N : Int) < 1000 := by omega
        have e2 : decide ((N : Int) < 1000) = true := decide_eq_true e1
        obtain ⟨b0, off, rfl, -, hcells⟩ := SView.cells hS.out (by omega)
        obtain ⟨⟨xa, xn, xc⟩, hxv, x0, -, -⟩ := hcells j hlt
        have hbx := hbs.out _ (List.getElem_mem hlt)
        have hfj := hf.out hlN
        obtain ⟨x, hx⟩ : ∃ x, l[j] = x := ⟨_, rfl⟩
        have hstep : ∀ N', N ≤ N' → N + 1 ≤ N' → Fine x → (ms.length + (j + 1) ≤ N' ∧ ∀ i (h : i < l.length), i < j + 1 → Fine l[i]) := fun N' _ h1 h2 => ⟨by omega, fun i h hi => by
          by_cases hi2 : i < j
          · exact hfj.2 i h hi2
          · obtain rfl : i = j := by omega
            rw [hx]; exact h2⟩
        rw [hx] at hxv hbx
        obtain ⟨ls, t, q⟩ := x
        simp only at hxv hbx x0
        obtain ⟨A9, c9, e9, -, -⟩ := Rw.View.shape hxv
        injection e9 with e91 e92 e93
        subst e91 e92 e93
        have hsm := Lib.hid hbx.1
        have hbl := hbx.2.1
        simp only at hbl
        replace hstep := Lib.hid hstep
        replace hxv := Lib.hid hxv
        replace x0 : wb.cell? ⟨b0, off + j * 3, none⟩ = some (.slice xa ls.length xc) := x0
        have hx0 := Lib.hid (fun w' (hu : New0 wb w') => Lb.New0.cells hu x0)
        replace x0 := hx0.out _ hu.out
        clear hcells hbx hfj hx hf
        go_wp2_with fail
        go_loopw [3, 5] (fun nv ov wr' => ∃ M i : Nat, nv = .int .i64 (M : Int) ∧ ov = .int .i64 (i : Int) ∧ i ≤ ls.length ∧ N + 1 + ls.length ≤ M ∧ M ≤ 9223372036854775807 ∧ Hid (M < 1000 → ∀ k (h : k < ls.length), k < i → ls[k].1.size < 100000 ∧ ls[k].2.size < 100000) ∧ Hid (New0 wb wr')) (fun _ ov _ => ls.length - (intOf ov).toNat)
        case atStart => exact ⟨N + 1 + ls.length, 0, by go_num, rfl, Nat.zero_le _, Nat.le_refl _, by omega, Lib.hid (fun _ k h hk => absurd hk (by omega)), hu⟩
        case round =>
          clear c1 c2 x0 hu
          obtain ⟨M, i, rfl, rfl, hi, hNM, hM, hg, hu⟩ := hrel
          obtain ⟨c1, c2⟩ := hB.out _ hu.out
          have x0 := hx0.out _ hu.out
          by_cases hli : i < ls.length
          · by_cases hlM : M < 1000
            · have e3 : (M : Int) < 1000 := by omega
              have e4 : decide ((M : Int) < 1000) = true := decide_eq_true e3
              obtain ⟨b1, of1, rfl, -, -, hpc⟩ := Lb.View.cells hxv.out (by omega)
              obtain ⟨y0, y1⟩ := hpc i hli
              replace y0 := Lb.New0.cells hu.out y0
              replace y1 := Lb.New0.cells hu.out y1
              go_wp2_with fail
              have z1 := hsm.out _ (List.getElem_mem hli)
              obtain ⟨⟨pa, pb⟩, hp⟩ : ∃ p, ls[i] = p := ⟨_, rfl⟩
              rw [hp] at y0 y1 z1
              simp only at y0 y1 z1
              go_region
              have hgo : Hid (M + pa.size / 100 + pb.size / 100 < 1000 → ∀ k (h : k < ls.length), k < i + 1 → ls[k].1.size < 100000 ∧ ls[k].2.size < 100000) := Lib.hid (fun hM' k h hk => by
                by_cases hki : k < i
                · exact hg.out hlM k h hki
                · obtain rfl : k = i := by omega
                  rw [hp]
                  exact ⟨show pa.size < 100000 by omega, show pb.size < 100000 by omega⟩)
              clear hg hp
              all_goals
                go_wp2_with fail
                go_roundw
                case rel => exact ⟨M + pa.size / 100 + pb.size / 100, i + 1, by first | rfl | go_num | (congr 1; omega), by go_num, hli, by omega, by omega, hgo, Lib.hid (Upon.drew hu.out)⟩
                case measure => simp [intOf]; omega
            · have e3 : ¬ (M : Int) < 1000 := by omega
              have e4 : decide ((M : Int) < 1000) = false := decide_eq_false e3
              go_wp2_with fail
              go_roundw
              case rel => exact ⟨M, j + 1, rfl, by go_num, hlt, hM, Lib.hid (fun h => absurd h hlM), hu⟩
              case measure => simp [intOf]; omega
          · have hil : i = ls.length := by omega
            have hst := hstep.out M (by omega) (by omega)
            go_wp2_with fail
            go_roundw
            case rel => exact ⟨M, j + 1, rfl, by go_num, hlt, hM, Lib.hid (fun h => hst ⟨(show ls.length < 1000 by omega), fun k hk => hg.out h k hk (Nat.lt_of_lt_of_eq hk hil.symm)⟩), hu⟩
            case measure => simp [intOf]; omega
      · have e1 : ¬ (N : Int) < 1000 := by omega
        have e2 : decide ((N : Int) < 1000) = false := decide_eq_false e1
        have e3 : (1000 : Int) ≤ (N : Int) := by omega
        have e4 : decide ((1000 : Int) ≤ (N : Int)) = true := decide_eq_true e3
        go_wp2_with fail
        go_ret
        exact .inr ⟨rfl, hU.out.trans hu.out⟩
    · have hjl : j = l.length := by omega
      by_cases hlN : N < 1000
      · have hfj := hf.out hlN
        have e1 : ¬ (1000 : Int) ≤ (N : Int) := by omega
        have e2 : decide ((1000 : Int) ≤ (N : Int)) = false := decide_eq_false e1
        go_wp2_with fail
        go_ret
        exact .inl ⟨rfl, hU.out.trans hu.out, by omega, by omega, fun i h => hfj.2 i h (by omega)⟩
      · have e1 : (1000 : Int) ≤ (N : Int) := by omega
        have e2 : decide ((1000 : Int) ≤ (N : Int)) = true := decide_eq_true e1
        go_wp2_with fail
        go_ret
        exact ⟨true, rfl, hU.out.trans hu.out, fun h => by cases h⟩
end Rc
end Go.Proofs.Ytkachkoiajdhgaa
