/- Parts, put together: RcThr, RcRd, RcRd2, RcRd3, RcChk. -/
import Derived.Test.YtlgjbcmloochiaaGreatDoorZaPRow
import Derived.Test.YtlgjbcmloochiaaGreatDoorZaPDig
import Derived.Laws.Panics
import Derived.Test.YtlgjbcmloochiaaGreatDoorZaPRc1
import Derived.Test.YtlgjbcmloochiaaGreatDoorZaPLb2
import Derived.Test.YtlgjbcmloochiaaGreatDoorZaPMt2

/- The program's reader of records (layer 12): throw, pass. -/
section
set_option maxRecDepth 100000
namespace Go.Proofs.YtlgjbcmloochiaaGreatDoor
open Go.RowKit Go.Sort
namespace Rc
open Bit Dsk Ob Dig
set_option linter.unusedVariables false

end Rc
end Go.Proofs.YtlgjbcmloochiaaGreatDoor
end

/- The program's reader of records (layer 12): numbers, times, labels, matchers. -/
section
set_option maxRecDepth 100000
namespace Go.Proofs.YtlgjbcmloochiaaGreatDoor
open Go.RowKit Go.Sort
namespace Rc
open Bit Dsk Ob Dig Lb
set_option linter.unusedVariables false

section
variable {J : Ob.Rel} {p : Nat} {s : ByteArray} {w0 w : World}
end
end Rc
end Go.Proofs.YtlgjbcmloochiaaGreatDoor
end

/- The program's reader of records (layer 12): a sample, samples. -/
section
set_option maxRecDepth 100000
namespace Go.Proofs.YtlgjbcmloochiaaGreatDoor
open Go.RowKit Go.Sort
namespace Rc
open Bit Dsk Ob Dig Lb
set_option linter.unusedVariables false

section
variable {J : Ob.Rel} {p : Nat} {s : ByteArray} {w0 w : World}
end
end Rc
end Go.Proofs.YtlgjbcmloochiaaGreatDoor
end

/- The program's reader of records (layer 12): samples, a record, the end. -/
section
set_option maxRecDepth 100000
namespace Go.Proofs.YtlgjbcmloochiaaGreatDoor
open Go.RowKit Go.Sort
namespace Rc
open Bit Dsk Ob Dig Lb
set_option linter.unusedVariables false
set_option linter.unusedSimpArgs false

theorem count_any (n : Nat) (h : n < 18446744073709551616) (w : World) :
    Calls Tryz.prog 127 #[.int .u64 (n : Int)] w fun r w' => r = .returned (.bool (decide (1 ≤ n) && decide (n ≤ 32))) ∧ w' = w := by
  have e1 : decide ((n : Int) ≥ 1) = decide (1 ≤ n) := by
    by_cases c : 1 ≤ n
    · rw [decide_eq_true c]; exact decide_eq_true (by omega)
    · rw [decide_eq_false c]; exact decide_eq_false (by omega)
  have e2 : decide ((n : Int) ≤ 32) = decide (n ≤ 32) := by
    by_cases c : n ≤ 32
    · rw [decide_eq_true c]; exact decide_eq_true (by omega)
    · rw [decide_eq_false c]; exact decide_eq_false (by omega)
  by_cases c : 1 ≤ n
  · have d : (1 : Int) ≤ (n : Int) := by omega
    go_enter Tryz.func127, Tryz.ntmps127
    go_wp2
    go_ret
    exact ⟨by simp [c, e2], rfl⟩
  · have d : ¬ (1 : Int) ≤ (n : Int) := by omega
    go_enter Tryz.func127, Tryz.ntmps127
    go_wp2
    go_ret
    exact ⟨by simp [c], rfl⟩
section
variable {J : Ob.Rel} {p : Nat} {s : ByteArray} {w0 w : World}
end
end Rc
end Go.Proofs.YtlgjbcmloochiaaGreatDoor
end

/- The program's records (layer 12): Check. -/
section
set_option maxRecDepth 100000
namespace Go.Proofs.YtlgjbcmloochiaaGreatDoor
open Go.RowKit Go.Sort
namespace Rc
open Bit Dsk Ob Dig
set_option linter.unusedVariables false

set_option maxHeartbeats 6400000 in
theorem com_any (w : World) (S : Nat → Prop) (v : Value) (r : R) (hv : RView w S v r) (hb : Bnd r) (hk1 : r.kind = 1) :
    Calls Tryz.prog 77 #[v] w fun e w' => e = .returned (.int .i64 (chk r : Int)) ∧ New0 w w' := by
  obtain ⟨A, c, A', c', rfl, hs, hm⟩ := RView.shape hv
  obtain ⟨k, l, ms, a, b⟩ := r
  simp only at hs hm hk1 ⊢
  subst hk1
  have hB := box5 w 1 (.slice A l.length c) (.slice A' ms.length c') a b
  have hU := Lib.hid ((Upon.refl (fun _ => False) w).alloc (.cells #[.int .i64 1, .slice A l.length c, .slice A' ms.length c', .int .i64 a, .int .i64 b] 50 (0, 0)))
  have HL := Lib.hid (fun w1 (hu : New0 w w1) x s (hx : Lb.View w S s x) (hsm : Lb.Sml x) => Lb.check_any w1 S s x (Rw.View.new hx hu) hsm)
  have hsml : Hid (∀ x ∈ l, Lb.Sml x.1) := Lib.hid (fun x hx => (hb.smp x hx).1)
  have hlm : l.length < 18446744073709551616 := by
    obtain ⟨A1, c1, he, h1, h2⟩ := Rw.DView.shape hs
    unfold maxLen at h2; omega
  replace hs := Lib.hid hs
  clear hm hv hb
  have n1 : ¬ noKind ⟨1, l, ms, a, b⟩ := fun h => h.1 rfl
  by_cases c1 : 0 < ms.length
  · have hR : Hid ((3 : Int) = (chk ⟨1, l, ms, a, b⟩ : Int)) := Lib.hid (by rw [chk_field n1 (.inl ⟨rfl, .inl (fun e => by rw [show ms = [] from e] at c1; simp at c1)⟩)]; rfl)
    have d1 : (0 : Int) < (ms.length : Int) := by omega
    clear HL hsml hB n1 hs
    go_enter Tryz.func77, Tryz.ntmps77
    go_wp2_with fail
    go_ret
    exact ⟨Lb.ret_i hR.out, hU.out⟩
  have hms : ms = [] := by cases ms with | nil => rfl | cons x y => simp at c1
  subst hms
  simp only [List.length_nil] at hB hU
  by_cases c2 : a = 0
  · by_cases c3 : b = 0
    · subst c2 c3
      have n2 : ¬ strange ⟨1, l, [], 0, 0⟩ := by
        rintro (⟨-, h⟩ | ⟨h, -⟩)
        · rcases h with h | h | h
          · exact h rfl
          · exact h rfl
          · exact h rfl
        · exact h rfl
      have hC0 := count_any l.length hlm
      have hwr : IntKind.u64.wrap (l.length : Int) = (l.length : Int) := by rw [IntKind.wrap_u64]; omega
      by_cases c4 : l.length < 1 ∨ 32 < l.length
      · have hR : Hid ((2 : Int) = (chk ⟨1, l, [], 0, 0⟩ : Int)) := Lib.hid (by rw [chk_range n1 n2 ⟨rfl, c4⟩]; rfl)
        rw [show (decide (1 ≤ l.length) && decide (l.length ≤ 32)) = false by
          rcases c4 with h | h
          · rw [decide_eq_false (by omega)]; rfl
          · rw [decide_eq_false (p := l.length ≤ 32) (by omega), Bool.and_false]] at hC0
        have HC0 := Lib.hid hC0
        clear HL hsml hB n1 n2 hs hC0
        go_enter Tryz.func77, Tryz.ntmps77
        go_wp2_with fail
        refine (HC0.out _).mono ?_
        rintro e w2 ⟨rfl, rfl⟩
        go_wp2_with fail
        go_ret
        exact ⟨Lb.ret_i hR.out, hU.out⟩
      have n3 : ¬ manyB ⟨1, l, [], 0, 0⟩ := fun h => c4 h.2
      rw [show (decide (1 ≤ l.length) && decide (l.length ≤ 32)) = true by rw [decide_eq_true (by omega), decide_eq_true (by omega)]; rfl] at hC0
      have HC0 := Lib.hid hC0
      have hm0 : Mt.chk [] = 0 := rfl
      have hbad : Hid (badL ⟨1, l, [], 0, 0⟩ → (16 : Int) = (chk ⟨1, l, [], 0, 0⟩ : Int)) := Lib.hid (fun h => by rw [chk_label n1 n2 n3 h]; rfl)
      have hgood : Hid (¬ badL ⟨1, l, [], 0, 0⟩ → (0 : Int) = (chk ⟨1, l, [], 0, 0⟩ : Int)) := Lib.hid (fun h => by rw [chk_right n1 n2 n3 h hm0 (Int.lt_irrefl 0)]; rfl)
      obtain ⟨q, hq⟩ : ∃ q, (chk ⟨1, l, [], 0, 0⟩ : Int) = q := ⟨_, rfl⟩
      rw [hq] at hbad hgood ⊢
      obtain ⟨b0, off, rfl, -, hcells⟩ := SView.cells hs.out (by omega)
      replace hcells := Lib.hid hcells
      have hfew : l.length ≤ 32 := by omega
      clear n1 n2 n3 hm0 hq hs c4 hC0
      obtain ⟨wb, hwb⟩ : ∃ wb, w.alloc (.cells #[.int .i64 1, .slice (some ⟨b0, off, none⟩) l.length c, .slice A' 0 c', .int .i64 0, .int .i64 0] 50 (0, 0)) = wb := ⟨_, rfl⟩
      rw [hwb] at hB hU
      replace hwb := Lib.hid hwb
      obtain ⟨g0, g1, g2, g3, g4⟩ := hB
      go_enter Tryz.func77, Tryz.ntmps77
      go_wp2_with fail
      rw [hwb.out]
      refine (HC0.out _).mono ?_
      rintro e w2 ⟨rfl, rfl⟩
      clear HC0 hwb
      go_wp2_with fail
      clear g0 g1 g2 g3 g4 hwr
      go_loopw [28] (fun ov wr => ∃ j : Nat, ov = .int .i64 (j : Int) ∧ j ≤ l.length ∧ Hid (GoodL l j) ∧ Hid (New0 w2 wr)) (fun ov _ => l.length - (intOf ov).toNat)
      case atStart => exact ⟨0, rfl, Nat.zero_le _, Lib.hid (GoodL.start l), Lib.hid (Upon.refl _ _)⟩
      case round =>
        obtain ⟨j, rfl, hj, hg, hu⟩ := hrel
        by_cases hlt : j < l.length
        · obtain ⟨⟨sa, sn, sc⟩, hsv, x0, x1, x2⟩ := hcells.out j hlt
          have r0 := Lb.New0.cells (hU.out.trans hu.out) x0
          have r1 := Lb.New0.cells (hU.out.trans hu.out) x1
          have r2 := Lb.New0.cells (hU.out.trans hu.out) x2
          obtain ⟨wq, hwq⟩ : ∃ wq, wr.alloc (.cells #[.slice sa sn sc, .int .i64 l[j].2.1, .int .u64 (l[j].2.2 : Int)] 123 (0, 0)) = wq := ⟨_, rfl⟩
          have hq := cell_new wr (.cells #[.slice sa sn sc, .int .i64 l[j].2.1, .int .u64 (l[j].2.2 : Int)] 123 (0, 0))
          have huq := hu.out.alloc (.cells #[.slice sa sn sc, .int .i64 l[j].2.1, .int .u64 (l[j].2.2 : Int)] 123 (0, 0))
          rw [hwq] at hq huq
          have q0 : wq.cell? ⟨wr.heap.size, 0, none⟩ = some (.slice sa sn sc) := by rw [Lib.cell_of_heap hq]; rfl
          have HL1 := Lib.hid (HL.out _ (hU.out.trans huq) _ _ hsv (hsml.out _ (List.getElem_mem hlt)))
          replace huq := Lib.hid huq
          replace hwq := Lib.hid hwq
          by_cases hok : Lb.Ok l[j].1
          · have hG := Lib.hid (hg.out.step hlt hok)
            rw [Lb.chk_ok hok] at HL1
            clear x0 x1 x2 hsv hg hok hq hu
            obtain ⟨xt, hxt⟩ : ∃ xt, l[j].2.1 = xt := ⟨_, rfl⟩
            obtain ⟨xv, hxv⟩ : ∃ xv, l[j].2.2 = xv := ⟨_, rfl⟩
            rw [hxt] at r1 hwq
            rw [hxv] at r2 hwq
            clear hxt hxv
            go_wp2_with fail
            rw [hwq.out]
            refine HL1.out.mono ?_
            rintro e w3 ⟨rfl, hu3⟩
            have hu2 := Lib.hid (huq.out.trans hu3)
            clear HL1 hwq hu3 huq r0 r1 r2 q0
            go_wp2_with fail
            go_roundw
            case rel => exact ⟨j + 1, by go_num, hlt, hG, hu2⟩
            case measure => simp [intOf]; omega
          · have hR := Lib.hid (hbad.out ⟨_, List.getElem_mem hlt, hok⟩)
            rw [Lb.chk_no hok] at HL1
            clear x0 x1 x2 hsv hg hok hq hu
            obtain ⟨xt, hxt⟩ : ∃ xt, l[j].2.1 = xt := ⟨_, rfl⟩
            obtain ⟨xv, hxv⟩ : ∃ xv, l[j].2.2 = xv := ⟨_, rfl⟩
            rw [hxt] at r1 hwq
            rw [hxv] at r2 hwq
            clear hxt hxv
            go_wp2_with fail
            rw [hwq.out]
            refine HL1.out.mono ?_
            rintro e w3 ⟨rfl, hu3⟩
            have hu2 := Lib.hid (hU.out.trans (huq.out.trans hu3))
            clear HL1 hwq hu3 huq r0 r1 r2 q0
            go_wp2_with fail
            go_ret
            exact ⟨Lb.ret_i hR.out, hu2.out⟩
        · have hR := Lib.hid (hgood.out (hg.out.last hlt))
          have hend := Lib.hid (hU.out.trans hu.out)
          clear hg hcells HL hu
          go_wp2_with fail
          go_ret
          exact ⟨Lb.ret_i hR.out, hend.out⟩
    · have hR : Hid ((3 : Int) = (chk ⟨1, l, [], a, b⟩ : Int)) := Lib.hid (by rw [chk_field n1 (.inl ⟨rfl, .inr (.inr c3)⟩)]; rfl)
      have d2 : (b != 0) = true := by rw [bne_iff_ne]; exact c3
      subst c2
      clear HL hsml hB n1 hs c3 c1
      go_enter Tryz.func77, Tryz.ntmps77
      go_wp2_with fail
      go_ret
      exact ⟨Lb.ret_i hR.out, hU.out⟩
  · have hR : Hid ((3 : Int) = (chk ⟨1, l, [], a, b⟩ : Int)) := Lib.hid (by rw [chk_field n1 (.inl ⟨rfl, .inr (.inl c2)⟩)]; rfl)
    have d2 : (a != 0) = true := by rw [bne_iff_ne]; exact c2
    clear HL hsml hB n1 hs c2 c1
    go_enter Tryz.func77, Tryz.ntmps77
    go_wp2_with fail
    go_ret
    exact ⟨Lb.ret_i hR.out, hU.out⟩
set_option maxHeartbeats 3200000 in
theorem del_any (w : World) (S : Nat → Prop) (v : Value) (r : R) (hv : RView w S v r) (hb : Bnd r) (hk2 : r.kind = 2) :
    Calls Tryz.prog 78 #[v] w fun e w' => e = .returned (.int .i64 (chk r : Int)) ∧ New0 w w' := by
  obtain ⟨A, c, A', c', rfl, hs, hm⟩ := RView.shape hv
  obtain ⟨k, l, ms, a, b⟩ := r
  simp only at hs hm hk2 ⊢
  subst hk2
  have hB := box5 w 2 (.slice A l.length c) (.slice A' ms.length c') a b
  have hU := Lib.hid ((Upon.refl (fun _ => False) w).alloc (.cells #[.int .i64 2, .slice A l.length c, .slice A' ms.length c', .int .i64 a, .int .i64 b] 50 (0, 0)))
  have HC := Lib.hid (fun w1 (hu : New0 w w1) => Mt.check_any w1 S _ ms (Rw.View.new hm hu) hb.ms)
  clear hm hv hb hs
  have h1 : ¬ (2 : Int) = 1 := by decide
  have n1 : ¬ noKind ⟨2, l, ms, a, b⟩ := fun h => h.2 rfl
  by_cases c1 : 0 < l.length
  · have hR : Hid ((3 : Int) = (chk ⟨2, l, ms, a, b⟩ : Int)) := Lib.hid (by rw [chk_field n1 (.inr ⟨h1, (fun e => by rw [show l = [] from e] at c1; simp at c1)⟩)]; rfl)
    have d1 : (0 : Int) < (l.length : Int) := by omega
    clear HC hB n1
    go_enter Tryz.func78, Tryz.ntmps78
    go_wp2_with fail
    go_ret
    exact ⟨Lb.ret_i hR.out, hU.out⟩
  have hl : l = [] := by cases l with | nil => rfl | cons x y => simp at c1
  subst hl
  simp only [List.length_nil] at hB hU
  have n2 : ¬ strange ⟨2, [], ms, a, b⟩ := by
    rintro (⟨h, -⟩ | ⟨-, h⟩)
    · exact h1 h
    · exact h rfl
  have n3 : ¬ manyB ⟨2, [], ms, a, b⟩ := fun h => h1 h.1
  have n4 : ¬ badL ⟨2, [], ms, a, b⟩ := fun ⟨x, hx, _⟩ => by cases hx
  obtain ⟨wb, hwb⟩ : ∃ wb, w.alloc (.cells #[.int .i64 2, .slice A 0 c, .slice A' ms.length c', .int .i64 a, .int .i64 b] 50 (0, 0)) = wb := ⟨_, rfl⟩
  rw [hwb] at hB hU
  obtain ⟨k0, k1, k2, k3, k4⟩ := hB
  have HC1 := Lib.hid (HC.out _ hU.out)
  replace hwb := Lib.hid hwb
  have hB2 : Hid (∀ w', New0 wb w' → w'.cell? ⟨w.heap.size, 3, none⟩ = some (.int .i64 a) ∧ w'.cell? ⟨w.heap.size, 4, none⟩ = some (.int .i64 b)) := Lib.hid (fun w' hu => ⟨Lb.New0.cells hu k3, Lb.New0.cells hu k4⟩)
  by_cases hm : Mt.chk ms = 0
  · rw [hm] at HC1
    by_cases hab : b < a
    · have hR : Hid ((9 : Int) = (chk ⟨2, [], ms, a, b⟩ : Int)) := Lib.hid (by rw [chk_order n1 n2 n3 n4 hm hab]; rfl)
      clear n1 n2 n3 n4 hm HC h1 c1
      go_enter Tryz.func78, Tryz.ntmps78
      go_wp2_with fail
      rw [hwb.out]
      refine HC1.out.mono ?_
      rintro e w2 ⟨rfl, hu2⟩
      obtain ⟨g3, g4⟩ := hB2.out _ hu2
      have hend := Lib.hid (hU.out.trans hu2)
      clear HC1 hB2 hu2 hwb k0 k1 k2 k3 k4
      go_wp2_with fail
      go_ret
      exact ⟨Lb.ret_i hR.out, hend.out⟩
    · have hR : Hid ((0 : Int) = (chk ⟨2, [], ms, a, b⟩ : Int)) := Lib.hid (by rw [chk_right n1 n2 n3 n4 hm hab]; rfl)
      clear n1 n2 n3 n4 hm HC h1 c1
      go_enter Tryz.func78, Tryz.ntmps78
      go_wp2_with fail
      rw [hwb.out]
      refine HC1.out.mono ?_
      rintro e w2 ⟨rfl, hu2⟩
      obtain ⟨g3, g4⟩ := hB2.out _ hu2
      have hend := Lib.hid (hU.out.trans hu2)
      clear HC1 hB2 hu2 hwb k0 k1 k2 k3 k4
      go_wp2_with fail
      go_ret
      exact ⟨Lb.ret_i hR.out, hend.out⟩
  · have hR : Hid ((Mt.chk ms : Int) = (chk ⟨2, [], ms, a, b⟩ : Int)) := Lib.hid (by rw [chk_match n1 n2 n3 n4 hm])
    obtain ⟨z, hz⟩ : ∃ z, Mt.chk ms = z := ⟨_, rfl⟩
    rw [hz] at HC1 hm hR
    have dz : ((z : Int) != 0) = true := by rw [bne_iff_ne]; omega
    clear n1 n2 n3 n4 hz HC hm h1 c1
    go_enter Tryz.func78, Tryz.ntmps78
    go_wp2_with fail
    rw [hwb.out]
    refine HC1.out.mono ?_
    rintro e w2 ⟨rfl, hu2⟩
    have hend := Lib.hid (hU.out.trans hu2)
    clear HC1 hB2 hu2 hwb k0 k1 k2 k3 k4
    go_wp2_with fail
    go_ret
    exact ⟨Lb.ret_i hR.out, hend.out⟩
set_option maxHeartbeats 3200000 in
theorem check_any (w : World) (S : Nat → Prop) (v : Value) (r : R) (hv : RView w S v r) (hb : Bnd r) :
    Calls Tryz.prog 42 #[v] w fun e w' => e = .returned (.int .i64 (chk r : Int)) ∧ New0 w w' := by
  have HC1 : Hid (∀ w1, New0 w w1 → r.kind = 1 → Calls Tryz.prog 77 #[v] w1 fun e w' => e = .returned (.int .i64 (chk r : Int)) ∧ New0 w1 w') := Lib.hid (fun w1 hu hk => com_any w1 S v r (hv.new hu) hb hk)
  have HC2 : Hid (∀ w1, New0 w w1 → r.kind = 2 → Calls Tryz.prog 78 #[v] w1 fun e w' => e = .returned (.int .i64 (chk r : Int)) ∧ New0 w1 w') := Lib.hid (fun w1 hu hk => del_any w1 S v r (hv.new hu) hb hk)
  obtain ⟨A, c, A', c', rfl, hs, hm⟩ := RView.shape hv
  obtain ⟨k, l, ms, a, b⟩ := r
  simp only at hs hm HC1 HC2 ⊢
  have hB := box5 w k (.slice A l.length c) (.slice A' ms.length c') a b
  have hU := (Upon.refl (fun _ => False) w).alloc (.cells #[.int .i64 k, .slice A l.length c, .slice A' ms.length c', .int .i64 a, .int .i64 b] 50 (0, 0))
  obtain ⟨wb, hwb⟩ : ∃ wb, w.alloc (.cells #[.int .i64 k, .slice A l.length c, .slice A' ms.length c', .int .i64 a, .int .i64 b] 50 (0, 0)) = wb := ⟨_, rfl⟩
  rw [hwb] at hB hU
  obtain ⟨k0, k1, k2, k3, k4⟩ := hB
  clear hs hm hv hb
  by_cases h1 : k = 1
  · subst h1
    have H := Lib.hid (HC1.out _ hU rfl)
    replace hU := Lib.hid hU
    replace hwb := Lib.hid hwb
    clear HC1 HC2
    obtain ⟨q, hq⟩ : ∃ q, (chk ⟨1, l, ms, a, b⟩ : Int) = q := ⟨_, rfl⟩
    rw [hq] at H ⊢
    clear hq
    go_enter Tryz.func42, Tryz.ntmps42
    go_wp2_with fail
    rw [hwb.out]
    refine H.out.mono ?_
    rintro e w2 ⟨rfl, hu2⟩
    have hend := Lib.hid (hU.out.trans hu2)
    clear H hwb hu2 k0 k1 k2 k3 k4
    go_wp2_with fail
    go_ret
    exact ⟨rfl, hend.out⟩
  · have e1 : (k == 1) = false := by rw [beq_eq_false_iff_ne]; exact h1
    by_cases h2 : k = 2
    · subst h2
      have H := Lib.hid (HC2.out _ hU rfl)
      replace hU := Lib.hid hU
      replace hwb := Lib.hid hwb
      clear HC1 HC2 h1
      obtain ⟨q, hq⟩ : ∃ q, (chk ⟨2, l, ms, a, b⟩ : Int) = q := ⟨_, rfl⟩
      rw [hq] at H ⊢
      clear hq
      go_enter Tryz.func42, Tryz.ntmps42
      go_wp2_with fail
      rw [hwb.out]
      refine H.out.mono ?_
      rintro e w2 ⟨rfl, hu2⟩
      have hend := Lib.hid (hU.out.trans hu2)
      clear H hwb hu2 k0 k1 k2 k3 k4
      go_wp2_with fail
      go_ret
      exact ⟨rfl, hend.out⟩
    · have e2 : (k == 2) = false := by rw [beq_eq_false_iff_ne]; exact h2
      have hR : Hid ((5 : Int) = (chk ⟨k, l, ms, a, b⟩ : Int)) := Lib.hid (by rw [chk_kind ⟨h1, h2⟩]; rfl)
      replace hU := Lib.hid hU
      replace hwb := Lib.hid hwb
      clear HC1 HC2 h1 h2
      go_enter Tryz.func42, Tryz.ntmps42
      go_wp2_with fail
      rw [hwb.out]
      go_ret
      exact ⟨Lb.ret_i hR.out, hU.out⟩
theorem check_is (w : World) (S : Nat → Prop) (v : Value) (r : R) (hv : RView w S v r) (hb : Bnd r) {z : Nat} (h : chk r = z) :
    Calls Tryz.prog 42 #[v] w fun e w' => e = .returned (.int .i64 (z : Int)) ∧ New0 w w' := by
  subst h; exact check_any w S v r hv hb
end Rc
end Go.Proofs.YtlgjbcmloochiaaGreatDoor
end
