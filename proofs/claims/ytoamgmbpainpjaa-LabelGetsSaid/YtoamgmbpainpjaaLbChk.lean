/- The program's labels (layer 10): Check, Encode. -/
import Derived.Test.YtoamgmbpainpjaaLbNam
import Derived.Test.YtoamgmbpainpjaaLbGet
set_option maxRecDepth 100000
namespace Go.Proofs.Ytoamgmbpainpjaa
open Go.RowKit Go.Sort
namespace Lb
open Bit Dsk Ob Dig
set_option linter.unusedVariables false

theorem newcell0 {w w' : World} {x y : ByteArray} (h : New0 (w.alloc (.cells #[.string x, .string y] 39 (0, 0))) w') : w'.cell? ⟨w.heap.size, 0, none⟩ = some (.string x) := New0.cells h (by rw [Lib.cell_of_heap (cell_new w _)]; rfl)
theorem newcell1 {w w' : World} {x y : ByteArray} (h : New0 (w.alloc (.cells #[.string x, .string y] 39 (0, 0))) w') : w'.cell? ⟨w.heap.size, 1, none⟩ = some (.string y) := New0.cells h (by rw [Lib.cell_of_heap (cell_new w _)]; rfl)
theorem nameP (s : ByteArray) {b : Bool} (h : nm s = b) (w : World) : Calls Try.prog 29 #[.string s] w fun e w' => e = .returned (.bool b) ∧ New0 w w' := by
  subst h; exact isname_any s w
theorem valueP (s : ByteArray) {b : Bool} (h : vl s = b) (w : World) : Calls Try.prog 30 #[.string s] w fun e w' => e = .returned (.bool b) ∧ New0 w w' := by
  subst h; exact isvalue_any s w
set_option maxHeartbeats 3200000 in
theorem check_any (w : World) (S : Nat → Prop) (v : Value) (l : List Pr) (hv : View w S v l) (hsm : Sml l) :
    Calls Try.prog 12 #[v] w fun e w' => e = .returned (.int .i64 (chk l : Int)) ∧ New0 w w' := by
  obtain ⟨A, c, rfl, hc1, hc2⟩ := Rw.View.shape hv
  have hlen := Nat.le_trans hc1 hc2
  unfold maxLen at hlen
  clear hc1 hc2
  replace hv := Lib.hid hv
  clear hsm
  by_cases h1 : ¬ (1 ≤ l.length ∧ l.length ≤ 8)
  · have hR : Hid ((16 : Int) = (chk l : Int)) := Lib.hid (by rw [chk_few (by omega)]; rfl)
    have HK := Lib.hid (fun w => iscount_nat l.length w (b := false) (by simp; omega))
    clear h1 hv
    go_enter Try.func12, Try.ntmps12
    go_wp2_with fail
    refine (HK.out _).mono ?_
    rintro e w1 ⟨rfl, rfl⟩
    clear HK
    go_wp2_with fail
    go_ret
    exact ⟨ret_i hR.out, Upon.refl _ _⟩
  have HK := Lib.hid (fun w => iscount_nat l.length w (b := true) (by simp; omega))
  obtain ⟨b, off, rfl, -, -, hcells⟩ := View.cells hv.out (by omega)
  replace hcells := Lib.hid hcells
  have hl1 : 1 ≤ l.length := by omega
  have hl8 : l.length ≤ 8 := by omega
  clear hv h1
  go_enter Try.func12, Try.ntmps12
  go_wp2_with fail
  refine (HK.out _).mono ?_
  rintro e w1 ⟨rfl, rfl⟩
  clear HK
  go_wp2_with fail
  go_loopw [12] (fun ov wr => ∃ j : Nat, ov = .int .i64 (j : Int) ∧ j ≤ l.length ∧ Hid (Good (l.take j)) ∧ Hid (New0 w1 wr)) (fun ov _ => l.length - (intOf ov).toNat)
  case atStart => exact ⟨0, rfl, Nat.zero_le _, Lib.hid Good.nil, Lib.hid (Upon.refl _ _)⟩
  case round =>
    obtain ⟨j, rfl, hj, hg, hu⟩ := hrel
    by_cases hlt : j < l.length
    · obtain ⟨x0, x1⟩ := hcells.out j hlt
      have r0 := New0.cells hu.out x0
      have r1 := New0.cells hu.out x1
      have hst := Lib.hid (hg.out.step hlt)
      have hR1 := Lib.hid (chk_name (l := l) hlt)
      have hR2 := Lib.hid (chk_value (l := l) hlt)
      have hR3 := Lib.hid (fun i hi hij => chk_order (l := l) (i := i) hi hlt hij)
      obtain ⟨a1, ha1⟩ : ∃ a1, l[j].1 = a1 := ⟨_, rfl⟩
      obtain ⟨a2, ha2⟩ : ∃ a2, l[j].2 = a2 := ⟨_, rfl⟩
      rw [ha1] at r0 hst hR1
      rw [ha2] at r1 hst hR2
      replace hR3 : Hid (∀ i (hi : i < l.length), j = i + 1 → lt l[i].1 a1 = false → chk l = 16) := Lib.hid (fun i hi hij h => hR3.out i hi hij (by rw [ha1]; exact h))
      clear ha1 ha2 hg x0 x1
      cases hn : nm a1 with
      | false =>
        have HN := Lib.hid (nameP a1 hn)
        have hR : Hid ((16 : Int) = (chk l : Int)) := Lib.hid (by rw [hR1.out hn]; rfl)
        clear hst hR1 hR2 hR3 hn hcells
        go_wp2_with fail
        refine (HN.out _).mono ?_
        rintro e w2 ⟨rfl, hu2⟩
        have c0 := newcell0 hu2
        have c1 := newcell1 hu2
        have hu3 := Lib.hid ((hu.out.alloc _).trans hu2)
        clear HN hu hu2 r0 r1
        go_wp2_with fail
        go_ret
        exact ⟨ret_i hR.out, hu3.out⟩
      | true =>
        have HN := Lib.hid (nameP a1 hn)
        cases hvv : vl a2 with
        | false =>
          have HV := Lib.hid (valueP a2 hvv)
          have hR : Hid ((16 : Int) = (chk l : Int)) := Lib.hid (by rw [hR2.out hvv]; rfl)
          clear hst hR1 hR2 hR3 hn hvv hcells
          go_wp2_with fail
          refine (HN.out _).mono ?_
          rintro e w2 ⟨rfl, hu2⟩
          have c0 := newcell0 hu2
          have c1 := newcell1 hu2
          have hu3 := Lib.hid ((hu.out.alloc _).trans hu2)
          clear HN hu hu2 r0 r1
          go_wp2_with fail
          refine (HV.out _).mono ?_
          rintro e w3 ⟨rfl, hu4⟩
          have hu5 := Lib.hid (hu3.out.trans hu4)
          clear HV hu3 hu4 c0 c1
          go_wp2_with fail
          go_ret
          exact ⟨ret_i hR.out, hu5.out⟩
        | true =>
          have HV := Lib.hid (valueP a2 hvv)
          by_cases h0 : j = 0
          · have hG := Lib.hid (hst.out hn hvv (fun i _ e => by omega))
            have hj0 : decide (0 < j) = false := decide_eq_false (by omega)
            clear hst hR1 hR2 hR3 hn hvv h0
            go_wp2_with fail
            refine (HN.out _).mono ?_
            rintro e w2 ⟨rfl, hu2⟩
            have c0 := newcell0 hu2
            have c1 := newcell1 hu2
            have hu3 := Lib.hid ((hu.out.alloc _).trans hu2)
            clear HN hu hu2 r0 r1
            go_wp2_with fail
            refine (HV.out _).mono ?_
            rintro e w3 ⟨rfl, hu4⟩
            have hu5 := Lib.hid (hu3.out.trans hu4)
            have d0 := New0.cells hu4 c0
            clear HV hu3 hu4 c0 c1
            go_wp2_with fail
            go_quiet (fail)
            go_wp2_with fail
            go_roundw
            case rel => exact ⟨j + 1, by go_num, hlt, hG, Lib.hid (hu5.out.trans (upon_drewN _ w3 _))⟩
            case measure => simp [intOf]; omega
          · obtain ⟨i, hi⟩ : ∃ i, j = i + 1 := ⟨j - 1, by omega⟩
            have hil : i < l.length := by omega
            have y0 := New0.cells hu.out (hcells.out i hil).1
            have hidx : IntKind.i64.wrap ((j : Int) - 1) = (i : Int) := by rw [IntKind.wrap_i64]; omega
            have hj0 : decide (0 < j) = true := decide_eq_true (by omega)
            replace hR3 := Lib.hid (hR3.out i hil hi)
            replace hst := Lib.hid (hst.out hn hvv)
            obtain ⟨p1, hp1⟩ : ∃ p1, l[i].1 = p1 := ⟨_, rfl⟩
            rw [hp1] at y0 hR3
            cases ho : lt p1 a1 with
            | false =>
              have hR : Hid ((16 : Int) = (chk l : Int)) := Lib.hid (by rw [hR3.out ho]; rfl)
              have d3 : (Op.bytesLess a1.toList p1.toList || a1.toList == p1.toList) = true := at_least ho
              clear hst hR1 hR2 hR3 hn hvv hp1 ho hi hcells
              go_wp2_with fail
              refine (HN.out _).mono ?_
              rintro e w2 ⟨rfl, hu2⟩
              have c0 := newcell0 hu2
              have c1 := newcell1 hu2
              have z0 := New0.cells (((Upon.refl _ wr).alloc _).trans hu2) y0
              have hu3 := Lib.hid ((hu.out.alloc _).trans hu2)
              clear HN hu hu2 r0 r1 y0
              go_wp2_with fail
              refine (HV.out _).mono ?_
              rintro e w3 ⟨rfl, hu4⟩
              have hu5 := Lib.hid (hu3.out.trans hu4)
              have d0 := New0.cells hu4 c0
              have d1 := New0.cells hu4 z0
              clear HV hu3 hu4 c0 c1 z0
              go_wp2_with fail
              go_quiet (fail)
              go_wp2_with fail
              go_ret
              exact ⟨ret_i hR.out, hu5.out.trans (upon_drewN _ w3 _)⟩
            | true =>
              have hG := Lib.hid (hst.out (fun i' h' e => by
                obtain rfl : i' = i := by omega
                rw [hp1]; exact ho))
              have d3 : (Op.bytesLess a1.toList p1.toList || a1.toList == p1.toList) = false := at_least ho
              clear hst hR1 hR2 hR3 hn hvv hp1 ho hi
              go_wp2_with fail
              refine (HN.out _).mono ?_
              rintro e w2 ⟨rfl, hu2⟩
              have c0 := newcell0 hu2
              have c1 := newcell1 hu2
              have z0 := New0.cells (((Upon.refl _ wr).alloc _).trans hu2) y0
              have hu3 := Lib.hid ((hu.out.alloc _).trans hu2)
              clear HN hu hu2 r0 r1 y0
              go_wp2_with fail
              refine (HV.out _).mono ?_
              rintro e w3 ⟨rfl, hu4⟩
              have hu5 := Lib.hid (hu3.out.trans hu4)
              have d0 := New0.cells hu4 c0
              have d1 := New0.cells hu4 z0
              clear HV hu3 hu4 c0 c1 z0
              go_wp2_with fail
              go_quiet (fail)
              go_wp2_with fail
              go_roundw
              case rel => exact ⟨j + 1, by go_num, hlt, hG, Lib.hid (hu5.out.trans (upon_drewN _ w3 _))⟩
              case measure => simp [intOf]; omega
    · have hR : Hid ((0 : Int) = (chk l : Int)) := Lib.hid (by rw [chk_ok (Ok.of hl1 hl8 hlt hg.out)]; rfl)
      clear hg hcells
      go_wp2_with fail
      go_ret
      exact ⟨ret_i hR.out, hu.out⟩
end Lb
end Go.Proofs.Ytoamgmbpainpjaa
