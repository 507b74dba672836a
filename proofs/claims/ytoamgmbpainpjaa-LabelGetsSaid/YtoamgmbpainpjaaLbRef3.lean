/- The document's own labels (layer 10): Encode. -/
import Derived.Test.YtoamgmbpainpjaaLbIn
import Derived.Lib.QuietBelow
set_option maxRecDepth 100000
namespace Go.Proofs.Ytoamgmbpainpjaa
open Go.RowKit Go.Sort
namespace Lb
open Bit Dsk Ob Dig
set_option linter.unusedVariables false

theorem refcheck_ok (w : World) (S : Nat → Prop) (v : Value) (l : List Pr) (hv : View w S v l) (hsm : Sml l) (hok : Ok l) :
    Calls Try.prog 13 #[v] w fun e w' => e = .returned (.int .i64 0) ∧ New0 w w' :=
  (refcheck_any w S v l hv hsm).mono fun e w' ⟨h1, n, h2⟩ => ⟨by rw [h1, chk_ok hok]; rfl, by rw [h2]; exact upon_drewN _ w n⟩
theorem refcheck_no (w : World) (S : Nat → Prop) (v : Value) (l : List Pr) (hv : View w S v l) (hsm : Sml l) (hok : ¬ Ok l) :
    Calls Try.prog 13 #[v] w fun e w' => e = .returned (.int .i64 16) ∧ New0 w w' :=
  (refcheck_any w S v l hv hsm).mono fun e w' ⟨h1, n, h2⟩ => ⟨by rw [h1, chk_no hok]; rfl, by rw [h2]; exact upon_drewN _ w n⟩
theorem New0.cells {w w' : World} (h : New0 w w') {a : Addr} {v : Value} (hc : w.cell? a = some v) : w'.cell? a = some v := by
  have hb := h.block a.block (World.block_lt_of_cell? w _ hc) (fun f => f)
  rw [← hc, World.cell?, World.cell?, hb]
/-- The bytes so far. -/
def So (l : List Pr) (j : Nat) (s : ByteArray) : Prop := s.data.toList = numL l.length ++ (l.take j).flatMap pB
theorem So.start (l : List Pr) : So l 0 ⟨(numL l.length).toArray⟩ := by simp [So]
theorem So.step {l : List Pr} {j : Nat} {s : ByteArray} (h : So l j s) (hj : j < l.length) : So l (j + 1) (s ++ textA l[j].1 ++ textA l[j].2) := by
  unfold So at *
  rw [ByteArray.data_append, Array.toList_append, ByteArray.data_append, Array.toList_append, h, textA_list, textA_list, List.take_succ_eq_append_getElem hj, List.flatMap_append]
  simp [pB, List.append_assoc]
theorem So.last {l : List Pr} {j : Nat} {s : ByteArray} (h : So l j s) (hj : ¬ j < l.length) : s = ⟨(encB l).toArray⟩ := by
  refine data_inj ?_
  rw [h, List.take_of_length_le (by omega)]; rfl
theorem So.size {l : List Pr} {j : Nat} {s : ByteArray} (h : So l j s) (hok : Ok l) : s.size ≤ 1000 := by
  have h1 := nd_le l.length
  have h2 : ((l.take j).flatMap pB).length ≤ 114 * (l.take j).length := flat_len fun p hp => hok.good.small p (List.mem_of_mem_take hp)
  have h3 : (l.take j).length ≤ 8 := by rw [List.length_take]; have := hok.few; omega
  have h4 : s.data.toList.length = s.size := by simp
  have h5 := congrArg List.length h
  rw [List.length_append, numL_length] at h5
  omega
theorem textA_few {s : ByteArray} (h : s.size ≤ 64) : (textA s).size ≤ 80 := by rw [textA_size]; have := nd_le s.size; omega
set_option maxHeartbeats 3200000 in
theorem refenc_any (w : World) (S : Nat → Prop) (v : Value) (l : List Pr) (hv : View w S v l) (hsm : Sml l) :
    Calls Try.prog 11 #[v] w fun e w' => e = encR l ∧ New0 w w' := by
  by_cases hok : Ok l
  · have HC := Lib.hid (refcheck_ok w S v l hv hsm hok)
    obtain ⟨A, c, rfl, -, -⟩ := Rw.View.shape hv
    have h1 := hok.one
    have h8 := hok.few
    obtain ⟨b, off, rfl, -, -, hcells⟩ := View.cells hv (by omega)
    replace hcells := Lib.hid hcells
    replace hok := Lib.hid hok
    have HN : Hid (∀ w, Calls Try.prog 26 #[.int .u64 (l.length : Int)] w fun e w' => e = .returned (.string ⟨(numL l.length).toArray⟩) ∧ Below w.heap.size w w') := Lib.hid fun w => by
      have := refnum_any (l.length : Int) (by omega) (by omega) w
      rw [Int.toNat_natCast] at this
      exact this
    clear hv hsm
    go_enter Try.func11, Try.ntmps11
    go_wp2_with fail
    refine HC.out.mono ?_
    rintro e w1 ⟨rfl, hu1⟩
    replace hu1 := Lib.hid hu1
    clear HC
    go_wp2_with fail
    refine (HN.out _).mono ?_
    rintro e w2 ⟨rfl, hb2⟩
    have hu2 := Lib.hid (hu1.out.trans (newOf hb2))
    clear HN hb2 hu1
    go_wp2_with fail
    go_loopw [5, 6] (fun sv ov wr => ∃ (j : Nat) (s : ByteArray), sv = .string s ∧ ov = .int .i64 (j : Int) ∧ j ≤ l.length ∧ Hid (So l j s) ∧ Hid (New0 w wr)) (fun _ ov _ => l.length - (intOf ov).toNat)
    case atStart => exact ⟨0, _, rfl, rfl, Nat.zero_le _, Lib.hid (So.start l), hu2⟩
    case round =>
      clear hu2
      obtain ⟨j, s, rfl, rfl, hj, hso, hu⟩ := hrel
      by_cases hlt : j < l.length
      · obtain ⟨x0, x1⟩ := hcells.out j hlt
        have r0 := New0.cells hu.out x0
        have r1 := New0.cells hu.out x1
        have hs1 := hso.out.size hok.out
        have hsm := hok.out.good.small _ (List.getElem_mem hlt)
        have hnx := hso.out.step hlt
        obtain ⟨a1, ha1⟩ : ∃ a1, l[j].1 = a1 := ⟨_, rfl⟩
        obtain ⟨a2, ha2⟩ : ∃ a2, l[j].2 = a2 := ⟨_, rfl⟩
        rw [ha1] at r0 hsm hnx
        rw [ha2] at r1 hsm hnx
        have H1 := fun d os => reftext_any a1 (by omega) (grow (redrawn wr d) os)
        have H2 := fun d os => reftext_any a2 (by omega) (grow (redrawn wr d) os)
        have hz1 := textA_few (s := a1) (by omega)
        have hz2 := textA_few (s := a2) (by omega)
        obtain ⟨t1, ht1⟩ : ∃ t1, textA a1 = t1 := ⟨_, rfl⟩
        obtain ⟨t2, ht2⟩ : ∃ t2, textA a2 = t2 := ⟨_, rfl⟩
        rw [ht1] at H1 hz1 hnx
        rw [ht2] at H2 hz2 hnx
        have hadd1 := fun W => run_string_add_sum (P := Try.prog) W s t1 (by omega)
        have hadd2 := fun W => run_string_add_sum (P := Try.prog) W (s ++ t1) t2 (by rw [ByteArray.size_append]; omega)
        have y0 := fun d os => cell_regrown r0 d os
        have y1 := fun d os => cell_regrown r1 d os
        replace H1 := Lib.hid H1
        replace H2 := Lib.hid H2
        replace hnx := Lib.hid hnx
        clear ha1 ha2 ht1 ht2 x0 x1 hso hs1 hsm hz1 hz2
        go_wp2_with fail
        refine wp_region_quiet_below (by kernel_rfl) (by kernel_rfl) ?_
        repeat (go_big_quiet_step (first
          | exact Calls.regrown_of (H1.out _ _)
          | exact Calls.regrown_of (H2.out _ _)))
        refine wpQuiet_nil ?_
        intro _ hw'
        obtain ⟨⟨dq, osq⟩, hw''⟩ := hw'
        subst hw''
        have hu5 := Lib.hid (hu.out.trans (newOf (below_regrown wr dq osq)))
        clear hu H1 H2 r0 r1 y0 y1 hadd1 hadd2
        generalize grow (redrawn wr dq) osq = w5 at *
        go_wp2_with fail
        go_roundw
        case rel => exact ⟨j + 1, _, rfl, by go_num, hlt, hnx, hu5⟩
        case measure => simp [intOf]; omega
      · have hR : Hid (Ending.returned (.tuple #[.string s, .int .i64 0]) = encR l) := Lib.hid (by rw [encR_ok hok.out, hso.out.last hlt])
        clear hso
        go_wp2_with fail
        go_ret2
        exact ⟨hR.out, hu.out⟩
  · have HC := Lib.hid (refcheck_no w S v l hv hsm hok)
    obtain ⟨A, c, rfl, -, -⟩ := Rw.View.shape hv
    have hR := Lib.hid (encR_no hok)
    clear hv hsm hok
    go_enter Try.func11, Try.ntmps11
    go_wp2_with fail
    refine HC.out.mono ?_
    rintro e w1 ⟨rfl, hu1⟩
    replace hu1 := Lib.hid hu1
    clear HC
    go_wp2_with fail
    go_ret2
    exact ⟨hR.out.symm, hu1.out⟩
end Lb
end Go.Proofs.Ytoamgmbpainpjaa
