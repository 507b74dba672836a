/- The document's own matchers (layer 11): Encode, Take, Get. -/
import Derived.Test.YtckphnemnbejmaaMtRef2
set_option maxRecDepth 100000
namespace Go.Proofs.Ytckphnemnbejmaa
open Go.RowKit Go.Sort
namespace Mt
open Bit Dsk Ob Dig
set_option linter.unusedVariables false

/-- What Encode answers. -/
def encR (l : List M) : Ending := if chk l = 0 then .returned (.tuple #[.string ⟨(encB l).toArray⟩, .int .i64 0]) else .returned (.tuple #[.string ByteArray.empty, .int .i64 (chk l : Int)])
theorem encR_ok {l : List M} (h : chk l = 0) : encR l = .returned (.tuple #[.string ⟨(encB l).toArray⟩, .int .i64 0]) := if_pos h
theorem encR_no {l : List M} (h : chk l ≠ 0) : encR l = .returned (.tuple #[.string ByteArray.empty, .int .i64 (chk l : Int)]) := if_neg h
/-- The bytes so far. -/
def So (l : List M) (j : Nat) (s : ByteArray) : Prop := s.data.toList = numL l.length ++ (l.take j).flatMap mB
def numA (n : Nat) : ByteArray := ⟨(numL n).toArray⟩
theorem numA_few (n : Nat) : (numA n).size ≤ 9 := by
  show (numL n).toArray.size ≤ 9
  rw [List.size_toArray, numL_length]; have := nd_le n; omega
theorem So.start (l : List M) : So l 0 ⟨(numL l.length).toArray⟩ := by simp [So]
theorem So.step {l : List M} {j : Nat} {s : ByteArray} (h : So l j s) (hj : j < l.length) : So l (j + 1) (s ++ numA l[j].1.toNat ++ textA l[j].2.1 ++ textA l[j].2.2) := by
  unfold So at *
  rw [ByteArray.data_append, Array.toList_append, ByteArray.data_append, Array.toList_append, ByteArray.data_append, Array.toList_append, h, textA_list, textA_list, List.take_succ_eq_append_getElem hj, List.flatMap_append]
  simp [mB, Lb.pB, numA, List.append_assoc]
theorem So.last {l : List M} {j : Nat} {s : ByteArray} (h : So l j s) (hj : ¬ j < l.length) : s = ⟨(encB l).toArray⟩ := by
  refine Lb.data_inj ?_
  rw [h, List.take_of_length_le (by omega)]; rfl
theorem So.size {l : List M} {j : Nat} {s : ByteArray} (h : So l j s) (hok : chk l = 0) : s.size ≤ 1000 := by
  obtain ⟨h8, hr⟩ := chk_zero.1 hok
  have h1 := nd_le l.length
  have h2 : ((l.take j).flatMap mB).length ≤ 123 * (l.take j).length := flat_len fun p hp => hr p (List.mem_of_mem_take hp)
  have h3 : (l.take j).length ≤ 8 := by rw [List.length_take]; omega
  have h4 : s.data.toList.length = s.size := by simp
  have h5 := congrArg List.length h
  rw [List.length_append, numL_length] at h5
  omega
theorem refcheck_is (w : World) (S : Nat → Prop) (v : Value) (l : List M) (hv : View w S v l) (hb : Bnd l) {z : Nat} (h : chk l = z) :
    Calls Try.prog 12 #[v] w fun e w' => e = .returned (.int .i64 (z : Int)) ∧ New0 w w' := by
  subst h; exact refcheck_any w S v l hv hb
set_option maxHeartbeats 3200000 in
theorem refenc_any (w : World) (S : Nat → Prop) (v : Value) (l : List M) (hv : View w S v l) (hb : Bnd l) :
    Calls Try.prog 10 #[v] w fun e w' => e = encR l ∧ New0 w w' := by
  by_cases hok : chk l = 0
  · have HC := Lib.hid (refcheck_is w S v l hv hb hok)
    obtain ⟨A, c, rfl, -, -⟩ := Rw.View.shape hv
    have h8 := (chk_zero.1 hok).1
    have HN : Hid (∀ w, Calls Try.prog 21 #[.int .u64 (l.length : Int)] w fun e w' => e = .returned (.string ⟨(numL l.length).toArray⟩) ∧ Below w.heap.size w w') := Lib.hid fun w => by
      have := refnum_any (l.length : Int) (by omega) (by omega) w
      rw [Int.toNat_natCast] at this
      exact this
    replace hv := Lib.hid hv
    replace hok := Lib.hid hok
    clear hb
    go_enter Try.func10, Try.ntmps10
    go_wp2_with fail
    refine HC.out.mono ?_
    rintro e w1 ⟨rfl, hu1⟩
    replace hu1 := Lib.hid hu1
    clear HC
    go_wp2_with fail
    refine (HN.out _).mono ?_
    rintro e w2 ⟨rfl, hb2⟩
    have hu2 := Lib.hid (hu1.out.trans (newOf hb2))
    clear HN hb2 hu1
    go_wp2_with fail
    go_loopw [5, 6] (fun sv ov wr => ∃ (j : Nat) (s : ByteArray), sv = .string s ∧ ov = .int .i64 (j : Int) ∧ j ≤ l.length ∧ Hid (So l j s) ∧ Hid (New0 w wr)) (fun _ ov _ => l.length - (intOf ov).toNat)
    case atStart => exact ⟨0, _, rfl, rfl, Nat.zero_le _, Lib.hid (So.start l), hu2⟩
    case round =>
      clear hu2
      obtain ⟨j, s, rfl, rfl, hj, hso, hu⟩ := hrel
      by_cases hlt : j < l.length
      · obtain ⟨b, off, rfl, -, -, hcells⟩ := View.cells hv.out (by omega)
        obtain ⟨x0, x1, x2⟩ := hcells j hlt
        have r0 := Lb.New0.cells hu.out x0
        have r1 := Lb.New0.cells hu.out x1
        have r2 := Lb.New0.cells hu.out x2
        have hs1 := hso.out.size hok.out
        have hri := (chk_zero.1 hok.out).2 _ (List.getElem_mem hlt)
        have hsm := right_small hri
        obtain ⟨hk1, hk2, -, -⟩ := right_zero.1 hri
        have hnx := hso.out.step hlt
        obtain ⟨m, hm⟩ : ∃ m, l[j] = m := ⟨_, rfl⟩
        rw [hm] at r0 r1 r2 hsm hk1 hk2 hnx
        obtain ⟨k, a1, a2⟩ := m
        simp only at r0 r1 r2 hsm hk1 hk2 hnx
        obtain ⟨kn, rfl⟩ : ∃ kn : Nat, k = (kn : Int) := ⟨k.toNat, by omega⟩
        rw [Int.toNat_natCast] at hnx
        have hz0 := numA_few kn
        have H0 := fun d os => by
          have := refnum_any (kn : Int) (by omega) (by omega) (grow (redrawn wr d) os)
          rw [Int.toNat_natCast] at this
          exact this
        have H1 := fun d os => reftext_any a1 (by omega) (grow (redrawn wr d) os)
        have H2 := fun d os => reftext_any a2 (by omega) (grow (redrawn wr d) os)
        have hz1 := Lb.textA_few (s := a1) (by omega)
        have hz2 := Lb.textA_few (s := a2) (by omega)
        change ∀ d os, Calls _ _ _ _ (fun e w' => e = .returned (.string (numA kn)) ∧ _) at H0
        obtain ⟨t0, ht0⟩ : ∃ t0, numA kn = t0 := ⟨_, rfl⟩
        obtain ⟨t1, ht1⟩ : ∃ t1, textA a1 = t1 := ⟨_, rfl⟩
        obtain ⟨t2, ht2⟩ : ∃ t2, textA a2 = t2 := ⟨_, rfl⟩
        rw [ht0] at hz0 hnx
        simp only [ht0] at H0
        rw [ht1] at H1 hz1 hnx
        rw [ht2] at H2 hz2 hnx
        have hadd0 := fun W => run_string_add_sum (P := Try.prog) W s t0 (by omega)
        have hadd1 := fun W => run_string_add_sum (P := Try.prog) W (s ++ t0) t1 (by rw [ByteArray.size_append]; omega)
        have hadd2 := fun W => run_string_add_sum (P := Try.prog) W (s ++ t0 ++ t1) t2 (by rw [ByteArray.size_append, ByteArray.size_append]; omega)
        have y0 := fun d os => cell_regrown r0 d os
        have y1 := fun d os => cell_regrown r1 d os
        have y2 := fun d os => cell_regrown r2 d os
        have hcv : IntKind.u64.wrap (kn : Int) = (kn : Int) := by rw [IntKind.wrap_u64]; omega
        replace H0 := Lib.hid H0
        replace H1 := Lib.hid H1
        replace H2 := Lib.hid H2
        replace hnx := Lib.hid hnx
        clear hm ht0 ht1 ht2 x0 x1 x2 hso hs1 hsm hz0 hz1 hz2 hri hcells
        go_wp2_with fail
        refine wp_region_quiet_below (by kernel_rfl) (by kernel_rfl) ?_
        repeat (go_big_quiet_step (first
          | exact Calls.regrown_of (H0.out _ _)
          | exact Calls.regrown_of (H1.out _ _)
          | exact Calls.regrown_of (H2.out _ _)))
        refine wpQuiet_nil ?_
        intro _ hw'
        obtain ⟨⟨dq, osq⟩, hw''⟩ := hw'
        subst hw''
        have hu5 := Lib.hid (hu.out.trans (newOf (below_regrown wr dq osq)))
        clear hu H0 H1 H2 r0 r1 r2 y0 y1 y2 hadd0 hadd1 hadd2 hcv hk1 hk2
        generalize grow (redrawn wr dq) osq = w5 at *
        go_wp2_with fail
        go_roundw
        case rel => exact ⟨j + 1, _, rfl, by go_num, hlt, hnx, hu5⟩
        case measure => simp [intOf]; omega
      · have hR : Hid (Ending.returned (.tuple #[.string s, .int .i64 0]) = encR l) := Lib.hid (by rw [encR_ok hok.out, hso.out.last hlt])
        clear hso
        go_wp2_with fail
        go_ret2
        exact ⟨hR.out, hu.out⟩
  · have hR := Lib.hid (encR_no hok)
    obtain ⟨z, hz⟩ : ∃ z, chk l = z := ⟨_, rfl⟩
    have HC := Lib.hid (refcheck_is w S v l hv hb hz)
    obtain ⟨A, c, rfl, -, -⟩ := Rw.View.shape hv
    rw [hz] at hR hok
    have d : ((z : Int) != 0) = true := by rw [bne_iff_ne]; omega
    clear hv hb hok hz
    go_enter Try.func10, Try.ntmps10
    go_wp2_with fail
    refine HC.out.mono ?_
    rintro e w1 ⟨rfl, hu1⟩
    replace hu1 := Lib.hid hu1
    clear HC
    go_wp2_with fail
    go_ret2
    exact ⟨hR.out.symm, hu1.out⟩
end Mt
end Go.Proofs.Ytckphnemnbejmaa
