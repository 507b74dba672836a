/- The document's manifests (layer 17): Encode. -/
import Derived.Test.YtjpgglajcelllaaDoorCMfChk
import Derived.Test.YtjpgglajcelllaaDoorCPFrame
import Derived.Lib.QuietBelow
import Derived.BigQuiet
set_option maxRecDepth 100000
namespace Go.Proofs.YtjpgglajcelllaaDoor
open Go.RowKit Go.Sort
namespace Mf
open Bit Dsk Ob Dig
set_option linter.unusedVariables false
theorem rputOk (s : ByteArray) (h : s.size ≤ 65536) (w : World) :
    Calls Tryd.prog 33 #[.agg #[.int .i64 6, .string s]] w fun e w' => e = .returned (.tuple #[.string (Frm.putA 6 s), .int .i64 0]) ∧ Below w.heap.size w w' := Frm.refput_ok 6 s (by decide) (by decide) h w
theorem rnum (n : Nat) (h : n < 18446744073709551616) (w : World) : Calls Tryd.prog 30 #[.int .u64 (n : Int)] w fun e w' => e = .returned (.string (Mt.numA n)) ∧ Below w.heap.size w w' := by
  have := Dig.refnum_any (n : Int) (by omega) (by omega) w
  rw [Int.toNat_natCast] at this
  exact this
theorem rsgn (x : Int) (h0 : -9223372036854775808 ≤ x) (h1 : x ≤ 9223372036854775807) (w : World) : Calls Tryd.prog 31 #[.int .i64 x] w fun e w' => e = .returned (.string (Mt.numA (zig x))) ∧ Below w.heap.size w w' := Dig.refsigned_any x h0 h1 w
theorem encS_no {m : M} (h : chk m ≠ 0) : encS m = ⟨#[]⟩ := if_neg h
theorem encS_ok {m : M} (h : chk m = 0) : encS m = code m := if_pos h
theorem good_nat {m : M} (h : Good m) : ∃ E B P C : Nat, m.epoch = (E : Int) ∧ m.base = (B : Int) ∧ m.promise = (P : Int) ∧ m.check = (C : Int) ∧ E ≤ 99999999 ∧ B ≤ 99999999 ∧ P ≤ 99999999 ∧ C ≤ 99999999 := by
  have := h.e; have := h.b; have := h.p; have := h.c
  exact ⟨m.epoch.toNat, m.base.toNat, m.promise.toNat, m.check.toNat, by omega, by omega, by omega, by omega, by omega, by omega, by omega, by omega⟩
theorem ret_si {s s' : ByteArray} {a b : Int} (h1 : s = s') (h2 : a = b) : Ending.returned (.tuple #[.string s, .int .i64 a]) = .returned (.tuple #[.string s', .int .i64 b]) := by rw [h1, h2]
/-- The bytes so far. -/
def soR (l0 : ByteArray) (l : List ByteArray) (j : Nat) (s : ByteArray) : Prop := s.data.toList = l0.data.toList ++ (l.take j).flatMap nmB
theorem soR_start (l0 : ByteArray) (l : List ByteArray) : soR l0 l 0 l0 := by unfold soR; simp
theorem soR_step {l0 s : ByteArray} {l : List ByteArray} {j : Nat} (h : soR l0 l j s) (hj : j < l.length) : soR l0 l (j + 1) (s ++ textA l[j]) := by
  unfold soR at *
  rw [ByteArray.data_append, Array.toList_append, h, textA_list, List.take_succ_eq_append_getElem hj, List.flatMap_append, List.append_assoc]
  simp [nmB]
theorem soR_le {l0 s : ByteArray} {l : List ByteArray} {j : Nat} (h : soR l0 l j s) (hn : ∀ b ∈ l, b.size ≤ 32) (hl : l.length ≤ 16) : s.size ≤ l0.size + 656 := by
  have h1 := flat_le (l := l.take j) fun b hb => hn b (List.mem_of_mem_take hb)
  have h2 : (l.take j).length ≤ 16 := by rw [List.length_take]; omega
  have h3 := congrArg List.length h
  rw [List.length_append, Frm.size_list, Frm.size_list] at h3
  omega
theorem soR_last {l0 s : ByteArray} {m : M} {j : Nat} {E B P C : Nat} (h : soR l0 m.blocks j s) (hj : ¬ j < m.blocks.length) (e1 : m.epoch = (E : Int)) (e2 : m.base = (B : Int)) (e3 : m.promise = (P : Int)) (e4 : m.check = (C : Int))
    (h0 : l0 = Mt.numA E ++ Mt.numA B ++ Mt.numA P ++ Mt.numA (zig m.mark) ++ Mt.numA C ++ Mt.numA m.blocks.length) : s = bts (dataL m) := by
  apply Frm.bytes_ext
  rw [bts_list, h, List.take_of_length_le (by omega), h0]
  unfold dataL
  rw [e1, e2, e3, e4]
  simp only [ByteArray.data_append, Array.toList_append, Int.toNat_natCast, List.append_assoc]
  rfl
set_option maxHeartbeats 3200000 in
theorem refenc_no (w : World) (S : Nat → Prop) (v : Value) (m : M) (hv : MView w S v m) (hb : Bnd m) (hz : chk m ≠ 0) :
    Calls Tryd.prog 11 #[v] w fun e w' => e = .returned (.tuple #[.string (encS m), .int .i64 (chk m)]) ∧ New0 w w' := by
  obtain ⟨A, c, rfl, hn⟩ := hv.shape
  have hU := (Upon.refl (fun _ => False) w).alloc (.cells #[.int .i64 m.epoch, .int .i64 m.base, .int .i64 m.promise, .int .i64 m.mark, .int .i64 m.check, .slice A m.blocks.length c] 24 (0, 0))
  have HC := Lib.hid (refcheck_any _ S _ m (hv.new hU) hb)
  have hB := box6 24 w (.int .i64 m.epoch) (.int .i64 m.base) (.int .i64 m.promise) (.int .i64 m.mark) (.int .i64 m.check) (.slice A m.blocks.length c)
  have hs1 := Lib.hid (encS_no hz)
  obtain ⟨z, hz2⟩ : ∃ z, chk m = z := ⟨_, rfl⟩
  rw [hz2] at HC hz ⊢
  have dz : (z != 0) = true := by rw [bne_iff_ne]; exact hz
  obtain ⟨k0, k1, k2, k3, k4, k5⟩ := hB.cells
  replace hU := Lib.hid hU
  clear hb hn hv hz2 hz hB
  go_enter Tryd.func11, Tryd.ntmps11
  go_wp2_with fail
  refine HC.out.mono ?_
  rintro e w2 ⟨rfl, hu2⟩
  have h2 := Lib.hid (hU.out.trans hu2)
  clear HC hu2 k0 k1 k2 k3 k4 k5 hU
  go_wp2_with fail
  go_ret2
  exact ⟨ret_si hs1.out.symm rfl, h2.out⟩
set_option maxHeartbeats 12800000 in
theorem refenc_yes (w : World) (S : Nat → Prop) (v : Value) (m : M) (hv : MView w S v m) (hb : Bnd m) (hz : chk m = 0) :
    Calls Tryd.prog 11 #[v] w fun e w' => e = .returned (.tuple #[.string (encS m), .int .i64 0]) ∧ New0 w w' := by
  obtain ⟨A, c, rfl, hn⟩ := hv.shape
  have hg := chk_zero.1 hz
  have hle := data_le hg
  have hfew := hg.few
  have hk := hb.rng.k
  have hs1 := Lib.hid ((encS_ok hz).symm)
  obtain ⟨E, B, P, C, e1, e2, e3, e4, b1, b2, b3, b4⟩ := good_nat hg
  have hC := Lib.hid (fun w1 (hu : New0 w w1) => refcheck_any w1 S _ m (hv.new hu) hb)
  rw [hz] at hC
  have hlast := Lib.hid (fun l0 s j (h : soR l0 m.blocks j s) hj h0 => soR_last h hj e1 e2 e3 e4 h0)
  have hcode : Hid (code m = Frm.putA 6 (bts (dataL m))) := Lib.hid rfl
  have hnm : Hid (∀ b ∈ m.blocks, b.size ≤ 32) := Lib.hid (fun b hb => (nm_len (hg.nms b hb)).2)
  obtain ⟨D, hD⟩ : ∃ D, bts (dataL m) = D := ⟨_, rfl⟩
  have hDz : D.size ≤ 710 := by rw [← hD, bts_size]; exact hle
  rw [hD] at hlast hcode
  obtain ⟨CM, hCM⟩ : ∃ CM, code m = CM := ⟨_, rfl⟩
  rw [hCM] at hs1 hcode
  clear hD hCM hg hz hb hle hv
  obtain ⟨mE, mB, mP, K, mC, l⟩ := m
  simp only at e1 e2 e3 e4 hn hC hfew hk hlast hnm hs1 ⊢
  subst e1 e2 e3 e4
  obtain ⟨wb, hwb⟩ : ∃ wb, w.alloc (.cells #[.int .i64 (E : Int), .int .i64 (B : Int), .int .i64 (P : Int), .int .i64 K, .int .i64 (C : Int), .slice A l.length c] 24 (0, 0)) = wb := ⟨_, rfl⟩
  have hB := box6 24 w (.int .i64 (E : Int)) (.int .i64 (B : Int)) (.int .i64 (P : Int)) (.int .i64 K) (.int .i64 (C : Int)) (.slice A l.length c)
  have hU := (Upon.refl (fun _ => False) w).alloc (.cells #[.int .i64 (E : Int), .int .i64 (B : Int), .int .i64 (P : Int), .int .i64 K, .int .i64 (C : Int), .slice A l.length c] 24 (0, 0))
  rw [hwb] at hB hU
  have HC := Lib.hid (hC.out _ hU)
  replace hn := Lib.hid (fun w1 (hu : New0 w w1) => hn.new hu)
  have HN1 := Lib.hid (fun w => rnum E (by omega) w)
  have HN2 := Lib.hid (fun w => rnum B (by omega) w)
  have HN3 := Lib.hid (fun w => rnum P (by omega) w)
  have HN4 := Lib.hid (fun w => rsgn K hk.1 hk.2 w)
  have HN5 := Lib.hid (fun w => rnum C (by omega) w)
  have HN6 := Lib.hid (fun w => rnum l.length (by omega) w)
  have wr1 : IntKind.u64.wrap (E : Int) = (E : Int) := by rw [IntKind.wrap_u64]; omega
  have wr2 : IntKind.u64.wrap (B : Int) = (B : Int) := by rw [IntKind.wrap_u64]; omega
  have wr3 : IntKind.u64.wrap (P : Int) = (P : Int) := by rw [IntKind.wrap_u64]; omega
  have wr4 : IntKind.u64.wrap (C : Int) = (C : Int) := by rw [IntKind.wrap_u64]; omega
  have wr5 : IntKind.u64.wrap (l.length : Int) = (l.length : Int) := by rw [IntKind.wrap_u64]; omega
  have z1 := Mt.numA_few E
  have z2 := Mt.numA_few B
  have z3 := Mt.numA_few P
  have z4 := Mt.numA_few (zig K)
  have z5 := Mt.numA_few C
  have z6 := Mt.numA_few l.length
  obtain ⟨n1, hn1⟩ : ∃ n, Mt.numA E = n := ⟨_, rfl⟩
  obtain ⟨n2, hn2⟩ : ∃ n, Mt.numA B = n := ⟨_, rfl⟩
  obtain ⟨n3, hn3⟩ : ∃ n, Mt.numA P = n := ⟨_, rfl⟩
  obtain ⟨n4, hn4⟩ : ∃ n, Mt.numA (zig K) = n := ⟨_, rfl⟩
  obtain ⟨n5, hn5⟩ : ∃ n, Mt.numA C = n := ⟨_, rfl⟩
  obtain ⟨n6, hn6⟩ : ∃ n, Mt.numA l.length = n := ⟨_, rfl⟩
  simp only [hn1] at HN1 z1
  simp only [hn2] at HN2 z2
  simp only [hn3] at HN3 z3
  simp only [hn4] at HN4 z4
  simp only [hn5] at HN5 z5
  simp only [hn6] at HN6 z6
  rw [hn1, hn2, hn3, hn4, hn5, hn6] at hlast
  have had1 := fun W => run_string_add_sum (P := Tryd.prog) W n1 n2 (by omega)
  have had2 := fun W => run_string_add_sum (P := Tryd.prog) W (n1 ++ n2) n3 (by rw [ByteArray.size_append]; omega)
  have had3 := fun W => run_string_add_sum (P := Tryd.prog) W (n1 ++ n2 ++ n3) n4 (by rw [ByteArray.size_append, ByteArray.size_append]; omega)
  have had4 := fun W => run_string_add_sum (P := Tryd.prog) W (n1 ++ n2 ++ n3 ++ n4) n5 (by rw [ByteArray.size_append, ByteArray.size_append, ByteArray.size_append]; omega)
  have had5 := fun W => run_string_add_sum (P := Tryd.prog) W (n1 ++ n2 ++ n3 ++ n4 ++ n5) n6 (by rw [ByteArray.size_append, ByteArray.size_append, ByteArray.size_append, ByteArray.size_append]; omega)
  have hl0z : (n1 ++ n2 ++ n3 ++ n4 ++ n5 ++ n6).size ≤ 54 := by rw [ByteArray.size_append, ByteArray.size_append, ByteArray.size_append, ByteArray.size_append, ByteArray.size_append]; omega
  have hlast2 : Hid (∀ s j, soR (n1 ++ n2 ++ n3 ++ n4 ++ n5 ++ n6) l j s → ¬ j < l.length → s = D) := Lib.hid (fun s j h hj => hlast.out _ s j h hj rfl)
  clear hlast hC hk hn1 hn2 hn3 hn4 hn5 hn6 z1 z2 z3 z4 z5 z6
  obtain ⟨k0, k1, k2, k3, k4, k5⟩ := hB.cells
  replace hB := Lib.hid hB
  replace hU := Lib.hid hU
  replace hwb := Lib.hid hwb
  go_enter Tryd.func11, Tryd.ntmps11
  go_wp2_with fail
  rw [hwb.out]
  go_wp2_with fail
  refine HC.out.mono ?_
  rintro e w2 ⟨rfl, hu2⟩
  replace hu2 := Lib.hid hu2
  clear HC hwb k0 k1 k2 k3 k4 k5
  obtain ⟨k0, k1, k2, k3, k4, k5⟩ := (hB.out.new hu2.out).cells
  have y0 := fun d os => cell_regrown k0 d os
  have y1 := fun d os => cell_regrown k1 d os
  have y2 := fun d os => cell_regrown k2 d os
  have y3 := fun d os => cell_regrown k3 d os
  have y4 := fun d os => cell_regrown k4 d os
  have y5 := fun d os => cell_regrown k5 d os
  have HA1 := Lib.hid (fun d os => HN1.out (grow (redrawn w2 d) os))
  have HA2 := Lib.hid (fun d os => HN2.out (grow (redrawn w2 d) os))
  have HA3 := Lib.hid (fun d os => HN3.out (grow (redrawn w2 d) os))
  have HA4 := Lib.hid (fun d os => HN4.out (grow (redrawn w2 d) os))
  have HA5 := Lib.hid (fun d os => HN5.out (grow (redrawn w2 d) os))
  have HA6 := Lib.hid (fun d os => HN6.out (grow (redrawn w2 d) os))
  clear HN1 HN2 HN3 HN4 HN5 HN6
  go_wp2_with fail
  refine wp_region_quiet_below (by kernel_rfl) (by kernel_rfl) ?_
  iterate 4 (go_big_quiet_step (exact Calls.regrown_of (HA1.out _ _)))
  iterate 5 (go_big_quiet_step (exact Calls.regrown_of (HA2.out _ _)))
  iterate 5 (go_big_quiet_step (exact Calls.regrown_of (HA3.out _ _)))
  iterate 4 (go_big_quiet_step (exact Calls.regrown_of (HA4.out _ _)))
  iterate 5 (go_big_quiet_step (exact Calls.regrown_of (HA5.out _ _)))
  repeat (go_big_quiet_step (exact Calls.regrown_of (HA6.out _ _)))
  refine wpQuiet_nil ?_
  intro _ hw'
  obtain ⟨⟨dq, osq⟩, hw''⟩ := hw'
  subst hw''
  have hu4 := Lib.hid (hu2.out.trans (newOf (below_regrown w2 dq osq)))
  clear hu2 HA1 HA2 HA3 HA4 HA5 HA6 y0 y1 y2 y3 y4 y5 k0 k1 k2 k3 k4 k5 had1 had2 had3 had4 had5 wr1 wr2 wr3 wr4 wr5
  generalize grow (redrawn w2 dq) osq = w4 at *
  obtain ⟨l0, hl0⟩ : ∃ l0, n1 ++ n2 ++ n3 ++ n4 ++ n5 ++ n6 = l0 := ⟨_, rfl⟩
  rw [hl0] at hlast2 hl0z ⊢
  clear hl0
  go_wp2_with fail
  go_loopw [5, 6] (fun sv ov wr => ∃ (j : Nat) (s : ByteArray), sv = .string s ∧ ov = .int .i64 (j : Int) ∧ j ≤ l.length ∧ Hid (soR l0 l j s) ∧ Hid (New0 wb wr)) (fun _ ov _ => l.length - (intOf ov).toNat)
  case atStart => exact ⟨0, _, rfl, rfl, Nat.zero_le _, Lib.hid (soR_start _ _), hu4⟩
  case round =>
    clear hu4
    obtain ⟨j, s, rfl, rfl, hj, hso, hu⟩ := hrel
    obtain ⟨k0, k1, k2, k3, k4, k5⟩ := (hB.out.new hu.out).cells
    have hall := Lib.hid (hU.out.trans hu.out)
    have hsz := soR_le hso.out hnm.out hfew
    by_cases hlt : j < l.length
    · obtain ⟨b0, off, rfl, -, -, hcells⟩ := NView.cells (hn.out _ hall.out) (by omega)
      have x0 := hcells j hlt
      have hz := hnm.out _ (List.getElem_mem hlt)
      have hst := Lib.hid (soR_step hso.out hlt)
      obtain ⟨t, ht⟩ : ∃ t, l[j] = t := ⟨_, rfl⟩
      rw [ht] at x0 hz hst
      have HT := Lib.hid (fun w => Dig.reftext_any t (by omega) w)
      have zt : (textA t).size ≤ 50 := by rw [textA_size]; have := nd_le t.size; omega
      obtain ⟨x, hx⟩ : ∃ x, textA t = x := ⟨_, rfl⟩
      rw [hx] at hst zt
      simp only [hx] at HT
      have hadd := fun W => run_string_add_sum (P := Tryd.prog) W s x (by omega)
      clear ht hx hcells hso hlast2 hnm hn
      go_wp2_with fail
      refine (HT.out _).mono ?_
      rintro e w6 ⟨rfl, hb6⟩
      have h6 := Lib.hid (hu.out.trans (newOf hb6))
      clear HT hb6 hu x0 hall k0 k1 k2 k3 k4 k5
      go_wp2_with fail
      go_roundw
      case rel => exact ⟨j + 1, _, rfl, by go_num, hlt, hst, h6⟩
      case measure => simp [intOf]; omega
    · have hsD := hlast2.out s j hso.out hlt
      subst hsD
      have HP := Lib.hid (fun w => rputOk s (by omega) w)
      clear hso hn hnm hlast2
      go_wp2_with fail
      refine (HP.out _).mono ?_
      rintro e w6 ⟨rfl, hb6⟩
      have h6 := Lib.hid (hall.out.trans (newOf hb6))
      clear HP hb6 hall hu k0 k1 k2 k3 k4 k5
      go_wp2_with fail
      go_ret2
      exact ⟨ret_si (by rw [← hs1.out, hcode.out]) rfl, h6.out⟩
theorem refenc_any (w : World) (S : Nat → Prop) (v : Value) (m : M) (hv : MView w S v m) (hb : Bnd m) :
    Calls Tryd.prog 11 #[v] w fun e w' => e = .returned (.tuple #[.string (encS m), .int .i64 (chk m)]) ∧ New0 w w' := by
  by_cases hz : chk m = 0
  · rw [hz]; exact refenc_yes w S v m hv hb hz
  · exact refenc_no w S v m hv hb hz
end Mf
end Go.Proofs.YtjpgglajcelllaaDoor
