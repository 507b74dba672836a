/- The document's own blocks (layer 15): Encode. -/
import Derived.Test.YtlgjbcmloochiaaGreatDoorZaBkBytes
import Derived.Test.YtlgjbcmloochiaaGreatDoorZaBkRef1
import Derived.Test.YtlgjbcmloochiaaGreatDoorZaPCk1
import Derived.Test.YtlgjbcmloochiaaGreatDoorZaPSum
import Derived.Test.YtlgjbcmloochiaaGreatDoorZaPFrame
set_option maxRecDepth 100000
namespace Go.Proofs.YtlgjbcmloochiaaGreatDoor
open Go.RowKit Go.Sort
namespace Bk
open Bit Dsk Ob Dig
set_option linter.unusedVariables false

theorem rputOk (k : Nat) (s : ByteArray) (h1 : 1 ≤ k) (h2 : k ≤ 255) (h : s.size ≤ 65536) (w : World) :
    Calls Tryz.prog 30 #[.agg #[.int .i64 (k : Int), .string s]] w fun e w' => e = .returned (.tuple #[.string (Frm.putA k s), .int .i64 0]) ∧ Below w.heap.size w w' := by
  have := Frm.refput_any (k : Int) s (by omega) w
  rw [(putS_ok h1 h2 h).1, (putS_ok h1 h2 h).2] at this
  exact this
theorem rputLong (k : Nat) (s : ByteArray) (h1 : 1 ≤ k) (h2 : k ≤ 255) (h : 65536 < s.size) (hs : s.size ≤ 9223372036854775807) (w : World) :
    Calls Tryz.prog 30 #[.agg #[.int .i64 (k : Int), .string s]] w fun e w' => e = .returned (.tuple #[.string ⟨#[]⟩, .int .i64 8]) ∧ Below w.heap.size w w' := by
  have := Frm.refput_any (k : Int) s hs w
  rw [(putS_long h1 h2 h).1, (putS_long h1 h2 h).2] at this
  exact this
theorem rsumB (s : ByteArray) (w : World) : Calls Tryz.prog 38 #[.int .u32 ((Crc.more 0 s.data.toList : Nat) : Int)] w fun e w' => e = .returned (.string (Frm.sumB (Crc.more 0 s.data.toList))) ∧ Below w.heap.size w w' := Frm.ref_bytes _ (Crc.more_lt _ _) w
theorem rnum (n : Nat) (h : n < 18446744073709551616) (w : World) : Calls Tryz.prog 31 #[.int .u64 (n : Int)] w fun e w' => e = .returned (.string (Mt.numA n)) ∧ Below w.heap.size w w' := Rc.numP n h w
theorem rsgn (x : Int) (h0 : -9223372036854775808 ≤ x) (h1 : x ≤ 9223372036854775807) (w : World) : Calls Tryz.prog 34 #[.int .i64 x] w fun e w' => e = .returned (.string (Mt.numA (zig x))) ∧ Below w.heap.size w w' := Rc.sgnP x h0 h1 w
/-- A part's chunk. -/
theorem rpart (w : World) (v : Value) (l : List Pt) (hr : Ck.Rises l l.length) (hi : ∀ p ∈ l, Ck.PtIn p) {k : Nat} (hk : k < Ck.nparts l) (hv : Ck.View w Ck.All v (Ck.part l k)) :
    Calls Tryz.prog 36 #[v] w fun e w' => e = .returned (.tuple #[.string (bts (Ck.code (Ck.part l k))), .int .i64 0]) ∧ New0 w w' := by
  have h1 := Ck.part_len hk
  have := Ck.refenc_any w Ck.All v _ hv (Ck.part_in hi k)
  rw [← Ck.encR_ok h1.1 h1.2 (Ck.part_rises hr k) rfl] at this
  exact this
theorem rcheckIs (w : World) (S : Nat → Prop) (v : Value) (b : B) (hv : BView w S v b) (hb : Bnd b) {z : Nat} (hz : chk b = z) :
    Calls Tryz.prog 13 #[v] w fun e w' => e = .returned (.int .i64 (z : Int)) ∧ New0 w w' := by
  subst hz; exact refcheck_any w S v b hv hb
/-- The parts' cells. -/
theorem Parts.cell {w : World} {A : Option Addr} {n c : Nat} {l : List Pt} (h : Ck.Parts w (.slice A n c) l) {k : Nat} (hk : k < Ck.nparts l) : n = Ck.nparts l ∧ ∃ b off v, A = some ⟨b, off, none⟩ ∧ w.cell? ⟨b, off + k, none⟩ = some v ∧ Ck.View w Ck.All v (Ck.part l k) := by
  obtain ⟨A', c', e, h1, h2, h3⟩ := h
  injection e with e1 e2 e3
  subst e1
  obtain ⟨b, off, k1, k2⟩ := h3 (by omega)
  obtain ⟨v, m1, m2⟩ := k2 k hk
  exact ⟨e2, b, off, v, k1, m1, m2⟩
theorem Parts.shape {w : World} {u : Value} {l : List Pt} (h : Ck.Parts w u l) : ∃ A c, u = .slice A (Ck.nparts l) c := let ⟨A, c, e, _⟩ := h; ⟨A, c, e⟩

set_option maxHeartbeats 12800000 in
theorem refenc_no (w : World) (S : Nat → Prop) (v : Value) (b : B) (hv : BView w S v b) (hb : Bnd b) (hz : chk b ≠ 0) :
    Calls Tryz.prog 11 #[v] w fun e w' => e = encR b ∧ New0 w w' := by
  obtain ⟨z, hz2⟩ : ∃ z, chk b = z := ⟨_, rfl⟩
  have hR := Lib.hid (encR_chk hz2 (by rw [← hz2]; exact hz))
  have hC := fun w1 (hu : New0 w w1) => rcheckIs w1 S v b (hv.new hu) hb hz2
  rw [hz2] at hz
  obtain ⟨A, c, A', c', rfl, hr, hd⟩ := BView.shape hv
  have dz : ((z : Int) != 0) = true := by rw [bne_iff_ne]; omega
  have hU := Lib.hid ((Upon.refl (fun _ => False) w).alloc (.cells #[.int .i64 b.first, .int .i64 b.til, .slice A b.rows.length c, .slice A' b.dels.length c'] 25 (0, 0)))
  obtain ⟨k0, k1, k2, k3⟩ := box4 w b.first b.til (.slice A b.rows.length c) (.slice A' b.dels.length c') 25
  have HC := Lib.hid (hC _ hU.out)
  clear hr hd hv hb hC hz2 hz
  go_enter Tryz.func11, Tryz.ntmps11
  go_wp2_with fail
  refine HC.out.mono ?_
  rintro e w2 ⟨rfl, hu2⟩
  have hu := Lib.hid (hU.out.trans hu2)
  clear HC hu2 k0 k1 k2 k3
  go_wp2_with fail
  go_ret2
  exact ⟨hR.out, hu.out⟩
set_option maxHeartbeats 25600000 in
theorem refenc_yes (w : World) (S : Nat → Prop) (v : Value) (b : B) (hv : BView w S v b) (hb : Bnd b) (hf : Few b) (hz : chk b = 0) :
    Calls Tryz.prog 11 #[v] w fun e w' => e = encR b ∧ New0 w w' := by
  obtain ⟨E, hE⟩ : ∃ E, encR b = E := ⟨_, rfl⟩
  rw [hE]
  have hC := fun w1 (hu : New0 w w1) => rcheckIs w1 S v b (hv.new hu) hb hz
  have hg := chk_zero.1 hz
  have hsp := hg.span
  have hfin : Hid (∀ (s : ByteArray) (j : Nat), SoD b j s → ¬ j < b.dels.length → Ending.returned (.tuple #[.string (s ++ Frm.putA 5 (Frm.sumB (Crc.more 0 s.data.toList))), .int .i64 0]) = E) := Lib.hid (fun s j h hj => by rw [← hE]; exact encR_ok hz h hj)
  have hlong : Hid (∀ j (hj : j < b.rows.length), 65536 < (rowL b.rows[j]).length → Ending.returned (.tuple #[.string ⟨#[]⟩, .int .i64 8]) = E) := Lib.hid (fun j hj h => by rw [← hE]; exact encR_long hz hj h)
  have hso0 := Lib.hid (SoR.start b)
  have hhd := headA b
  have hhl := headL_len b
  have hR : Hid (∀ j (hj : j < b.rows.length) s, SoR b j s → (rowL b.rows[j]).length ≤ 65536 → SoR b (j + 1) (s ++ Frm.putA 3 (bts (rowL b.rows[j])))) := Lib.hid (fun j hj s h hl => h.step hj hl)
  have hRD : Hid (∀ j s, SoR b j s → ¬ j < b.rows.length → j ≤ b.rows.length → SoD b 0 s) := Lib.hid (fun j s h h1 h2 => h.toD h1 h2)
  have hD : Hid (∀ j (hj : j < b.dels.length) s, SoD b j s → SoD b (j + 1) (s ++ Frm.putA 4 (bts (Rc.encB b.dels[j])))) := Lib.hid (fun j hj s h => h.step hj (hg.dels _ (List.getElem_mem hj)))
  have hszR : Hid (∀ j s, SoR b j s → s.size ≤ 65600 * (j + 1)) := Lib.hid (fun j s h => h.size)
  have hszD : Hid (∀ j s, SoD b j s → s.size ≤ 65600 * (b.rows.length + 1 + j)) := Lib.hid (fun j s h => h.size)
  have hlab := Lib.hid hg.lab
  have hpts := Lib.hid hg.pts
  have hdel := Lib.hid hg.dels
  have hsml := Lib.hid hb.sml
  have hinn := Lib.hid hb.inn
  have hdb := Lib.hid hb.dels
  have hfp := Lib.hid hf.pts
  have hfew := hf.rows
  have hfew2 := hf.dels
  obtain ⟨A, c, A', c', rfl, hr, hd⟩ := BView.shape hv
  unfold badSpan at hsp
  clear hg hb hf hE hv hz
  obtain ⟨PR, hPR⟩ : ∃ P, P = SoR b := ⟨_, rfl⟩
  obtain ⟨PD, hPD⟩ : ∃ P, P = SoD b := ⟨_, rfl⟩
  rw [← hPR] at hso0 hR hRD hszR
  rw [← hPD] at hfin hRD hD hszD
  clear hPR hPD
  obtain ⟨f, t, l, ds⟩ := b
  simp only at hC hr hd hsml hdb hfew hfew2 hlab hpts hdel hinn hfp hsp hfin hlong hso0 hhd hhl hR hRD hD hszR hszD
  obtain ⟨F, rfl⟩ := Int.eq_ofNat_of_zero_le (show 0 ≤ f by omega)
  obtain ⟨T, rfl⟩ := Int.eq_ofNat_of_zero_le (show 0 ≤ t by omega)
  rw [Int.toNat_natCast, Int.toNat_natCast] at hhd
  have hcells := Lib.hid (fun h => BsView.cells hr h)
  have hds := Lib.hid (fun (i : Nat) (hi : i < ds.length) => Hd.RsView.at hd hi)
  have hB := Lib.hid (box4 w (F : Int) (T : Int) (.slice A l.length c) (.slice A' ds.length c') 25)
  have hU := Lib.hid ((Upon.refl (fun _ => False) w).alloc (.cells #[.int .i64 (F : Int), .int .i64 (T : Int), .slice A l.length c, .slice A' ds.length c'] 25 (0, 0)))
  obtain ⟨wb, hwb⟩ : ∃ wb, w.alloc (.cells #[.int .i64 (F : Int), .int .i64 (T : Int), .slice A l.length c, .slice A' ds.length c'] 25 (0, 0)) = wb := ⟨_, rfl⟩
  rw [hwb] at hB hU
  replace hwb := Lib.hid hwb
  have HC := Lib.hid (hC _ hU.out)
  have HN1 := Lib.hid (fun w => rnum F (by omega) w)
  have HN2 := Lib.hid (fun w => rnum T (by omega) w)
  have HN3 := Lib.hid (fun w => rnum l.length (by omega) w)
  have HN4 := Lib.hid (fun w => rnum ds.length (by omega) w)
  have wr1 : IntKind.u64.wrap (F : Int) = (F : Int) := by rw [IntKind.wrap_u64]; omega
  have wr2 : IntKind.u64.wrap (T : Int) = (T : Int) := by rw [IntKind.wrap_u64]; omega
  have wr3 : IntKind.u64.wrap (l.length : Int) = (l.length : Int) := by rw [IntKind.wrap_u64]; omega
  have wr4 : IntKind.u64.wrap (ds.length : Int) = (ds.length : Int) := by rw [IntKind.wrap_u64]; omega
  have z1 := Mt.numA_few F
  have z2 := Mt.numA_few T
  have z3 := Mt.numA_few l.length
  have z4 := Mt.numA_few ds.length
  unfold numA at hhd
  obtain ⟨n1, hn1⟩ : ∃ n, Mt.numA F = n := ⟨_, rfl⟩
  obtain ⟨n2, hn2⟩ : ∃ n, Mt.numA T = n := ⟨_, rfl⟩
  obtain ⟨n3, hn3⟩ : ∃ n, Mt.numA l.length = n := ⟨_, rfl⟩
  obtain ⟨n4, hn4⟩ : ∃ n, Mt.numA ds.length = n := ⟨_, rfl⟩
  rw [hn1] at HN1 z1 hhd
  rw [hn2] at HN2 z2 hhd
  rw [hn3] at HN3 z3 hhd
  rw [hn4] at HN4 z4 hhd
  have had1 := fun W => run_string_add_sum (P := Tryz.prog) W n1 n2 (by omega)
  have had2 := fun W => run_string_add_sum (P := Tryz.prog) W (n1 ++ n2) n3 (by rw [ByteArray.size_append]; omega)
  have had3 := fun W => run_string_add_sum (P := Tryz.prog) W (n1 ++ n2 ++ n3) n4 (by rw [ByteArray.size_append, ByteArray.size_append]; omega)
  have HP := Lib.hid (fun w => rputOk 2 (n1 ++ n2 ++ n3 ++ n4) (by decide) (by decide) (by rw [hhd, bts_size]; omega) w)
  rw [← hhd] at hso0
  replace hhd := Lib.hid hhd
  clear hC hr hd hhl hsp hn1 hn2 hn3 hn4 z1 z2 z3 z4
  obtain ⟨k0, k1, k2, k3⟩ := hB.out
  go_enter Tryz.func11, Tryz.ntmps11
  go_wp2_with fail
  rw [hwb.out]
  refine HC.out.mono ?_
  rintro e w2 ⟨rfl, hu2⟩
  replace hu2 := Lib.hid hu2
  clear HC hwb k0 k1 k2 k3
  obtain ⟨k0, k1, k2, k3⟩ := hB.out.new hu2.out
  have y0 := fun d os => cell_regrown k0 d os
  have y1 := fun d os => cell_regrown k1 d os
  have y2 := fun d os => cell_regrown k2 d os
  have y3 := fun d os => cell_regrown k3 d os
  have HA1 := Lib.hid (fun d os => HN1.out (grow (redrawn w2 d) os))
  have HA2 := Lib.hid (fun d os => HN2.out (grow (redrawn w2 d) os))
  have HA3 := Lib.hid (fun d os => HN3.out (grow (redrawn w2 d) os))
  have HA4 := Lib.hid (fun d os => HN4.out (grow (redrawn w2 d) os))
  have HA5 := Lib.hid (fun d os => HP.out (grow (redrawn w2 d) os))
  clear HN1 HN2 HN3 HN4 HP
  go_wp2_with fail
  refine wp_region_quiet_below (by kernel_rfl) (by kernel_rfl) ?_
  iterate 4 (go_big_quiet_step (exact Calls.regrown_of (HA1.out _ _)))
  iterate 4 (go_big_quiet_step (exact Calls.regrown_of (HA2.out _ _)))
  iterate 6 (go_big_quiet_step (exact Calls.regrown_of (HA3.out _ _)))
  iterate 6 (go_big_quiet_step (exact Calls.regrown_of (HA4.out _ _)))
  repeat (go_big_quiet_step (exact Calls.regrown_of (HA5.out _ _)))
  refine wpQuiet_nil ?_
  intro _ hw'
  obtain ⟨⟨dq, osq⟩, hw''⟩ := hw'
  subst hw''
  have hu4 := Lib.hid (hu2.out.trans (newOf (below_regrown w2 dq osq)))
  clear hu2 HA1 HA2 HA3 HA4 HA5 y0 y1 y2 y3 k0 k1 k2 k3 had1 had2 had3 wr1 wr2 wr3 wr4
  generalize grow (redrawn w2 dq) osq = w4 at *
  go_wp2_with fail
  go_loopw [5, 7] (fun sv ov wr => ∃ (j : Nat) (s : ByteArray), sv = .string s ∧ ov = .int .i64 (j : Int) ∧ j ≤ l.length ∧ Hid (PR j s) ∧ Hid (New0 wb wr)) (fun _ ov _ => l.length - (intOf ov).toNat)
  case atStart => exact ⟨0, _, rfl, rfl, Nat.zero_le _, hso0, hu4⟩
  case round =>
    clear hso0 hu4 hhd
    obtain ⟨j, s, rfl, rfl, hj, hso, hu⟩ := hrel
    obtain ⟨k0, k1, k2, k3⟩ := hB.out.new hu.out
    by_cases hlt : j < l.length
    · obtain ⟨b0, off, rfl, -, hcl⟩ := hcells.out (by omega)
      obtain ⟨A1, c1, A2, c2, x0, x1, x2, hv1, hv2⟩ := hcl j hlt
      have hall := hU.out.trans hu.out
      have r0 := Lb.New0.cells hall x0
      have r1 := Lb.New0.cells hall x1
      have r2 := Lb.New0.cells hall x2
      have hm := List.getElem_mem hlt
      have hok := hlab.out _ hm
      have hsm := hsml.out _ hm
      have hpo := hpts.out _ hm
      have hin := hinn.out _ hm
      have hpf := hfp.out _ hm
      have hlg := Lib.hid (hlong.out j hlt)
      have hst := Lib.hid (fun h => hR.out j hlt s hso.out h)
      have hss := hszR.out j s hso.out
      obtain ⟨r, hr⟩ : ∃ r, l[j] = r := ⟨_, rfl⟩
      rw [hr] at r0 r1 r2 hv1 hv2 hok hsm hpo hin hpf hlg hst
      clear hcl x0 x1 x2 hr hm hso
      obtain ⟨wx, hwx⟩ : ∃ wx, wr.alloc (.cells #[.slice A1 r.lab.length c1, .int .i64 r.last, .slice A2 r.pts.length c2] 70 (0, 0)) = wx := ⟨_, rfl⟩
      have hX := Lib.hid (box3 wr (.slice A1 r.lab.length c1) r.last (.slice A2 r.pts.length c2) 70)
      have hUX := Lib.hid ((Upon.refl (fun _ => False) wr).alloc (.cells #[.slice A1 r.lab.length c1, .int .i64 r.last, .slice A2 r.pts.length c2] 70 (0, 0)))
      rw [hwx] at hX hUX
      replace hwx := Lib.hid hwx
      have hux := Lib.hid (hall.trans hUX.out)
      have hubx := Lib.hid (hu.out.trans hUX.out)
      have HL := Lb.refenc_any wx S _ _ (Rw.View.new hv1 hux.out) hsm
      rw [Lb.encR_ok hok] at HL
      have hts := Rc.encL_len hok
      obtain ⟨tl, htl⟩ : ∃ tl : ByteArray, (⟨(Lb.encB r.lab).toArray⟩ : ByteArray) = tl := ⟨_, rfl⟩
      have hrs := RowTo.start r
      have hls : (bts (Lb.encB r.lab)).size ≤ 921 := by rw [bts_size]; exact hts
      unfold bts numA at hrs
      unfold bts at hls
      rw [htl] at HL hrs hls
      have HT := Lib.hid (fun w => reftext_any tl (by omega) w)
      have HS := Lib.hid (fun w => rsgn r.last hin.last.1 hin.last.2 w)
      have z1 : (textA tl).size ≤ 940 := by rw [textA_size]; have := nd_le tl.size; omega
      have z2 := Mt.numA_few (zig r.last)
      have hv2' := Lib.hid (fun w' (hu' : New0 wx w') => Ck.refsplit_any w' S _ _ (ptsView (Rw.View.new hv2 (hux.out.trans hu'))) hpf)
      obtain ⟨t1, ht1⟩ : ∃ t, textA tl = t := ⟨_, rfl⟩
      obtain ⟨t2, ht2⟩ : ∃ t, Mt.numA (zig r.last) = t := ⟨_, rfl⟩
      simp only [ht1] at HT z1 hrs
      simp only [ht2] at HS z2 hrs
      have hadd := fun W => run_string_add_sum (P := Tryz.prog) W t1 t2 (by omega)
      replace HL := Lib.hid HL
      replace hrs := Lib.hid hrs
      have hpart : Hid (∀ w1 v k, k < Ck.nparts r.pts → Ck.View w1 Ck.All v (Ck.part r.pts k) → Calls Tryz.prog 36 #[v] w1 fun e w' => e = .returned (.tuple #[.string (bts (Ck.code (Ck.part r.pts k))), .int .i64 0]) ∧ New0 w1 w') := Lib.hid (fun w1 v k hk hv => rpart w1 v r.pts hpo.rise hin.pts hk hv)
      have hrsz : Hid (∀ k d, RowTo r k d → d.size ≤ 4000000) := Lib.hid (fun k d h => h.size hok hpf)
      have hnp : Ck.nparts r.pts ≤ 100000 := by unfold Ck.nparts; omega
      clear htl ht1 ht2 hls hts z1 z2 hv1 hv2 hall hok hsm hpo hin hpf hu
      go_wp2_with fail
      rw [hwx.out]
      refine HL.out.mono ?_
      rintro e w6 ⟨rfl, hu6⟩
      obtain ⟨g0, g1, g2⟩ := hX.out.new hu6
      have hu7 := Lib.hid (hubx.out.trans hu6)
      replace hu6 := Lib.hid hu6
      clear HL hwx hubx r0 r1 r2 k0 k1 k2 k3
      have y1 := fun d os => cell_regrown g1 d os
      have HT1 := Lib.hid (fun d os => HT.out (grow (redrawn w6 d) os))
      have HS1 := Lib.hid (fun d os => HS.out (grow (redrawn w6 d) os))
      clear HT HS
      go_wp2_with fail
      refine wp_region_quiet_below (by kernel_rfl) (by kernel_rfl) ?_
      repeat (go_big_quiet_step (first
        | exact Calls.regrown_of (HT1.out _ _)
        | exact Calls.regrown_of (HS1.out _ _)))
      refine wpQuiet_nil ?_
      intro _ hw'
      obtain ⟨⟨dq, osq⟩, hw''⟩ := hw'
      subst hw''
      have hn8 := newOf (below_regrown w6 dq osq)
      have hu8 := Lib.hid (hu7.out.trans hn8)
      have hx8 := Lib.hid (hu6.out.trans hn8)
      clear hu7 hu6 HT1 HS1 y1 g0 g1 g2 hadd hn8
      generalize grow (redrawn w6 dq) osq = w8 at *
      obtain ⟨g0, g1, g2⟩ := hX.out.new hx8.out
      have HSP := Lib.hid (hv2'.out w8 hx8.out)
      clear hv2'
      go_wp2_with fail
      refine HSP.out.mono ?_
      rintro e w9 ⟨u, rfl, hP, hu9⟩
      obtain ⟨Ap, cp, rfl⟩ := Parts.shape hP
      have hu10 := Lib.hid (hu8.out.trans hu9)
      replace hP := Lib.hid hP
      clear HSP hu8 hx8 g0 g1 g2 hu9 hX hUX hux
      go_wp2_with fail
      go_loopw [11, 13] (fun dv kv wr => ∃ (k : Nat) (d : ByteArray), dv = .string d ∧ kv = .int .i64 (k : Int) ∧ k ≤ Ck.nparts r.pts ∧ Hid (RowTo r k d) ∧ Hid (New0 w9 wr)) (fun _ kv _ => Ck.nparts r.pts - (intOf kv).toNat)
      case atStart => exact ⟨0, _, rfl, rfl, Nat.zero_le _, hrs, Lib.hid (Upon.refl _ _)⟩
      case round =>
        clear hrs
        obtain ⟨k, d, rfl, rfl, hk, hrt, huq⟩ := hrel
        by_cases hkl : k < Ck.nparts r.pts
        · obtain ⟨-, pb, po, pv, rfl, q0, hpv⟩ := Parts.cell (hP.out.new huq.out) hkl
          have HE := Lib.hid (hpart.out wr pv k hkl hpv)
          have hcs : (Ck.code (Ck.part r.pts k)).length ≤ 2000 := Ck.code_size (Ck.part_len hkl).2
          have hnx := hrt.out.step hkl
          have hdz := hrsz.out k d hrt.out
          obtain ⟨cc, hcc⟩ : ∃ cc, bts (Ck.code (Ck.part r.pts k)) = cc := ⟨_, rfl⟩
          have hcz : cc.size ≤ 2000 := by rw [← hcc, bts_size]; exact hcs
          rw [hcc] at HE hnx
          have HT := Lib.hid (fun w => reftext_any cc (by omega) w)
          have z1 : (textA cc).size ≤ 2010 := by rw [textA_size]; have := nd_le cc.size; omega
          obtain ⟨tc, htc⟩ : ∃ tc, textA cc = tc := ⟨_, rfl⟩
          simp only [htc] at HT z1 hnx
          have hadd := fun W => run_string_add_sum (P := Tryz.prog) W d tc (by omega)
          replace hnx := Lib.hid hnx
          clear hpv hrt hcc htc hcs hcz
          go_wp2_with fail
          refine HE.out.mono ?_
          rintro e w11 ⟨rfl, hu11⟩
          have hu12 := Lib.hid (huq.out.trans hu11)
          clear HE hu11 huq q0
          go_wp2_with fail
          refine (HT.out _).mono ?_
          rintro e w13 ⟨rfl, hb13⟩
          have hu14 := Lib.hid (hu12.out.trans (newOf hb13))
          clear HT hb13 hu12
          go_wp2_with fail
          go_roundw
          case rel => exact ⟨k + 1, _, rfl, by go_num, hkl, hnx, hu14⟩
          case measure => simp [intOf]; omega
        · have hdl := hrt.out.last hkl
          have hdz := hrsz.out k d hrt.out
          have hu12 := Lib.hid (hu10.out.trans huq.out)
          subst hdl
          clear hrt huq hu10 hpart hP hrsz
          by_cases h6 : (rowL r).length ≤ 65536
          · have HP := Lib.hid (fun w => rputOk 3 (bts (rowL r)) (by decide) (by decide) (by rw [bts_size]; exact h6) w)
            have hnx := hst.out h6
            have hpz := putA_few 3 (s := bts (rowL r)) (by rw [bts_size]; exact h6)
            obtain ⟨D, hD'⟩ : ∃ D, bts (rowL r) = D := ⟨_, rfl⟩
            rw [hD'] at HP hnx hpz
            obtain ⟨P, hP⟩ : ∃ P, Frm.putA 3 D = P := ⟨_, rfl⟩
            simp only [hP] at HP hnx hpz
            have hadd := fun W => run_string_add_sum (P := Tryz.prog) W s P (by omega)
            rw [hD']
            replace hnx := Lib.hid hnx
            clear hst hlg hD' hP h6 hss hpz hdz
            go_wp2_with fail
            refine (HP.out _).mono ?_
            rintro e w13 ⟨rfl, hb13⟩
            have hu14 := Lib.hid (hu12.out.trans (newOf hb13))
            clear HP hb13 hu12
            go_wp2_with fail
            go_roundw
            case rel => exact ⟨j + 1, _, rfl, by go_num, hlt, hnx, hu14⟩
            case measure => simp [intOf]; omega
          · have HP := Lib.hid (fun w => rputLong 3 (bts (rowL r)) (by decide) (by decide) (by rw [bts_size]; omega) (by omega) w)
            have hEn := Lib.hid (hlg.out (by omega))
            obtain ⟨D, hD'⟩ : ∃ D, bts (rowL r) = D := ⟨_, rfl⟩
            rw [hD'] at HP
            rw [hD']
            clear hst hlg hD' h6 hss hdz
            go_wp2_with fail
            refine (HP.out _).mono ?_
            rintro e w13 ⟨rfl, hb13⟩
            have hu14 := Lib.hid (hU.out.trans (hu12.out.trans (newOf hb13)))
            clear HP hb13 hu12
            go_wp2_with fail
            go_ret2
            exact ⟨hEn.out, hu14.out⟩
    · have hsd := Lib.hid (hRD.out j s hso.out hlt hj)
      clear hso hR hRD hszR hcells hlab hpts hsml hinn hfp hlong
      go_wp2_with fail
      go_loopw [5, 18] (fun sv ov wr => ∃ (i : Nat) (s : ByteArray), sv = .string s ∧ ov = .int .i64 (i : Int) ∧ i ≤ ds.length ∧ Hid (PD i s) ∧ Hid (New0 wb wr)) (fun _ ov _ => ds.length - (intOf ov).toNat)
      case atStart => exact ⟨0, _, rfl, rfl, Nat.zero_le _, hsd, hu⟩
      case round =>
        clear hsd k0 k1 k2 k3
        obtain ⟨i, s, rfl, rfl, hi, hso, hu⟩ := hrel
        obtain ⟨k0, k1, k2, k3⟩ := hB.out.new hu.out
        have hss := hszD.out i s hso.out
        have hall := Lib.hid (hU.out.trans hu.out)
        by_cases hil : i < ds.length
        · obtain ⟨db, doff, B1, e1, B2, e2, rfl, -, y0, y1, y2, y3, y4, hv, -⟩ := hds.out i hil
          have g0 := Lb.New0.cells hall.out y0
          have g1 := Lb.New0.cells hall.out y1
          have g2 := Lb.New0.cells hall.out y2
          have g3 := Lb.New0.cells hall.out y3
          have g4 := Lb.New0.cells hall.out y4
          have hm := List.getElem_mem hil
          have hbd := hdb.out _ hm
          have hok := hdel.out _ hm
          have hnx := hD.out i hil s hso.out
          have hfw := delF_few hok
          have HE := Rc.refenc_any _ _ _ _ (Rc.RView.new hv hall.out) hbd.1
          rw [Rc.encR_ok hok.2] at HE
          obtain ⟨r, hr⟩ : ∃ r, ds[i] = r := ⟨_, rfl⟩
          rw [hr] at g0 g1 g2 g3 g4 HE hnx hfw
          unfold bts at hnx hfw
          obtain ⟨D, hD'⟩ : ∃ D : ByteArray, (⟨(Rc.encB r).toArray⟩ : ByteArray) = D := ⟨_, rfl⟩
          rw [hD'] at HE hnx hfw
          have HP := Lib.hid (fun w => rputOk 4 D (by decide) (by decide) hfw w)
          have hpz := putA_few 4 hfw
          obtain ⟨P, hP⟩ : ∃ P, Frm.putA 4 D = P := ⟨_, rfl⟩
          simp only [hP] at HP hnx hpz
          have hadd := fun W => run_string_add_sum (P := Tryz.prog) W s P (by omega)
          replace HE := Lib.hid HE
          replace hnx := Lib.hid hnx
          clear y0 y1 y2 y3 y4 hv hr hbd hok hm hD' hP hfw hpz hso hall hss
          go_wp2_with fail
          refine HE.out.mono ?_
          rintro e w6 ⟨rfl, hu6⟩
          have hu7 := Lib.hid (hu.out.trans hu6)
          clear HE hu6 hu g0 g1 g2 g3 g4 k0 k1 k2 k3
          go_wp2_with fail
          refine (HP.out _).mono ?_
          rintro e w8 ⟨rfl, hb8⟩
          have hu9 := Lib.hid (hu7.out.trans (newOf hb8))
          clear HP hb8 hu7
          go_wp2_with fail
          go_roundw
          case rel => exact ⟨i + 1, _, rfl, by go_num, hil, hnx, hu9⟩
          case measure => simp [intOf]; omega
        · have hEn := hfin.out s i hso.out hil
          have HO := Lib.hid (fun w => Crc.refof_any s (by omega) w)
          have HB := Lib.hid (fun w => rsumB s w)
          obtain ⟨q, hq⟩ : ∃ q : Nat, Crc.more 0 s.data.toList = q := ⟨_, rfl⟩
          rw [hq] at HO HB hEn
          have hsz := end_few q
          obtain ⟨D, hD'⟩ : ∃ D, Frm.sumB q = D := ⟨_, rfl⟩
          simp only [hD'] at HB hEn hsz
          have HP := Lib.hid (fun w => rputOk 5 D (by decide) (by decide) hsz w)
          have hpz := putA_few 5 hsz
          obtain ⟨P, hP⟩ : ∃ P, Frm.putA 5 D = P := ⟨_, rfl⟩
          simp only [hP] at HP hEn hpz
          have hadd := fun W => run_string_add_sum (P := Tryz.prog) W s P (by omega)
          replace hEn := Lib.hid hEn
          clear hq hD' hP hpz hsz hss hso hD hszD hfin hds hdb hdel
          go_wp2_with fail
          refine (HO.out _).mono ?_
          rintro e w6 ⟨rfl, rfl⟩
          clear HO k0 k1 k2 k3
          go_wp2_with fail
          refine (HB.out _).mono ?_
          rintro e w7 ⟨rfl, hb7⟩
          have hu8 := Lib.hid (hall.out.trans (newOf hb7))
          clear HB hb7 hall hu
          go_wp2_with fail
          refine (HP.out _).mono ?_
          rintro e w9 ⟨rfl, hb9⟩
          have hu10 := Lib.hid (hu8.out.trans (newOf hb9))
          clear HP hb9 hu8
          go_wp2_with fail
          go_ret2
          exact ⟨hEn.out, hu10.out⟩
theorem refenc_any (w : World) (S : Nat → Prop) (v : Value) (b : B) (hv : BView w S v b) (hb : Bnd b) (hf : Few b) :
    Calls Tryz.prog 11 #[v] w fun e w' => e = encR b ∧ New0 w w' := by
  by_cases hz : chk b = 0
  · exact refenc_yes w S v b hv hb hf hz
  · exact refenc_no w S v b hv hb hz
end Bk
end Go.Proofs.YtlgjbcmloochiaaGreatDoor
