/- The program's records (layer 12): Encode. -/
import Derived.Test.YtlgjbcmloochiaaGreatDoorZaPRc3
import Derived.Test.YtlgjbcmloochiaaGreatDoorZaPRc4
import Derived.Test.YtlgjbcmloochiaaGreatDoorZaPLb2
import Derived.Test.YtlgjbcmloochiaaGreatDoorZaPMt2
set_option maxRecDepth 100000
namespace Go.Proofs.YtlgjbcmloochiaaGreatDoor
open Go.RowKit Go.Sort
namespace Rc
open Bit Dsk Ob Dig
set_option linter.unusedVariables false

theorem pnum (n : Nat) (h : n < 18446744073709551616) (w : World) : Calls Tryz.prog 109 #[.int .u64 (n : Int)] w fun e w' => e = .returned (.string (numA n)) ∧ Below w.heap.size w w' := by
  have := Dig.num_any (n : Int) (by omega) (by omega) w
  rw [Int.toNat_natCast] at this
  exact this
theorem psgn (x : Int) (h0 : -9223372036854775808 ≤ x) (h1 : x ≤ 9223372036854775807) (w : World) : Calls Tryz.prog 111 #[.int .i64 x] w fun e w' => e = .returned (.string (numA (zig x))) ∧ Below w.heap.size w w' := Dig.signed_any x h0 h1 w
/-- The bytes behind the kind so far. -/
def Sc (l : List Smp) (j : Nat) (s : ByteArray) : Prop := s.data.toList = numL l.length ++ (l.take j).flatMap sB
theorem Sc.start (l : List Smp) : Sc l 0 (numA l.length) := by unfold Sc; rw [numA_list]; simp
theorem Sc.step {l : List Smp} {j : Nat} {s : ByteArray} (h : Sc l j s) (hj : j < l.length) : Sc l (j + 1) (s ++ (textA ⟨(Lb.encB l[j].1).toArray⟩ ++ numA (zig l[j].2.1) ++ numA l[j].2.2)) := by
  unfold Sc at *
  rw [app_list, app_list, app_list, h, textA_list, numA_list, numA_list, lab_size, List.take_succ_eq_append_getElem hj, List.flatMap_append]
  simp [sB, List.append_assoc]
theorem Sc.last {l : List Smp} {j : Nat} {s : ByteArray} (h : Sc l j s) (hj : ¬ j < l.length) : s.data.toList = numL l.length ++ l.flatMap sB := by
  rw [h, List.take_of_length_le (by omega)]
theorem Sc.size {l : List Smp} {j : Nat} {s : ByteArray} (h : Sc l j s) (hok : ∀ x ∈ l, Lb.Ok x.1) (hl : l.length ≤ 32) : s.size ≤ 40000 := by
  have h1 := nd_le l.length
  have h2 := flat_len (l := l.take j) fun x hx => hok x (List.mem_of_mem_take hx)
  have h3 : (l.take j).length ≤ 32 := by rw [List.length_take]; omega
  have h4 : s.data.toList.length = s.size := by simp
  have h5 := congrArg List.length h
  rw [List.length_append, numL_length] at h5
  omega
/-- What stands behind a commit's kind. -/
def comA (l : List Smp) : ByteArray := ⟨(numL l.length ++ l.flatMap sB).toArray⟩
/-- What stands behind a delete's kind. -/
def delA (ms : List Mt.M) (a b : Int) : ByteArray := ⟨(Mt.encB ms).toArray⟩ ++ numA (zig a) ++ numA (zig b)
theorem com_all {r : R} (h : Commit r) : numA 1 ++ comA r.smp = ⟨(encB r).toArray⟩ := by
  refine Lb.data_inj ?_
  rw [app_list, numA_list]
  show _ ++ (numL r.smp.length ++ r.smp.flatMap sB).toArray.toList = (encB r).toArray.toList
  rw [encB, if_neg (by rw [h.kind]; decide), h.kind]; rfl
theorem del_all {r : R} (h : Delete r) : numA 2 ++ delA r.ms r.frm r.til = ⟨(encB r).toArray⟩ := by
  rw [del_bytes h]
  refine Lb.data_inj ?_
  unfold delA
  simp only [app_list, List.append_assoc]
theorem comA_size {l : List Smp} (hok : ∀ x ∈ l, Lb.Ok x.1) (hl : l.length ≤ 32) : (comA l).size ≤ 40000 := by
  have h1 := nd_le l.length
  have h2 := flat_len hok
  show (numL l.length ++ l.flatMap sB).toArray.size ≤ 40000
  rw [List.size_toArray, List.length_append, numL_length]; omega
theorem delA_size {ms : List Mt.M} (h : Mt.chk ms = 0) (a b : Int) : (delA ms a b).size ≤ 40000 := by
  have h1 := Mt.encB_len h
  have h2 := numA_few (zig a)
  have h3 := numA_few (zig b)
  have h4 : (⟨(Mt.encB ms).toArray⟩ : ByteArray).size = (Mt.encB ms).length := by show (Mt.encB ms).toArray.size = _; simp
  unfold delA
  rw [ByteArray.size_append, ByteArray.size_append, h4]; omega
set_option maxHeartbeats 6400000 in
theorem cbytes_any (w : World) (S : Nat → Prop) (v : Value) (r : R) (hv : RView w S v r) (hb : Bnd r) (hco : Commit r) :
    Calls Tryz.prog 114 #[v] w fun e w' => e = .returned (.string (comA r.smp)) ∧ New0 w w' := by
  obtain ⟨A, c, A', c', rfl, hs, hm⟩ := RView.shape hv
  have hok : Hid (∀ x ∈ r.smp, Lb.Ok x.1 ∧ BndS x) := Lib.hid (fun x hx => ⟨hco.ok x hx, hb.smp x hx⟩)
  have hone := hco.one
  have hfew := hco.few
  obtain ⟨k, l, ms, a, b⟩ := r
  simp only at hok hone hfew hs hm ⊢
  obtain ⟨wb, hwb⟩ : ∃ wb, w.alloc (.cells #[.int .i64 k, .slice A l.length c, .slice A' ms.length c', .int .i64 a, .int .i64 b] 50 (0, 0)) = wb := ⟨_, rfl⟩
  have hB := box5 w k (.slice A l.length c) (.slice A' ms.length c') a b
  have hU := Lib.hid ((Upon.refl (fun _ => False) w).alloc (.cells #[.int .i64 k, .slice A l.length c, .slice A' ms.length c', .int .i64 a, .int .i64 b] 50 (0, 0)))
  rw [hwb] at hB hU
  have hB2 := Lib.hid (fun w' (hu : New0 wb w') => hB.new hu)
  obtain ⟨R0, hR0⟩ : ∃ R0, comA l = R0 := ⟨_, rfl⟩
  have hend : Hid (∀ s j, Sc l j s → ¬ j < l.length → s = R0) := Lib.hid (fun s j h hj => by rw [← hR0]; exact Lb.data_inj (by rw [h.last hj]; rfl))
  rw [hR0]
  obtain ⟨b0, off, rfl, -, hcells⟩ := SView.cells hs (by omega)
  replace hcells := Lib.hid hcells
  have HE := Lib.hid (fun w1 (hu : New0 w w1) S' u x (hx : Lb.View w S' u x) (hsm : Lb.Sml x) (ho : Lb.Ok x) => by have := Lb.encode_any w1 S' u x (Rw.View.new hx hu) hsm; rw [Lb.encR_ok ho] at this; exact this)
  have N2 := Lib.hid (fun w => pnum l.length (by omega) w)
  have hwr : IntKind.u64.wrap (l.length : Int) = (l.length : Int) := by rw [IntKind.wrap_u64]; omega
  have hso0 := Lib.hid (Sc.start l)
  obtain ⟨t2, ht2⟩ : ∃ t2, numA l.length = t2 := ⟨_, rfl⟩
  rw [ht2] at N2 hso0
  replace hwb := Lib.hid hwb
  obtain ⟨g0, g1, g2, g3, g4⟩ := hB
  clear hs hm hco hb hR0 ht2 hv
  go_enter Tryz.func114, Tryz.ntmps114
  go_wp2_with fail
  rw [hwb.out]
  refine (N2.out _).mono ?_
  rintro e w4 ⟨rfl, hb4⟩
  have hu4 := Lib.hid (newOf hb4)
  clear g0 g1 g2 g3 g4 N2 hb4 hwb
  obtain ⟨g0, g1, g2, g3, g4⟩ := hB2.out _ hu4.out
  go_wp2_with fail
  clear g0 g1 g2 g3 g4 hwr
  go_loopw [3, 16] (fun sv ov wr => ∃ (j : Nat) (s : ByteArray), sv = .string s ∧ ov = .int .i64 (j : Int) ∧ j ≤ l.length ∧ Hid (Sc l j s) ∧ Hid (New0 wb wr)) (fun _ ov _ => l.length - (intOf ov).toNat)
  case atStart => exact ⟨0, _, rfl, rfl, Nat.zero_le _, hso0, hu4⟩
  case round =>
    clear hso0 hu4
    obtain ⟨j, s, rfl, rfl, hj, hso, hu⟩ := hrel
    by_cases hlt : j < l.length
    · obtain ⟨sl, hsv, x0, x1, x2⟩ := hcells.out j hlt
      have r0 := Lb.New0.cells (hU.out.trans hu.out) x0
      have r1 := Lb.New0.cells (hU.out.trans hu.out) x1
      have r2 := Lb.New0.cells (hU.out.trans hu.out) x2
      have hs1 := hso.out.size (fun x hx => (hok.out x hx).1) hfew
      obtain ⟨ho, hbs⟩ := hok.out _ (List.getElem_mem hlt)
      have hnx := hso.out.step hlt
      have hel := encL_len ho
      rw [← lab_size] at hel
      obtain ⟨x, hx⟩ : ∃ x, l[j] = x := ⟨_, rfl⟩
      rw [hx] at r1 r2 ho hbs hnx hel hsv
      obtain ⟨ls, t, u⟩ := x
      simp only at r1 r2 ho hbs hnx hel hsv
      obtain ⟨hb1, -, hb2, hb3, hb4⟩ := hbs
      simp only at hb1 hb2 hb3 hb4
      obtain ⟨sa, sn, sc⟩ := sl
      have hE := Lib.hid (fun w1 (hu : New0 w w1) => HE.out w1 hu _ _ _ hsv hb1 ho)
      obtain ⟨wq, hwq⟩ : ∃ wq, wr.alloc (.cells #[.slice sa sn sc, .int .i64 t, .int .u64 (u : Int)] 123 (0, 0)) = wq := ⟨_, rfl⟩
      have hq := cell_new wr (.cells #[.slice sa sn sc, .int .i64 t, .int .u64 (u : Int)] 123 (0, 0))
      have huq := Lib.hid (hu.out.alloc (.cells #[.slice sa sn sc, .int .i64 t, .int .u64 (u : Int)] 123 (0, 0)))
      rw [hwq] at hq huq
      have q0 : wq.cell? ⟨wr.heap.size, 0, none⟩ = some (.slice sa sn sc) := by rw [Lib.cell_of_heap hq]; rfl
      have q1 : wq.cell? ⟨wr.heap.size, 1, none⟩ = some (.int .i64 t) := by rw [Lib.cell_of_heap hq]; rfl
      have q2 : wq.cell? ⟨wr.heap.size, 2, none⟩ = some (.int .u64 (u : Int)) := by rw [Lib.cell_of_heap hq]; rfl
      have HE1 := Lib.hid (hE.out _ (hU.out.trans huq.out))
      obtain ⟨tl, htl⟩ : ∃ tl : ByteArray, (⟨(Lb.encB ls).toArray⟩ : ByteArray) = tl := ⟨_, rfl⟩
      rw [htl] at HE1 hnx hel
      have hzl : (textA tl).size ≤ 940 := by rw [textA_size]; have := nd_le tl.size; omega
      have HT := fun w => Dig.text_any tl (by omega) w
      have HS := fun w => psgn t hb2 hb3 w
      have HN := fun w => pnum u hb4 w
      have hz2 := numA_few (zig t)
      have hz3 := numA_few u
      obtain ⟨t1, ht1⟩ : ∃ t1, textA tl = t1 := ⟨_, rfl⟩
      obtain ⟨t2, ht2⟩ : ∃ t2, numA (zig t) = t2 := ⟨_, rfl⟩
      obtain ⟨t3, ht3⟩ : ∃ t3, numA u = t3 := ⟨_, rfl⟩
      simp only [ht1] at HT hzl hnx
      simp only [ht2] at HS hz2 hnx
      simp only [ht3] at HN hz3 hnx
      have hadd1 := fun W => run_string_add_sum (P := Tryz.prog) W t1 t2 (by omega)
      have hadd2 := fun W => run_string_add_sum (P := Tryz.prog) W (t1 ++ t2) t3 (by rw [ByteArray.size_append]; omega)
      have hadd3 := fun W => run_string_add_sum (P := Tryz.prog) W s (t1 ++ t2 ++ t3) (by rw [ByteArray.size_append, ByteArray.size_append]; omega)
      replace HT := Lib.hid HT
      replace HS := Lib.hid HS
      replace HN := Lib.hid HN
      replace hnx := Lib.hid hnx
      replace hwq := Lib.hid hwq
      clear hx htl ht1 ht2 ht3 x0 x1 x2 hso hs1 hzl hz2 hz3 hel hE hq hb1 hb2 hb3 hb4 ho hsv
      go_wp2_with fail
      rw [hwq.out]
      refine HE1.out.mono ?_
      rintro e w6 ⟨rfl, hu6⟩
      have p1 := Lb.New0.cells hu6 q1
      have p2 := Lb.New0.cells hu6 q2
      have hu7 := Lib.hid (huq.out.trans hu6)
      clear HE1 hwq q0 q1 q2 hu6 huq hu r0 r1 r2
      have y1 := fun d os => cell_regrown p1 d os
      have y2 := fun d os => cell_regrown p2 d os
      have HT1 := Lib.hid (fun d os => HT.out (grow (redrawn w6 d) os))
      have HS1 := Lib.hid (fun d os => HS.out (grow (redrawn w6 d) os))
      have HN1 := Lib.hid (fun d os => HN.out (grow (redrawn w6 d) os))
      clear HT HS HN
      go_wp2_with fail
      refine wp_region_quiet_below (by kernel_rfl) (by kernel_rfl) ?_
      repeat (go_big_quiet_step (first
        | exact Calls.regrown_of (HT1.out _ _)
        | exact Calls.regrown_of (HS1.out _ _)
        | exact Calls.regrown_of (HN1.out _ _)))
      refine wpQuiet_nil ?_
      intro _ hw'
      obtain ⟨⟨dq, osq⟩, hw''⟩ := hw'
      subst hw''
      have hu8 := Lib.hid (hu7.out.trans (newOf (below_regrown w6 dq osq)))
      clear hu7 HT1 HS1 HN1 y1 y2 p1 p2 hadd1 hadd2 hadd3
      generalize grow (redrawn w6 dq) osq = w8 at *
      go_wp2_with fail
      go_roundw
      case rel => exact ⟨j + 1, _, rfl, by go_num, hlt, hnx, hu8⟩
      case measure => simp [intOf]; omega
    · have hR2 := Lib.hid (hend.out s j hso.out hlt)
      have hU2 := Lib.hid (hU.out.trans hu.out)
      clear hso hend hu
      go_wp2_with fail
      go_ret
      exact ⟨congrArg (fun s => Ending.returned (Value.string s)) hR2.out, hU2.out⟩
set_option maxHeartbeats 3200000 in
theorem dbytes_any (w : World) (S : Nat → Prop) (v : Value) (r : R) (hv : RView w S v r) (hb : Bnd r) (hde : Delete r) :
    Calls Tryz.prog 115 #[v] w fun e w' => e = .returned (.string (delA r.ms r.frm r.til)) ∧ New0 w w' := by
  obtain ⟨A, c, A', c', rfl, hs, hm⟩ := RView.shape hv
  have hmz := hde.ms
  have hfr := hb.frm
  have hti := hb.til
  have HM := Lib.hid (fun w1 (hu : New0 w w1) => by have := Mt.enc_any w1 S _ r.ms (Rw.View.new hm hu) hb.ms; rw [Mt.encR_ok hmz] at this; exact this)
  have hml := Mt.encB_len hmz
  obtain ⟨k, l, ms, a, b⟩ := r
  simp only at hmz hs hfr hti HM hml ⊢
  obtain ⟨wb, hwb⟩ : ∃ wb, w.alloc (.cells #[.int .i64 k, .slice A l.length c, .slice A' ms.length c', .int .i64 a, .int .i64 b] 50 (0, 0)) = wb := ⟨_, rfl⟩
  have hB := box5 w k (.slice A l.length c) (.slice A' ms.length c') a b
  have hU := Lib.hid ((Upon.refl (fun _ => False) w).alloc (.cells #[.int .i64 k, .slice A l.length c, .slice A' ms.length c', .int .i64 a, .int .i64 b] 50 (0, 0)))
  rw [hwb] at hB hU
  have hB2 := Lib.hid (fun w' (hu : New0 wb w') => hB.new hu)
  have hmsz : (⟨(Mt.encB ms).toArray⟩ : ByteArray).size ≤ 1000 := by show (Mt.encB ms).toArray.size ≤ 1000; simpa using hml
  have HS := Lib.hid (fun w x h0 h1 => psgn x h0 h1 w)
  obtain ⟨fr1, fr2⟩ := hfr
  obtain ⟨ti1, ti2⟩ := hti
  have z2 := numA_few (zig a)
  have z3 := numA_few (zig b)
  unfold delA
  obtain ⟨t2, ht2⟩ : ∃ t2, (⟨(Mt.encB ms).toArray⟩ : ByteArray) = t2 := ⟨_, rfl⟩
  rw [ht2] at HM hmsz ⊢
  have hadd2 := fun W => run_string_add_sum (P := Tryz.prog) W t2 (numA (zig a)) (by omega)
  have hadd3 := fun W => run_string_add_sum (P := Tryz.prog) W (t2 ++ numA (zig a)) (numA (zig b)) (by rw [ByteArray.size_append]; omega)
  have HM1 := Lib.hid (HM.out _ hU.out)
  replace hwb := Lib.hid hwb
  obtain ⟨g0, g1, g2, g3, g4⟩ := hB
  clear hs hm hde hb ht2 hmz hml z2 z3 hmsz HM hv
  go_enter Tryz.func115, Tryz.ntmps115
  go_wp2_with fail
  rw [hwb.out]
  refine HM1.out.mono ?_
  rintro e w4 ⟨rfl, hu⟩
  have hu4 := Lib.hid hu
  clear g0 g1 g2 g3 g4 HM1 hu hwb
  obtain ⟨g0, g1, g2, g3, g4⟩ := hB2.out _ hu4.out
  have y3 := fun d os => cell_regrown g3 d os
  have y4 := fun d os => cell_regrown g4 d os
  have HS1 := Lib.hid (fun d os x h0 h1 => HS.out (grow (redrawn w4 d) os) x h0 h1)
  clear HS g0 g1 g2 g3 g4
  go_wp2_with fail
  refine wp_region_quiet_below (by kernel_rfl) (by kernel_rfl) ?_
  repeat (go_big_quiet_step (first
    | exact Calls.regrown_of (HS1.out _ _ _ (by omega) (by omega))))
  refine wpQuiet_nil ?_
  intro _ hw'
  obtain ⟨⟨dq, osq⟩, hw''⟩ := hw'
  subst hw''
  have hu8 := Lib.hid (hU.out.trans (hu4.out.trans (newOf (below_regrown w4 dq osq))))
  clear hu4 HS1 y3 y4 hadd2 hadd3 hB2
  generalize grow (redrawn w4 dq) osq = w8 at *
  go_wp2_with fail
  go_ret
  exact ⟨rfl, hu8.out⟩
set_option maxHeartbeats 3200000 in
theorem enc_any (w : World) (S : Nat → Prop) (v : Value) (r : R) (hv : RView w S v r) (hb : Bnd r) :
    Calls Tryz.prog 64 #[v] w fun e w' => e = encR r ∧ New0 w w' := by
  obtain ⟨z, hz⟩ : ∃ z, chk r = z := ⟨_, rfl⟩
  have hC := fun w1 (hu : New0 w w1) => check_is w1 S v r (hv.new hu) hb hz
  have hCB : Hid (∀ w1, New0 w w1 → Commit r → Calls Tryz.prog 114 #[v] w1 fun e w' => e = .returned (.string (comA r.smp)) ∧ New0 w1 w') := Lib.hid (fun w1 hu hc => cbytes_any w1 S v r (hv.new hu) hb hc)
  have hDB : Hid (∀ w1, New0 w w1 → Delete r → Calls Tryz.prog 115 #[v] w1 fun e w' => e = .returned (.string (delA r.ms r.frm r.til)) ∧ New0 w1 w') := Lib.hid (fun w1 hu hc => dbytes_any w1 S v r (hv.new hu) hb hc)
  obtain ⟨A, c, A', c', rfl, hs, hm⟩ := RView.shape hv
  obtain ⟨wb, hwb⟩ : ∃ wb, w.alloc (.cells #[.int .i64 r.kind, .slice A r.smp.length c, .slice A' r.ms.length c', .int .i64 r.frm, .int .i64 r.til] 50 (0, 0)) = wb := ⟨_, rfl⟩
  have hB := box5 w r.kind (.slice A r.smp.length c) (.slice A' r.ms.length c') r.frm r.til
  have hU := Lib.hid ((Upon.refl (fun _ => False) w).alloc (.cells #[.int .i64 r.kind, .slice A r.smp.length c, .slice A' r.ms.length c', .int .i64 r.frm, .int .i64 r.til] 50 (0, 0)))
  rw [hwb] at hB hU
  have HC := Lib.hid (hC wb hU.out)
  have hB2 := Lib.hid (fun w' (hu : New0 wb w') => hB.new hu)
  clear hC hv hs hm
  by_cases h0 : z = 0
  · subst h0
    rcases chk_zero.1 hz with hco | hde
    · have hR := Lib.hid (encR_ok hz)
      rw [← com_all hco] at hR
      have hsz := comA_size hco.ok hco.few
      have hk := hco.kind
      have hCB1 := Lib.hid (fun w1 (hu : New0 w w1) => hCB.out w1 hu hco)
      have N1 := Lib.hid (fun w => pnum 1 (by decide) w)
      have hz1 := numA_few 1
      obtain ⟨k, l, ms, a, b⟩ := r
      simp only at hR hsz hk hB2 HC hwb hCB1 hB
      subst hk
      obtain ⟨t1, ht1⟩ : ∃ t1, numA 1 = t1 := ⟨_, rfl⟩
      obtain ⟨t2, ht2⟩ : ∃ t2, comA l = t2 := ⟨_, rfl⟩
      rw [ht1] at N1 hz1 hR
      rw [ht2] at hCB1 hsz hR
      have hadd := fun W => run_string_add_sum (P := Tryz.prog) W t1 t2 (by omega)
      replace hwb := Lib.hid hwb
      obtain ⟨g0, g1, g2, g3, g4⟩ := hB
      clear hz hco hb ht1 ht2 hCB hDB hsz hz1
      go_enter Tryz.func64, Tryz.ntmps64
      go_wp2_with fail
      rw [hwb.out]
      refine HC.out.mono ?_
      rintro e w2 ⟨rfl, hu2⟩
      clear g0 g1 g2 g3 g4 HC hwb
      obtain ⟨g0, g1, g2, g3, g4⟩ := hB2.out _ hu2
      replace hu2 := Lib.hid hu2
      go_wp2_with fail
      refine (N1.out _).mono ?_
      rintro e w3 ⟨rfl, hb3⟩
      have hu3 := Lib.hid (hu2.out.trans (newOf hb3))
      clear g0 g1 g2 g3 g4 N1 hb3 hu2
      obtain ⟨g0, g1, g2, g3, g4⟩ := hB2.out _ hu3.out
      have HB := Lib.hid (hCB1.out _ (hU.out.trans hu3.out))
      clear hCB1
      go_wp2_with fail
      refine HB.out.mono ?_
      rintro e w4 ⟨rfl, hu4⟩
      have hu5 := Lib.hid (hU.out.trans (hu3.out.trans hu4))
      clear g0 g1 g2 g3 g4 HB hu4 hu3 hB2
      go_wp2_with fail
      go_ret2
      exact ⟨hR.out.symm, hu5.out⟩
    · have hR := Lib.hid (encR_ok hz)
      rw [← del_all hde] at hR
      have hsz := delA_size hde.ms r.frm r.til
      have hk := hde.kind
      have hDB1 := Lib.hid (fun w1 (hu : New0 w w1) => hDB.out w1 hu hde)
      have N1 := Lib.hid (fun w => pnum 2 (by decide) w)
      have hz1 := numA_few 2
      obtain ⟨k, l, ms, a, b⟩ := r
      simp only at hR hsz hk hB2 HC hwb hDB1 hB
      subst hk
      obtain ⟨t1, ht1⟩ : ∃ t1, numA 2 = t1 := ⟨_, rfl⟩
      obtain ⟨t2, ht2⟩ : ∃ t2, delA ms a b = t2 := ⟨_, rfl⟩
      rw [ht1] at N1 hz1 hR
      rw [ht2] at hDB1 hsz hR
      have hadd := fun W => run_string_add_sum (P := Tryz.prog) W t1 t2 (by omega)
      replace hwb := Lib.hid hwb
      obtain ⟨g0, g1, g2, g3, g4⟩ := hB
      clear hz hde hb ht1 ht2 hCB hDB hsz hz1
      go_enter Tryz.func64, Tryz.ntmps64
      go_wp2_with fail
      rw [hwb.out]
      refine HC.out.mono ?_
      rintro e w2 ⟨rfl, hu2⟩
      clear g0 g1 g2 g3 g4 HC hwb
      obtain ⟨g0, g1, g2, g3, g4⟩ := hB2.out _ hu2
      replace hu2 := Lib.hid hu2
      go_wp2_with fail
      refine (N1.out _).mono ?_
      rintro e w3 ⟨rfl, hb3⟩
      have hu3 := Lib.hid (hu2.out.trans (newOf hb3))
      clear g0 g1 g2 g3 g4 N1 hb3 hu2
      obtain ⟨g0, g1, g2, g3, g4⟩ := hB2.out _ hu3.out
      have HB := Lib.hid (hDB1.out _ (hU.out.trans hu3.out))
      clear hDB1
      go_wp2_with fail
      refine HB.out.mono ?_
      rintro e w4 ⟨rfl, hu4⟩
      have hu5 := Lib.hid (hU.out.trans (hu3.out.trans hu4))
      clear g0 g1 g2 g3 g4 HB hu4 hu3 hB2
      go_wp2_with fail
      go_ret2
      exact ⟨hR.out.symm, hu5.out⟩
  · have hR := Lib.hid (encR_no (r := r) (by rw [hz]; exact h0))
    rw [hz] at hR
    have dz : ((z : Int) != 0) = true := by rw [bne_iff_ne]; omega
    obtain ⟨k, l, ms, a, b⟩ := r
    simp only at hB2 HC hwb hB
    replace hwb := Lib.hid hwb
    obtain ⟨g0, g1, g2, g3, g4⟩ := hB
    clear hz hb h0 hCB hDB
    go_enter Tryz.func64, Tryz.ntmps64
    go_wp2_with fail
    rw [hwb.out]
    refine HC.out.mono ?_
    rintro e w2 ⟨rfl, hu2⟩
    have hu := Lib.hid (hU.out.trans hu2)
    clear HC hu2 hwb g0 g1 g2 g3 g4
    go_wp2_with fail
    go_ret2
    exact ⟨hR.out.symm, hu.out⟩
end Rc
end Go.Proofs.YtlgjbcmloochiaaGreatDoor
