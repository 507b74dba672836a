/- Parts: PRc4. -/
import Derived.Test.YtgmnhodajngchaaGreatDoorSPRc1
import Derived.Test.YtgmnhodajngchaaGreatDoorSPMt1
set_option maxRecDepth 100000
set_option linter.unusedVariables false
namespace Go.Proofs.YtgmnhodajngchaaGreatDoor
section
section
open Go.RowKit Go.Sort
namespace Rc
open Bit Dsk Ob Dig
noncomputable def encR (r : R) : Ending := if chk r = 0 then .returned (.tuple #[.string ⟨(encB r).toArray⟩, .int .i64 0]) else .returned (.tuple #[.string ByteArray.empty, .int .i64 (chk r : Int)])
theorem encR_ok {r : R} (h : chk r = 0) : encR r = .returned (.tuple #[.string ⟨(encB r).toArray⟩, .int .i64 0]) := if_pos h
theorem encR_no {r : R} (h : chk r ≠ 0) : encR r = .returned (.tuple #[.string ByteArray.empty, .int .i64 (chk r : Int)]) := if_neg h
abbrev numA := Mt.numA
theorem numA_few (n : Nat) : (numA n).size <= 9 := Mt.numA_few n
theorem numA_list (n : Nat) : (numA n).data.toList = numL n := by simp [Mt.numA]
def So (l : List Smp) (j : Nat) (s : ByteArray) : Prop := s.data.toList = numL 1 ++ (numL l.length ++ (l.take j).flatMap sB)
theorem app_list (a b : ByteArray) : (a ++ b).data.toList = a.data.toList ++ b.data.toList := by rw [ByteArray.data_append, Array.toList_append]
theorem So.start (l : List Smp) : So l 0 (numA 1 ++ numA l.length) := by unfold So; rw [app_list, numA_list, numA_list]; simp
theorem lab_size (l : List Lb.Pr) : (⟨(Lb.encB l).toArray⟩ : ByteArray).size = (Lb.encB l).length := by
 show (Lb.encB l).toArray.size = _
 simp
theorem So.step {l : List Smp} {j : Nat} {s : ByteArray} (h : So l j s) (hj : j < l.length) : So l (j + 1) (s ++ textA ⟨(Lb.encB l[j].1).toArray⟩ ++ numA (zig l[j].2.1) ++ numA l[j].2.2) := by
 unfold So at *
 rw [app_list, app_list, app_list, h, textA_list, numA_list, numA_list, lab_size, List.take_succ_eq_append_getElem hj, List.flatMap_append]
 simp [sB, List.append_assoc]
theorem So.last {l : List Smp} {j : Nat} {s : ByteArray} {r : R} (h : So l j s) (hj : ¬ j < l.length) (hc : Commit r) (hl : r.smp = l) : s = ⟨(encB r).toArray⟩ := by
 refine Lb.data_inj ?_
 rw [h, List.take_of_length_le (by omega)]
 show _ = encB r
 rw [encB, if_neg (by rw [hc.kind]; decide), hc.kind, hl]; rfl
theorem So.size {l : List Smp} {j : Nat} {s : ByteArray} (h : So l j s) (hok : ∀ x ∈ l, Lb.Ok x.1) (hl : l.length <= 32) : s.size <= 40000 := by
 have h0 := nd_le 1
 have h1 := nd_le l.length
 have h2 := flat_len (l := l.take j) fun x hx => hok x (List.mem_of_mem_take hx)
 have h3 : (l.take j).length <= 32 := by rw [List.length_take]; omega
 have h4 : s.data.toList.length = s.size := by simp
 have h5 := congrArg List.length h
 rw [List.length_append, List.length_append, numL_length, numL_length] at h5
 omega
theorem del_bytes {r : R} (h : Delete r) : (⟨(encB r).toArray⟩ : ByteArray) = numA 2 ++ ⟨(Mt.encB r.ms).toArray⟩ ++ numA (zig r.frm) ++ numA (zig r.til) := by
 refine Lb.data_inj ?_
 show encB r = _
 rw [app_list, app_list, app_list, numA_list, numA_list, numA_list, encB, if_pos h.kind, h.kind]
 simp [List.append_assoc]
theorem numP (n : Nat) (h : n < 18446744073709551616) (w : World) : Calls Tryz.prog 65 #[.int .u64 (n : Int)] w fun e w' => e = .returned (.string (numA n)) /\ Below w.heap.size w w' := by
 have := refnum_any (n : Int) (by omega) (by omega) w
 rw [Int.toNat_natCast] at this
 exact this
theorem sgnP (x : Int) (h0 : -9223372036854775808 <= x) (h1 : x <= 9223372036854775807) (w : World) : Calls Tryz.prog 68 #[.int .i64 x] w fun e w' => e = .returned (.string (numA (zig x))) /\ Below w.heap.size w w' := refsigned_any x h0 h1 w
set_option maxHeartbeats 6400000 in
theorem refenc_any (w : World) (S : Nat -> Prop) (v : Value) (r : R) (hv : RView w S v r) (hb : Bnd r) :
  Calls Tryz.prog 71 #[v] w fun e w' => e = encR r /\ New0 w w' := by
 obtain ⟨z, hz⟩ : ∃ z, chk r = z := ⟨_, rfl⟩
 have hC := fun w1 (hu : New0 w w1) => refcheck_is w1 S v r (hv.new hu) hb hz
 obtain ⟨A, c, A', c', rfl, hs, hm⟩ := RView.shape hv
 obtain ⟨wb, hwb⟩ : ∃ wb, w.alloc (.cells #[.int .i64 r.kind, .slice A r.smp.length c, .slice A' r.ms.length c', .int .i64 r.frm, .int .i64 r.til] 47 (0, 0)) = wb := ⟨_, rfl⟩
 have hB := box5 w r.kind (.slice A r.smp.length c) (.slice A' r.ms.length c') r.frm r.til
 have hU := Lib.hid ((Upon.refl (fun _ => False) w).alloc (.cells #[.int .i64 r.kind, .slice A r.smp.length c, .slice A' r.ms.length c', .int .i64 r.frm, .int .i64 r.til] 47 (0, 0)))
 rw [hwb] at hB hU
 have HC := Lib.hid (hC wb hU.out)
 have hB2 := Lib.hid (fun w' (hu : New0 wb w') => hB.new hu)
 clear hC hv hB
 by_cases h0 : z = 0
 ·subst h0
  rcases chk_zero.1 hz with hco | hde
  ·obtain ⟨R0, hR⟩ : ∃ R0, encR r = R0 := ⟨_, rfl⟩
   rw [hR]
   have hend : Hid (∀ s j, So r.smp j s -> ¬ j < r.smp.length -> Ending.returned (.tuple #[.string s, .int .i64 0]) = R0) := Lib.hid (fun s j h hj => by rw [<- hR, encR_ok hz, h.last hj hco rfl])
   have hok : Hid (∀ x ∈ r.smp, Lb.Ok x.1 /\ BndS x) := Lib.hid (fun x hx => ⟨hco.ok x hx, hb.smp x hx⟩)
   have hone := hco.one
   have hfew := hco.few
   have hk := hco.kind
   obtain ⟨k, l, ms, a, b⟩ := r
   simp only at hend hok hone hfew hk hs hB2 HC hwb
   subst hk
   obtain ⟨b0, off, rfl, -, hcells⟩ := SView.cells hs (by omega)
   replace hcells := Lib.hid hcells
   have HE := Lib.hid (fun w1 (hu : New0 w w1) S' u x (hx : Lb.View w S' u x) (hsm : Lb.Sml x) (ho : Lb.Ok x) => by have := Lb.refenc_any w1 S' u x (Rw.View.new hx hu) hsm; rw [Lb.encR_ok ho] at this; exact this)
   have N1 := Lib.hid (fun w => numP 1 (by decide) w)
   have N2 := Lib.hid (fun w => numP l.length (by omega) w)
   have hadd0 := fun W => run_string_add_sum (P := Tryz.prog) W (numA 1) (numA l.length) (by have := numA_few 1; have := numA_few l.length; omega)
   have hso0 := Lib.hid (So.start l)
   obtain ⟨t1, ht1⟩ : ∃ t1, numA 1 = t1 := ⟨_, rfl⟩
   obtain ⟨t2, ht2⟩ : ∃ t2, numA l.length = t2 := ⟨_, rfl⟩
   rw [ht1] at N1 hso0
   rw [ht2] at N2 hso0
   simp only [ht1, ht2] at hadd0
   replace hwb := Lib.hid hwb
   clear hz hs hm hco hb hR ht1 ht2
   go_enter Tryz.func71, Tryz.ntmps71
   go_wp2_with fail
   rw [hwb.out]
   refine HC.out.mono ?_
   rintro e w2 ⟨rfl, hu2⟩
   obtain ⟨g0, g1, g2, g3, g4⟩ := hB2.out _ hu2
   replace hu2 := Lib.hid hu2
   clear HC hwb
   go_wp2_with fail
   refine (N1.out _).mono ?_
   rintro e w3 ⟨rfl, hb3⟩
   have hu3 := Lib.hid (hu2.out.trans (newOf hb3))
   clear g0 g1 g2 g3 g4 N1 hb3 hu2
   obtain ⟨g0, g1, g2, g3, g4⟩ := hB2.out _ hu3.out
   go_wp2_with fail
   refine (N2.out _).mono ?_
   rintro e w4 ⟨rfl, hb4⟩
   have hu4 := Lib.hid (hu3.out.trans (newOf hb4))
   clear g0 g1 g2 g3 g4 N2 hb4 hu3
   go_wp2_with fail
   go_loopw [5, 8] (fun sv ov wr => ∃ (j : Nat) (s : ByteArray), sv = .string s /\ ov = .int .i64 (j : Int) /\ j <= l.length /\ Hid (So l j s) /\ Hid (New0 wb wr)) (fun _ ov _ => l.length - (intOf ov).toNat)
   case atStart => exact ⟨0, _, rfl, rfl, Nat.zero_le _, hso0, hu4⟩
   case round =>
    clear hso0 hu4 hadd0
    obtain ⟨j, s, rfl, rfl, hj, hso, hu⟩ := hrel
    obtain ⟨g0, g1, g2, g3, g4⟩ := hB2.out _ hu.out
    by_cases hlt : j < l.length
    ·obtain ⟨sl, hsv, x0, x1, x2⟩ := hcells.out j hlt
     have r0 := Lb.New0.cells (hU.out.trans hu.out) x0
     have r1 := Lb.New0.cells (hU.out.trans hu.out) x1
     have r2 := Lb.New0.cells (hU.out.trans hu.out) x2
     have hs1 := hso.out.size (fun x hx => (hok.out x hx).1) hfew
     obtain ⟨ho, hbs⟩ := hok.out _ (List.getElem_mem hlt)
     have hnx := hso.out.step hlt
     have hel := encL_len ho
     rw [<- lab_size] at hel
     obtain ⟨x, hx⟩ : ∃ x, l[j] = x := ⟨_, rfl⟩
     rw [hx] at r1 r2 ho hbs hnx hel hsv
     obtain ⟨ls, t, u⟩ := x
     simp only at r1 r2 ho hbs hnx hel hsv
     obtain ⟨hb1, -, hb2, hb3, hb4⟩ := hbs
     simp only at hb1 hb2 hb3 hb4
     obtain ⟨sa, sn, sc⟩ := sl
     have hE := Lib.hid (fun w1 (hu : New0 w w1) => HE.out w1 hu _ _ _ hsv hb1 ho)
     obtain ⟨wq, hwq⟩ : ∃ wq, wr.alloc (.cells #[.slice sa sn sc, .int .i64 t, .int .u64 (u : Int)] 91 (0, 0)) = wq := ⟨_, rfl⟩
     have hq := cell_new wr (.cells #[.slice sa sn sc, .int .i64 t, .int .u64 (u : Int)] 91 (0, 0))
     have huq := Lib.hid (hu.out.alloc (.cells #[.slice sa sn sc, .int .i64 t, .int .u64 (u : Int)] 91 (0, 0)))
     rw [hwq] at hq huq
     have q1 : wq.cell? ⟨wr.heap.size, 1, none⟩ = some (.int .i64 t) := by rw [Lib.cell_of_heap hq]; rfl
     have q2 : wq.cell? ⟨wr.heap.size, 2, none⟩ = some (.int .u64 (u : Int)) := by rw [Lib.cell_of_heap hq]; rfl
     have HE1 := Lib.hid (hE.out _ (hU.out.trans huq.out))
     obtain ⟨tl, htl⟩ : ∃ tl : ByteArray, (⟨(Lb.encB ls).toArray⟩ : ByteArray) = tl := ⟨_, rfl⟩
     rw [htl] at HE1 hnx hel
     have hzl : (textA tl).size <= 940 := by rw [textA_size]; have := nd_le tl.size; omega
     have HT := fun w => reftext_any tl (by omega) w
     have HS := fun w => sgnP t hb2 hb3 w
     have HN := fun w => numP u hb4 w
     have hz2 := numA_few (zig t)
     have hz3 := numA_few u
     obtain ⟨t1, ht1⟩ : ∃ t1, textA tl = t1 := ⟨_, rfl⟩
     obtain ⟨t2, ht2⟩ : ∃ t2, numA (zig t) = t2 := ⟨_, rfl⟩
     obtain ⟨t3, ht3⟩ : ∃ t3, numA u = t3 := ⟨_, rfl⟩
     simp only [ht1] at HT hzl hnx
     simp only [ht2] at HS hz2 hnx
     simp only [ht3] at HN hz3 hnx
     have hadd1 := fun W => run_string_add_sum (P := Tryz.prog) W s t1 (by omega)
     have hadd2 := fun W => run_string_add_sum (P := Tryz.prog) W (s ++ t1) t2 (by rw [ByteArray.size_append]; omega)
     have hadd3 := fun W => run_string_add_sum (P := Tryz.prog) W (s ++ t1 ++ t2) t3 (by rw [ByteArray.size_append, ByteArray.size_append]; omega)
     replace HT := Lib.hid HT
     replace HS := Lib.hid HS
     replace HN := Lib.hid HN
     replace hnx := Lib.hid hnx
     replace hwq := Lib.hid hwq
     clear hx htl ht1 ht2 ht3 x0 x1 x2 hso hs1 hzl hz2 hz3 hel hE hq hb1 hb2 hb3 hb4 ho hsv
     go_wp2_with fail
     rw [hwq.out]
     refine HE1.out.mono ?_
     rintro e w6 ⟨rfl, hu6⟩
     have p1 := Lb.New0.cells hu6 q1
     have p2 := Lb.New0.cells hu6 q2
     have hu7 := Lib.hid (huq.out.trans hu6)
     clear HE1 hwq q1 q2 hu6 huq hu r0 r1 r2 g0 g1 g2 g3 g4
     have y1 := fun d os => cell_regrown p1 d os
     have y2 := fun d os => cell_regrown p2 d os
     have HT1 := Lib.hid (fun d os => HT.out (grow (redrawn w6 d) os))
     have HS1 := Lib.hid (fun d os => HS.out (grow (redrawn w6 d) os))
     have HN1 := Lib.hid (fun d os => HN.out (grow (redrawn w6 d) os))
     clear HT HS HN
     go_wp2_with fail
     refine wp_region_quiet_below (by kernel_rfl) (by kernel_rfl) ?_
     repeat (go_big_quiet_step (first
      | exact Calls.regrown_of (HT1.out _ _)
      | exact Calls.regrown_of (HS1.out _ _)
      | exact Calls.regrown_of (HN1.out _ _)))
     refine wpQuiet_nil ?_
     intro _ hw'
     obtain ⟨⟨dq, osq⟩, hw''⟩ := hw'
     subst hw''
     have hu8 := Lib.hid (hu7.out.trans (newOf (below_regrown w6 dq osq)))
     clear hu7 HT1 HS1 HN1 y1 y2 p1 p2 hadd1 hadd2 hadd3
     generalize grow (redrawn w6 dq) osq = w8 at *
     go_wp2_with fail
     go_roundw
     case rel => exact ⟨j + 1, _, rfl, by go_num, hlt, hnx, hu8⟩
     case measure => simp [intOf]; omega
    ·have hR2 := Lib.hid (hend.out s j hso.out hlt)
     clear hso hend
     go_wp2_with fail
     go_ret2
     exact ⟨hR2.out, hU.out.trans hu.out⟩
  ·have hR := Lib.hid (encR_ok hz)
   rw [del_bytes hde] at hR
   have hmz := hde.ms
   have hk := hde.kind
   have hfr := hb.frm
   have hti := hb.til
   have HM := Lib.hid (fun w1 (hu : New0 w w1) => by have := Mt.refenc_any w1 S _ r.ms (Rw.View.new hm hu) hb.ms; rw [Mt.encR_ok hmz] at this; exact this)
   have hml := Mt.encB_len hmz
   obtain ⟨k, l, ms, a, b⟩ := r
   simp only at hR hmz hk hs hB2 HC hwb hfr hti HM hml
   subst hk
   have hmsz : (⟨(Mt.encB ms).toArray⟩ : ByteArray).size <= 1000 := by show (Mt.encB ms).toArray.size <= 1000; simpa using hml
   have N1 := Lib.hid (fun w => numP 2 (by decide) w)
   have HS := Lib.hid (fun w x h0 h1 => sgnP x h0 h1 w)
   obtain ⟨fr1, fr2⟩ := hfr
   obtain ⟨ti1, ti2⟩ := hti
   have z1 := numA_few 2
   have z2 := numA_few (zig a)
   have z3 := numA_few (zig b)
   obtain ⟨t1, ht1⟩ : ∃ t1, numA 2 = t1 := ⟨_, rfl⟩
   obtain ⟨t2, ht2⟩ : ∃ t2, (⟨(Mt.encB ms).toArray⟩ : ByteArray) = t2 := ⟨_, rfl⟩
   rw [ht1] at N1 z1 hR
   rw [ht2] at HM hmsz hR
   have hadd1 := fun W => run_string_add_sum (P := Tryz.prog) W t1 t2 (by omega)
   have hadd2 := fun W => run_string_add_sum (P := Tryz.prog) W (t1 ++ t2) (numA (zig a)) (by rw [ByteArray.size_append]; omega)
   have hadd3 := fun W => run_string_add_sum (P := Tryz.prog) W (t1 ++ t2 ++ numA (zig a)) (numA (zig b)) (by rw [ByteArray.size_append, ByteArray.size_append]; omega)
   replace hwb := Lib.hid hwb
   clear hz hs hm hde hb ht1 ht2 hmz hml z1 z2 z3 hmsz
   go_enter Tryz.func71, Tryz.ntmps71
   go_wp2_with fail
   rw [hwb.out]
   refine HC.out.mono ?_
   rintro e w2 ⟨rfl, hu2⟩
   obtain ⟨g0, g1, g2, g3, g4⟩ := hB2.out _ hu2
   replace hu2 := Lib.hid hu2
   clear HC hwb
   go_wp2_with fail
   refine (N1.out _).mono ?_
   rintro e w3 ⟨rfl, hb3⟩
   have hu3 := Lib.hid (hu2.out.trans (newOf hb3))
   clear g0 g1 g2 g3 g4 N1 hb3 hu2
   obtain ⟨g0, g1, g2, g3, g4⟩ := hB2.out _ hu3.out
   have HM1 := Lib.hid (HM.out _ (hU.out.trans hu3.out))
   clear HM
   go_wp2_with fail
   refine HM1.out.mono ?_
   rintro e w4 ⟨rfl, hu⟩
   have hu4 := Lib.hid (hu3.out.trans hu)
   clear g0 g1 g2 g3 g4 HM1 hu hu3
   obtain ⟨g0, g1, g2, g3, g4⟩ := hB2.out _ hu4.out
   have y3 := fun d os => cell_regrown g3 d os
   have y4 := fun d os => cell_regrown g4 d os
   have HS1 := Lib.hid (fun d os x h0 h1 => HS.out (grow (redrawn w4 d) os) x h0 h1)
   clear HS g0 g1 g2 g3 g4
   go_wp2_with fail
   refine wp_region_quiet_below (by kernel_rfl) (by kernel_rfl) ?_
   repeat (go_big_quiet_step (first
    | exact Calls.regrown_of (HS1.out _ _ _ (by omega) (by omega))))
   refine wpQuiet_nil ?_
   intro _ hw'
   obtain ⟨⟨dq, osq⟩, hw''⟩ := hw'
   subst hw''
   have hu8 := Lib.hid (hU.out.trans (hu4.out.trans (newOf (below_regrown w4 dq osq))))
   clear hu4 HS1 y3 y4 hadd1 hadd2 hadd3 hB2
   generalize grow (redrawn w4 dq) osq = w8 at *
   go_wp2_with fail
   go_ret2
   exact ⟨hR.out.symm, hu8.out⟩
 ·have hR := Lib.hid (encR_no (r := r) (by rw [hz]; exact h0))
  rw [hz] at hR
  have dz : ((z : Int) != 0) = true := by rw [bne_iff_ne]; omega
  obtain ⟨k, l, ms, a, b⟩ := r
  simp only at hB2 HC hwb
  replace hwb := Lib.hid hwb
  clear hz hs hm hb h0
  go_enter Tryz.func71, Tryz.ntmps71
  go_wp2_with fail
  rw [hwb.out]
  refine HC.out.mono ?_
  rintro e w2 ⟨rfl, hu2⟩
  have hu := Lib.hid (hU.out.trans hu2)
  clear HC hu2 hwb
  go_wp2_with fail
  go_ret2
  exact ⟨hR.out.symm, hu.out⟩
end Rc
end
section
open Go.RowKit Go.Sort
namespace Rc
open Bit Dsk Ob Dig
set_option maxHeartbeats 6400000 in
theorem same_any (w : World) (S S' : Nat -> Prop) (v1 v2 : Value) (r : R) (h1 : RView w S v1 r) (h2 : RView w S' v2 r) (hfew : r.smp.length <= 9223372036854775807) :
  Calls Tryz.prog 29 #[v1, v2] w fun e w' => e = .returned (.bool true) /\ New0 w w' := by
 obtain ⟨A, c, A', c', rfl, hs, hm⟩ := RView.shape h1
 obtain ⟨B, d, B', d', rfl, ht, hn⟩ := RView.shape h2
 obtain ⟨k, l, ms, a, b⟩ := r
 simp only at hs hm ht hn hfew ⊢
 obtain ⟨wx, hwx⟩ : ∃ wx, w.alloc (.cells #[.int .i64 k, .slice A l.length c, .slice A' ms.length c', .int .i64 a, .int .i64 b] 47 (0, 0)) = wx := ⟨_, rfl⟩
 obtain ⟨wb, hwb⟩ : ∃ wb, wx.alloc (.cells #[.int .i64 k, .slice B l.length d, .slice B' ms.length d', .int .i64 a, .int .i64 b] 47 (0, 0)) = wb := ⟨_, rfl⟩
 have hX := box5 w k (.slice A l.length c) (.slice A' ms.length c') a b
 have hY := box5 wx k (.slice B l.length d) (.slice B' ms.length d') a b
 have ux := (Upon.refl (fun _ => False) w).alloc (.cells #[.int .i64 k, .slice A l.length c, .slice A' ms.length c', .int .i64 a, .int .i64 b] 47 (0, 0))
 have uy := (Upon.refl (fun _ => False) wx).alloc (.cells #[.int .i64 k, .slice B l.length d, .slice B' ms.length d', .int .i64 a, .int .i64 b] 47 (0, 0))
 have sx : wx.heap.size = w.heap.size + 1 := by rw [<- hwx]; simp
 rw [hwx] at hX ux
 rw [hwb, sx] at hY
 rw [hwb] at uy
 have hU := Lib.hid (ux.trans uy)
 have hB := Lib.hid (fun w' (hu : New0 wb w') => And.intro ((hX.new uy).new hu) (hY.new hu))
 have hw : Hid ((w.alloc (.cells #[.int .i64 k, .slice A l.length c, .slice A' ms.length c', .int .i64 a, .int .i64 b] 47 (0, 0))).alloc (.cells #[.int .i64 k, .slice B l.length d, .slice B' ms.length d', .int .i64 a, .int .i64 b] 47 (0, 0)) = wb) := Lib.hid (by rw [hwx, hwb])
 have HM := Lib.hid (by have := Mt.same_any wb S S' _ _ ms ms (Rw.View.new hm hU.out) (Rw.View.new hn hU.out); rw [decide_eq_true rfl] at this; exact this)
 have HL := Lib.hid (fun w1 (hu : New0 w w1) T T' u u' x (hx : Lb.View w T u x) (hy : Lb.View w T' u' x) => by have := Lb.same_any w1 T T' u u' x x (Rw.View.new hx hu) (Rw.View.new hy hu); rw [decide_eq_true rfl] at this; exact this)
 replace hs := Lib.hid hs
 replace ht := Lib.hid ht
 clear h1 h2 hm hn ux uy sx hX hY hwx hwb
 go_enter Tryz.func29, Tryz.ntmps29
 go_wp2_with fail
 rw [hw.out]
 refine HM.out.mono ?_
 rintro e w2 ⟨rfl, n2, rfl⟩
 obtain ⟨⟨a0, a1, a2, a3, a4⟩, ⟨b0, b1, b2, b3, b4⟩⟩ := hB.out _ (upon_drewN _ wb n2)
 have hu2 : Hid (New0 wb (wb.drewN n2)) := Lib.hid (upon_drewN _ wb n2)
 clear HM hw
 generalize wb.drewN n2 = w2 at *
 go_wp2_with fail
 clear a0 a1 a2 a3 a4 b0 b1 b2 b3 b4
 go_loopw [5] (fun ov wr => ∃ j : Nat, ov = .int .i64 (j : Int) /\ j <= l.length /\ Hid (New0 wb wr)) (fun ov _ => l.length - (intOf ov).toNat)
 case atStart => exact ⟨0, rfl, Nat.zero_le _, hu2⟩
 case round =>
  clear hu2
  obtain ⟨j, rfl, hj, hu⟩ := hrel
  obtain ⟨⟨-, a1, -, -, -⟩, ⟨-, b1, -, -, -⟩⟩ := hB.out _ hu.out
  by_cases hlt : j < l.length
  ·obtain ⟨gx, ox, rfl, -, hcx⟩ := SView.cells hs.out (by omega)
   obtain ⟨gy, oy, rfl, -, hcy⟩ := SView.cells ht.out (by omega)
   obtain ⟨⟨sa, sn, sc⟩, hvx, x0, x1, x2⟩ := hcx j hlt
   obtain ⟨⟨ta, tn, tc⟩, hvy, y0, y1, y2⟩ := hcy j hlt
   replace x0 := Lb.New0.cells (hU.out.trans hu.out) x0
   replace x1 := Lb.New0.cells (hU.out.trans hu.out) x1
   replace x2 := Lb.New0.cells (hU.out.trans hu.out) x2
   replace y0 := Lb.New0.cells (hU.out.trans hu.out) y0
   replace y1 := Lb.New0.cells (hU.out.trans hu.out) y1
   replace y2 := Lb.New0.cells (hU.out.trans hu.out) y2
   have HL1 := Lib.hid (fun w1 (hu : New0 w w1) => HL.out w1 hu _ _ _ _ _ hvx hvy)
   obtain ⟨x, hx⟩ : ∃ x, l[j] = x := ⟨_, rfl⟩
   rw [hx] at x1 x2 y1 y2
   obtain ⟨ls, t, u⟩ := x
   simp only at x0 x1 x2 y0 y1 y2
   clear hcx hcy hvx hvy hx hs ht
   have a1_1 := fun o => Lb.New0.cells ((Upon.refl (fun _ => False) wr).alloc o) a1
   have a1_2 := fun o o' => Lb.New0.cells (((Upon.refl (fun _ => False) wr).alloc o).alloc o') a1
   have b1_1 := fun o => Lb.New0.cells ((Upon.refl (fun _ => False) wr).alloc o) b1
   have b1_2 := fun o o' => Lb.New0.cells (((Upon.refl (fun _ => False) wr).alloc o).alloc o') b1
   have x0_1 := fun o => Lb.New0.cells ((Upon.refl (fun _ => False) wr).alloc o) x0
   have x0_2 := fun o o' => Lb.New0.cells (((Upon.refl (fun _ => False) wr).alloc o).alloc o') x0
   have x1_1 := fun o => Lb.New0.cells ((Upon.refl (fun _ => False) wr).alloc o) x1
   have x1_2 := fun o o' => Lb.New0.cells (((Upon.refl (fun _ => False) wr).alloc o).alloc o') x1
   have x2_1 := fun o => Lb.New0.cells ((Upon.refl (fun _ => False) wr).alloc o) x2
   have x2_2 := fun o o' => Lb.New0.cells (((Upon.refl (fun _ => False) wr).alloc o).alloc o') x2
   have y0_1 := fun o => Lb.New0.cells ((Upon.refl (fun _ => False) wr).alloc o) y0
   have y0_2 := fun o o' => Lb.New0.cells (((Upon.refl (fun _ => False) wr).alloc o).alloc o') y0
   have y1_1 := fun o => Lb.New0.cells ((Upon.refl (fun _ => False) wr).alloc o) y1
   have y1_2 := fun o o' => Lb.New0.cells (((Upon.refl (fun _ => False) wr).alloc o).alloc o') y1
   have y2_1 := fun o => Lb.New0.cells ((Upon.refl (fun _ => False) wr).alloc o) y2
   have y2_2 := fun o o' => Lb.New0.cells (((Upon.refl (fun _ => False) wr).alloc o).alloc o') y2
   go_wp2_with fail
   go_region
   all_goals
    clear a1 a1_1 a1_2 b1 b1_1 b1_2 x0 x0_1 x0_2 x1 x1_1 x1_2 x2 x2_1 x2_2 y0 y0_1 y0_2 y1 y1_1 y1_2 y2 y2_1 y2_2
    go_wp2_with fail
    refine (HL1.out _ (hU.out.trans (hu.out.trans (by repeat (first | exact Upon.refl _ _ | refine Upon.drew ?_ | refine Upon.alloc ?_ _))))).mono ?_
    rintro e w5 ⟨rfl, n5, rfl⟩
    clear HL1
    go_wp2_with fail
    go_roundw
    case rel => exact ⟨j + 1, by go_num, hlt, Lib.hid ((hu.out.trans (((Upon.refl _ wr).alloc _).alloc _)).trans (upon_drewN _ _ _))⟩
    case measure => simp [intOf]; omega
  ·clear HL hs ht
   go_wp2_with fail
   go_ret
   exact ⟨rfl, hU.out.trans hu.out⟩
end Rc
end
end
end Go.Proofs.YtgmnhodajngchaaGreatDoor
