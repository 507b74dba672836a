/- Layer 12: the law RecordBack. -/
import Derived.Test.YtkachkoiajdhgaaRcLaw3
set_option maxRecDepth 100000
namespace Go.Proofs.Ytkachkoiajdhgaa
open Go.RowKit Go.Sort
namespace Rc
open Bit Dsk Ob Dig Lb
set_option linter.unusedVariables false

theorem rng_of {r : R} (h : Bnd r) : Rng r := ⟨fun x hx => rngS_of (h.smp x hx), h.frm, h.til⟩
abbrev bX : ByteArray := { data := #[120] }
theorem dec_app {r : R} {t : ByteArray} (h : chk r = 0) (hr : Rng r) (ht : t = ⟨(encB r).toArray⟩) : dec t.data.toList = (r, 0) ∧ dec (t ++ bX).data.toList = (zero, 6) := by
  have e : t.data.toList = encB r := by rw [ht]
  refine ⟨by rw [e]; exact dec_enc h hr, ?_⟩
  rw [ByteArray.data_append, Array.toList_append, e]
  exact dec_x h hr 120
set_option maxHeartbeats 12800000 in
theorem back_true (W : World) (v : Value) (s : ByteArray) (o : IsRec v W) (hs : s.size ≤ 140737488351232) :
    Calls Try.prog 5 #[v, .string s] W fun e W' => e = .returned (.bool true) ∧ Below W.heap.size W W' := by
  obtain ⟨r, hv, hb, hl1, hl2⟩ := o
  have hfew : r.smp.length ≤ 9223372036854775807 := by omega
  have HW := Lib.hid (fun w => works_true w)
  have HG := Lib.hid (fun w (hu : New0 W w) => great_any w v r (hv.new hu) hb hl1 hl2)
  have HO := Lib.hid (fun w (hu : New0 W w) => own_any w v r (hv.new hu) hb hl1 hl2)
  have HE := Lib.hid (fun w S u (hv : RView w S u r) => enc_any w S u r hv hb)
  have HS := Lib.hid (fun w S u (hu : New0 W w) (hv2 : RView w S u r) => same_any w S All u v r hv2 (hv.new hu) hfew)
  have hrng := Lib.hid (rng_of hb)
  obtain ⟨z, hz⟩ : ∃ z, chk r = z := ⟨_, rfl⟩
  obtain ⟨⟨y, f⟩, hy⟩ : ∃ p, dec s.data.toList = p := ⟨_, rfl⟩
  have HD := Lib.hid (fun w => dec_of w s (by omega) hy)
  obtain ⟨A, c, A', c', rfl, -, -⟩ := RView.shape hv
  obtain ⟨k, l, ms, a, b⟩ := r
  simp only at *
  have hX := box5 W k (.slice A l.length c) (.slice A' ms.length c') a b
  have ux := (Upon.refl (fun _ => False) W).alloc (.cells #[.int .i64 k, .slice A l.length c, .slice A' ms.length c', .int .i64 a, .int .i64 b] 25 (0, 0))
  obtain ⟨wx, hwx⟩ : ∃ wx, W.alloc (.cells #[.int .i64 k, .slice A l.length c, .slice A' ms.length c', .int .i64 a, .int .i64 b] 25 (0, 0)) = wx := ⟨_, rfl⟩
  rw [hwx] at hX ux
  have hX := Lib.hid (fun w' (hu : New0 wx w') => hX.new hu)
  have hux := Lib.hid ux
  replace hwx := Lib.hid hwx
  clear hv hb hl1 hl2 hfew ux
  by_cases hbig : 20000 < s.size
  · have d : (20000 : Int) < (s.size : Int) := by omega
    clear HG HO HE HS HD hX
    go_enter Try.func5, Try.ntmps5
    go_wp2_with fail
    rw [hwx.out]
    refine (HW.out _).mono ?_
    rintro e w1 ⟨rfl, hu1⟩
    replace hu1 := Lib.hid hu1
    clear HW
    go_wp2_with fail
    go_ret
    exact ⟨rfl, belowOf (hux.out.trans hu1.out)⟩
  have d : ¬ (20000 : Int) < (s.size : Int) := by omega
  by_cases hok : z = 0
  · subst hok
    obtain ⟨t, ht⟩ : ∃ t : ByteArray, t = ⟨(encB ⟨k, l, ms, a, b⟩).toArray⟩ := ⟨_, rfl⟩
    have htz : t.size ≤ 40000 := by
      have := encB_len hz
      rw [ht]; show (encB _).toArray.size ≤ 40000; simpa using this
    have HT := Lib.hid (fun w => dec_of w t (by omega) (dec_app hz hrng.out ht).1)
    have HV := Lib.hid (fun w => dec_of w (t ++ bX) (by rw [ByteArray.size_append]; have : bX.size = 1 := rfl; omega) (dec_app hz hrng.out ht).2)
    have hadd := fun W => run_string_add_sum (P := Try.prog) W t bX (by have : bX.size = 1 := rfl; omega)
    rw [encR_ok hz, ← ht] at HE
    clear hz ht htz hrng
    by_cases hf : f = 0
    · subst hf
      obtain ⟨hy1, hy2, hy3⟩ := Rc.dec_back hy
      have hby := bnd_of hy1 hy3
      have HE2 := Lib.hid (fun w S u (hv : RView w S u y) => enc_any w S u y hv hby)
      rw [encR_ok hy1, show (⟨(encB y).toArray⟩ : ByteArray) = s from Lb.data_inj (by rw [hy2])] at HE2
      obtain ⟨k2, l2, ms2, a2, b2⟩ := y
      clear hy hy1 hy2 hy3 hby hbig
      go_enter Try.func5, Try.ntmps5
      go_wp2_with fail
      rw [hwx.out]
      refine (HW.out _).mono ?_
      rintro e w1 ⟨rfl, hu1⟩
      obtain ⟨x0, x1, x2, x3, x4⟩ := hX.out _ hu1
      replace hu1 := Lib.hid hu1
      clear HW hwx
      go_wp2_with fail
      refine (HG.out _ (hux.out.trans hu1.out)).mono ?_
      rintro e w2 ⟨bg, rfl, hn, -⟩
      have hu2 := Lib.hid (hu1.out.trans hn)
      obtain ⟨x0, x1, x2, x3, x4⟩ := hX.out _ hu2.out
      clear HG hu1 hn
      cases bg with
      | true =>
        go_wp2_with fail
        go_ret
        exact ⟨rfl, belowOf (hux.out.trans hu2.out)⟩
      | false =>
      go_wp2_with fail
      refine (HO.out _ (hux.out.trans hu2.out)).mono ?_
      rintro e w3 ⟨u, rfl, hu, hn⟩
      have HEu := Lib.hid (HE.out _ _ _ hu)
      have hu3 := Lib.hid (hu2.out.trans hn)
      clear HO HE hu2 hn hu
      obtain ⟨x0, x1, x2, x3, x4⟩ := hX.out _ hu3.out
      go_wp2_with fail
      refine HEu.out.mono ?_
      rintro e w4 ⟨rfl, hn⟩
      have hu4 := Lib.hid (hu3.out.trans hn)
      clear HEu hu3 hn
      go_wp2_with fail
      refine (HT.out _).mono ?_
      rintro e w5 ⟨p, rfl, hp, -, hn⟩
      have hu5 := Lib.hid (hu4.out.trans hn)
      clear HT hu4 hn
      obtain ⟨B, c2, B', c2', rfl, -, -⟩ := RView.shape hp
      simp only at hp ⊢
      have hY := box5 w5 k (.slice B l.length c2) (.slice B' ms.length c2') a b
      have uy := (Upon.refl (fun _ => False) w5).alloc (.cells #[.int .i64 k, .slice B l.length c2, .slice B' ms.length c2', .int .i64 a, .int .i64 b] 25 (0, 0))
      obtain ⟨wy, hwy⟩ : ∃ wy, w5.alloc (.cells #[.int .i64 k, .slice B l.length c2, .slice B' ms.length c2', .int .i64 a, .int .i64 b] 25 (0, 0)) = wy := ⟨_, rfl⟩
      rw [hwy] at hY uy
      have huy := Lib.hid (hu5.out.trans uy)
      have hP := Lib.hid (fun w' (hn : New0 wy w') => HS.out w' _ _ (hux.out.trans (huy.out.trans hn)) (hp.new (uy.trans hn)))
      replace hY := Lib.hid (fun w' (hn : New0 wy w') => hY.new hn)
      replace hwy := Lib.hid hwy
      clear hp uy hu5 HS
      go_wp2_with fail
      rw [hwy.out]
      refine (HV.out _).mono ?_
      rintro e w6 ⟨p, rfl, hp, -, hn⟩
      obtain ⟨D, c3, D', c3', rfl, -, -⟩ := RView.shape hp
      simp only [zero, List.length_nil]
      have uz := hn.trans ((Upon.refl (fun _ => False) w6).alloc (.cells #[.int .i64 0, .slice D 0 c3, .slice D' 0 c3', .int .i64 0, .int .i64 0] 25 (0, 0)))
      obtain ⟨x0, x1, x2, x3, x4⟩ := hX.out _ (huy.out.trans uz)
      obtain ⟨y0, y1, y2, y3, y4⟩ := hY.out _ uz
      obtain ⟨wz, hwz⟩ : ∃ wz, w6.alloc (.cells #[.int .i64 0, .slice D 0 c3, .slice D' 0 c3', .int .i64 0, .int .i64 0] 25 (0, 0)) = wz := ⟨_, rfl⟩
      rw [hwz] at uz
      have HT := Lib.hid (hP.out _ uz)
      have huz := Lib.hid (huy.out.trans uz)
      replace hwz := Lib.hid hwz
      clear HV hp hn uz huy hP hY hwy hX
      go_wp2_with fail
      rw [hwz.out]
      refine HT.out.mono ?_
      rintro e w7 ⟨rfl, hn⟩
      have hu7 := Lib.hid (hux.out.trans (huz.out.trans hn))
      clear HT hwz huz hn x0 x1 x2 x3 x4 y0 y1 y2 y3 y4 hux
      go_wp2_with fail
      refine (HD.out _).mono ?_
      rintro e w8 ⟨p, rfl, hp, -, hn⟩
      obtain ⟨D, c4, D', c4', rfl, -, -⟩ := RView.shape hp
      simp only at hp ⊢
      have uz := (Upon.refl (fun _ => False) w8).alloc (.cells #[.int .i64 k2, .slice D l2.length c4, .slice D' ms2.length c4', .int .i64 a2, .int .i64 b2] 25 (0, 0))
      have hY := box5 w8 k2 (.slice D l2.length c4) (.slice D' ms2.length c4') a2 b2
      obtain ⟨y0, y1, y2, y3, y4⟩ := hY
      obtain ⟨wv, hwv⟩ : ∃ wv, w8.alloc (.cells #[.int .i64 k2, .slice D l2.length c4, .slice D' ms2.length c4', .int .i64 a2, .int .i64 b2] 25 (0, 0)) = wv := ⟨_, rfl⟩
      rw [hwv] at uz
      have HF := Lib.hid (HE2.out _ _ _ (hp.new uz))
      have hu8 := Lib.hid ((hu7.out.trans hn).trans uz)
      replace hwv := Lib.hid hwv
      clear HD hp hn uz hu7 HE2
      go_wp2_with fail
      rw [hwv.out]
      refine HF.out.mono ?_
      rintro e w9 ⟨rfl, hn⟩
      have hend := Lib.hid (belowOf (hu8.out.trans hn))
      clear HF hwv hu8 hn y0 y1 y2 y3 y4
      go_wp2_with fail
      go_ret
      exact ⟨by first | rfl | exact ret_b (by simp), hend.out⟩
    · have hyz := Rc.dec_none hy hf
      subst hyz
      have d2 : ((f : Int) != 0) = true := by rw [bne_iff_ne]; omega
      clear hy hbig hf
      go_enter Try.func5, Try.ntmps5
      go_wp2_with fail
      rw [hwx.out]
      refine (HW.out _).mono ?_
      rintro e w1 ⟨rfl, hu1⟩
      obtain ⟨x0, x1, x2, x3, x4⟩ := hX.out _ hu1
      replace hu1 := Lib.hid hu1
      clear HW hwx
      go_wp2_with fail
      refine (HG.out _ (hux.out.trans hu1.out)).mono ?_
      rintro e w2 ⟨bg, rfl, hn, -⟩
      have hu2 := Lib.hid (hu1.out.trans hn)
      obtain ⟨x0, x1, x2, x3, x4⟩ := hX.out _ hu2.out
      clear HG hu1 hn
      cases bg with
      | true =>
        go_wp2_with fail
        go_ret
        exact ⟨rfl, belowOf (hux.out.trans hu2.out)⟩
      | false =>
      go_wp2_with fail
      refine (HO.out _ (hux.out.trans hu2.out)).mono ?_
      rintro e w3 ⟨u, rfl, hu, hn⟩
      have HEu := Lib.hid (HE.out _ _ _ hu)
      have hu3 := Lib.hid (hu2.out.trans hn)
      clear HO HE hu2 hn hu
      obtain ⟨x0, x1, x2, x3, x4⟩ := hX.out _ hu3.out
      go_wp2_with fail
      refine HEu.out.mono ?_
      rintro e w4 ⟨rfl, hn⟩
      have hu4 := Lib.hid (hu3.out.trans hn)
      clear HEu hu3 hn
      go_wp2_with fail
      refine (HT.out _).mono ?_
      rintro e w5 ⟨p, rfl, hp, -, hn⟩
      have hu5 := Lib.hid (hu4.out.trans hn)
      clear HT hu4 hn
      obtain ⟨B, c2, B', c2', rfl, -, -⟩ := RView.shape hp
      simp only at hp ⊢
      have hY := box5 w5 k (.slice B l.length c2) (.slice B' ms.length c2') a b
      have uy := (Upon.refl (fun _ => False) w5).alloc (.cells #[.int .i64 k, .slice B l.length c2, .slice B' ms.length c2', .int .i64 a, .int .i64 b] 25 (0, 0))
      obtain ⟨wy, hwy⟩ : ∃ wy, w5.alloc (.cells #[.int .i64 k, .slice B l.length c2, .slice B' ms.length c2', .int .i64 a, .int .i64 b] 25 (0, 0)) = wy := ⟨_, rfl⟩
      rw [hwy] at hY uy
      have huy := Lib.hid (hu5.out.trans uy)
      have hP := Lib.hid (fun w' (hn : New0 wy w') => HS.out w' _ _ (hux.out.trans (huy.out.trans hn)) (hp.new (uy.trans hn)))
      replace hY := Lib.hid (fun w' (hn : New0 wy w') => hY.new hn)
      replace hwy := Lib.hid hwy
      clear hp uy hu5 HS
      go_wp2_with fail
      rw [hwy.out]
      refine (HV.out _).mono ?_
      rintro e w6 ⟨p, rfl, hp, -, hn⟩
      obtain ⟨D, c3, D', c3', rfl, -, -⟩ := RView.shape hp
      simp only [zero, List.length_nil]
      have uz := hn.trans ((Upon.refl (fun _ => False) w6).alloc (.cells #[.int .i64 0, .slice D 0 c3, .slice D' 0 c3', .int .i64 0, .int .i64 0] 25 (0, 0)))
      obtain ⟨x0, x1, x2, x3, x4⟩ := hX.out _ (huy.out.trans uz)
      obtain ⟨y0, y1, y2, y3, y4⟩ := hY.out _ uz
      obtain ⟨wz, hwz⟩ : ∃ wz, w6.alloc (.cells #[.int .i64 0, .slice D 0 c3, .slice D' 0 c3', .int .i64 0, .int .i64 0] 25 (0, 0)) = wz := ⟨_, rfl⟩
      rw [hwz] at uz
      have HT := Lib.hid (hP.out _ uz)
      have huz := Lib.hid (huy.out.trans uz)
      replace hwz := Lib.hid hwz
      clear HV hp hn uz huy hP hY hwy hX
      go_wp2_with fail
      rw [hwz.out]
      refine HT.out.mono ?_
      rintro e w7 ⟨rfl, hn⟩
      have hu7 := Lib.hid (hux.out.trans (huz.out.trans hn))
      clear HT hwz huz hn x0 x1 x2 x3 x4 y0 y1 y2 y3 y4 hux
      go_wp2_with fail
      refine (HD.out _).mono ?_
      rintro e w8 ⟨p, rfl, hp, -, hn⟩
      obtain ⟨D, c4, D', c4', rfl, -, -⟩ := RView.shape hp
      simp only [zero, List.length_nil]
      have uz := (Upon.refl (fun _ => False) w8).alloc (.cells #[.int .i64 0, .slice D 0 c4, .slice D' 0 c4', .int .i64 0, .int .i64 0] 25 (0, 0))
      have hend := Lib.hid (belowOf ((hu7.out.trans hn).trans uz))
      clear HD hp hn uz hu7
      go_wp2_with fail
      go_ret
      exact ⟨by first | rfl | exact ret_b (by simp), hend.out⟩
  · rw [encR_no (by rw [hz]; exact hok)] at HE
    rw [hz] at HE
    have dz : ((z : Int) == 0) = false := by rw [beq_eq_false_iff_ne]; omega
    clear hz hok hrng HS
    by_cases hf : f = 0
    · subst hf
      obtain ⟨hy1, hy2, hy3⟩ := Rc.dec_back hy
      have hby := bnd_of hy1 hy3
      have HE2 := Lib.hid (fun w S u (hv : RView w S u y) => enc_any w S u y hv hby)
      rw [encR_ok hy1, show (⟨(encB y).toArray⟩ : ByteArray) = s from Lb.data_inj (by rw [hy2])] at HE2
      obtain ⟨k2, l2, ms2, a2, b2⟩ := y
      clear hy hy1 hy2 hy3 hby hbig
      go_enter Try.func5, Try.ntmps5
      go_wp2_with fail
      rw [hwx.out]
      refine (HW.out _).mono ?_
      rintro e w1 ⟨rfl, hu1⟩
      obtain ⟨x0, x1, x2, x3, x4⟩ := hX.out _ hu1
      replace hu1 := Lib.hid hu1
      clear HW hwx
      go_wp2_with fail
      refine (HG.out _ (hux.out.trans hu1.out)).mono ?_
      rintro e w2 ⟨bg, rfl, hn, -⟩
      have hu2 := Lib.hid (hu1.out.trans hn)
      obtain ⟨x0, x1, x2, x3, x4⟩ := hX.out _ hu2.out
      clear HG hu1 hn
      cases bg with
      | true =>
        go_wp2_with fail
        go_ret
        exact ⟨rfl, belowOf (hux.out.trans hu2.out)⟩
      | false =>
      go_wp2_with fail
      refine (HO.out _ (hux.out.trans hu2.out)).mono ?_
      rintro e w3 ⟨u, rfl, hu, hn⟩
      have HEu := Lib.hid (HE.out _ _ _ hu)
      have hu3 := Lib.hid (hu2.out.trans hn)
      clear HO HE hu2 hn hu
      obtain ⟨x0, x1, x2, x3, x4⟩ := hX.out _ hu3.out
      go_wp2_with fail
      refine HEu.out.mono ?_
      rintro e w4 ⟨rfl, hn⟩
      have hu4 := Lib.hid (hu3.out.trans hn)
      clear HEu hu3 hn
      have hu7 := Lib.hid (hux.out.trans hu4.out)
      clear hux hu4 hX x0 x1 x2 x3 x4
      obtain ⟨w7, hw7⟩ : ∃ w7, w4 = w7 := ⟨_, rfl⟩
      subst hw7
      go_wp2_with fail
      refine (HD.out _).mono ?_
      rintro e w8 ⟨p, rfl, hp, -, hn⟩
      obtain ⟨D, c4, D', c4', rfl, -, -⟩ := RView.shape hp
      simp only at hp ⊢
      have uz := (Upon.refl (fun _ => False) w8).alloc (.cells #[.int .i64 k2, .slice D l2.length c4, .slice D' ms2.length c4', .int .i64 a2, .int .i64 b2] 25 (0, 0))
      have hY := box5 w8 k2 (.slice D l2.length c4) (.slice D' ms2.length c4') a2 b2
      obtain ⟨y0, y1, y2, y3, y4⟩ := hY
      obtain ⟨wv, hwv⟩ : ∃ wv, w8.alloc (.cells #[.int .i64 k2, .slice D l2.length c4, .slice D' ms2.length c4', .int .i64 a2, .int .i64 b2] 25 (0, 0)) = wv := ⟨_, rfl⟩
      rw [hwv] at uz
      have HF := Lib.hid (HE2.out _ _ _ (hp.new uz))
      have hu8 := Lib.hid ((hu7.out.trans hn).trans uz)
      replace hwv := Lib.hid hwv
      clear HD hp hn uz hu7 HE2
      go_wp2_with fail
      rw [hwv.out]
      refine HF.out.mono ?_
      rintro e w9 ⟨rfl, hn⟩
      have hend := Lib.hid (belowOf (hu8.out.trans hn))
      clear HF hwv hu8 hn y0 y1 y2 y3 y4
      go_wp2_with fail
      go_ret
      exact ⟨by first | rfl | exact ret_b (by simp), hend.out⟩
    · have hyz := Rc.dec_none hy hf
      subst hyz
      have d2 : ((f : Int) != 0) = true := by rw [bne_iff_ne]; omega
      clear hy hbig hf
      go_enter Try.func5, Try.ntmps5
      go_wp2_with fail
      rw [hwx.out]
      refine (HW.out _).mono ?_
      rintro e w1 ⟨rfl, hu1⟩
      obtain ⟨x0, x1, x2, x3, x4⟩ := hX.out _ hu1
      replace hu1 := Lib.hid hu1
      clear HW hwx
      go_wp2_with fail
      refine (HG.out _ (hux.out.trans hu1.out)).mono ?_
      rintro e w2 ⟨bg, rfl, hn, -⟩
      have hu2 := Lib.hid (hu1.out.trans hn)
      obtain ⟨x0, x1, x2, x3, x4⟩ := hX.out _ hu2.out
      clear HG hu1 hn
      cases bg with
      | true =>
        go_wp2_with fail
        go_ret
        exact ⟨rfl, belowOf (hux.out.trans hu2.out)⟩
      | false =>
      go_wp2_with fail
      refine (HO.out _ (hux.out.trans hu2.out)).mono ?_
      rintro e w3 ⟨u, rfl, hu, hn⟩
      have HEu := Lib.hid (HE.out _ _ _ hu)
      have hu3 := Lib.hid (hu2.out.trans hn)
      clear HO HE hu2 hn hu
      obtain ⟨x0, x1, x2, x3, x4⟩ := hX.out _ hu3.out
      go_wp2_with fail
      refine HEu.out.mono ?_
      rintro e w4 ⟨rfl, hn⟩
      have hu4 := Lib.hid (hu3.out.trans hn)
      clear HEu hu3 hn
      have hu7 := Lib.hid (hux.out.trans hu4.out)
      clear hux hu4 hX x0 x1 x2 x3 x4
      obtain ⟨w7, hw7⟩ : ∃ w7, w4 = w7 := ⟨_, rfl⟩
      subst hw7
      go_wp2_with fail
      refine (HD.out _).mono ?_
      rintro e w8 ⟨p, rfl, hp, -, hn⟩
      obtain ⟨D, c4, D', c4', rfl, -, -⟩ := RView.shape hp
      simp only [zero, List.length_nil]
      have uz := (Upon.refl (fun _ => False) w8).alloc (.cells #[.int .i64 0, .slice D 0 c4, .slice D' 0 c4', .int .i64 0, .int .i64 0] 25 (0, 0))
      have hend := Lib.hid (belowOf ((hu7.out.trans hn).trans uz))
      clear HD hp hn uz hu7
      go_wp2_with fail
      go_ret
      exact ⟨by first | rfl | exact ret_b (by simp), hend.out⟩
end Rc
end Go.Proofs.Ytkachkoiajdhgaa
