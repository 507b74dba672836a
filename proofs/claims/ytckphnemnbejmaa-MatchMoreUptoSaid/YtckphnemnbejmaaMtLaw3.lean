/- Layer 11: the laws MatchBack, MatchMore. -/
import Derived.Test.YtckphnemnbejmaaMtLaw2
set_option maxRecDepth 100000
namespace Go.Proofs.Ytckphnemnbejmaa
open Go.RowKit Go.Sort
namespace Mt
open Bit Dsk Ob Dig Lb
set_option linter.unusedVariables false

theorem bnd_of {l : List M} (h : chk l = 0) : Bnd l := fun m hm => by
  have h1 := (chk_zero.1 h).2 m hm
  have h2 := right_small h1
  obtain ⟨h3, h4, -, -⟩ := right_zero.1 h1
  exact ⟨by omega, by omega, by omega, by omega⟩
theorem got_back {s : ByteArray} {x : List M} {k : Nat} (h : got s.data.toList = (x, k, 0)) : chk x = 0 ∧ k ≤ s.size ∧ (⟨(encB x).toArray⟩ : ByteArray) = s.extract 0 k := by
  have hs : s.data.toList.length = s.size := by simp
  obtain ⟨⟨l, r, e⟩, ht⟩ : ∃ z, tk s.data.toList = z := ⟨_, rfl⟩
  by_cases he : e = 0
  · subst he
    rw [got_ok ht] at h
    have h1 := (Prod.mk.inj h).1
    have h2 := (Prod.mk.inj (Prod.mk.inj h).2).1
    subst h1
    obtain ⟨hc, hb⟩ := tk_back ht
    have hlen := congrArg List.length hb
    rw [List.length_append] at hlen
    refine ⟨hc, by omega, Lb.data_inj ?_⟩
    rw [extract_list, List.drop_zero, ← hb]
    show encB l = _
    have hk : k = (encB l).length := by omega
    rw [hk, List.take_left]
  · rw [got_no (by rw [ht]) he] at h
    exact absurd (Prod.mk.inj (Prod.mk.inj h).2).2 he
theorem got_none {s : List UInt8} {x : List M} {k f : Nat} (h : got s = (x, k, f)) (hf : f ≠ 0) : x = [] ∧ k = 0 := by
  unfold got at h
  split at h
  · exact absurd (Prod.mk.inj (Prod.mk.inj h).2).2.symm hf
  · exact ⟨(Prod.mk.inj h).1.symm, (Prod.mk.inj (Prod.mk.inj h).2).1.symm⟩
set_option maxHeartbeats 6400000 in
theorem back_true (W : World) (v1 : Value) (s : ByteArray) (o1 : IsMs v1 W) (hs : s.size ≤ 140737488351232) :
    Calls Try.prog 5 #[v1, .string s] W fun e W' => e = .returned (.bool true) ∧ Below W.heap.size W W' := by
  have HW := Lib.hid (worksB W)
  by_cases hbig : 5000 < s.size
  · have d : (5000 : Int) < (s.size : Int) := by omega
    clear o1
    go_enter Try.func5, Try.ntmps5
    go_wp2_with fail
    refine HW.out.mono ?_
    rintro e w1 ⟨rfl, hu1⟩
    replace hu1 := Lib.hid hu1
    clear HW
    go_wp2_with fail
    go_ret
    exact ⟨rfl, belowOf hu1.out⟩
  have d : ¬ (5000 : Int) < (s.size : Int) := by omega
  obtain ⟨l, h1, hb, hl⟩ := o1
  have HO := Lib.hid (fun w (hu : New0 W w) => own_any w All v1 l (Rw.View.new h1 hu) (by omega))
  have HE := Lib.hid (fun w S u (hv : View w S u l) => enc_any w S u l hv hb)
  have HS := Lib.hid (fun w S u (hu : New0 W w) (hv : View w S u l) => by have := same_any w S All u v1 l l hv (Rw.View.new h1 hu); rw [decide_eq_true rfl] at this; exact this)
  have HD := Lib.hid (fun w => gete_any w s (by omega))
  unfold GetE at HD
  obtain ⟨⟨x, k, f⟩, hx⟩ : ∃ x, got s.data.toList = x := ⟨_, rfl⟩
  rw [hx] at HD
  simp only at HD
  replace h1 := Lib.hid h1
  clear hb hl
  by_cases hok : chk l = 0
  · obtain ⟨t, ht⟩ : ∃ t : ByteArray, t = ⟨(encB l).toArray⟩ := ⟨_, rfl⟩
    have hz : t.size ≤ 1000 := by
      have := encB_len hok
      rw [ht]; show (encB l).toArray.size ≤ 1000; simpa using this
    have HX := Lib.hid (fun w => by have := gete_any w (t ++ s) (by rw [ByteArray.size_append]; omega); unfold GetE at this; rw [get_enc hok ht] at this; exact this)
    have hadd := fun W => run_string_add_sum (P := Try.prog) W t s (by omega)
    rw [encR_ok hok, ← ht] at HE
    replace hok := Lib.hid hok
    clear hz ht
    by_cases hf : f = 0
    · subst hf
      obtain ⟨hx1, hx2, hx3⟩ := got_back hx
      have hE2 : Hid (∀ w S v, View w S v x → Calls Try.prog 9 #[v] w fun e w' => e = .returned (.tuple #[.string (s.extract 0 k), .int .i64 0]) ∧ New0 w w') := Lib.hid fun w S v hv => by
        have := enc_any w S v x hv (bnd_of hx1)
        rw [encR_ok hx1, hx3] at this
        exact this
      have hk1 : (k : Int) ≤ (s.size : Int) := by omega
      clear hx hx1 hx3 hbig
      go_enter Try.func5, Try.ntmps5
      go_wp2_with fail
      refine HW.out.mono ?_
      rintro e w1 ⟨rfl, hu1⟩
      replace hu1 := Lib.hid hu1
      clear HW
      go_wp2_with fail
      refine (HO.out _ hu1.out).mono ?_
      rintro e w2 ⟨u, rfl, hm, -, hu⟩
      replace hm := Lib.hid hm
      have hu2 := Lib.hid (hu1.out.trans hu)
      clear HO hu1 hu
      go_wp2_with fail
      refine (HE.out _ _ _ hm.out.view).mono ?_
      rintro e w3 ⟨rfl, hu⟩
      have hu3 := Lib.hid (hu2.out.trans hu)
      clear HE hu2 hu hm
      go_wp2_with fail
      refine (HX.out _).mono ?_
      rintro e w4 ⟨y, rfl, hy, hu⟩
      have hu4 := Lib.hid (hu3.out.trans hu)
      replace hy := Lib.hid hy
      clear HX hu3 hu hadd
      go_wp2_with fail
      refine (HS.out _ _ _ hu4.out hy.out).mono ?_
      rintro e w6 ⟨rfl, n6, rfl⟩
      have hu3 := Lib.hid (hu4.out.trans (upon_drewN _ w4 n6))
      clear HS hu4 hy
      go_wp2_with fail
      refine (HD.out _).mono ?_
      rintro e w7 ⟨y3, rfl, hy3, hu⟩
      have hu7 := Lib.hid (hu3.out.trans hu)
      have HG := Lib.hid (hE2.out _ _ _ hy3)
      clear HD hu3 hu hy3 hE2
      go_wp2_with fail
      refine HG.out.mono ?_
      rintro e w8 ⟨rfl, hu⟩
      have hend := Lib.hid (belowOf (hu7.out.trans hu))
      clear HG hu7 hu
      go_wp2_with fail
      go_ret
      exact ⟨by first | rfl | exact ret_b (by simp), hend.out⟩
    · obtain ⟨rfl, rfl⟩ := got_none hx hf
      have d2 : ((f : Int) != 0) = true := by rw [bne_iff_ne]; omega
      clear hx hbig hf
      go_enter Try.func5, Try.ntmps5
      go_wp2_with fail
      refine HW.out.mono ?_
      rintro e w1 ⟨rfl, hu1⟩
      replace hu1 := Lib.hid hu1
      clear HW
      go_wp2_with fail
      refine (HO.out _ hu1.out).mono ?_
      rintro e w2 ⟨u, rfl, hm, -, hu⟩
      replace hm := Lib.hid hm
      have hu2 := Lib.hid (hu1.out.trans hu)
      clear HO hu1 hu
      go_wp2_with fail
      refine (HE.out _ _ _ hm.out.view).mono ?_
      rintro e w3 ⟨rfl, hu⟩
      have hu3 := Lib.hid (hu2.out.trans hu)
      clear HE hu2 hu hm
      go_wp2_with fail
      refine (HX.out _).mono ?_
      rintro e w4 ⟨y, rfl, hy, hu⟩
      have hu4 := Lib.hid (hu3.out.trans hu)
      replace hy := Lib.hid hy
      clear HX hu3 hu hadd
      go_wp2_with fail
      refine (HS.out _ _ _ hu4.out hy.out).mono ?_
      rintro e w6 ⟨rfl, n6, rfl⟩
      have hu3 := Lib.hid (hu4.out.trans (upon_drewN _ w4 n6))
      clear HS hu4 hy
      go_wp2_with fail
      refine (HD.out _).mono ?_
      rintro e w7 ⟨y3, rfl, hy3, hu⟩
      have hend := Lib.hid (belowOf (hu3.out.trans hu))
      obtain ⟨A3, c3, rfl, -, -⟩ := Rw.View.shape hy3
      clear HD hu3 hu hy3
      go_wp2_with fail
      go_ret
      exact ⟨rfl, hend.out⟩
  · have hE3 := encR_no hok
    obtain ⟨z, hz⟩ : ∃ z, chk l = z := ⟨_, rfl⟩
    rw [hz] at hE3 hok
    rw [hE3] at HE
    have dz : ((z : Int) == 0) = false := by rw [beq_eq_false_iff_ne]; omega
    clear hE3 hz hok
    by_cases hf : f = 0
    · subst hf
      obtain ⟨hx1, hx2, hx3⟩ := got_back hx
      have hE2 : Hid (∀ w S v, View w S v x → Calls Try.prog 9 #[v] w fun e w' => e = .returned (.tuple #[.string (s.extract 0 k), .int .i64 0]) ∧ New0 w w') := Lib.hid fun w S v hv => by
        have := enc_any w S v x hv (bnd_of hx1)
        rw [encR_ok hx1, hx3] at this
        exact this
      have hk1 : (k : Int) ≤ (s.size : Int) := by omega
      clear hx hx1 hx3 hbig
      go_enter Try.func5, Try.ntmps5
      go_wp2_with fail
      refine HW.out.mono ?_
      rintro e w1 ⟨rfl, hu1⟩
      replace hu1 := Lib.hid hu1
      clear HW
      go_wp2_with fail
      refine (HO.out _ hu1.out).mono ?_
      rintro e w2 ⟨u, rfl, hm, -, hu⟩
      replace hm := Lib.hid hm
      have hu2 := Lib.hid (hu1.out.trans hu)
      clear HO hu1 hu
      go_wp2_with fail
      refine (HE.out _ _ _ hm.out.view).mono ?_
      rintro e w3 ⟨rfl, hu⟩
      have hu3 := Lib.hid (hu2.out.trans hu)
      clear HE hu2 hu hm
      go_wp2_with fail
      refine (HD.out _).mono ?_
      rintro e w7 ⟨y3, rfl, hy3, hu⟩
      have hu7 := Lib.hid (hu3.out.trans hu)
      have HG := Lib.hid (hE2.out _ _ _ hy3)
      clear HD hu3 hu hy3 hE2
      go_wp2_with fail
      refine HG.out.mono ?_
      rintro e w8 ⟨rfl, hu⟩
      have hend := Lib.hid (belowOf (hu7.out.trans hu))
      clear HG hu7 hu
      go_wp2_with fail
      go_ret
      exact ⟨by first | rfl | exact ret_b (by simp), hend.out⟩
    · obtain ⟨rfl, rfl⟩ := got_none hx hf
      have d2 : ((f : Int) != 0) = true := by rw [bne_iff_ne]; omega
      clear hx hbig hf
      go_enter Try.func5, Try.ntmps5
      go_wp2_with fail
      refine HW.out.mono ?_
      rintro e w1 ⟨rfl, hu1⟩
      replace hu1 := Lib.hid hu1
      clear HW
      go_wp2_with fail
      refine (HO.out _ hu1.out).mono ?_
      rintro e w2 ⟨u, rfl, hm, -, hu⟩
      replace hm := Lib.hid hm
      have hu2 := Lib.hid (hu1.out.trans hu)
      clear HO hu1 hu
      go_wp2_with fail
      refine (HE.out _ _ _ hm.out.view).mono ?_
      rintro e w3 ⟨rfl, hu⟩
      have hu3 := Lib.hid (hu2.out.trans hu)
      clear HE hu2 hu hm
      go_wp2_with fail
      refine (HD.out _).mono ?_
      rintro e w7 ⟨y3, rfl, hy3, hu⟩
      have hend := Lib.hid (belowOf (hu3.out.trans hu))
      obtain ⟨A3, c3, rfl, -, -⟩ := Rw.View.shape hy3
      clear HD hu3 hu hy3
      go_wp2_with fail
      go_ret
      exact ⟨rfl, hend.out⟩
end Mt
end Go.Proofs.Ytckphnemnbejmaa
