/- Layer 10: the laws LabelOrder, LabelNames, LabelBack. -/
import Derived.Test.YtoamgmbpainpjaaLbLaw2
set_option maxRecDepth 100000
namespace Go.Proofs.Ytoamgmbpainpjaa
open Go.RowKit Go.Sort
namespace Lb
open Bit Dsk Ob Dig
set_option linter.unusedVariables false
set_option linter.unusedSimpArgs false

theorem worksB (W : World) : Calls Try.prog 21 #[] W fun e W' => e = .returned (.bool true) ∧ New0 W W' := works_true W
/-- What the order's law asks, said plainly. -/
theorem order_five (a b c : List Pr) : (cmp a b = 1) ∨ (cmp a b = 0 ∧ 0 < cmp b c) ∨ (cmp a b = 0 ∧ ¬ 0 < cmp b c ∧ cmp a c ≤ 0) ∨ (cmp a b = -1 ∧ 0 < cmp b c) ∨ (cmp a b = -1 ∧ ¬ 0 < cmp b c ∧ cmp a c ≤ 0 ∧ cmp a c < 0) := by
  rcases cmp_three a b with h | h | h
  · by_cases hy : 0 < cmp b c
    · exact .inr (.inr (.inr (.inl ⟨h, hy⟩)))
    · obtain ⟨h1, h2⟩ := cmp_trans a b c (by omega) (by omega)
      exact .inr (.inr (.inr (.inr ⟨h, hy, h1, h2 (by omega)⟩)))
  · by_cases hy : 0 < cmp b c
    · exact .inr (.inl ⟨h, hy⟩)
    · obtain ⟨h1, h2⟩ := cmp_trans a b c (by omega) (by omega)
      exact .inr (.inr (.inl ⟨h, hy, h1⟩))
  · exact .inl h
set_option maxHeartbeats 6400000 in
theorem order_true (W : World) (v1 v2 v3 : Value) (o1 : IsPrs v1 W) (o2 : IsPrs v2 W) (o3 : IsPrs v3 W) :
    Calls Try.prog 6 #[v1, v2, v3] W fun e W' => e = .returned (.bool true) ∧ Below W.heap.size W W' := by
  obtain ⟨a, h1, -, -⟩ := o1
  obtain ⟨b, h2, -, -⟩ := o2
  obtain ⟨c, h3, -, -⟩ := o3
  have HW := Lib.hid (worksB W)
  have HX := Lib.hid (fun w (hu : New0 W w) => compare_any w All All v1 v2 a b (Rw.View.new h1 hu) (Rw.View.new h2 hu))
  have HY := Lib.hid (fun w (hu : New0 W w) => compare_any w All All v2 v3 b c (Rw.View.new h2 hu) (Rw.View.new h3 hu))
  have HZ := Lib.hid (fun w (hu : New0 W w) => compare_any w All All v1 v3 a c (Rw.View.new h1 hu) (Rw.View.new h3 hu))
  have HB := Lib.hid (fun w (hu : New0 W w) => by have := compare_any w All All v2 v1 b a (Rw.View.new h2 hu) (Rw.View.new h1 hu); rw [cmp_swap a b] at this; exact this)
  have HA := Lib.hid (fun w (hu : New0 W w) => by have := compare_any w All All v1 v1 a a (Rw.View.new h1 hu) (Rw.View.new h1 hu); rw [cmp_self] at this; exact this)
  have HS := Lib.hid (fun w (hu : New0 W w) => by have := same_any w All All v1 v2 a b (Rw.View.new h1 hu) (Rw.View.new h2 hu); rw [← cmp_beq] at this; exact this)
  have h5 := order_five a b c
  clear h1 h2 h3
  generalize cmp a b = x at *
  generalize cmp b c = y at *
  generalize cmp a c = z at *
  rcases h5 with rfl | ⟨rfl, k1⟩ | ⟨rfl, k1, k2⟩ | ⟨rfl, k1⟩ | ⟨rfl, k1, k2, k3⟩
  · go_enter Try.func6, Try.ntmps6
    go_wp2_with fail
    refine HW.out.mono ?_
    rintro e w1 ⟨rfl, hu1⟩
    replace hu1 := Lib.hid hu1
    clear HW
    go_wp2_with fail
    refine (HX.out _ hu1.out).mono ?_
    rintro e w2 ⟨rfl, hu⟩
    have hu2 := Lib.hid (hu1.out.trans hu)
    clear HX hu1 hu
    go_wp2_with fail
    refine (HY.out _ hu2.out).mono ?_
    rintro e w3 ⟨rfl, hu⟩
    have hu3 := Lib.hid (hu2.out.trans hu)
    clear HY hu2 hu
    go_wp2_with fail
    refine (HZ.out _ hu3.out).mono ?_
    rintro e w4 ⟨rfl, hu⟩
    have hu4 := Lib.hid (hu3.out.trans hu)
    clear HZ hu3 hu
    go_wp2_with fail
    refine (HB.out _ hu4.out).mono ?_
    rintro e w5 ⟨rfl, hu⟩
    have hu5 := Lib.hid (hu4.out.trans hu)
    clear HB hu4 hu
    go_wp2_with fail
    refine (HA.out _ hu5.out).mono ?_
    rintro e w6 ⟨rfl, hu⟩
    have hu6 := Lib.hid (hu5.out.trans hu)
    clear HA hu5 hu
    go_wp2_with fail
    refine (HS.out _ hu6.out).mono ?_
    rintro e w7 ⟨rfl, n7, rfl⟩
    have hend := Lib.hid (belowOf (hu6.out.trans (upon_drewN _ w6 n7)))
    clear HS hu6
    go_wp2_with fail
    go_ret
    exact ⟨rfl, hend.out⟩
  · go_enter Try.func6, Try.ntmps6
    go_wp2_with fail
    refine HW.out.mono ?_
    rintro e w1 ⟨rfl, hu1⟩
    replace hu1 := Lib.hid hu1
    clear HW
    go_wp2_with fail
    refine (HX.out _ hu1.out).mono ?_
    rintro e w2 ⟨rfl, hu⟩
    have hu2 := Lib.hid (hu1.out.trans hu)
    clear HX hu1 hu
    go_wp2_with fail
    refine (HY.out _ hu2.out).mono ?_
    rintro e w3 ⟨rfl, hu⟩
    have hu3 := Lib.hid (hu2.out.trans hu)
    clear HY hu2 hu
    go_wp2_with fail
    refine (HZ.out _ hu3.out).mono ?_
    rintro e w4 ⟨rfl, hu⟩
    have hu4 := Lib.hid (hu3.out.trans hu)
    clear HZ hu3 hu
    go_wp2_with fail
    refine (HB.out _ hu4.out).mono ?_
    rintro e w5 ⟨rfl, hu⟩
    have hu5 := Lib.hid (hu4.out.trans hu)
    clear HB hu4 hu
    go_wp2_with fail
    refine (HA.out _ hu5.out).mono ?_
    rintro e w6 ⟨rfl, hu⟩
    have hu6 := Lib.hid (hu5.out.trans hu)
    clear HA hu5 hu
    go_wp2_with fail
    refine (HS.out _ hu6.out).mono ?_
    rintro e w7 ⟨rfl, n7, rfl⟩
    have hend := Lib.hid (belowOf (hu6.out.trans (upon_drewN _ w6 n7)))
    clear HS hu6
    go_wp2_with fail
    go_ret
    exact ⟨rfl, hend.out⟩
  · go_enter Try.func6, Try.ntmps6
    go_wp2_with fail
    refine HW.out.mono ?_
    rintro e w1 ⟨rfl, hu1⟩
    replace hu1 := Lib.hid hu1
    clear HW
    go_wp2_with fail
    refine (HX.out _ hu1.out).mono ?_
    rintro e w2 ⟨rfl, hu⟩
    have hu2 := Lib.hid (hu1.out.trans hu)
    clear HX hu1 hu
    go_wp2_with fail
    refine (HY.out _ hu2.out).mono ?_
    rintro e w3 ⟨rfl, hu⟩
    have hu3 := Lib.hid (hu2.out.trans hu)
    clear HY hu2 hu
    go_wp2_with fail
    refine (HZ.out _ hu3.out).mono ?_
    rintro e w4 ⟨rfl, hu⟩
    have hu4 := Lib.hid (hu3.out.trans hu)
    clear HZ hu3 hu
    go_wp2_with fail
    refine (HB.out _ hu4.out).mono ?_
    rintro e w5 ⟨rfl, hu⟩
    have hu5 := Lib.hid (hu4.out.trans hu)
    clear HB hu4 hu
    go_wp2_with fail
    refine (HA.out _ hu5.out).mono ?_
    rintro e w6 ⟨rfl, hu⟩
    have hu6 := Lib.hid (hu5.out.trans hu)
    clear HA hu5 hu
    go_wp2_with fail
    refine (HS.out _ hu6.out).mono ?_
    rintro e w7 ⟨rfl, n7, rfl⟩
    have hend := Lib.hid (belowOf (hu6.out.trans (upon_drewN _ w6 n7)))
    clear HS hu6
    go_wp2_with fail
    go_ret
    exact ⟨rfl, hend.out⟩
  · go_enter Try.func6, Try.ntmps6
    go_wp2_with fail
    refine HW.out.mono ?_
    rintro e w1 ⟨rfl, hu1⟩
    replace hu1 := Lib.hid hu1
    clear HW
    go_wp2_with fail
    refine (HX.out _ hu1.out).mono ?_
    rintro e w2 ⟨rfl, hu⟩
    have hu2 := Lib.hid (hu1.out.trans hu)
    clear HX hu1 hu
    go_wp2_with fail
    refine (HY.out _ hu2.out).mono ?_
    rintro e w3 ⟨rfl, hu⟩
    have hu3 := Lib.hid (hu2.out.trans hu)
    clear HY hu2 hu
    go_wp2_with fail
    refine (HZ.out _ hu3.out).mono ?_
    rintro e w4 ⟨rfl, hu⟩
    have hu4 := Lib.hid (hu3.out.trans hu)
    clear HZ hu3 hu
    go_wp2_with fail
    refine (HB.out _ hu4.out).mono ?_
    rintro e w5 ⟨rfl, hu⟩
    have hu5 := Lib.hid (hu4.out.trans hu)
    clear HB hu4 hu
    go_wp2_with fail
    refine (HA.out _ hu5.out).mono ?_
    rintro e w6 ⟨rfl, hu⟩
    have hu6 := Lib.hid (hu5.out.trans hu)
    clear HA hu5 hu
    go_wp2_with fail
    refine (HS.out _ hu6.out).mono ?_
    rintro e w7 ⟨rfl, n7, rfl⟩
    have hend := Lib.hid (belowOf (hu6.out.trans (upon_drewN _ w6 n7)))
    clear HS hu6
    go_wp2_with fail
    go_ret
    exact ⟨rfl, hend.out⟩
  · go_enter Try.func6, Try.ntmps6
    go_wp2_with fail
    refine HW.out.mono ?_
    rintro e w1 ⟨rfl, hu1⟩
    replace hu1 := Lib.hid hu1
    clear HW
    go_wp2_with fail
    refine (HX.out _ hu1.out).mono ?_
    rintro e w2 ⟨rfl, hu⟩
    have hu2 := Lib.hid (hu1.out.trans hu)
    clear HX hu1 hu
    go_wp2_with fail
    refine (HY.out _ hu2.out).mono ?_
    rintro e w3 ⟨rfl, hu⟩
    have hu3 := Lib.hid (hu2.out.trans hu)
    clear HY hu2 hu
    go_wp2_with fail
    refine (HZ.out _ hu3.out).mono ?_
    rintro e w4 ⟨rfl, hu⟩
    have hu4 := Lib.hid (hu3.out.trans hu)
    clear HZ hu3 hu
    go_wp2_with fail
    refine (HB.out _ hu4.out).mono ?_
    rintro e w5 ⟨rfl, hu⟩
    have hu5 := Lib.hid (hu4.out.trans hu)
    clear HB hu4 hu
    go_wp2_with fail
    refine (HA.out _ hu5.out).mono ?_
    rintro e w6 ⟨rfl, hu⟩
    have hu6 := Lib.hid (hu5.out.trans hu)
    clear HA hu5 hu
    go_wp2_with fail
    refine (HS.out _ hu6.out).mono ?_
    rintro e w7 ⟨rfl, n7, rfl⟩
    have hend := Lib.hid (belowOf (hu6.out.trans (upon_drewN _ w6 n7)))
    clear HS hu6
    go_wp2_with fail
    go_ret
    exact ⟨rfl, hend.out⟩

theorem chk_n (s : ByteArray) : chk [(s, b1)] = if nm s = true then 0 else 16 := by
  by_cases h : nm s = true
  · rw [if_pos h]; exact chk_ok ⟨by simp, by simp, fun p hp => by rw [List.mem_singleton.1 hp]; exact ⟨h, show vl b1 = true by decide⟩, List.pairwise_singleton _ _⟩
  · rw [if_neg h]; exact chk_no fun k => h (k.at 0 (by simp)).1
theorem chk_v (s : ByteArray) : chk [(bA, s)] = if vl s = true then 0 else 16 := by
  by_cases h : vl s = true
  · rw [if_pos h]; exact chk_ok ⟨by simp, by simp, fun p hp => by rw [List.mem_singleton.1 hp]; exact ⟨show nm bA = true by decide, h⟩, List.pairwise_singleton _ _⟩
  · rw [if_neg h]; exact chk_no fun k => h (k.at 0 (by simp)).2
theorem sml_one {a b : ByteArray} (ha : a.size ≤ 9223372036854775807) (hb : b.size ≤ 9223372036854775807) : Sml [(a, b)] := fun p hp => by rw [List.mem_singleton.1 hp]; exact ⟨ha, hb⟩
set_option maxHeartbeats 6400000 in
theorem names_true (s : ByteArray) (hs : s.size ≤ 140737488351232) (W : World) :
    Calls Try.prog 7 #[.string s] W fun e W' => e = .returned (.bool true) ∧ Below W.heap.size W W' := by
  have HW := Lib.hid (worksB W)
  by_cases hbig : 500 < s.size
  · have d : (500 : Int) < (s.size : Int) := by omega
    go_enter Try.func7, Try.ntmps7
    go_wp2_with fail
    refine HW.out.mono ?_
    rintro e w1 ⟨rfl, hu1⟩
    replace hu1 := Lib.hid hu1
    clear HW
    go_wp2_with fail
    go_ret
    exact ⟨rfl, belowOf hu1.out⟩
  · have d : ¬ (500 : Int) < (s.size : Int) := by omega
    have hsz : s.size ≤ 9223372036854775807 := by omega
    have H1 := Lib.hid (fun w => check_any _ All _ [(s, b1)] (view_one (cell_new w (.cells #[.string s, .string b1] 39 (0, 0)))) (sml_one hsz (by decide)))
    have H2 := Lib.hid (fun w => check_any _ All _ [(bA, s)] (view_one (cell_new w (.cells #[.string bA, .string s] 39 (0, 0)))) (sml_one (by decide) hsz))
    have H3 := Lib.hid (fun w => refname_any s hsz w)
    have H4 := Lib.hid (fun w => refvalue_any s hsz w)
    rw [chk_n] at H1
    rw [chk_v] at H2
    clear hbig hsz
    cases hn : nm s <;> cases hv : vl s
    · rw [hn] at H1 H3
      rw [hv] at H2 H4
      simp only [Bool.false_eq_true, if_false, if_true] at H1 H2
      replace hn := Lib.hid hn
      replace hv := Lib.hid hv
      go_enter Try.func7, Try.ntmps7
      go_wp2_with fail
      refine HW.out.mono ?_
      rintro e w1 ⟨rfl, hu1⟩
      replace hu1 := Lib.hid hu1
      clear HW
      go_wp2_with fail
      refine (H1.out w1).mono ?_
      rintro e w2 ⟨rfl, hu⟩
      have hu2 := Lib.hid ((hu1.out.trans ((Upon.refl _ w1).alloc _)).trans hu)
      clear H1 hu1 hu
      go_wp2_with fail
      refine (H2.out w2).mono ?_
      rintro e w3 ⟨rfl, hu⟩
      have hu3 := Lib.hid ((hu2.out.trans ((Upon.refl _ w2).alloc _)).trans hu)
      clear H2 hu2 hu
      go_wp2_with fail
      refine (H3.out w3).mono ?_
      rintro e w4 ⟨rfl, n4, rfl⟩
      have hu4 := Lib.hid (hu3.out.trans (upon_drewN _ w3 n4))
      clear H3 hu3
      go_wp2_with fail
      refine (H4.out _).mono ?_
      rintro e w5 ⟨rfl, n5, rfl⟩
      have hend := Lib.hid (belowOf (hu4.out.trans (upon_drewN _ _ n5)))
      clear H4 hu4
      go_wp2_with fail
      go_ret
      exact ⟨rfl, by first | exact hend.out | (have := hend.out; rw [World.drewN_drewN] at this; exact this)⟩
    · rw [hn] at H1 H3
      rw [hv] at H2 H4
      simp only [Bool.false_eq_true, if_false, if_true] at H1 H2
      replace hn := Lib.hid hn
      replace hv := Lib.hid hv
      go_enter Try.func7, Try.ntmps7
      go_wp2_with fail
      refine HW.out.mono ?_
      rintro e w1 ⟨rfl, hu1⟩
      replace hu1 := Lib.hid hu1
      clear HW
      go_wp2_with fail
      refine (H1.out w1).mono ?_
      rintro e w2 ⟨rfl, hu⟩
      have hu2 := Lib.hid ((hu1.out.trans ((Upon.refl _ w1).alloc _)).trans hu)
      clear H1 hu1 hu
      go_wp2_with fail
      refine (H2.out w2).mono ?_
      rintro e w3 ⟨rfl, hu⟩
      have hu3 := Lib.hid ((hu2.out.trans ((Upon.refl _ w2).alloc _)).trans hu)
      clear H2 hu2 hu
      go_wp2_with fail
      refine (H3.out w3).mono ?_
      rintro e w4 ⟨rfl, n4, rfl⟩
      have hu4 := Lib.hid (hu3.out.trans (upon_drewN _ w3 n4))
      clear H3 hu3
      go_wp2_with fail
      refine (H4.out _).mono ?_
      rintro e w5 ⟨rfl, n5, rfl⟩
      have hend := Lib.hid (belowOf (hu4.out.trans (upon_drewN _ _ n5)))
      clear H4 hu4
      go_wp2_with fail
      go_ret
      exact ⟨rfl, by first | exact hend.out | (have := hend.out; rw [World.drewN_drewN] at this; exact this)⟩
    · rw [hn] at H1 H3
      rw [hv] at H2 H4
      simp only [Bool.false_eq_true, if_false, if_true] at H1 H2
      replace hn := Lib.hid hn
      replace hv := Lib.hid hv
      go_enter Try.func7, Try.ntmps7
      go_wp2_with fail
      refine HW.out.mono ?_
      rintro e w1 ⟨rfl, hu1⟩
      replace hu1 := Lib.hid hu1
      clear HW
      go_wp2_with fail
      refine (H1.out w1).mono ?_
      rintro e w2 ⟨rfl, hu⟩
      have hu2 := Lib.hid ((hu1.out.trans ((Upon.refl _ w1).alloc _)).trans hu)
      clear H1 hu1 hu
      go_wp2_with fail
      refine (H2.out w2).mono ?_
      rintro e w3 ⟨rfl, hu⟩
      have hu3 := Lib.hid ((hu2.out.trans ((Upon.refl _ w2).alloc _)).trans hu)
      clear H2 hu2 hu
      go_wp2_with fail
      refine (H3.out w3).mono ?_
      rintro e w4 ⟨rfl, n4, rfl⟩
      have hu4 := Lib.hid (hu3.out.trans (upon_drewN _ w3 n4))
      clear H3 hu3
      go_wp2_with fail
      refine (H4.out _).mono ?_
      rintro e w5 ⟨rfl, n5, rfl⟩
      have hend := Lib.hid (belowOf (hu4.out.trans (upon_drewN _ _ n5)))
      clear H4 hu4
      go_wp2_with fail
      go_ret
      exact ⟨rfl, by first | exact hend.out | (have := hend.out; rw [World.drewN_drewN] at this; exact this)⟩
    · rw [hn] at H1 H3
      rw [hv] at H2 H4
      simp only [Bool.false_eq_true, if_false, if_true] at H1 H2
      replace hn := Lib.hid hn
      replace hv := Lib.hid hv
      go_enter Try.func7, Try.ntmps7
      go_wp2_with fail
      refine HW.out.mono ?_
      rintro e w1 ⟨rfl, hu1⟩
      replace hu1 := Lib.hid hu1
      clear HW
      go_wp2_with fail
      refine (H1.out w1).mono ?_
      rintro e w2 ⟨rfl, hu⟩
      have hu2 := Lib.hid ((hu1.out.trans ((Upon.refl _ w1).alloc _)).trans hu)
      clear H1 hu1 hu
      go_wp2_with fail
      refine (H2.out w2).mono ?_
      rintro e w3 ⟨rfl, hu⟩
      have hu3 := Lib.hid ((hu2.out.trans ((Upon.refl _ w2).alloc _)).trans hu)
      clear H2 hu2 hu
      go_wp2_with fail
      refine (H3.out w3).mono ?_
      rintro e w4 ⟨rfl, n4, rfl⟩
      have hu4 := Lib.hid (hu3.out.trans (upon_drewN _ w3 n4))
      clear H3 hu3
      go_wp2_with fail
      refine (H4.out _).mono ?_
      rintro e w5 ⟨rfl, n5, rfl⟩
      have hend := Lib.hid (belowOf (hu4.out.trans (upon_drewN _ _ n5)))
      clear H4 hu4
      go_wp2_with fail
      go_ret
      exact ⟨rfl, by first | exact hend.out | (have := hend.out; rw [World.drewN_drewN] at this; exact this)⟩

theorem bytes_list (l : List UInt8) : (⟨l.toArray⟩ : ByteArray).data.toList = l := rfl
theorem dec_x {l : List Pr} (h : Ok l) : dec ((⟨(encB l).toArray⟩ : ByteArray) ++ ({ data := #[120] } : ByteArray)).data.toList = ([], 6) := by
  rw [ByteArray.data_append, Array.toList_append, bytes_list, dec_enc h, if_pos]
  exact List.cons_ne_nil _ _
theorem dec_own {l : List Pr} (h : Ok l) : dec (⟨(encB l).toArray⟩ : ByteArray).data.toList = (l, 0) := by
  have := dec_enc h []
  rw [List.append_nil, if_neg (by simp)] at this
  exact this
set_option maxHeartbeats 6400000 in
theorem back_true (W : World) (v1 : Value) (s : ByteArray) (o1 : IsPrs v1 W) (hs : s.size ≤ 140737488351232) :
    Calls Try.prog 5 #[v1, .string s] W fun e W' => e = .returned (.bool true) ∧ Below W.heap.size W W' := by
  have HW := Lib.hid (worksB W)
  by_cases hbig : 5000 < s.size
  · have d : (5000 : Int) < (s.size : Int) := by omega
    clear o1
    go_enter Try.func5, Try.ntmps5
    go_wp2_with fail
    refine HW.out.mono ?_
    rintro e w1 ⟨rfl, hu1⟩
    replace hu1 := Lib.hid hu1
    clear HW
    go_wp2_with fail
    go_ret
    exact ⟨rfl, belowOf hu1.out⟩
  have d : ¬ (5000 : Int) < (s.size : Int) := by omega
  obtain ⟨l, h1, hsm, hl⟩ := o1
  have HO := Lib.hid (fun w (hu : New0 W w) => own_any w All v1 l (Rw.View.new h1 hu) hl)
  have HE := Lib.hid (fun w S u (hv : View w S u l) => encode_any w S u l hv hsm)
  have HS := Lib.hid (fun w S u (hu : New0 W w) (hv : View w S u l) => by have := same_any w S All u v1 l l hv (Rw.View.new h1 hu); rw [decide_eq_true rfl] at this; exact this)
  have HD := Lib.hid (fun w => decode_any w s (by omega))
  obtain ⟨⟨x, f⟩, hx⟩ : ∃ x, dec s.data.toList = x := ⟨_, rfl⟩
  rw [hx] at HD
  simp only at HD
  clear h1 hl hbig
  replace hsm := Lib.hid hsm
  by_cases hok : Ok l
  · have HT := Lib.hid (fun w => decode_any w (⟨(encB l).toArray⟩ : ByteArray) (by have := (So.size (l := l) (j := l.length) (s := ⟨(encB l).toArray⟩) (by simp [So, encB]) hok); omega))
    rw [dec_own hok] at HT
    simp only at HT
    have hz : Hid ((⟨(encB l).toArray⟩ : ByteArray).size ≤ 1000) := Lib.hid (So.size (l := l) (j := l.length) (s := ⟨(encB l).toArray⟩) (by simp [So, encB]) hok)
    have HX := Lib.hid (fun w => decode_any w ((⟨(encB l).toArray⟩ : ByteArray) ++ ({ data := #[120] } : ByteArray)) (by rw [ByteArray.size_append]; have := hz.out; have : ({ data := #[120] } : ByteArray).size = 1 := rfl; omega))
    rw [dec_x hok] at HX
    simp only at HX
    have hadd := fun W => run_string_add_sum (P := Try.prog) W (⟨(encB l).toArray⟩ : ByteArray) { data := #[120] } (by have := hz.out; have : ({ data := #[120] } : ByteArray).size = 1 := rfl; omega)
    rw [encR_ok hok] at HE
    obtain ⟨t, ht⟩ : ∃ t : ByteArray, (⟨(encB l).toArray⟩ : ByteArray) = t := ⟨_, rfl⟩
    rw [ht] at HT HX hadd HE
    replace hok := Lib.hid hok
    clear hz ht
    by_cases hf : f = 0
    · subst hf
      obtain ⟨hx1, hx2⟩ := dec_back hx
      have hE2 : Hid (∀ w S v, View w S v x → Calls Try.prog 10 #[v] w fun e w' => e = .returned (.tuple #[.string s, .int .i64 0]) ∧ New0 w w') := Lib.hid fun w S v hv => by
        have := encode_any w S v x hv (fun p hp => by have := hx1.good.small p hp; omega)
        rw [encR_ok hx1, hx2] at this
        exact this
      replace hx := Lib.hid hx
      clear hx1 hx2
      go_enter Try.func5, Try.ntmps5
      go_wp2_with fail
      refine HW.out.mono ?_
      rintro e w1 ⟨rfl, hu1⟩
      replace hu1 := Lib.hid hu1
      clear HW
      go_wp2_with fail
      refine (HO.out _ hu1.out).mono ?_
      rintro e w2 ⟨u, rfl, hm, -, hu⟩
      replace hm := Lib.hid hm
      have hu2 := Lib.hid (hu1.out.trans hu)
      clear HO hu1 hu
      go_wp2_with fail
      refine (HE.out _ _ _ hm.out.view).mono ?_
      rintro e w3 ⟨rfl, hu⟩
      have hu3 := Lib.hid (hu2.out.trans hu)
      clear HE hu2 hu hm
      go_wp2_with fail
      refine (HT.out _).mono ?_
      rintro e w4 ⟨y, rfl, hy, hu⟩
      have hu4 := Lib.hid (hu3.out.trans hu)
      replace hy := Lib.hid hy
      clear HT hu3 hu
      go_wp2_with fail
      refine (HX.out _).mono ?_
      rintro e w5 ⟨y2, rfl, -, hu⟩
      have hu5 := Lib.hid (hu4.out.trans hu)
      replace hy := Lib.hid (Rw.View.new hy.out hu)
      clear HX hu4 hu hadd
      go_wp2_with fail
      refine (HS.out _ _ _ hu5.out hy.out).mono ?_
      rintro e w6 ⟨rfl, n6, rfl⟩
      have hu3 := Lib.hid (hu5.out.trans (upon_drewN _ w5 n6))
      clear HS hu5 hy
      go_wp2_with fail
      refine (HD.out _).mono ?_
      rintro e w7 ⟨y3, rfl, hy3, hu⟩
      have hu7 := Lib.hid (hu3.out.trans hu)
      have HG := Lib.hid (hE2.out _ _ _ hy3)
      clear HD hu3 hu hy3 hE2
      go_wp2_with fail
      refine HG.out.mono ?_
      rintro e w8 ⟨rfl, hu⟩
      have hend := Lib.hid (belowOf (hu7.out.trans hu))
      clear HG hu7 hu
      go_wp2_with fail
      go_ret
      exact ⟨ret_b (by simp), hend.out⟩
    · have d2 : ((f : Int) != 0) = true := by rw [bne_iff_ne]; omega
      obtain rfl := dec_none hx hf
      replace hx := Lib.hid hx
      go_enter Try.func5, Try.ntmps5
      go_wp2_with fail
      refine HW.out.mono ?_
      rintro e w1 ⟨rfl, hu1⟩
      replace hu1 := Lib.hid hu1
      clear HW
      go_wp2_with fail
      refine (HO.out _ hu1.out).mono ?_
      rintro e w2 ⟨u, rfl, hm, -, hu⟩
      replace hm := Lib.hid hm
      have hu2 := Lib.hid (hu1.out.trans hu)
      clear HO hu1 hu
      go_wp2_with fail
      refine (HE.out _ _ _ hm.out.view).mono ?_
      rintro e w3 ⟨rfl, hu⟩
      have hu3 := Lib.hid (hu2.out.trans hu)
      clear HE hu2 hu hm
      go_wp2_with fail
      refine (HT.out _).mono ?_
      rintro e w4 ⟨y, rfl, hy, hu⟩
      have hu4 := Lib.hid (hu3.out.trans hu)
      replace hy := Lib.hid hy
      clear HT hu3 hu
      go_wp2_with fail
      refine (HX.out _).mono ?_
      rintro e w5 ⟨y2, rfl, -, hu⟩
      have hu5 := Lib.hid (hu4.out.trans hu)
      replace hy := Lib.hid (Rw.View.new hy.out hu)
      clear HX hu4 hu hadd
      go_wp2_with fail
      refine (HS.out _ _ _ hu5.out hy.out).mono ?_
      rintro e w6 ⟨rfl, n6, rfl⟩
      have hu3 := Lib.hid (hu5.out.trans (upon_drewN _ w5 n6))
      clear HS hu5 hy
      go_wp2_with fail
      refine (HD.out _).mono ?_
      rintro e w7 ⟨y3, rfl, hy3, hu⟩
      have hend := Lib.hid (belowOf (hu3.out.trans hu))
      obtain ⟨A3, c3, rfl, -, -⟩ := Rw.View.shape hy3
      clear HD hu3 hu hy3
      go_wp2_with fail
      go_ret
      exact ⟨rfl, hend.out⟩
  · rw [encR_no hok] at HE
    clear hok
    by_cases hf : f = 0
    · subst hf
      obtain ⟨hx1, hx2⟩ := dec_back hx
      have hE2 : Hid (∀ w S v, View w S v x → Calls Try.prog 10 #[v] w fun e w' => e = .returned (.tuple #[.string s, .int .i64 0]) ∧ New0 w w') := Lib.hid fun w S v hv => by
        have := encode_any w S v x hv (fun p hp => by have := hx1.good.small p hp; omega)
        rw [encR_ok hx1, hx2] at this
        exact this
      replace hx := Lib.hid hx
      clear hx1 hx2
      go_enter Try.func5, Try.ntmps5
      go_wp2_with fail
      refine HW.out.mono ?_
      rintro e w1 ⟨rfl, hu1⟩
      replace hu1 := Lib.hid hu1
      clear HW
      go_wp2_with fail
      refine (HO.out _ hu1.out).mono ?_
      rintro e w2 ⟨u, rfl, hm, -, hu⟩
      replace hm := Lib.hid hm
      have hu2 := Lib.hid (hu1.out.trans hu)
      clear HO hu1 hu
      go_wp2_with fail
      refine (HE.out _ _ _ hm.out.view).mono ?_
      rintro e w3 ⟨rfl, hu⟩
      have hu3 := Lib.hid (hu2.out.trans hu)
      clear HE hu2 hu hm
      clear HS
      go_wp2_with fail
      refine (HD.out _).mono ?_
      rintro e w7 ⟨y3, rfl, hy3, hu⟩
      have hu7 := Lib.hid (hu3.out.trans hu)
      have HG := Lib.hid (hE2.out _ _ _ hy3)
      clear HD hu3 hu hy3 hE2
      go_wp2_with fail
      refine HG.out.mono ?_
      rintro e w8 ⟨rfl, hu⟩
      have hend := Lib.hid (belowOf (hu7.out.trans hu))
      clear HG hu7 hu
      go_wp2_with fail
      go_ret
      exact ⟨ret_b (by simp), hend.out⟩
    · have d2 : ((f : Int) != 0) = true := by rw [bne_iff_ne]; omega
      obtain rfl := dec_none hx hf
      replace hx := Lib.hid hx
      go_enter Try.func5, Try.ntmps5
      go_wp2_with fail
      refine HW.out.mono ?_
      rintro e w1 ⟨rfl, hu1⟩
      replace hu1 := Lib.hid hu1
      clear HW
      go_wp2_with fail
      refine (HO.out _ hu1.out).mono ?_
      rintro e w2 ⟨u, rfl, hm, -, hu⟩
      replace hm := Lib.hid hm
      have hu2 := Lib.hid (hu1.out.trans hu)
      clear HO hu1 hu
      go_wp2_with fail
      refine (HE.out _ _ _ hm.out.view).mono ?_
      rintro e w3 ⟨rfl, hu⟩
      have hu3 := Lib.hid (hu2.out.trans hu)
      clear HE hu2 hu hm
      clear HS
      go_wp2_with fail
      refine (HD.out _).mono ?_
      rintro e w7 ⟨y3, rfl, hy3, hu⟩
      have hend := Lib.hid (belowOf (hu3.out.trans hu))
      obtain ⟨A3, c3, rfl, -, -⟩ := Rw.View.shape hy3
      clear HD hu3 hu hy3
      go_wp2_with fail
      go_ret
      exact ⟨rfl, hend.out⟩
end Lb
end Go.Proofs.Ytoamgmbpainpjaa
