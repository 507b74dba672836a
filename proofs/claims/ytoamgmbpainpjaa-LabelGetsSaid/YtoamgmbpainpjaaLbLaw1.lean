/- Layer 10: Own; the laws LabelChecks, LabelReads. -/
import Derived.Test.YtoamgmbpainpjaaLbProg
set_option maxRecDepth 100000
namespace Go.Proofs.Ytoamgmbpainpjaa
open Go.RowKit Go.Sort
namespace Lb
open Bit Dsk Ob Dig
set_option linter.unusedVariables false

set_option maxHeartbeats 1600000 in
theorem own_any (w : World) (S : Nat → Prop) (v : Value) (l : List Pr) (hv : View w S v l) (hlen : l.length * 32 ≤ 140737488355328) :
    Calls Try.prog 9 #[v] w fun e w' => ∃ u, e = .returned u ∧ Mine w' u l ∧ (∀ g, u.ownBlock = some g → w.heap.size ≤ g) ∧ New0 w w' := by
  obtain ⟨A, c, rfl, -, -⟩ := Rw.View.shape hv
  replace hv := Lib.hid (hv.new ((Upon.refl _ w).alloc (.cells #[] 39 (0, 0))))
  go_enter Try.func9, Try.ntmps9
  go_wp2_with (at_builtin; refine Rw.wpList_append typPr rfl _ _ rfl _ _ [] l S rfl rfl (Rw.Mine.empty layPr (cell_new w _)) hv.out (by rw [List.length_nil]; omega) (by rw [List.length_nil]; omega) ?_)
  intro v' w2 hown hg hb
  have hu2 : New0 w w2 := Upon.grown ((Upon.refl (fun _ => False) w).alloc _) hg (fun k hk => .inr (by
    have hk' : w.heap.size = k := by simpa [Value.ownBlock] using hk
    omega))
  have hmine : ∀ g, v'.ownBlock = some g → w.heap.size ≤ g := fun g hk => by
    rw [hk] at hb
    rcases hb with hb | hb
    · have : g = w.heap.size := by simpa [Value.ownBlock] using hb
      omega
    · have : g = w.heap.size + 1 := by simpa using hb
      omega
  replace hown := Lib.hid hown
  replace hu2 := Lib.hid hu2
  replace hmine := Lib.hid hmine
  clear hg hb hv
  go_wp2_with fail
  go_ret
  exact ⟨v', rfl, hown.out, hmine.out, hu2.out⟩
theorem encR_form (l : List Pr) : ∃ (s : ByteArray) (e : Int), encR l = .returned (.tuple #[.string s, .int .i64 e]) := by
  by_cases h : Ok l
  · exact ⟨_, _, encR_ok h⟩
  · exact ⟨_, _, encR_no h⟩
set_option maxHeartbeats 1600000 in
theorem checks_true (W : World) (v1 v2 : Value) (n : ByteArray) (o1 : IsPrs v1 W) (o2 : IsPrs v2 W) (hn : n.size ≤ 140737488351232) :
    Calls Try.prog 3 #[v1, v2, .string n] W fun e W' => e = .returned (.bool true) ∧ Below W.heap.size W W' := by
  obtain ⟨a, h1, hs1, hl1⟩ := o1
  obtain ⟨b, h2, hs2, hl2⟩ := o2
  obtain ⟨es, ee, hE⟩ := encR_form a
  have HO := Lib.hid (own_any W All v1 a h1 hl1)
  have HO2 := Lib.hid (fun w (hu : New0 W w) => own_any w All v2 b (Rw.View.new h2 hu) hl2)
  have HE := Lib.hid (fun w S u (hv : View w S u a) => by have := encode_any w S u a hv hs1; rw [hE] at this; exact this)
  have HF := Lib.hid (fun w (hu : New0 W w) => by have := refenc_any w All v1 a (Rw.View.new h1 hu) hs1; rw [hE] at this; exact this)
  obtain ⟨q, hq⟩ : ∃ q : Int, (chk a : Int) = q := ⟨_, rfl⟩
  have HC := Lib.hid (fun w S u (hv : View w S u a) => by have := check_any w S u a hv hs1; rw [hq] at this; exact this)
  have HD := Lib.hid (fun w (hu : New0 W w) => by have := refcheck_any w All v1 a (Rw.View.new h1 hu) hs1; rw [hq] at this; exact this)
  obtain ⟨z, hz⟩ : ∃ z : Int, cmp a b = z := ⟨_, rfl⟩
  have HP := Lib.hid (fun w S S' u u' (hv : View w S u a) (hv' : View w S' u' b) => by have := compare_any w S S' u u' a b hv hv'; rw [hz] at this; exact this)
  have HQ := Lib.hid (fun w (hu : New0 W w) => by have := refcmp_any w All All v1 v2 a b (Rw.View.new h1 hu) (Rw.View.new h2 hu); rw [hz] at this; exact this)
  obtain ⟨g, hg⟩ : ∃ g : ByteArray, get a n = g := ⟨_, rfl⟩
  have HG := Lib.hid (fun w S u (hv : View w S u a) => by have := get_any w S u a hv n; rw [hg] at this; exact this)
  have HH := Lib.hid (fun w (hu : New0 W w) => by have := refget_any' w All v1 a (Rw.View.new h1 hu) n; rw [hg] at this; exact this)
  have HS := Lib.hid (fun w S u (hu : New0 W w) (hv : View w S u a) => by have := same_any w S All u v1 a a hv (Rw.View.new h1 hu); rw [decide_eq_true rfl] at this; exact this)
  clear h1 h2 hs1 hs2 hl1 hl2 hE hq hz hg hn
  go_enter Try.func3, Try.ntmps3
  go_wp2_with fail
  refine HO.out.mono ?_
  rintro e w1 ⟨u, rfl, hm1, hf1, hu1⟩
  replace hm1 := Lib.hid hm1
  replace hu1 := Lib.hid hu1
  clear HO hf1
  go_wp2_with fail
  refine (HE.out _ _ _ hm1.out.view).mono ?_
  rintro e w2 ⟨rfl, hu⟩
  have hm2 := Lib.hid (hm1.out.new hu)
  have hu2 := Lib.hid (hu1.out.trans hu)
  clear HE hm1 hu1 hu
  go_wp2_with fail
  refine (HF.out _ hu2.out).mono ?_
  rintro e w3 ⟨rfl, hu⟩
  have hm3 := Lib.hid (hm2.out.new hu)
  have hu3 := Lib.hid (hu2.out.trans hu)
  clear HF hm2 hu2 hu
  go_wp2_with fail
  refine (HC.out _ _ _ hm3.out.view).mono ?_
  rintro e w4 ⟨rfl, hu⟩
  have hm4 := Lib.hid (hm3.out.new hu)
  have hu4 := Lib.hid (hu3.out.trans hu)
  clear HC hm3 hu3 hu
  go_wp2_with fail
  refine (HD.out _ hu4.out).mono ?_
  rintro e w5 ⟨rfl, n5, rfl⟩
  have hm5 := Lib.hid (hm4.out.new (upon_drewN _ w4 n5))
  have hu5 := Lib.hid (hu4.out.trans (upon_drewN _ w4 n5))
  clear HD hm4 hu4
  go_wp2_with fail
  refine (HO2.out _ hu5.out).mono ?_
  rintro e w6 ⟨u2, rfl, hk6, -, hu⟩
  have hm6 := Lib.hid (hm5.out.new hu)
  have hu6 := Lib.hid (hu5.out.trans hu)
  replace hk6 := Lib.hid hk6
  clear HO2 hm5 hu5 hu
  go_wp2_with fail
  refine (HP.out _ _ _ _ _ hm6.out.view hk6.out.view).mono ?_
  rintro e w7 ⟨rfl, hu⟩
  have hm7 := Lib.hid (hm6.out.new hu)
  have hu7 := Lib.hid (hu6.out.trans hu)
  clear HP hm6 hu6 hu hk6
  go_wp2_with fail
  refine (HQ.out _ hu7.out).mono ?_
  rintro e w8 ⟨rfl, n8, rfl⟩
  have hm8 := Lib.hid (hm7.out.new (upon_drewN _ w7 n8))
  have hu8 := Lib.hid (hu7.out.trans (upon_drewN _ w7 n8))
  clear HQ hm7 hu7
  go_wp2_with fail
  refine (HG.out _ _ _ hm8.out.view).mono ?_
  rintro e w9 ⟨rfl, hu⟩
  have hm9 := Lib.hid (hm8.out.new hu)
  have hu9 := Lib.hid (hu8.out.trans hu)
  clear HG hm8 hu8 hu
  go_wp2_with fail
  refine (HH.out _ hu9.out).mono ?_
  rintro e w10 ⟨rfl, n10, rfl⟩
  have hm10 := Lib.hid (hm9.out.new (upon_drewN _ w9 n10))
  have hu10 := Lib.hid (hu9.out.trans (upon_drewN _ w9 n10))
  clear HH hm9 hu9
  go_wp2_with fail
  refine (HS.out _ _ _ hu10.out hm10.out.view).mono ?_
  rintro e w11 ⟨rfl, n11, rfl⟩
  have hend := Lib.hid (belowOf (hu10.out.trans (upon_drewN _ _ n11)))
  clear HS hm10 hu10
  go_wp2_with fail
  go_ret
  exact ⟨rfl, by first | exact hend.out | (have := hend.out; rw [World.drewN_drewN] at this; exact this)⟩
set_option maxHeartbeats 1600000 in
theorem reads_true (s : ByteArray) (hs : s.size ≤ 140737488351232) (W : World) :
    Calls Try.prog 4 #[.string s] W fun e W' => e = .returned (.bool true) ∧ Below W.heap.size W W' := by
  by_cases hbig : 5000 < s.size
  · have d : (5000 : Int) < (s.size : Int) := by omega
    go_enter Try.func4, Try.ntmps4
    go_wp2_with fail
    go_ret
    exact ⟨rfl, Below.refl _ _⟩
  · have d : ¬ (5000 : Int) < (s.size : Int) := by omega
    have HD := Lib.hid (fun w => decode_any w s (by omega))
    have HR := Lib.hid (fun w => refdec_any w s (by omega))
    obtain ⟨l, hl⟩ : ∃ l, (dec s.data.toList).1 = l := ⟨_, rfl⟩
    obtain ⟨x, hx⟩ : ∃ x : Int, ((dec s.data.toList).2 : Int) = x := ⟨_, rfl⟩
    rw [hl, hx] at HD HR
    clear hl hx hbig
    go_enter Try.func4, Try.ntmps4
    go_wp2_with fail
    refine (HD.out _).mono ?_
    rintro e w1 ⟨v, rfl, hv, hu1⟩
    replace hv := Lib.hid hv
    replace hu1 := Lib.hid hu1
    clear HD
    go_wp2_with fail
    refine (HR.out _).mono ?_
    rintro e w2 ⟨v2, rfl, hv2, hu⟩
    have HS := Lib.hid (same_any w2 _ _ v v2 l l (Rw.View.new hv.out hu) hv2)
    have hu2 := Lib.hid (hu1.out.trans hu)
    clear HR hv hv2 hu1 hu
    go_wp2_with fail
    refine HS.out.mono ?_
    rintro e w3 ⟨rfl, n3, rfl⟩
    have hend := Lib.hid (belowOf (hu2.out.trans (upon_drewN _ w2 n3)))
    clear HS hu2
    go_wp2_with fail
    go_ret
    exact ⟨ret_b (by simp), hend.out⟩
end Lb
end Go.Proofs.Ytoamgmbpainpjaa
