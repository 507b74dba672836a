/- Layer 10: the law LabelGets, of any labels, name and value. -/
import Derived.Test.YtoamgmbpainpjaaLbLaw4
set_option maxRecDepth 100000
namespace Go.Proofs.Ytoamgmbpainpjaa
open Go.RowKit Go.Sort
namespace Lb
open Bit Dsk Ob Dig
set_option linter.unusedVariables false

set_option maxHeartbeats 1600000 in
theorem gets_true (W : World) (v1 : Value) (n v : ByteArray) (o1 : IsPrs v1 W) (hn : n.size ≤ 140737488351232) (hv : v.size ≤ 140737488351232) :
    Calls Try.prog 8 #[v1, .string n, .string v] W fun e W' => e = .returned (.bool true) ∧ Below W.heap.size W W' := by
  obtain ⟨l, h1, hsm, hlen⟩ := o1
  have HW := Lib.hid (worksB W)
  have HO := Lib.hid (fun w (hu : New0 W w) => own_any w All v1 l (Rw.View.new h1 hu) hlen)
  by_cases hok : Ok l
  · cases hnm : nm n with
    | true =>
      cases hvl : vl v with
      | true => exact gets_ok W v1 n v l h1 hok hnm hvl
      | false =>
        have HC := Lib.hid (fun w S u (hv : View w S u l) => by have := check_any w S u l hv hsm; rw [chk_ok hok] at this; exact this)
        have HN := Lib.hid (fun w => by have := refname_any n (by omega) w; rw [hnm] at this; exact this)
        have HV := Lib.hid (fun w => by have := refvalue_any v (by omega) w; rw [hvl] at this; exact this)
        clear hsm hlen hok hnm hvl h1
        go_enter Try.func8, Try.ntmps8
        go_wp2_with fail
        refine HW.out.mono ?_
        rintro e w1 ⟨rfl, hu1⟩
        replace hu1 := Lib.hid hu1
        clear HW
        go_wp2_with fail
        refine (HO.out _ hu1.out).mono ?_
        rintro e w2 ⟨u, rfl, hm, -, hu⟩
        have hu2 := Lib.hid (hu1.out.trans hu)
        replace hm := Lib.hid hm
        clear HO hu hu1
        go_wp2_with fail
        refine (HC.out _ _ _ hm.out.view).mono ?_
        rintro e w3 ⟨rfl, hu⟩
        have hu3 := Lib.hid (hu2.out.trans hu)
        clear HC hm hu hu2
        go_wp2_with fail
        refine (HN.out _).mono ?_
        rintro e w4 ⟨rfl, n4, rfl⟩
        have hu4 := Lib.hid (hu3.out.trans (upon_drewN _ w3 n4))
        clear HN hu3
        go_wp2_with fail
        refine (HV.out _).mono ?_
        rintro e w5 ⟨rfl, n5, rfl⟩
        have hu5 := Lib.hid (belowOf (hu4.out.trans (upon_drewN _ _ n5)))
        clear HV hu4
        go_wp2_with fail
        go_ret
        exact ⟨rfl, by first | exact hu5.out | (have := hu5.out; rw [World.drewN_drewN] at this; exact this)⟩
    | false =>
      have HC := Lib.hid (fun w S u (hv : View w S u l) => by have := check_any w S u l hv hsm; rw [chk_ok hok] at this; exact this)
      have HN := Lib.hid (fun w => by have := refname_any n (by omega) w; rw [hnm] at this; exact this)
      clear hsm hlen hok hnm h1
      go_enter Try.func8, Try.ntmps8
      go_wp2_with fail
      refine HW.out.mono ?_
      rintro e w1 ⟨rfl, hu1⟩
      replace hu1 := Lib.hid hu1
      clear HW
      go_wp2_with fail
      refine (HO.out _ hu1.out).mono ?_
      rintro e w2 ⟨u, rfl, hm, -, hu⟩
      have hu2 := Lib.hid (hu1.out.trans hu)
      replace hm := Lib.hid hm
      clear HO hu hu1
      go_wp2_with fail
      refine (HC.out _ _ _ hm.out.view).mono ?_
      rintro e w3 ⟨rfl, hu⟩
      have hu3 := Lib.hid (hu2.out.trans hu)
      clear HC hm hu hu2
      go_wp2_with fail
      refine (HN.out _).mono ?_
      rintro e w4 ⟨rfl, n4, rfl⟩
      have hu4 := Lib.hid (belowOf (hu3.out.trans (upon_drewN _ w3 n4)))
      clear HN hu3
      go_wp2_with fail
      go_ret
      exact ⟨rfl, hu4.out⟩
  · have HC := Lib.hid (fun w S u (hv : View w S u l) => by have := check_any w S u l hv hsm; rw [chk_no hok] at this; exact this)
    clear hsm hlen hok h1
    go_enter Try.func8, Try.ntmps8
    go_wp2_with fail
    refine HW.out.mono ?_
    rintro e w1 ⟨rfl, hu1⟩
    replace hu1 := Lib.hid hu1
    clear HW
    go_wp2_with fail
    refine (HO.out _ hu1.out).mono ?_
    rintro e w2 ⟨u, rfl, hm, -, hu⟩
    have hu2 := Lib.hid (hu1.out.trans hu)
    replace hm := Lib.hid hm
    clear HO hu hu1
    go_wp2_with fail
    refine (HC.out _ _ _ hm.out.view).mono ?_
    rintro e w3 ⟨rfl, hu⟩
    have hu3 := Lib.hid (belowOf (hu2.out.trans hu))
    clear HC hm hu hu2
    go_wp2_with fail
    go_ret
    exact ⟨rfl, hu3.out⟩
end Lb
end Go.Proofs.Ytoamgmbpainpjaa
