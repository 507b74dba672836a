/- The document's own blocks (layer 15): Same, of two that read the same. -/
import Derived.Test.YtlgjbcmloochiaaGreatDoorZaBkRow
import Derived.Test.YtlgjbcmloochiaaGreatDoorZaPRc4
set_option maxRecDepth 100000
namespace Go.Proofs.YtlgjbcmloochiaaGreatDoor
open Go.RowKit Go.Sort
namespace Bk
open Bit Dsk Ob Dig
set_option linter.unusedVariables false

set_option maxHeartbeats 6400000 in
theorem same_any (w : World) (S S' : Nat → Prop) (v1 v2 : Value) (b : B) (h1 : BView w S v1 b) (h2 : BView w S' v2 b) (hfew : b.rows.length ≤ 3000000000000) (hfew2 : b.dels.length ≤ 1000000000) (hsmp : ∀ r ∈ b.dels, r.smp.length ≤ 1000000000) :
    Calls Tryz.prog 14 #[v1, v2] w fun e w' => e = .returned (.bool true) ∧ New0 w w' := by
  obtain ⟨A, c, A', c', rfl, hs, hm⟩ := BView.shape h1
  obtain ⟨C, d, C', d', rfl, ht, hn⟩ := BView.shape h2
  obtain ⟨f, t, l, ds⟩ := b
  simp only at hs hm ht hn hfew hfew2 hsmp ⊢
  obtain ⟨wx, hwx⟩ : ∃ wx, w.alloc (.cells #[.int .i64 f, .int .i64 t, .slice A l.length c, .slice A' ds.length c'] 25 (0, 0)) = wx := ⟨_, rfl⟩
  obtain ⟨wb, hwb⟩ : ∃ wb, wx.alloc (.cells #[.int .i64 f, .int .i64 t, .slice C l.length d, .slice C' ds.length d'] 25 (0, 0)) = wb := ⟨_, rfl⟩
  have hX := box4 w f t (.slice A l.length c) (.slice A' ds.length c') 25
  have hY := box4 wx f t (.slice C l.length d) (.slice C' ds.length d') 25
  have ux := (Upon.refl (fun _ => False) w).alloc (.cells #[.int .i64 f, .int .i64 t, .slice A l.length c, .slice A' ds.length c'] 25 (0, 0))
  have uy := (Upon.refl (fun _ => False) wx).alloc (.cells #[.int .i64 f, .int .i64 t, .slice C l.length d, .slice C' ds.length d'] 25 (0, 0))
  have sx : wx.heap.size = w.heap.size + 1 := by rw [← hwx]; simp
  rw [hwx] at hX ux
  rw [hwb, sx] at hY
  rw [hwb] at uy
  have hU := Lib.hid (ux.trans uy)
  have hB := Lib.hid (fun w' (hu : New0 wb w') => And.intro ((hX.new uy).new hu) (hY.new hu))
  have hw : Hid ((w.alloc (.cells #[.int .i64 f, .int .i64 t, .slice A l.length c, .slice A' ds.length c'] 25 (0, 0))).alloc (.cells #[.int .i64 f, .int .i64 t, .slice C l.length d, .slice C' ds.length d'] 25 (0, 0)) = wb) := Lib.hid (by rw [hwx, hwb])
  have HL := Lib.hid (fun w1 (hu : New0 w w1) T T' u u' x (hx : Lb.View w T u x) (hy : Lb.View w T' u' x) => by have := Lb.same_any w1 T T' u u' x x (Rw.View.new hx hu) (Rw.View.new hy hu); rw [decide_eq_true rfl] at this; exact this)
  have HP := Lib.hid (fun w1 (hu : New0 w w1) T T' u u' x (hx : Rw.View Hd.layP w T u x) (hy : Rw.View Hd.layP w T' u' x) => by have := Hd.psame_any w1 T T' u u' x x (Rw.View.new hx hu) (Rw.View.new hy hu); rw [decide_eq_true rfl] at this; exact this)
  have HR := Lib.hid (fun w1 (hu : New0 w w1) T T' u u' r (hx : Rc.RView w T u r) (hy : Rc.RView w T' u' r) (hf : r.smp.length ≤ 1000000000) => Rc.same_any w1 T T' u u' r (Rc.RView.new hx hu) (Rc.RView.new hy hu) (by omega))
  have hcx := Lib.hid (fun h => BsView.cells hs h)
  have hcy := Lib.hid (fun h => BsView.cells ht h)
  have hdx := Lib.hid (fun (i : Nat) (hi : i < ds.length) => Hd.RsView.at hm hi)
  have hdy := Lib.hid (fun (i : Nat) (hi : i < ds.length) => Hd.RsView.at hn hi)
  replace hsmp := Lib.hid hsmp
  clear h1 h2 hm hn hs ht ux uy sx hX hY hwx hwb
  go_enter Tryz.func14, Tryz.ntmps14
  go_wp2_with fail
  rw [hw.out]
  clear hw
  go_loopw [5] (fun ov wr => ∃ j : Nat, ov = .int .i64 (j : Int) ∧ j ≤ l.length ∧ Hid (New0 wb wr)) (fun ov _ => l.length - (intOf ov).toNat)
  case atStart => exact ⟨0, rfl, Nat.zero_le _, Lib.hid (Upon.refl _ _)⟩
  case round =>
    obtain ⟨j, rfl, hj, hu⟩ := hrel
    by_cases hlt : j < l.length
    · obtain ⟨⟨-, -, k2, -⟩, ⟨-, -, p2, -⟩⟩ := hB.out _ hu.out
      obtain ⟨gx, ox, rfl, -, hcx1⟩ := hcx.out (by omega)
      obtain ⟨gy, oy, rfl, -, hcy1⟩ := hcy.out (by omega)
      obtain ⟨A1, c1, A2, c2, x0, x1, x2, hvx, hqx⟩ := hcx1 j hlt
      obtain ⟨C1, d1, C2, d2, y0, y1, y2, hvy, hqy⟩ := hcy1 j hlt
      replace x0 := Lb.New0.cells (hU.out.trans hu.out) x0
      replace x1 := Lb.New0.cells (hU.out.trans hu.out) x1
      replace x2 := Lb.New0.cells (hU.out.trans hu.out) x2
      replace y0 := Lb.New0.cells (hU.out.trans hu.out) y0
      replace y1 := Lb.New0.cells (hU.out.trans hu.out) y1
      replace y2 := Lb.New0.cells (hU.out.trans hu.out) y2
      have HL1 := Lib.hid (fun w1 (hu : New0 w w1) => HL.out w1 hu _ _ _ _ _ hvx hvy)
      have HP1 := Lib.hid (fun w1 (hu : New0 w w1) => HP.out w1 hu _ _ _ _ _ hqx hqy)
      obtain ⟨r, hr⟩ : ∃ r, l[j] = r := ⟨_, rfl⟩
      rw [hr] at x0 x1 x2 y0 y1 y2 HL1 HP1
      clear hcx1 hcy1 hvx hvy hqx hqy hr hdx hdy HL HP HR
      have k2_1 := fun o => Lb.New0.cells ((Upon.refl (fun _ => False) wr).alloc o) k2
      have k2_2 := fun o o' => Lb.New0.cells (((Upon.refl (fun _ => False) wr).alloc o).alloc o') k2
      have p2_1 := fun o => Lb.New0.cells ((Upon.refl (fun _ => False) wr).alloc o) p2
      have p2_2 := fun o o' => Lb.New0.cells (((Upon.refl (fun _ => False) wr).alloc o).alloc o') p2
      have x0_1 := fun o => Lb.New0.cells ((Upon.refl (fun _ => False) wr).alloc o) x0
      have x0_2 := fun o o' => Lb.New0.cells (((Upon.refl (fun _ => False) wr).alloc o).alloc o') x0
      have x1_1 := fun o => Lb.New0.cells ((Upon.refl (fun _ => False) wr).alloc o) x1
      have x1_2 := fun o o' => Lb.New0.cells (((Upon.refl (fun _ => False) wr).alloc o).alloc o') x1
      have x2_1 := fun o => Lb.New0.cells ((Upon.refl (fun _ => False) wr).alloc o) x2
      have x2_2 := fun o o' => Lb.New0.cells (((Upon.refl (fun _ => False) wr).alloc o).alloc o') x2
      have y0_1 := fun o => Lb.New0.cells ((Upon.refl (fun _ => False) wr).alloc o) y0
      have y0_2 := fun o o' => Lb.New0.cells (((Upon.refl (fun _ => False) wr).alloc o).alloc o') y0
      have y1_1 := fun o => Lb.New0.cells ((Upon.refl (fun _ => False) wr).alloc o) y1
      have y1_2 := fun o o' => Lb.New0.cells (((Upon.refl (fun _ => False) wr).alloc o).alloc o') y1
      have y2_1 := fun o => Lb.New0.cells ((Upon.refl (fun _ => False) wr).alloc o) y2
      have y2_2 := fun o o' => Lb.New0.cells (((Upon.refl (fun _ => False) wr).alloc o).alloc o') y2
      go_wp2_with fail
      go_region
      all_goals
        clear k2 k2_1 k2_2 p2 p2_1 p2_2 x0 x0_1 x0_2 x1 x1_1 x1_2 x2 x2_1 x2_2 y0 y0_1 y0_2 y1 y1_1 y1_2 y2 y2_1 y2_2
        go_wp2_with fail
        refine (HL1.out _ (hU.out.trans (hu.out.trans (by repeat (first | exact Upon.refl _ _ | refine Upon.drew ?_ | refine Upon.alloc ?_ _))))).mono ?_
        rintro e w5 ⟨rfl, n5, rfl⟩
        clear HL1
        go_wp2_with fail
        refine (HP1.out _ (hU.out.trans (hu.out.trans ((((Upon.refl _ wr).alloc _).alloc _).trans (upon_drewN _ _ _))))).mono ?_
        rintro e w6 ⟨rfl, n6, rfl⟩
        clear HP1
        go_wp2_with fail
        go_roundw
        case rel => exact ⟨j + 1, by go_num, hlt, Lib.hid (hu.out.trans ((((Upon.refl _ wr).alloc _).alloc _).trans (upon_drewN _ _ _)))⟩
        case measure => simp [intOf]; omega
    · obtain ⟨⟨-, -, k2, k3⟩, ⟨-, -, p2, p3⟩⟩ := hB.out _ hu.out
      clear HL HP hcx hcy
      go_wp2_with fail
      clear k2 k3 p2 p3
      go_loopw [8] (fun ov wr => ∃ i : Nat, ov = .int .i64 (i : Int) ∧ i ≤ ds.length ∧ Hid (New0 wb wr)) (fun ov _ => ds.length - (intOf ov).toNat)
      case atStart => exact ⟨0, rfl, Nat.zero_le _, hu⟩
      case round =>
        obtain ⟨i, rfl, hi, hu3⟩ := hrel
        obtain ⟨⟨-, -, -, k3⟩, ⟨-, -, -, p3⟩⟩ := hB.out _ hu3.out
        by_cases hil : i < ds.length
        · obtain ⟨db, doff, B1, e1, B2, e2, rfl, -, x0, x1, x2, x3, x4, hvx, -⟩ := hdx.out i hil
          obtain ⟨db', doff', D1, f1, D2, f2, rfl, -, y0, y1, y2, y3, y4, hvy, -⟩ := hdy.out i hil
          have hall := hU.out.trans hu3.out
          replace x0 := Lb.New0.cells hall x0
          replace x1 := Lb.New0.cells hall x1
          replace x2 := Lb.New0.cells hall x2
          replace x3 := Lb.New0.cells hall x3
          replace x4 := Lb.New0.cells hall x4
          replace y0 := Lb.New0.cells hall y0
          replace y1 := Lb.New0.cells hall y1
          replace y2 := Lb.New0.cells hall y2
          replace y3 := Lb.New0.cells hall y3
          replace y4 := Lb.New0.cells hall y4
          have HR1 := Lib.hid (fun w1 (hu : New0 w w1) => HR.out w1 hu _ _ _ _ _ hvx hvy (hsmp.out _ (List.getElem_mem hil)))
          obtain ⟨r, hr⟩ : ∃ r, ds[i] = r := ⟨_, rfl⟩
          rw [hr] at x0 x1 x2 x3 x4 y0 y1 y2 y3 y4 HR1
          clear hdx hdy hvx hvy hr HR
          go_wp2_with fail
          go_region_with (go_at_call 48; refine (HR1.out _ (hU.out.trans (hu3.out.trans (by repeat (first | exact Upon.refl _ _ | refine Upon.drew ?_))))).mono ?_; rintro e w5 ⟨rfl, n5⟩)
          all_goals
            have hu5 := Lib.hid (hu3.out.trans (Upon.trans (by repeat (first | exact Upon.refl _ _ | refine Upon.drew ?_)) n5))
            clear x0 x1 x2 x3 x4 y0 y1 y2 y3 y4 HR1 n5 k3 p3
            go_wp2_with fail
            go_roundw
            case rel => exact ⟨i + 1, by go_num, hil, hu5⟩
            case measure => simp [intOf]; omega
        · clear HR hdx hdy
          go_wp2_with fail
          go_ret
          exact ⟨rfl, hU.out.trans hu3.out⟩
end Bk
end Go.Proofs.YtlgjbcmloochiaaGreatDoor
