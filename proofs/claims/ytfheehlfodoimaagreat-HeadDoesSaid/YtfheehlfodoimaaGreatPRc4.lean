/- Parts, put together: RcRef3, RcRef4. -/
import Derived.Test.YtfheehlfodoimaaGreatPRc1
import Derived.Test.YtfheehlfodoimaaGreatPMt1

/- The document's own records (layer 12): Encode. -/
section
set_option maxRecDepth 100000
namespace Go.Proofs.YtfheehlfodoimaaGreat
open Go.RowKit Go.Sort
namespace Rc
open Bit Dsk Ob Dig
set_option linter.unusedVariables false

/-- What Encode answers. -/
noncomputable def encR (r : R) : Ending := if chk r = 0 then .returned (.tuple #[.string ⟨(encB r).toArray⟩, .int .i64 0]) else .returned (.tuple #[.string ByteArray.empty, .int .i64 (chk r : Int)])
theorem encR_ok {r : R} (h : chk r = 0) : encR r = .returned (.tuple #[.string ⟨(encB r).toArray⟩, .int .i64 0]) := if_pos h
theorem encR_no {r : R} (h : chk r ≠ 0) : encR r = .returned (.tuple #[.string ByteArray.empty, .int .i64 (chk r : Int)]) := if_neg h
abbrev numA := Mt.numA
theorem numA_few (n : Nat) : (numA n).size ≤ 9 := Mt.numA_few n
theorem numA_list (n : Nat) : (numA n).data.toList = numL n := by simp [Mt.numA]
/-- The bytes so far. -/
def So (l : List Smp) (j : Nat) (s : ByteArray) : Prop := s.data.toList = numL 1 ++ (numL l.length ++ (l.take j).flatMap sB)
theorem app_list (a b : ByteArray) : (a ++ b).data.toList = a.data.toList ++ b.data.toList := by rw [ByteArray.data_append, Array.toList_append]
theorem So.start (l : List Smp) : So l 0 (numA 1 ++ numA l.length) := by unfold So; rw [app_list, numA_list, numA_list]; simp
theorem lab_size (l : List Lb.Pr) : (⟨(Lb.encB l).toArray⟩ : ByteArray).size = (Lb.encB l).length := by
  show (Lb.encB l).toArray.size = _
  simp
theorem So.step {l : List Smp} {j : Nat} {s : ByteArray} (h : So l j s) (hj : j < l.length) : So l (j + 1) (s ++ textA ⟨(Lb.encB l[j].1).toArray⟩ ++ numA (zig l[j].2.1) ++ numA l[j].2.2) := by
  unfold So at *
  rw [app_list, app_list, app_list, h, textA_list, numA_list, numA_list, lab_size, List.take_succ_eq_append_getElem hj, List.flatMap_append]
  simp [sB, List.append_assoc]
theorem So.last {l : List Smp} {j : Nat} {s : ByteArray} {r : R} (h : So l j s) (hj : ¬ j < l.length) (hc : Commit r) (hl : r.smp = l) : s = ⟨(encB r).toArray⟩ := by
  refine Lb.data_inj ?_
  rw [h, List.take_of_length_le (by omega)]
  show _ = encB r
  rw [encB, if_neg (by rw [hc.kind]; decide), hc.kind, hl]; rfl
theorem So.size {l : List Smp} {j : Nat} {s : ByteArray} (h : So l j s) (hok : ∀ x ∈ l, Lb.Ok x.1) (hl : l.length ≤ 32) : s.size ≤ 40000 := by
  have h0 := nd_le 1
  have h1 := nd_le l.length
  have h2 := flat_len (l := l.take j) fun x hx => hok x (List.mem_of_mem_take hx)
  have h3 : (l.take j).length ≤ 32 := by rw [List.length_take]; omega
  have h4 : s.data.toList.length = s.size := by simp
  have h5 := congrArg List.length h
  rw [List.length_append, List.length_append, numL_length, numL_length] at h5
  omega
theorem del_bytes {r : R} (h : Delete r) : (⟨(encB r).toArray⟩ : ByteArray) = numA 2 ++ ⟨(Mt.encB r.ms).toArray⟩ ++ numA (zig r.frm) ++ numA (zig r.til) := by
  refine Lb.data_inj ?_
  show encB r = _
  rw [app_list, app_list, app_list, numA_list, numA_list, numA_list, encB, if_pos h.kind, h.kind]
  simp [List.append_assoc]
end Rc
end Go.Proofs.YtfheehlfodoimaaGreat
end

/- The document's own records (layer 12): Same, of two that read the same. -/
section
set_option maxRecDepth 100000
namespace Go.Proofs.YtfheehlfodoimaaGreat
open Go.RowKit Go.Sort
namespace Rc
open Bit Dsk Ob Dig
set_option linter.unusedVariables false

set_option maxHeartbeats 6400000 in
theorem same_any (w : World) (S S' : Nat → Prop) (v1 v2 : Value) (r : R) (h1 : RView w S v1 r) (h2 : RView w S' v2 r) (hfew : r.smp.length ≤ 9223372036854775807) :
    Calls Tryz.prog 11 #[v1, v2] w fun e w' => e = .returned (.bool true) ∧ New0 w w' := by
  obtain ⟨A, c, A', c', rfl, hs, hm⟩ := RView.shape h1
  obtain ⟨B, d, B', d', rfl, ht, hn⟩ := RView.shape h2
  obtain ⟨k, l, ms, a, b⟩ := r
  simp only at hs hm ht hn hfew ⊢
  obtain ⟨wx, hwx⟩ : ∃ wx, w.alloc (.cells #[.int .i64 k, .slice A l.length c, .slice A' ms.length c', .int .i64 a, .int .i64 b] 34 (0, 0)) = wx := ⟨_, rfl⟩
  obtain ⟨wb, hwb⟩ : ∃ wb, wx.alloc (.cells #[.int .i64 k, .slice B l.length d, .slice B' ms.length d', .int .i64 a, .int .i64 b] 34 (0, 0)) = wb := ⟨_, rfl⟩
  have hX := box5 w k (.slice A l.length c) (.slice A' ms.length c') a b
  have hY := box5 wx k (.slice B l.length d) (.slice B' ms.length d') a b
  have ux := (Upon.refl (fun _ => False) w).alloc (.cells #[.int .i64 k, .slice A l.length c, .slice A' ms.length c', .int .i64 a, .int .i64 b] 34 (0, 0))
  have uy := (Upon.refl (fun _ => False) wx).alloc (.cells #[.int .i64 k, .slice B l.length d, .slice B' ms.length d', .int .i64 a, .int .i64 b] 34 (0, 0))
  have sx : wx.heap.size = w.heap.size + 1 := by rw [← hwx]; simp
  rw [hwx] at hX ux
  rw [hwb, sx] at hY
  rw [hwb] at uy
  have hU := Lib.hid (ux.trans uy)
  have hB := Lib.hid (fun w' (hu : New0 wb w') => And.intro ((hX.new uy).new hu) (hY.new hu))
  have hw : Hid ((w.alloc (.cells #[.int .i64 k, .slice A l.length c, .slice A' ms.length c', .int .i64 a, .int .i64 b] 34 (0, 0))).alloc (.cells #[.int .i64 k, .slice B l.length d, .slice B' ms.length d', .int .i64 a, .int .i64 b] 34 (0, 0)) = wb) := Lib.hid (by rw [hwx, hwb])
  have HM := Lib.hid (by have := Mt.same_any wb S S' _ _ ms ms (Rw.View.new hm hU.out) (Rw.View.new hn hU.out); rw [decide_eq_true rfl] at this; exact this)
  have HL := Lib.hid (fun w1 (hu : New0 w w1) T T' u u' x (hx : Lb.View w T u x) (hy : Lb.View w T' u' x) => by have := Lb.same_any w1 T T' u u' x x (Rw.View.new hx hu) (Rw.View.new hy hu); rw [decide_eq_true rfl] at this; exact this)
  replace hs := Lib.hid hs
  replace ht := Lib.hid ht
  clear h1 h2 hm hn ux uy sx hX hY hwx hwb
  go_enter Tryz.func11, Tryz.ntmps11
  go_wp2_with fail
  rw [hw.out]
  refine HM.out.mono ?_
  rintro e w2 ⟨rfl, n2, rfl⟩
  obtain ⟨⟨a0, a1, a2, a3, a4⟩, ⟨b0, b1, b2, b3, b4⟩⟩ := hB.out _ (upon_drewN _ wb n2)
  have hu2 : Hid (New0 wb (wb.drewN n2)) := Lib.hid (upon_drewN _ wb n2)
  clear HM hw
  generalize wb.drewN n2 = w2 at *
  go_wp2_with fail
  clear a0 a1 a2 a3 a4 b0 b1 b2 b3 b4
  go_loopw [5] (fun ov wr => ∃ j : Nat, ov = .int .i64 (j : Int) ∧ j ≤ l.length ∧ Hid (New0 wb wr)) (fun ov _ => l.length - (intOf ov).toNat)
  case atStart => exact ⟨0, rfl, Nat.zero_le _, hu2⟩
  case round =>
    clear hu2
    obtain ⟨j, rfl, hj, hu⟩ := hrel
    obtain ⟨⟨-, a1, -, -, -⟩, ⟨-, b1, -, -, -⟩⟩ := hB.out _ hu.out
    by_cases hlt : j < l.length
    · obtain ⟨gx, ox, rfl, -, hcx⟩ := SView.cells hs.out (by omega)
      obtain ⟨gy, oy, rfl, -, hcy⟩ := SView.cells ht.out (by omega)
      obtain ⟨⟨sa, sn, sc⟩, hvx, x0, x1, x2⟩ := hcx j hlt
      obtain ⟨⟨ta, tn, tc⟩, hvy, y0, y1, y2⟩ := hcy j hlt
      replace x0 := Lb.New0.cells (hU.out.trans hu.out) x0
      replace x1 := Lb.New0.cells (hU.out.trans hu.out) x1
      replace x2 := Lb.New0.cells (hU.out.trans hu.out) x2
      replace y0 := Lb.New0.cells (hU.out.trans hu.out) y0
      replace y1 := Lb.New0.cells (hU.out.trans hu.out) y1
      replace y2 := Lb.New0.cells (hU.out.trans hu.out) y2
      have HL1 := Lib.hid (fun w1 (hu : New0 w w1) => HL.out w1 hu _ _ _ _ _ hvx hvy)
      obtain ⟨x, hx⟩ : ∃ x, l[j] = x := ⟨_, rfl⟩
      rw [hx] at x1 x2 y1 y2
      obtain ⟨ls, t, u⟩ := x
      simp only at x0 x1 x2 y0 y1 y2
      clear hcx hcy hvx hvy hx hs ht
      have a1_1 := fun o => Lb.New0.cells ((Upon.refl (fun _ => False) wr).alloc o) a1
      have a1_2 := fun o o' => Lb.New0.cells (((Upon.refl (fun _ => False) wr).alloc o).alloc o') a1
      have b1_1 := fun o => Lb.New0.cells ((Upon.refl (fun _ => False) wr).alloc o) b1
      have b1_2 := fun o o' => Lb.New0.cells (((Upon.refl (fun _ => False) wr).alloc o).alloc o') b1
      have x0_1 := fun o => Lb.New0.cells ((Upon.refl (fun _ => False) wr).alloc o) x0
      have x0_2 := fun o o' => Lb.New0.cells (((Upon.refl (fun _ => False) wr).alloc o).alloc o') x0
      have x1_1 := fun o => Lb.New0.cells ((Upon.refl (fun _ => False) wr).alloc o) x1
      have x1_2 := fun o o' => Lb.New0.cells (((Upon.refl (fun _ => False) wr).alloc o).alloc o') x1
      have x2_1 := fun o => Lb.New0.cells ((Upon.refl (fun _ => False) wr).alloc o) x2
      have x2_2 := fun o o' => Lb.New0.cells (((Upon.refl (fun _ => False) wr).alloc o).alloc o') x2
      have y0_1 := fun o => Lb.New0.cells ((Upon.refl (fun _ => False) wr).alloc o) y0
      have y0_2 := fun o o' => Lb.New0.cells (((Upon.refl (fun _ => False) wr).alloc o).alloc o') y0
      have y1_1 := fun o => Lb.New0.cells ((Upon.refl (fun _ => False) wr).alloc o) y1
      have y1_2 := fun o o' => Lb.New0.cells (((Upon.refl (fun _ => False) wr).alloc o).alloc o') y1
      have y2_1 := fun o => Lb.New0.cells ((Upon.refl (fun _ => False) wr).alloc o) y2
      have y2_2 := fun o o' => Lb.New0.cells (((Upon.refl (fun _ => False) wr).alloc o).alloc o') y2
      go_wp2_with fail
      go_region
      all_goals
        clear a1 a1_1 a1_2 b1 b1_1 b1_2 x0 x0_1 x0_2 x1 x1_1 x1_2 x2 x2_1 x2_2 y0 y0_1 y0_2 y1 y1_1 y1_2 y2 y2_1 y2_2
        go_wp2_with fail
        refine (HL1.out _ (hU.out.trans (hu.out.trans (by repeat (first | exact Upon.refl _ _ | refine Upon.drew ?_ | refine Upon.alloc ?_ _))))).mono ?_
        rintro e w5 ⟨rfl, n5, rfl⟩
        clear HL1
        go_wp2_with fail
        go_roundw
        case rel => exact ⟨j + 1, by go_num, hlt, Lib.hid ((hu.out.trans (((Upon.refl _ wr).alloc _).alloc _)).trans (upon_drewN _ _ _))⟩
        case measure => simp [intOf]; omega
    · clear HL hs ht
      go_wp2_with fail
      go_ret
      exact ⟨rfl, hU.out.trans hu.out⟩
end Rc
end Go.Proofs.YtfheehlfodoimaaGreat
end
