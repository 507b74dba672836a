/- Manifests (layer 17): ManifestBack. Written by wip/tools/mflaw2.py. -/
import Derived.Test.YtjpgglajcelllaaDoorEMfWorks
import Derived.Test.YtjpgglajcelllaaDoorEMfLaw1
set_option maxRecDepth 100000
namespace Go.Proofs.YtjpgglajcelllaaDoor
open Go.RowKit Go.Sort
namespace Mf
open Bit Dsk Ob Dig
set_option linter.unusedVariables false
set_option maxHeartbeats 25600000 in
/-- The second half: any bytes. -/
theorem back_true (W : World) (v : Value) (s : ByteArray) (o : IsM v W) (hs : s.size ≤ 140737488351232) (hT : Crc.Tab W) :
    Calls Tryd.prog 5 #[v, .string s] W fun e W' => e = .returned (.bool true) ∧ Below W.heap.size W W' := by
  obtain ⟨m, hv, hb⟩ := o
  obtain ⟨A, c, rfl, hn⟩ := hv.shape
  have hV := Lib.hid (fun w (hu : New0 W w) => (show MView w All (.agg #[.int .i64 m.epoch, .int .i64 m.base, .int .i64 m.promise, .int .i64 m.mark, .int .i64 m.check, .slice A m.blocks.length c]) m from hv.new hu))
  obtain ⟨w1, hw1⟩ : ∃ w1, W.alloc (.cells #[.int .i64 m.epoch, .int .i64 m.base, .int .i64 m.promise, .int .i64 m.mark, .int .i64 m.check, .slice A m.blocks.length c] 24 (0, 0)) = w1 := ⟨_, rfl⟩
  have n1 : New0 W w1 := by rw [← hw1]; exact (Upon.refl _ W).alloc _
  have hX1 : Six 24 W.heap.size ⟨.int .i64 m.epoch, .int .i64 m.base, .int .i64 m.promise, .int .i64 m.mark, .int .i64 m.check, .slice A m.blocks.length c⟩ w1 := by rw [← hw1]; exact six_new _ W ⟨.int .i64 m.epoch, .int .i64 m.base, .int .i64 m.promise, .int .i64 m.mark, .int .i64 m.check, .slice A m.blocks.length c⟩
  have hTb := Lib.hid (fun w (hu : New0 W w) => hT.below (belowOf hu))
  have HW := Lib.hid (works_true w1 (hTb.out _ n1))
  replace n1 := Lib.hid n1
  replace hX1 := Lib.hid hX1
  replace hw1 := Lib.hid hw1
  replace hb := Lib.hid hb
  clear hv hn hT
  go_enter Tryd.func5, Tryd.ntmps5
  go_wp2_with fail
  rw [hw1.out]
  go_wp2_with fail
  refine HW.out.mono ?_
  rintro e w2 ⟨rfl, hu2⟩
  have n2 := Lib.hid (n1.out.trans hu2)
  have hX2 := hX1.out.new hu2
  have HG := Lib.hid (great_any w2 _ _ m (hV.out w2 n2.out) hb.out)
  unfold GreatE at HG
  clear HW hw1 n1 hX1 hu2
  obtain ⟨k0, k1, k2, k3, k4, k5⟩ := hX2.cells
  dsimp only at k0 k1 k2 k3 k4 k5
  replace hX2 := Lib.hid hX2
  by_cases hz : 3000 < s.size
  · have d1 : decide ((3000 : Int) < (s.size : Int)) = true := decide_eq_true (by omega)
    clear hV hTb hX2
    go_wp2_with fail
    refine HG.out.mono ?_
    rintro e w3 ⟨B, rfl, hu, -⟩
    have hend := Lib.hid (belowOf (n2.out.trans hu))
    clear HG hu k0 k1 k2 k3 k4 k5
    cases B with
    | true =>
      go_wp2_with fail
      go_ret
      exact ⟨rfl, hend.out⟩
    | false =>
      go_wp2_with fail
      go_ret
      exact ⟨rfl, hend.out⟩
  · have d1 : decide ((3000 : Int) < (s.size : Int)) = false := decide_eq_false (by omega)
    have hs3 : Hid (s.size ≤ 3000) := Lib.hid (by omega)
    clear hz
    go_wp2_with fail
    refine HG.out.mono ?_
    rintro e w3 ⟨B, rfl, hu3, hsm⟩
    cases B with
    | true =>
      have hend := Lib.hid (belowOf (n2.out.trans hu3))
      clear HG hu3 k0 k1 k2 k3 k4 k5 hsm hV hTb hX2
      go_wp2_with fail
      go_ret
      exact ⟨rfl, hend.out⟩
    | false =>
      have hsmall := hsm rfl
      have n3 := n2.out.trans hu3
      have hX3 := hX2.out.new hu3
      have HT := Lib.hid (to_any w3 _ _ m (hV.out w3 n3) (by have := hsmall.1; omega))
      replace n3 := Lib.hid n3
      replace hX3 := Lib.hid hX3
      clear HG hu3 hsm hX2 n2 k0 k1 k2 k3 k4 k5
      obtain ⟨k0, k1, k2, k3, k4, k5⟩ := hX3.out.cells
      dsimp only at k0 k1 k2 k3 k4 k5
      clear hsmall
      go_wp2_with fail
      refine HT.out.mono ?_
      rintro e w4 ⟨⟨uA, un, uc⟩, rfl, hVu, hu4⟩
      obtain rfl := view_at hVu
      have n4 := n3.out.trans hu4
      have hX4 := Lib.hid (hX3.out.new hu4)
      have HE := Lib.hid (penc_any w4 _ _ m ⟨⟨uA, m.blocks.length, uc⟩, rfl, hVu⟩ hb.out (hTb.out w4 n4))
      replace n4 := Lib.hid n4
      clear HT hVu hu4 hX3 n3 k0 k1 k2 k3 k4 k5
      have hk := Lib.hid hb.out.rng.k
      dsimp only [mv, Rw.Sl.v] at HE ⊢
      by_cases hz : chk m = 0
      · have hg := Lib.hid (chk_zero.1 hz)
        obtain ⟨es, hes⟩ : ∃ es, code m = es := ⟨_, rfl⟩
        rw [encS_ok hz, hz, hes] at HE
        have hez : es.size ≤ 730 := by rw [← hes]; exact code_le hg.out
        have hd1 : Hid (Dec es m 0) := Lib.hid (by rw [← hes]; exact Dec.back hg.out hk.out)
        have hd2 : Hid (Dec (es ++ ⟨#[120]⟩) zero 3) := Lib.hid (by rw [← hes]; exact Dec.more hg.out _ (by decide))
        clear hes hz hg hk
        go_wp2_with fail
        refine HE.out.mono ?_
        rintro e w5 ⟨rfl, hu5⟩
        have n5 := Lib.hid (n4.out.trans hu5)
        have hX5 := Lib.hid (hX4.out.new hu5)
        have HD := Lib.hid (pdec_any w5 es (by omega) (hTb.out w5 n5.out))
        unfold DecE at HD
        clear HE hu5 n4 hX4
        go_wp2_with fail
        refine HD.out.mono ?_
        rintro e w6 ⟨m', x, ⟨dA, dn, dc⟩, rfl, hd, hVd, -, hu6⟩
        obtain ⟨rfl, rfl⟩ := Dec.one hd1.out hd
        obtain rfl := view_at hVd
        obtain ⟨w7, hw7⟩ : ∃ w7, w6.alloc (.cells #[.int .i64 m.epoch, .int .i64 m.base, .int .i64 m.promise, .int .i64 m.mark, .int .i64 m.check, .slice dA m.blocks.length dc] 26 (0, 0)) = w7 := ⟨_, rfl⟩
        have u7 : New0 w6 w7 := by rw [← hw7]; exact (Upon.refl _ w6).alloc _
        have hY7 : Six 26 w6.heap.size ⟨.int .i64 m.epoch, .int .i64 m.base, .int .i64 m.promise, .int .i64 m.mark, .int .i64 m.check, .slice dA m.blocks.length dc⟩ w7 := by rw [← hw7]; exact six_new _ w6 ⟨.int .i64 m.epoch, .int .i64 m.base, .int .i64 m.promise, .int .i64 m.mark, .int .i64 m.check, .slice dA m.blocks.length dc⟩
        obtain ⟨g6, hg6⟩ : ∃ g, w6.heap.size = g := ⟨_, rfl⟩
        rw [hg6] at hY7
        have n7 := Lib.hid (n5.out.trans (hu6.trans u7))
        have hX7 := Lib.hid (hX5.out.new (hu6.trans u7))
        have hVd7 := Lib.hid (fun w (hu : New0 w7 w) => (show MView w All (.agg #[.int .i64 m.epoch, .int .i64 m.base, .int .i64 m.promise, .int .i64 m.mark, .int .i64 m.check, .slice dA m.blocks.length dc]) m from ⟨⟨dA, m.blocks.length, dc⟩, rfl, Rw.View.all (Rw.View.new hVd (u7.trans hu))⟩))
        have HD2 := Lib.hid (pdec_any w7 (es ++ ⟨#[120]⟩) (by rw [ByteArray.size_append]; show es.size + 1 ≤ 5000; omega) (hTb.out w7 n7.out))
        unfold DecE at HD2
        replace hw7 := Lib.hid hw7
        replace hg6 := Lib.hid hg6
        replace hY7 := Lib.hid hY7
        clear HD hd1 hd hVd hu6 u7 n5 hX5
        dsimp only [mv, Rw.Sl.v]
        go_wp2_with fail
        rw [hw7.out, hg6.out]
        refine HD2.out.mono ?_
        rintro e w8 ⟨z, x, ⟨zA, zn, zc⟩, rfl, hd, hVz, -, hu8⟩
        obtain ⟨rfl, rfl⟩ := Dec.one hd2.out hd
        obtain rfl := view_at hVz
        obtain ⟨wa, hwa⟩ : ∃ wa, w8.alloc (.cells #[.int .i64 0, .int .i64 0, .int .i64 0, .int .i64 0, .int .i64 0, .slice zA 0 zc] 26 (0, 0)) = wa := ⟨_, rfl⟩
        have ua : New0 w8 wa := by rw [← hwa]; exact (Upon.refl _ w8).alloc _
        have h7a := hu8.trans ua
        have na := Lib.hid (n7.out.trans h7a)
        obtain ⟨k0, k1, k2, k3, k4, k5⟩ := (hX7.out.new h7a).cells
        obtain ⟨l0, l1, l2, l3, l4, l5⟩ := (hY7.out.new h7a).cells
        dsimp only at k0 k1 k2 k3 k4 k5 l0 l1 l2 l3 l4 l5
        have HF := Lib.hid (fun d os => belowC (from_any (grow (redrawn wa d) os) _ _ m (hVd7.out _ (h7a.trans (newGet wa d os)))))
        have HS := Lib.hid (fun d os => belowC (same_one (grow (redrawn wa d) os) _ _ _ _ m (hVd7.out _ (h7a.trans (newGet wa d os))) (hV.out _ (na.out.trans (newGet wa d os)))))
        have y0 := fun d os => cell_regrown k0 d os
        have y1 := fun d os => cell_regrown k1 d os
        have y2 := fun d os => cell_regrown k2 d os
        have y3 := fun d os => cell_regrown k3 d os
        have y4 := fun d os => cell_regrown k4 d os
        have y5 := fun d os => cell_regrown k5 d os
        have z0 := fun d os => cell_regrown l0 d os
        have z1 := fun d os => cell_regrown l1 d os
        have z2 := fun d os => cell_regrown l2 d os
        have z3 := fun d os => cell_regrown l3 d os
        have z4 := fun d os => cell_regrown l4 d os
        have z5 := fun d os => cell_regrown l5 d os
        replace hwa := Lib.hid hwa
        clear HD2 hd hd2 hVz hu8 ua h7a n7 hX7 hY7 hVd7 hw7 hg6 hV hb
        dsimp only [mv, zero, Rw.Sl.v, List.length_nil]
        go_upto_region 9 with fail
        rw [hwa.out]
        go_wp2_with fail
        refine wp_region_quiet_below (by kernel_rfl) (by kernel_rfl) ?_
        repeat (go_big_quiet_step (first | exact Calls.regrown_of (HF.out _ _) | exact Calls.regrown_of (HS.out _ _)))
        refine wpQuiet_nil ?_
        intro _ hw'
        obtain ⟨⟨dq, osq⟩, hw''⟩ := hw'
        subst hw''
        obtain ⟨wc, hwc⟩ : ∃ wc, grow (redrawn wa dq) osq = wc := ⟨_, rfl⟩
        rw [hwc]
        have nc : Hid (New0 W wc) := Lib.hid (by rw [← hwc]; exact na.out.trans (newGet wa dq osq))
        clear HF HS y0 y1 y2 y3 y4 y5 z0 z1 z2 z3 z4 z5 k0 k1 k2 k3 k4 k5 l0 l1 l2 l3 l4 l5 hwa na hwc
        have HDs := Lib.hid (pdec_any wc s (by have := hs3.out; omega) (hTb.out wc nc.out))
        unfold DecE at HDs
        go_wp2_with fail
        refine HDs.out.mono ?_
        rintro e wd ⟨n, x, ⟨xA, xn, xc⟩, rfl, hd, hVx, hbn, hud⟩
        obtain rfl := view_at hVx
        have nd := nc.out.trans hud
        rcases hd with ⟨rfl, hgn, hkn, hcn⟩ | ⟨rfl, rfl, -⟩
        · obtain ⟨we, hwe⟩ : ∃ we, wd.alloc (.cells #[.int .i64 n.epoch, .int .i64 n.base, .int .i64 n.promise, .int .i64 n.mark, .int .i64 n.check, .slice xA n.blocks.length xc] 26 (0, 0)) = we := ⟨_, rfl⟩
          have ue : New0 wd we := by rw [← hwe]; exact (Upon.refl _ wd).alloc _
          have hZe : Six 26 wd.heap.size ⟨.int .i64 n.epoch, .int .i64 n.base, .int .i64 n.promise, .int .i64 n.mark, .int .i64 n.check, .slice xA n.blocks.length xc⟩ we := by rw [← hwe]; exact six_new _ wd ⟨.int .i64 n.epoch, .int .i64 n.base, .int .i64 n.promise, .int .i64 n.mark, .int .i64 n.check, .slice xA n.blocks.length xc⟩
          obtain ⟨gd, hgd⟩ : ∃ g, wd.heap.size = g := ⟨_, rfl⟩
          rw [hgd] at hZe
          have ne := Lib.hid (nd.trans ue)
          have HE2 := Lib.hid (penc_any we _ _ n ⟨⟨xA, n.blocks.length, xc⟩, rfl, Rw.View.new hVx ue⟩ hbn (hTb.out we ne.out))
          have hcz := chk_zero.2 hgn
          rw [encS_ok hcz, hcz, hcn] at HE2
          have q2 : (s.toList == s.toList) = true := beq_self_eq_true _
          obtain ⟨i0, i1, i2, i3, i4, i5⟩ := hZe.cells
          dsimp only at i0 i1 i2 i3 i4 i5
          replace hwe := Lib.hid hwe
          replace hgd := Lib.hid hgd
          clear HDs hVx hbn hud nd hgn hkn hcn ue hZe hcz hTb hs3 nc
          dsimp only [mv, Rw.Sl.v] at HE2 ⊢
          go_wp2_with fail
          rw [hwe.out, hgd.out]
          go_wp2_with fail
          refine HE2.out.mono ?_
          rintro e wf ⟨rfl, huf⟩
          have hend := Lib.hid (belowOf (ne.out.trans huf))
          clear HE2 ne huf i0 i1 i2 i3 i4 i5 hwe hgd
          go_wp2_with fail
          go_ret
          exact ⟨rfl, hend.out⟩
        · have hend := Lib.hid (belowOf (show New0 W (wd.alloc (.cells #[.int .i64 0, .int .i64 0, .int .i64 0, .int .i64 0, .int .i64 0, .slice xA 0 xc] 26 (0, 0))) from nd.alloc _))
          clear HDs hVx hbn hud nd hTb hs3 nc
          dsimp only [mv, zero, Rw.Sl.v, List.length_nil]
          go_wp2_with fail
          go_ret
          exact ⟨rfl, hend.out⟩
      · have hzn : (chk m == 0) = false := beq_eq_false_iff_ne.2 hz
        obtain ⟨ce, hce⟩ : ∃ ce, chk m = ce := ⟨_, rfl⟩
        obtain ⟨es, hes⟩ : ∃ es, encS m = es := ⟨_, rfl⟩
        rw [hce, hes] at HE
        rw [hce] at hzn
        clear hz hk hce hes hX4 hV hb
        go_wp2_with fail
        refine HE.out.mono ?_
        rintro e wc ⟨rfl, hu5⟩
        have nc := Lib.hid (n4.out.trans hu5)
        clear HE hu5 n4
        have HDs := Lib.hid (pdec_any wc s (by have := hs3.out; omega) (hTb.out wc nc.out))
        unfold DecE at HDs
        go_wp2_with fail
        refine HDs.out.mono ?_
        rintro e wd ⟨n, x, ⟨xA, xn, xc⟩, rfl, hd, hVx, hbn, hud⟩
        obtain rfl := view_at hVx
        have nd := nc.out.trans hud
        rcases hd with ⟨rfl, hgn, hkn, hcn⟩ | ⟨rfl, rfl, -⟩
        · obtain ⟨we, hwe⟩ : ∃ we, wd.alloc (.cells #[.int .i64 n.epoch, .int .i64 n.base, .int .i64 n.promise, .int .i64 n.mark, .int .i64 n.check, .slice xA n.blocks.length xc] 26 (0, 0)) = we := ⟨_, rfl⟩
          have ue : New0 wd we := by rw [← hwe]; exact (Upon.refl _ wd).alloc _
          have hZe : Six 26 wd.heap.size ⟨.int .i64 n.epoch, .int .i64 n.base, .int .i64 n.promise, .int .i64 n.mark, .int .i64 n.check, .slice xA n.blocks.length xc⟩ we := by rw [← hwe]; exact six_new _ wd ⟨.int .i64 n.epoch, .int .i64 n.base, .int .i64 n.promise, .int .i64 n.mark, .int .i64 n.check, .slice xA n.blocks.length xc⟩
          obtain ⟨gd, hgd⟩ : ∃ g, wd.heap.size = g := ⟨_, rfl⟩
          rw [hgd] at hZe
          have ne := Lib.hid (nd.trans ue)
          have HE2 := Lib.hid (penc_any we _ _ n ⟨⟨xA, n.blocks.length, xc⟩, rfl, Rw.View.new hVx ue⟩ hbn (hTb.out we ne.out))
          have hcz := chk_zero.2 hgn
          rw [encS_ok hcz, hcz, hcn] at HE2
          have q2 : (s.toList == s.toList) = true := beq_self_eq_true _
          obtain ⟨i0, i1, i2, i3, i4, i5⟩ := hZe.cells
          dsimp only at i0 i1 i2 i3 i4 i5
          replace hwe := Lib.hid hwe
          replace hgd := Lib.hid hgd
          clear HDs hVx hbn hud nd hgn hkn hcn ue hZe hcz hTb hs3 nc
          dsimp only [mv, Rw.Sl.v] at HE2 ⊢
          go_wp2_with fail
          rw [hwe.out, hgd.out]
          go_wp2_with fail
          refine HE2.out.mono ?_
          rintro e wf ⟨rfl, huf⟩
          have hend := Lib.hid (belowOf (ne.out.trans huf))
          clear HE2 ne huf i0 i1 i2 i3 i4 i5 hwe hgd
          go_wp2_with fail
          go_ret
          exact ⟨rfl, hend.out⟩
        · have hend := Lib.hid (belowOf (show New0 W (wd.alloc (.cells #[.int .i64 0, .int .i64 0, .int .i64 0, .int .i64 0, .int .i64 0, .slice xA 0 xc] 26 (0, 0))) from nd.alloc _))
          clear HDs hVx hbn hud nd hTb hs3 nc
          dsimp only [mv, zero, Rw.Sl.v, List.length_nil]
          go_wp2_with fail
          go_ret
          exact ⟨rfl, hend.out⟩
end Mf
end Go.Proofs.YtjpgglajcelllaaDoor
