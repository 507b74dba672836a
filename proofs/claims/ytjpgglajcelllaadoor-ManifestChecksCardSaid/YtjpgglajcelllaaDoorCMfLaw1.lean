/- Manifests (layer 17): ManifestChecks. Written by wip/tools/mflaw1.py. -/
import Derived.Test.YtjpgglajcelllaaDoorCMfPDec
import Derived.Test.YtjpgglajcelllaaDoorCMfEnc
import Derived.Test.YtjpgglajcelllaaDoorCMfTo
import Derived.Test.YtjpgglajcelllaaDoorCMfSame
import Derived.Lib.QuietBelow
set_option maxRecDepth 100000
namespace Go.Proofs.YtjpgglajcelllaaDoor
open Go.RowKit Go.Sort
namespace Mf
open Bit Dsk Ob Dig
set_option linter.unusedVariables false
theorem newGet (w : World) (d : Nat) (os : Array Go.Obj) : New0 w (grow (redrawn w d) os) := newOf (below_regrown w d os)
theorem view_at {w : World} {S : Nat → Prop} {a : Option Addr} {n c : Nat} {m : M} (h : NView w S (.slice a n c) m.blocks) : n = m.blocks.length := by
  obtain ⟨A, c', h1, -⟩ := Rw.View.shape h
  simp only [Value.slice.injEq] at h1
  exact h1.2.1
theorem belowC {P : Program} {f : FuncId} {args : Array Value} {w : World} {Q : Ending → Prop} (h : Calls P f args w fun e w' => Q e ∧ New0 w w') : Calls P f args w fun e w' => Q e ∧ Below w.heap.size w w' := h.mono fun e w' ⟨h1, h2⟩ => ⟨h1, belowOf h2⟩
set_option maxHeartbeats 25600000 in
theorem checks_true (W : World) (v : Value) (s : ByteArray) (o : IsM v W) (hs : s.size ≤ 140737488351232) (hT : Crc.Tab W) :
    Calls Tryd.prog 3 #[v, .string s] W fun e W' => e = .returned (.bool true) ∧ Below W.heap.size W W' := by
  obtain ⟨m, hv, hb⟩ := o
  obtain ⟨A, c, rfl, hn⟩ := hv.shape
  have hV := Lib.hid (fun w (hu : New0 W w) => (show MView w All (.agg #[.int .i64 m.epoch, .int .i64 m.base, .int .i64 m.promise, .int .i64 m.mark, .int .i64 m.check, .slice A m.blocks.length c]) m from hv.new hu))
  obtain ⟨w1, hw1⟩ : ∃ w1, W.alloc (.cells #[.int .i64 m.epoch, .int .i64 m.base, .int .i64 m.promise, .int .i64 m.mark, .int .i64 m.check, .slice A m.blocks.length c] 24 (0, 0)) = w1 := ⟨_, rfl⟩
  have n1 : New0 W w1 := by rw [← hw1]; exact (Upon.refl _ W).alloc _
  have hX1 : Six 24 W.heap.size ⟨.int .i64 m.epoch, .int .i64 m.base, .int .i64 m.promise, .int .i64 m.mark, .int .i64 m.check, .slice A m.blocks.length c⟩ w1 := by rw [← hw1]; exact six_new _ W ⟨.int .i64 m.epoch, .int .i64 m.base, .int .i64 m.promise, .int .i64 m.mark, .int .i64 m.check, .slice A m.blocks.length c⟩
  have HG := Lib.hid (great_any w1 _ _ m (hV.out w1 n1) hb)
  have hTb := Lib.hid (fun w (hu : New0 W w) => hT.below (belowOf hu))
  obtain ⟨k0, k1, k2, k3, k4, k5⟩ := hX1.cells
  dsimp only at k0 k1 k2 k3 k4 k5
  replace n1 := Lib.hid n1
  replace hX1 := Lib.hid hX1
  replace hw1 := Lib.hid hw1
  replace hb := Lib.hid hb
  clear hv hn hT
  unfold GreatE at HG
  by_cases hz : 3000 < s.size
  · have d1 : decide ((3000 : Int) < (s.size : Int)) = true := decide_eq_true (by omega)
    clear hV hTb hX1
    go_enter Tryd.func3, Tryd.ntmps3
    go_wp2_with fail
    rw [hw1.out]
    go_wp2_with fail
    refine HG.out.mono ?_
    rintro e w2 ⟨B, rfl, hu, -⟩
    have hend := Lib.hid (belowOf (n1.out.trans hu))
    clear HG hu k0 k1 k2 k3 k4 k5 hw1
    cases B with
    | true =>
      go_wp2_with fail
      go_ret
      exact ⟨rfl, hend.out⟩
    | false =>
      go_wp2_with fail
      go_ret
      exact ⟨rfl, hend.out⟩
  have d1 : decide ((3000 : Int) < (s.size : Int)) = false := decide_eq_false (by omega)
  go_enter Tryd.func3, Tryd.ntmps3
  go_wp2_with fail
  rw [hw1.out]
  go_wp2_with fail
  refine HG.out.mono ?_
  rintro e w2 ⟨B, rfl, hu2, hsm⟩
  cases B with
  | true =>
    have hend := Lib.hid (belowOf (n1.out.trans hu2))
    clear HG hu2 k0 k1 k2 k3 k4 k5 hw1 hsm hV hTb hX1
    go_wp2_with fail
    go_ret
    exact ⟨rfl, hend.out⟩
  | false =>
    have hsmall := hsm rfl
    have n2 := n1.out.trans hu2
    have hX2 := hX1.out.new hu2
    have HT := Lib.hid (to_any w2 _ _ m (hV.out w2 n2) (by have := hsmall.1; omega))
    replace n2 := Lib.hid n2
    replace hX2 := Lib.hid hX2
    clear HG hu2 hsm hX1 n1 hw1 k0 k1 k2 k3 k4 k5
    obtain ⟨k0, k1, k2, k3, k4, k5⟩ := hX2.out.cells
    dsimp only at k0 k1 k2 k3 k4 k5
    clear hsmall
    go_wp2_with fail
    refine HT.out.mono ?_
    rintro e w3 ⟨⟨uA, un, uc⟩, rfl, hVu, hu3⟩
    obtain rfl := view_at hVu
    obtain ⟨w4, hw4⟩ : ∃ w4, w3.alloc (.cells #[.int .i64 m.epoch, .int .i64 m.base, .int .i64 m.promise, .int .i64 m.mark, .int .i64 m.check, .slice uA m.blocks.length uc] 26 (0, 0)) = w4 := ⟨_, rfl⟩
    have n4 : New0 w3 w4 := by rw [← hw4]; exact (Upon.refl _ w3).alloc _
    have hY4 : Six 26 w3.heap.size ⟨.int .i64 m.epoch, .int .i64 m.base, .int .i64 m.promise, .int .i64 m.mark, .int .i64 m.check, .slice uA m.blocks.length uc⟩ w4 := by rw [← hw4]; exact six_new _ w3 ⟨.int .i64 m.epoch, .int .i64 m.base, .int .i64 m.promise, .int .i64 m.mark, .int .i64 m.check, .slice uA m.blocks.length uc⟩
    obtain ⟨g, hg⟩ : ∃ g, w3.heap.size = g := ⟨_, rfl⟩
    rw [hg] at hY4
    have hn4 := Lib.hid (n2.out.trans (hu3.trans n4))
    have hX4 := Lib.hid (hX2.out.new (hu3.trans n4))
    have hVo := Lib.hid (fun w (hu : New0 w4 w) => (show MView w All (.agg #[.int .i64 m.epoch, .int .i64 m.base, .int .i64 m.promise, .int .i64 m.mark, .int .i64 m.check, .slice uA m.blocks.length uc]) m from ⟨⟨uA, m.blocks.length, uc⟩, rfl, Rw.View.new hVu (n4.trans hu)⟩))
    have HE := Lib.hid (penc_any w4 _ _ m (hVo.out w4 (Upon.refl _ _)) hb.out (hTb.out w4 hn4.out))
    obtain ⟨es, hes⟩ : ∃ es, encS m = es := ⟨_, rfl⟩
    obtain ⟨ce, hce⟩ : ∃ ce, chk m = ce := ⟨_, rfl⟩
    have HER := Lib.hid (fun w (hu : New0 W w) => refenc_any w _ _ m (hV.out w hu) hb.out)
    have HC := Lib.hid (fun w (hu : New0 w4 w) => pcheck_any w _ _ m (hVo.out w hu) hb.out)
    have HCR := Lib.hid (fun w (hu : New0 W w) => refcheck_any w _ _ m (hV.out w hu) hb.out)
    simp only [hes, hce] at HE HER
    simp only [hce] at HC HCR
    replace hw4 := Lib.hid hw4
    replace hg := Lib.hid hg
    replace hY4 := Lib.hid hY4
    clear HT hVu hu3 n4 hes hce hX2 n2 k0 k1 k2 k3 k4 k5
    obtain ⟨k0, k1, k2, k3, k4, k5⟩ := hX4.out.cells
    obtain ⟨l0, l1, l2, l3, l4, l5⟩ := hY4.out.cells
    dsimp only at k0 k1 k2 k3 k4 k5 l0 l1 l2 l3 l4 l5
    go_wp2_with fail
    rw [hw4.out, hg.out]
    refine HE.out.mono ?_
    rintro e w5 ⟨rfl, hu5⟩
    have hn5 := Lib.hid (hn4.out.trans hu5)
    have h45 := Lib.hid hu5
    have HER5 := Lib.hid (HER.out w5 hn5.out)
    clear HE hw4 hg k0 k1 k2 k3 k4 k5 l0 l1 l2 l3 l4 l5
    obtain ⟨k0, k1, k2, k3, k4, k5⟩ := (hX4.out.new hu5).cells
    dsimp only at k0 k1 k2 k3 k4 k5
    clear hu5 HER
    go_wp2_with fail
    refine HER5.out.mono ?_
    rintro e w6 ⟨rfl, hu6⟩
    have hn6 := Lib.hid (hn5.out.trans hu6)
    have h46 := Lib.hid (h45.out.trans hu6)
    have HD := Lib.hid (pdec_any w6 s (by omega) (hTb.out w6 hn6.out))
    unfold DecE at HD
    clear HER5 hu6 hn5 h45 k0 k1 k2 k3 k4 k5 hTb
    go_wp2_with fail
    refine HD.out.mono ?_
    rintro e w7 ⟨n, x, ⟨xA, xn, xc⟩, rfl, hd1, hVx, hbn, hu7⟩
    obtain rfl := view_at hVx
    obtain ⟨w8, hw8⟩ : ∃ w8, w7.alloc (.cells #[.int .i64 n.epoch, .int .i64 n.base, .int .i64 n.promise, .int .i64 n.mark, .int .i64 n.check, .slice xA n.blocks.length xc] 26 (0, 0)) = w8 := ⟨_, rfl⟩
    have n8 : New0 w7 w8 := by rw [← hw8]; exact (Upon.refl _ w7).alloc _
    have hZ8 : Six 26 w7.heap.size ⟨.int .i64 n.epoch, .int .i64 n.base, .int .i64 n.promise, .int .i64 n.mark, .int .i64 n.check, .slice xA n.blocks.length xc⟩ w8 := by rw [← hw8]; exact six_new _ w7 ⟨.int .i64 n.epoch, .int .i64 n.base, .int .i64 n.promise, .int .i64 n.mark, .int .i64 n.check, .slice xA n.blocks.length xc⟩
    obtain ⟨g7, hg7⟩ : ∃ g, w7.heap.size = g := ⟨_, rfl⟩
    rw [hg7] at hZ8
    have hn8 := Lib.hid (hn6.out.trans (hu7.trans n8))
    have h48 := Lib.hid (h46.out.trans (hu7.trans n8))
    have hVx8 := Lib.hid (fun w (hu : New0 w8 w) => (show MView w All (.agg #[.int .i64 n.epoch, .int .i64 n.base, .int .i64 n.promise, .int .i64 n.mark, .int .i64 n.check, .slice xA n.blocks.length xc]) n from ⟨⟨xA, n.blocks.length, xc⟩, rfl, Rw.View.all (Rw.View.new hVx (n8.trans hu))⟩))
    have HDR := Lib.hid (refdec_any w8 s (by omega))
    unfold DecE at HDR
    replace hd1 := Lib.hid hd1
    replace hw8 := Lib.hid hw8
    replace hg7 := Lib.hid hg7
    replace hZ8 := Lib.hid hZ8
    clear HD hVx hbn hu7 n8 hn6 h46
    go_wp2_with fail
    rw [hw8.out, hg7.out]
    refine HDR.out.mono ?_
    rintro e w9 ⟨n', x', ⟨yA, yn, yc⟩, rfl, hd2, hVy, -, hu9⟩
    obtain ⟨rfl, rfl⟩ := Dec.one hd1.out hd2
    obtain rfl := view_at hVy
    obtain ⟨wa, hwa⟩ : ∃ wa, w9.alloc (.cells #[.int .i64 n.epoch, .int .i64 n.base, .int .i64 n.promise, .int .i64 n.mark, .int .i64 n.check, .slice yA n.blocks.length yc] 24 (0, 0)) = wa := ⟨_, rfl⟩
    have na : New0 w9 wa := by rw [← hwa]; exact (Upon.refl _ w9).alloc _
    have hQ : Six 24 w9.heap.size ⟨.int .i64 n.epoch, .int .i64 n.base, .int .i64 n.promise, .int .i64 n.mark, .int .i64 n.check, .slice yA n.blocks.length yc⟩ wa := by rw [← hwa]; exact six_new _ w9 ⟨.int .i64 n.epoch, .int .i64 n.base, .int .i64 n.promise, .int .i64 n.mark, .int .i64 n.check, .slice yA n.blocks.length yc⟩
    obtain ⟨g9, hg9⟩ : ∃ g, w9.heap.size = g := ⟨_, rfl⟩
    rw [hg9] at hQ
    have h8a : New0 w8 wa := hu9.trans na
    have h4a := h48.out.trans h8a
    have hna := Lib.hid (hn8.out.trans h8a)
    obtain ⟨k0, k1, k2, k3, k4, k5⟩ := (hX4.out.new h4a).cells
    obtain ⟨l0, l1, l2, l3, l4, l5⟩ := (hY4.out.new h4a).cells
    obtain ⟨i0, i1, i2, i3, i4, i5⟩ := (hZ8.out.new h8a).cells
    obtain ⟨j0, j1, j2, j3, j4, j5⟩ := hQ.cells
    dsimp only at k0 k1 k2 k3 k4 k5 l0 l1 l2 l3 l4 l5 i0 i1 i2 i3 i4 i5 j0 j1 j2 j3 j4 j5
    have hVya := Lib.hid (fun w (hu : New0 wa w) => (show MView w All (.agg #[.int .i64 n.epoch, .int .i64 n.base, .int .i64 n.promise, .int .i64 n.mark, .int .i64 n.check, .slice yA n.blocks.length yc]) n from ⟨⟨yA, n.blocks.length, yc⟩, rfl, Rw.View.all (Rw.View.new hVy (na.trans hu))⟩))
    have HC1 := Lib.hid (fun d os => belowC (HC.out (grow (redrawn wa d) os) (h4a.trans (newGet wa d os))))
    have HC2 := Lib.hid (fun d os => belowC (HCR.out (grow (redrawn wa d) os) (hna.out.trans (newGet wa d os))))
    have HF1 := Lib.hid (fun d os => belowC (from_any (grow (redrawn wa d) os) _ _ n (hVx8.out _ (h8a.trans (newGet wa d os)))))
    have HF2 := Lib.hid (fun d os => belowC (from_any (grow (redrawn wa d) os) _ _ m (hVo.out _ (h4a.trans (newGet wa d os)))))
    have HS1 := Lib.hid (fun d os => belowC (same_one (grow (redrawn wa d) os) _ _ _ _ n (hVx8.out _ (h8a.trans (newGet wa d os))) (hVya.out _ (newGet wa d os))))
    have HS2 := Lib.hid (fun d os => belowC (same_one (grow (redrawn wa d) os) _ _ _ _ m (hVo.out _ (h4a.trans (newGet wa d os))) (hV.out _ (hna.out.trans (newGet wa d os)))))
    have HN1 := Lib.hid (fun d os => belowC (pnone_any (grow (redrawn wa d) os)))
    have HN2 := Lib.hid (fun d os => belowC (refnone_any (grow (redrawn wa d) os)))
    have hVn : ∀ w, MView w All (mv noneM ⟨none, 0, 0⟩) noneM := fun w => ⟨⟨none, 0, 0⟩, rfl, Rw.View.noth _ _ _⟩
    have HF3 := Lib.hid (fun d os => belowC (from_any (grow (redrawn wa d) os) _ _ noneM (hVn _)))
    have HS3 := Lib.hid (fun d os => belowC (same_one (grow (redrawn wa d) os) _ _ _ _ noneM (hVn _) (hVn _)))
    have q1 : ((ce : Int) == ce) = true := beq_self_eq_true _
    have q2 : (es.toList == es.toList) = true := beq_self_eq_true _
    have q3 : ((x : Int) == x) = true := beq_self_eq_true _
    have y0 := fun d os => cell_regrown k0 d os
    have y1 := fun d os => cell_regrown k1 d os
    have y2 := fun d os => cell_regrown k2 d os
    have y3 := fun d os => cell_regrown k3 d os
    have y4 := fun d os => cell_regrown k4 d os
    have y5 := fun d os => cell_regrown k5 d os
    have z0 := fun d os => cell_regrown l0 d os
    have z1 := fun d os => cell_regrown l1 d os
    have z2 := fun d os => cell_regrown l2 d os
    have z3 := fun d os => cell_regrown l3 d os
    have z4 := fun d os => cell_regrown l4 d os
    have z5 := fun d os => cell_regrown l5 d os
    have a0 := fun d os => cell_regrown i0 d os
    have a1 := fun d os => cell_regrown i1 d os
    have a2 := fun d os => cell_regrown i2 d os
    have a3 := fun d os => cell_regrown i3 d os
    have a4 := fun d os => cell_regrown i4 d os
    have a5 := fun d os => cell_regrown i5 d os
    have b0 := fun d os => cell_regrown j0 d os
    have b1 := fun d os => cell_regrown j1 d os
    have b2 := fun d os => cell_regrown j2 d os
    have b3 := fun d os => cell_regrown j3 d os
    have b4 := fun d os => cell_regrown j4 d os
    have b5 := fun d os => cell_regrown j5 d os
    replace hwa := Lib.hid hwa
    replace hg9 := Lib.hid hg9
    unfold mv noneM at HN1 HN2 HF3 HS3
    simp only [Rw.Sl.v] at HN1 HN2 HF3 HS3
    clear HDR hd1 hd2 hVy hu9 na hQ hVn hX4 hY4 hZ8 hV hb hVo HC HCR hVx8 hVya h8a h4a h48 hn8 hn4 hw8 hg7
    go_upto_region 8 with fail
    rw [hwa.out, hg9.out]
    go_wp2_with fail
    refine wp_region_quiet_below (by kernel_rfl) (by kernel_rfl) ?_
    iterate 2 (go_big_quiet_step (exact Calls.regrown_of (HC1.out _ _)))
    iterate 2 (go_big_quiet_step (exact Calls.regrown_of (HC2.out _ _)))
    iterate 14 (go_big_quiet_step (exact Calls.regrown_of (HF1.out _ _)))
    iterate 2 (go_big_quiet_step (exact Calls.regrown_of (HS1.out _ _)))
    iterate 9 (go_big_quiet_step (exact Calls.regrown_of (HF2.out _ _)))
    iterate 2 (go_big_quiet_step (exact Calls.regrown_of (HS2.out _ _)))
    iterate 3 (go_big_quiet_step (exact Calls.regrown_of (HN1.out _ _)))
    iterate 1 (go_big_quiet_step (exact Calls.regrown_of (HF3.out _ _)))
    iterate 1 (go_big_quiet_step (exact Calls.regrown_of (HN2.out _ _)))
    repeat (go_big_quiet_step (exact Calls.regrown_of (HS3.out _ _)))
    refine wpQuiet_nil ?_
    intro _ hw'
    obtain ⟨⟨dq, osq⟩, hw''⟩ := hw'
    subst hw''
    have hend := Lib.hid (belowOf (hna.out.trans (newGet wa dq osq)))
    clear HC1 HC2 HF1 HF2 HF3 HS1 HS2 HS3 HN1 HN2 y0 y1 y2 y3 y4 y5 z0 z1 z2 z3 z4 z5 a0 a1 a2 a3 a4 a5 b0 b1 b2 b3 b4 b5 k0 k1 k2 k3 k4 k5 l0 l1 l2 l3 l4 l5 i0 i1 i2 i3 i4 i5 j0 j1 j2 j3 j4 j5 hwa hg9
    go_wp2_with fail
    go_ret
    exact ⟨rfl, hend.out⟩
end Mf
end Go.Proofs.YtjpgglajcelllaaDoor
