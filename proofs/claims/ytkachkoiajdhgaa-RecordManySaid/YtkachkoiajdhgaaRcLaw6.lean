/- Layer 12: the law RecordSpans. -/
import Derived.Test.YtkachkoiajdhgaaRcLaw5
set_option maxRecDepth 100000
namespace Go.Proofs.Ytkachkoiajdhgaa
open Go.RowKit Go.Sort
namespace Rc
open Bit Dsk Ob Dig Lb
set_option linter.unusedVariables false

theorem size2 (w : World) (a b : Go.Obj) : ((w.alloc a).alloc b).heap.size = w.heap.size + 2 := by simp
theorem Five.new {T : TypeId} {g : Nat} {v : Fv} {w w' : World} (h : Five T g v w) (hu : New0 w w') : Five T g v w' := (hu.block g (Array.getElem?_eq_some_iff.1 h).1 fun f => f).trans h
set_option maxHeartbeats 12800000 in
theorem spans_true (W : World) (v vx : Value) (o : IsRec v W) (ox : IsSmp vx W) :
    Calls Try.prog 6 #[v, vx] W fun e W' => e = .returned (.bool true) ∧ Below W.heap.size W W' := by
  obtain ⟨r, hv, hb, hl1, hl2⟩ := o
  obtain ⟨⟨sa, sn, sc⟩, ⟨xl, t, q⟩, rfl, hvx, hbx⟩ := ox
  obtain ⟨A1, c1, es, -, -⟩ := Rw.View.shape hvx
  injection es with es1 es2 es3
  subst es1 es2 es3
  dsimp only [Rw.Sl.v] at hvx ⊢
  have HW := Lib.hid (fun w => works_true w)
  have HG := Lib.hid (fun w (hu : New0 W w) => great_any w v r (hv.new hu) hb hl1 hl2)
  have HO := Lib.hid (fun w (hu : New0 W w) => own_any w v r (hv.new hu) hb hl1 hl2)
  have HM := Lib.hid (fun w (hu : New0 W w) => own_more w v r (hv.new hu) hb hl1 hl2)
  have HC := Lib.hid (fun w S u (hv : RView w S u r) => check_any w S u r hv hb)
  have HP := Lib.hid (fun w S u (hv : RView w S u r) => span_any w S u r hv hb)
  obtain ⟨z, hz⟩ : ∃ z, chk r = z := ⟨_, rfl⟩
  rw [hz] at HC
  obtain ⟨A, c, A', c', rfl, hs, -⟩ := RView.shape hv
  have hwx := box5 W r.kind (.slice A r.smp.length c) (.slice A' r.ms.length c') r.frm r.til
  have ux := (Upon.refl (fun _ => False) W).alloc (.cells #[.int .i64 r.kind, .slice A r.smp.length c, .slice A' r.ms.length c', .int .i64 r.frm, .int .i64 r.til] 25 (0, 0))
  obtain ⟨wa, hwa⟩ : ∃ wa, W.alloc (.cells #[.int .i64 r.kind, .slice A r.smp.length c, .slice A' r.ms.length c', .int .i64 r.frm, .int .i64 r.til] 25 (0, 0)) = wa := ⟨_, rfl⟩
  rw [hwa] at hwx ux
  have uy := (Upon.refl (fun _ => False) wa).alloc (.cells #[.slice sa xl.length sc, .int .i64 t, .int .u64 (q : Int)] 43 (0, 0))
  have hT0 : Tri 43 wa.heap.size (.slice sa xl.length sc) (.int .i64 t) (.int .u64 (q : Int)) (wa.alloc (.cells #[.slice sa xl.length sc, .int .i64 t, .int .u64 (q : Int)] 43 (0, 0))) := cell_new wa _
  obtain ⟨wx, hwx2⟩ : ∃ wx, wa.alloc (.cells #[.slice sa xl.length sc, .int .i64 t, .int .u64 (q : Int)] 43 (0, 0)) = wx := ⟨_, rfl⟩
  rw [hwx2] at uy hT0
  have esz : wa.heap.size = W.heap.size + 1 := by rw [← hwa]; simp
  rw [esz] at hT0
  have hX := Lib.hid (fun w' (hu : New0 wx w') => (hwx.new uy).new hu)
  have hY := Lib.hid (fun w' (hu : New0 wx w') => (Tri.cells (show Tri 43 (W.heap.size + 1) _ _ _ w' from (hu.block _ (Array.getElem?_eq_some_iff.1 hT0).1 fun f => f).trans hT0)))
  have hux := Lib.hid (ux.trans uy)
  have hw : Hid ((W.alloc (.cells #[.int .i64 r.kind, .slice A r.smp.length c, .slice A' r.ms.length c', .int .i64 r.frm, .int .i64 r.til] 25 (0, 0))).alloc (.cells #[.slice sa xl.length sc, .int .i64 t, .int .u64 (q : Int)] 43 (0, 0)) = wx) := Lib.hid (by rw [hwa, hwx2])
  have hS := Lib.hid (fun w (hu : New0 W w) => hs.new hu)
  have hVX := Lib.hid (fun w (hu : New0 W w) => Rw.View.new (Rw.View.mono (S' := fun b => b < W.heap.size) hvx fun b hb _ => hb) hu)
  obtain ⟨k, l, ms, a, b⟩ := r
  simp only at *
  replace hb := Lib.hid hb
  replace hbx := Lib.hid hbx
  clear hv hvx hs hwx ux uy hT0 esz hwa hwx2 hl1
  replace hl2 := Lib.hid hl2
  by_cases hk : k = 1
  · subst hk
    by_cases hz0 : z = 0
    · subst hz0
      have hco : Commit ⟨1, l, ms, a, b⟩ := by
        rcases Rc.chk_zero.1 hz with h | h
        · exact h
        · exact absurd h.kind (by simp)
      have hone := hco.one
      have hlen := hco.few
      have hbs := hb.out.smp
      simp only at hone hlen hbs
      have hsp : span ⟨1, l, ms, a, b⟩ = (mn (T0 l) l, mx (T0 l) l) := span_com hz (by simp)
      rw [hsp] at HP
      unfold ret2 at HP
      obtain ⟨g1, g2, g3, g4⟩ := mn_bnd hbs hone
      have hmn := Lib.hid (mn_mem l (T0 l))
      have hmx := Lib.hid (mx_mem l (T0 l))
      have hsn : ∀ p, p = (⟨1, l, ms, a, b⟩ : R) → chk (more p (xl, t, q)) = 0 → span (more p (xl, t, q)) = (min (mn (T0 l) l) t, max (mx (T0 l) l) t) := fun p hp h => by
        subst hp
        rw [span_com h (show (1 : Int) ≠ 2 by decide)]
        show (mn (T0 (l ++ [(xl, t, q)])) (l ++ [(xl, t, q)]), mx (T0 (l ++ [(xl, t, q)])) (l ++ [(xl, t, q)])) = _
        rw [T0_app hone, mn_snoc, mx_snoc]
      replace hsn := Lib.hid (hsn _ rfl)
      obtain ⟨pa, hpa⟩ : ∃ pa, mn (T0 l) l = pa := ⟨_, rfl⟩
      obtain ⟨pb, hpb⟩ : ∃ pb, mx (T0 l) l = pb := ⟨_, rfl⟩
      rw [hpa] at HP g1 g2 hmn hsn
      rw [hpb] at HP g3 g4 hmx hsn
      replace hone := Lib.hid hone
      clear hco hbs hsp hpa hpb hz
      go_enter Try.func6, Try.ntmps6
      go_wp2_with fail
      rw [hw.out]
      refine (HW.out _).mono ?_
      rintro e w1 ⟨rfl, hu1⟩
      obtain ⟨x0, x1, x2, x3, x4⟩ := hX.out _ hu1
      replace hu1 := Lib.hid hu1
      clear HW hw
      go_wp2_with fail
      refine (HG.out _ (hux.out.trans hu1.out)).mono ?_
      rintro e w2 ⟨bg, rfl, hn, -⟩
      have hu2 := Lib.hid (hu1.out.trans hn)
      obtain ⟨x0, x1, x2, x3, x4⟩ := hX.out _ hu2.out
      clear HG hu1 hn
      cases bg with
      | true =>
        go_wp2_with fail
        go_ret
        exact ⟨rfl, belowOf (hux.out.trans hu2.out)⟩
      | false =>
      go_wp2_with fail
      refine (HO.out _ (hux.out.trans hu2.out)).mono ?_
      rintro e w3 ⟨u, rfl, hu, hn⟩
      have HC3 := Lib.hid (HC.out _ _ _ hu)
      have hu3 := Lib.hid (hu2.out.trans hn)
      clear HC hu2 hn hu
      obtain ⟨x0, x1, x2, x3, x4⟩ := hX.out _ hu3.out
      go_wp2_with fail
      refine HC3.out.mono ?_
      rintro e w4 ⟨rfl, hn⟩
      have hu4 := Lib.hid (hu3.out.trans hn)
      obtain ⟨x0, x1, x2, x3, x4⟩ := hX.out _ hu4.out
      clear HC3 hu3 hn
      go_wp2_with fail
      refine (HO.out _ (hux.out.trans hu4.out)).mono ?_
      rintro e w5 ⟨u, rfl, hu, hn⟩
      have HP5 := Lib.hid (HP.out _ _ _ hu)
      have hu5 := Lib.hid (hu4.out.trans hn)
      clear HO hu4 hn hu HP
      obtain ⟨x0, x1, x2, x3, x4⟩ := hX.out _ hu5.out
      go_wp2_with fail
      refine HP5.out.mono ?_
      rintro e w6 ⟨rfl, hn⟩
      have hu6 := Lib.hid (hu5.out.trans hn)
      clear HP5 hu5 hn x0 x1 x2 x3 x4
      go_wp2_with fail
      go_loopw [7] (fun ov wr => ∃ j : Nat, ov = .int .i64 (j : Int) ∧ j ≤ l.length ∧ wr = w6) (fun ov _ => l.length - (intOf ov).toNat)
      case atStart => exact ⟨0, rfl, Nat.zero_le _, rfl⟩
      case round =>
        obtain ⟨j, rfl, hj, rfl⟩ := hrel
        obtain ⟨x0, x1, x2, x3, x4⟩ := hX.out _ hu6.out
        by_cases hlt : j < l.length
        · obtain ⟨g, off, rfl, -, hcells⟩ := SView.cells (hS.out _ (hux.out.trans hu6.out)) (by omega)
          obtain ⟨s9, -, r0, r1, r2⟩ := hcells j hlt
          have hm1 := hmn.out _ (List.getElem_mem hlt)
          have hm2 := hmx.out _ (List.getElem_mem hlt)
          obtain ⟨⟨yl, yt, yq⟩, hye⟩ : ∃ y, l[j] = y := ⟨_, rfl⟩
          rw [hye] at r1 hm1 hm2
          simp only at r1 hm1 hm2
          have e1 : decide (yt < pa) = false := decide_eq_false (by omega)
          have e2 : decide (pb < yt) = false := decide_eq_false (by omega)
          clear hcells r0 r2 hye
          go_wp2_with fail
          go_roundw
          case rel => exact ⟨j + 1, by go_num, hlt, trivial⟩
          case measure => simp [intOf]; omega
        · clear hmn hmx hS
          have hnew := fun w' (hu : New0 wx w') => And.intro (hX.out w' hu) (hY.out w' hu)
          clear x0 x1 x2 x3 x4
          obtain ⟨x0, x1, x2, x3, x4⟩ := hX.out _ hu6.out
          have HM6 := Lib.hid (HM.out _ (hux.out.trans hu6.out))
          clear HM
          go_wp2_with fail
          refine HM6.out.mono ?_
          rintro e w7 ⟨u7, rfl, -, hn, A9, c9, rs, ⟨ma, mn9, mc⟩, T, rfl, hmine, hown2, hlen2, hrel2, hmv, hT⟩
          dsimp only [Rw.Sl.v] at hmv hlen2 hrel2 ⊢
          have hu7 := Lib.hid (hu6.out.trans hn)
          have q4 := hn.size
          clear HM6 hn
          have q1 := hux.out.size
          have q2 := hu6.out.size
          have q3 := hu7.out.size
          have hrs : rs.length ≤ 32 := by omega
          replace hlen2 := Lib.hid hlen2
          have hF8 : Five 25 w7.heap.size ⟨.int .i64 1, .slice A9 rs.length c9, .slice ma mn9 mc, .int .i64 a, .int .i64 b⟩ (w7.alloc (.cells #[.int .i64 1, .slice A9 rs.length c9, .slice ma mn9 mc, .int .i64 a, .int .i64 b] 25 (0, 0))) := cell_new w7 _
          have u8 := (Upon.refl (fun _ => False) w7).alloc (.cells #[.int .i64 1, .slice A9 rs.length c9, .slice ma mn9 mc, .int .i64 a, .int .i64 b] 25 (0, 0))
          obtain ⟨z0, z1, z2, z3, z4⟩ := hF8.cells
          obtain ⟨-, y0, y1, y2⟩ := hnew _ (hu7.out.trans u8)
          have uB := u8.alloc (.cells #[.slice sa xl.length sc, .int .i64 t, .int .u64 (q : Int)] 43 (0, 0))
          have hMi := Lib.hid (Rw.Mine.new hmine uB)
          have hXi := view_smp (w7.alloc (.cells #[.int .i64 1, .slice A9 rs.length c9, .slice ma mn9 mc, .int .i64 a, .int .i64 b] 25 (0, 0))) ⟨sa, xl.length, sc⟩ t q
          have es8 : (w7.alloc (.cells #[.int .i64 1, .slice A9 rs.length c9, .slice ma mn9 mc, .int .i64 a, .int .i64 b] 25 (0, 0))).heap.size = w7.heap.size + 1 := by simp
          rw [es8] at hXi
          replace hXi := Lib.hid hXi
          have hlt9 := fun b (hb : (Value.slice A9 rs.length c9).ownBlock = some b) => Rw.Mine.lt hmine hb
          have hFB := Lib.hid (hF8.alloc (.cells #[.slice sa xl.length sc, .int .i64 t, .int .u64 (q : Int)] 43 (0, 0)))
          have hrelB := Lib.hid (fun i h1 h2 => innS.upon (hrel2 i h1 h2) uB (fun _ _ f => f))
          have hmvB := Lib.hid (Rw.View.new hmv uB)
          have hxB := Lib.hid (Rw.View.mono (S' := fun b => b < wr.heap.size) (hVX.out _ (hux.out.trans (hu7.out.trans uB))) (fun b _ hb => by omega))
          replace uB := Lib.hid uB
          replace hT := Lib.hid hT
          replace hown2 := Lib.hid hown2
          replace hlt9 := Lib.hid hlt9
          clear hmine hrel2 hmv u8 es8 hF8
          go_wp2_with (at_builtin; refine Rw.wpList_append typS rfl _ _ rfl _ _ rs [((⟨sa, xl.length, sc⟩ : Rw.Sl), t, q)] Rw.All rfl rfl hMi.out hXi.out (by rw [List.length_singleton]; omega) (by rw [List.length_singleton]; omega) ?_)
          intro v7 w9 hown hgr hbl
          obtain ⟨A10, c10, rfl, -, -⟩ := Rw.View.shape (show Rw.Mine layS 43 w9 v7 (rs ++ [((⟨sa, xl.length, sc⟩ : Rw.Sl), t, q)]) from hown).view
          have hF9 := hFB.out.grown hgr (by intro e; have := hlt9.out _ e.symm; omega)
          have hne : ∀ b, (Value.slice A10 (rs ++ [((⟨sa, xl.length, sc⟩ : Rw.Sl), t, q)]).length c10).ownBlock = some b → b ≠ w7.heap.size := fun b hb => by
            rcases hbl with h9 | h9
            · have := hlt9.out b (h9.symm.trans hb); omega
            · rw [hb] at h9
              injection h9 with h9
              omega
          obtain ⟨hsv, hmv9⟩ := own_app (r := ⟨1, l, ms, a, b⟩) (m := ⟨ma, mn9, mc⟩) (x := (xl, t, q)) (g := w7.heap.size) hown2.out hlen2.out hrelB.out hmvB.out (fun x hx e => by have := hT.out x hx; omega) hxB.out (by omega) hown hgr hne
          have hL : (rs ++ [((⟨sa, xl.length, sc⟩ : Rw.Sl), t, q)]).length = rs.length + 1 := by simp
          rw [hL] at hne hsv
          have hus : Upon (fun b => b = w7.heap.size) w9 (w9.setCell ⟨w7.heap.size, 1, none⟩ (.slice A10 (rs.length + 1) c10)) := Upon.setCell (S := fun b => b = w7.heap.size) (p := ⟨w7.heap.size, 1, none⟩) (Upon.refl _ w9) (.inl rfl) _
          have hRV : RView (w9.setCell ⟨w7.heap.size, 1, none⟩ (.slice A10 (rs.length + 1) c10)) All (.agg #[.int .i64 1, .slice A10 (rs.length + 1) c10, .slice ma mn9 mc, .int .i64 a, .int .i64 b]) (more ⟨1, l, ms, a, b⟩ (xl, t, q)) :=
            ⟨⟨A10, rs.length + 1, c10⟩, ⟨ma, mn9, mc⟩, rfl, Rw.DView.all (Rw.DView.upon hsv hus (fun b hb e => hb e)), Rw.View.all (Rw.View.upon hmv9 hus (fun b hb e => hb e))⟩
          have hN10 : New0 wx (w9.setCell ⟨w7.heap.size, 1, none⟩ (.slice A10 (rs.length + 1) c10)) := Upon.setCell (p := ⟨w7.heap.size, 1, none⟩) (Upon.grown (hu7.out.trans uB.out) hgr (fun k hk => .inr (by have := (hown2.out k hk).1; omega))) (.inr (by omega)) _
          obtain ⟨t0, t1, t2, t3, t4⟩ := hF9.cells
          have tf := hF9.frozen 1
          have hF10 := hF9.set1 (.slice A10 (rs.length + 1) c10)
          obtain ⟨f0, f1, f2, f3, f4⟩ := hF10.cells
          have hbm := more_bnd hb.out hbx.out
          have HO2 := Lib.hid (own_any _ _ _ hRV hbm (by show (l ++ [(xl, t, q)]).length * 40 ≤ _; rw [List.length_append, List.length_singleton]; omega) hl2.out)
          obtain ⟨m9, hz2⟩ : ∃ m9, chk (more ⟨1, l, ms, a, b⟩ (xl, t, q)) = m9 := ⟨_, rfl⟩
          have HC2 := Lib.hid (fun w S u hv => by have := check_any w S u (more ⟨1, l, ms, a, b⟩ (xl, t, q)) hv hbm; rw [hz2] at this; exact this)
          have HP2 := Lib.hid (fun w' (hu : New0 (w9.setCell ⟨w7.heap.size, 1, none⟩ (.slice A10 (rs.length + 1) c10)) w') => span_any w' All _ _ (hRV.new hu) hbm)
          obtain ⟨w10, hw10⟩ : ∃ w10, w9.setCell ⟨w7.heap.size, 1, none⟩ (.slice A10 (rs.length + 1) c10) = w10 := ⟨_, rfl⟩
          rw [hw10] at HO2 HP2 hN10 hF10
          have hYn := Lib.hid (fun w' (hu : New0 w10 w') => (hnew _ (hN10.trans hu)).2)
          replace hw10 := Lib.hid hw10
          replace hN10 := Lib.hid hN10
          replace hF10 := Lib.hid hF10
          clear hown hgr hbl hFB hne hsv hmv9 hus hRV hbm hF9 hrelB hmvB hxB uB hL hT hown2 hlt9 hlen2 hMi hXi hb hbx hl2 hnew hVX x0 x1 x2 x3 x4 y0 y1 y2 z0 z1 z2 z3 z4 hX hY
          by_cases hz0 : m9 = 0
          · have hsp := hsn.out (hz2.trans hz0)
            rw [hsp] at HP2
            unfold ret2 at HP2
            subst hz0
            obtain ⟨qa, hqa⟩ : ∃ qa, min pa t = qa := ⟨_, rfl⟩
            obtain ⟨qb, hqb⟩ : ∃ qb, max pb t = qb := ⟨_, rfl⟩
            rw [hqa, hqb] at HP2
            replace hqa := Lib.hid hqa
            replace hqb := Lib.hid hqb
            clear hz2 hsn hsp
            go_wp2_with fail
            rw [hw10.out]
            refine HO2.out.mono ?_
            rintro e w11 ⟨u2, rfl, hu, hn⟩
            have HC3 := Lib.hid (HC2.out _ _ _ hu)
            have hu11 := Lib.hid hn
            clear HO2 HC2 hn hu hw10 t0 t1 t2 t3 t4 tf f0 f1 f2 f3 f4
            go_wp2_with fail
            refine HC3.out.mono ?_
            rintro e w12 ⟨rfl, hn⟩
            have hu12 := Lib.hid (hu11.out.trans hn)
            obtain ⟨f0, f1, f2, f3, f4⟩ := (Five.new hF10.out hu12.out).cells
            have HP3 := Lib.hid (HP2.out _ hu12.out)
            clear HC3 hn hu11 HP2 hF10
            go_wp2_with fail
            refine HP3.out.mono ?_
            rintro e w13 ⟨rfl, hn⟩
            have hu13 := Lib.hid (hu12.out.trans hn)
            obtain ⟨y0, y1, y2⟩ := hYn.out _ hu13.out
            have hend := Lib.hid (belowOf (hux.out.trans (hN10.out.trans hu13.out)))
            clear HP3 hn hu12 hu13 hYn hN10 hux f0 f1 f2 f3 f4
            go_wp2_with fail
            all_goals
              go_ret
              have k1 := hqa.out
              have k2 := hqb.out
              clear hqa hqb
              exact ⟨Lb.ret_b (by first | rfl | (rw [beq_iff_eq]; omega) | (exfalso; simp_all; omega) | (simp_all; omega) | (exfalso; omega)), hend.out⟩
          · have dz : ((m9 : Int) != 0) = true := by rw [bne_iff_ne]; omega
            clear hz2 hz0 HP2 hsn hYn hF10
            go_wp2_with fail
            rw [hw10.out]
            refine HO2.out.mono ?_
            rintro e w11 ⟨u2, rfl, hu, hn⟩
            have HC3 := Lib.hid (HC2.out _ _ _ hu)
            have hu11 := Lib.hid (hN10.out.trans hn)
            clear HO2 HC2 hn hu hw10 t0 t1 t2 t3 t4 tf f0 f1 f2 f3 f4
            go_wp2_with fail
            refine HC3.out.mono ?_
            rintro e w12 ⟨rfl, hn⟩
            have hend := Lib.hid (belowOf (hux.out.trans (hu11.out.trans hn)))
            clear HC3 hn hu11
            go_wp2_with fail
            go_ret
            exact ⟨rfl, hend.out⟩
    · have dz : ((z : Int) != 0) = true := by rw [bne_iff_ne]; omega
      clear hz hz0 HM HP hS hVX hb hbx hY
      go_enter Try.func6, Try.ntmps6
      go_wp2_with fail
      rw [hw.out]
      refine (HW.out _).mono ?_
      rintro e w1 ⟨rfl, hu1⟩
      obtain ⟨x0, x1, x2, x3, x4⟩ := hX.out _ hu1
      replace hu1 := Lib.hid hu1
      clear HW hw
      go_wp2_with fail
      refine (HG.out _ (hux.out.trans hu1.out)).mono ?_
      rintro e w2 ⟨bg, rfl, hn, -⟩
      have hu2 := Lib.hid (hu1.out.trans hn)
      obtain ⟨x0, x1, x2, x3, x4⟩ := hX.out _ hu2.out
      clear HG hu1 hn
      cases bg with
      | true =>
        go_wp2_with fail
        go_ret
        exact ⟨rfl, belowOf (hux.out.trans hu2.out)⟩
      | false =>
      go_wp2_with fail
      refine (HO.out _ (hux.out.trans hu2.out)).mono ?_
      rintro e w3 ⟨u, rfl, hu, hn⟩
      have HC3 := Lib.hid (HC.out _ _ _ hu)
      have hu3 := Lib.hid (hu2.out.trans hn)
      clear HC hu2 hn hu
      obtain ⟨x0, x1, x2, x3, x4⟩ := hX.out _ hu3.out
      go_wp2_with fail
      refine HC3.out.mono ?_
      rintro e w4 ⟨rfl, hn⟩
      have hu4 := Lib.hid (hu3.out.trans hn)
      obtain ⟨x0, x1, x2, x3, x4⟩ := hX.out _ hu4.out
      clear HC3 hu3 hn
      go_wp2_with fail
      go_ret
      exact ⟨rfl, belowOf (hux.out.trans hu4.out)⟩
  · have dk : (k != 1) = true := by rw [bne_iff_ne]; exact hk
    clear hz hk HM HP hS hVX hb hbx hY HO HC
    go_enter Try.func6, Try.ntmps6
    go_wp2_with fail
    rw [hw.out]
    refine (HW.out _).mono ?_
    rintro e w1 ⟨rfl, hu1⟩
    obtain ⟨x0, x1, x2, x3, x4⟩ := hX.out _ hu1
    replace hu1 := Lib.hid hu1
    clear HW hw
    go_wp2_with fail
    refine (HG.out _ (hux.out.trans hu1.out)).mono ?_
    rintro e w2 ⟨bg, rfl, hn, -⟩
    have hu2 := Lib.hid (hu1.out.trans hn)
    obtain ⟨x0, x1, x2, x3, x4⟩ := hX.out _ hu2.out
    clear HG hu1 hn
    cases bg with
    | true =>
      go_wp2_with fail
      go_ret
      exact ⟨rfl, belowOf (hux.out.trans hu2.out)⟩
    | false =>
    go_wp2_with fail
    go_ret
    exact ⟨rfl, belowOf (hux.out.trans hu2.out)⟩
end Rc
end Go.Proofs.Ytkachkoiajdhgaa
