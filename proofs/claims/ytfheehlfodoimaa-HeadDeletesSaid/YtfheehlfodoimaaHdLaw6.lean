/- Layer 13: the law HeadDeletes. -/
import Derived.Test.YtfheehlfodoimaaHdLaw4
import Derived.Test.YtfheehlfodoimaaHdLess
import Derived.Test.YtfheehlfodoimaaHdWant
set_option maxRecDepth 100000
namespace Go.Proofs.Ytfheehlfodoimaa
open Go.RowKit Go.Sort
namespace Hd
open Bit Dsk Ob Dig
set_option linter.unusedVariables false
set_option linter.unusedSimpArgs false

theorem delView {w : World} {S : Nat → Prop} {v : Value} {ms : List Mt.M} {a b : Int} (hv : Mt.View w S v ms) : ∀ A c, v = .slice A ms.length c → Rc.RView w S (.agg #[.int .i64 2, .slice none 0 0, .slice A ms.length c, .int .i64 a, .int .i64 b]) ⟨2, [], ms, a, b⟩ :=
  fun A c e => ⟨⟨none, 0, 0⟩, ⟨A, ms.length, c⟩, rfl, Rw.DView.noth _ _ _ _, by rw [e] at hv; exact hv⟩
set_option maxHeartbeats 25600000 in
theorem deletes_true (w : World) (v dv qv : Value) (o : IsRecs v w) (od : IsAsk dv w) (oq : IsAsk qv w) : Calls Try.prog 4 #[v, dv, qv] w fun e w' => e = .returned (.bool true) ∧ Below w.heap.size w w' := by
  obtain ⟨l, hv, hb, hl⟩ := o
  obtain ⟨A, c, rfl, -, -⟩ := Rw.DView.shape hv
  obtain ⟨m, ⟨ms, qa, qb⟩, rfl, hmv, hqb, hqa, hqb2, hql⟩ := oq
  simp only at hmv hqb hqa hqb2 hql
  obtain ⟨ma, mn, mc⟩ := m
  obtain ⟨ma', mc', em, -, -⟩ := Rw.View.shape hmv
  injection em with em1 em2 em3
  subst em2
  clear em1 em3
  obtain ⟨m2, ⟨dms, da, db⟩, rfl, hdv, hdb, hda, hdb2, hdl⟩ := od
  simp only at hdv hdb hda hdb2 hdl
  obtain ⟨da0, dn, dc⟩ := m2
  obtain ⟨_, _, em, -, -⟩ := Rw.View.shape hdv
  injection em with em1 em2 em3
  subst em2
  clear em1 em3
  have hll : l.length ≤ 9223372036854775807 := by omega
  have ux1 := (Upon.refl (fun _ => False) w).alloc (.cells #[.slice da0 dms.length dc, .int .i64 da, .int .i64 db] 25 (0, 0))
  have hbd := askB w (.slice da0 dms.length dc) da db
  obtain ⟨wx1, hwx1⟩ : ∃ wx1, w.alloc (.cells #[.slice da0 dms.length dc, .int .i64 da, .int .i64 db] 25 (0, 0)) = wx1 := ⟨_, rfl⟩
  rw [hwx1] at ux1 hbd
  have sx1 : wx1.heap.size = w.heap.size + 1 := by rw [← hwx1]; simp
  have ux2 := (Upon.refl (fun _ => False) wx1).alloc (.cells #[.slice ma ms.length mc, .int .i64 qa, .int .i64 qb] 25 (0, 0))
  have hbq := askB wx1 (.slice ma ms.length mc) qa qb
  obtain ⟨wx, hwx2⟩ : ∃ wx, wx1.alloc (.cells #[.slice ma ms.length mc, .int .i64 qa, .int .i64 qb] 25 (0, 0)) = wx := ⟨_, rfl⟩
  rw [hwx2] at ux2 hbq
  rw [sx1] at hbq
  replace hbd := hbd.new ux2
  have ux := ux1.trans ux2
  have hwx : (w.alloc (.cells #[.slice da0 dms.length dc, .int .i64 da, .int .i64 db] 25 (0, 0))).alloc (.cells #[.slice ma ms.length mc, .int .i64 qa, .int .i64 qb] 25 (0, 0)) = wx := by rw [hwx1, hwx2]
  clear hwx1 hwx2 ux1 ux2 sx1
  have HG := Lib.hid (fun w1 (hu : New0 wx w1) => great_any w1 _ l (Rw.DView.new hv (ux.trans hu)) hb hl)
  have hR := Lib.hid (fun w1 (hu : New0 wx w1) i (hi : i < l.length) => RsView.at (Rw.DView.new hv (ux.trans hu)) hi)
  have hM := Lib.hid (fun w1 (hu : New0 wx w1) => (Rw.View.new hmv (ux.trans hu) : Mt.View w1 AllB (.slice ma ms.length mc) ms))
  have hMd := Lib.hid (fun w1 (hu : New0 wx w1) => (Rw.View.new hdv (ux.trans hu) : Mt.View w1 AllB (.slice da0 dms.length dc) dms))
  have hX := Lib.hid (fun w1 (hu : New0 wx w1) => hbq.new hu)
  have hD := Lib.hid (fun w1 (hu : New0 wx w1) => hbd.new hu)
  have hfin := Lib.hid (fun w1 (hu : New0 wx w1) => upBel (ux.trans hu))
  replace hb := Lib.hid hb
  replace hwx := Lib.hid hwx
  have HQ : Hid (∀ p g w1 S, IsPH p g w1 S → Srt g → Sane g → New0 wx w1 → Calls Try.prog 15 #[.pointer (some ⟨p, 0, none⟩), .slice ma ms.length mc, .int .i64 qa, .int .i64 qb] w1 fun e w' => ∃ u, e = .returned u ∧ QView w' (Lb.Nw w1) u (query g ms qa qb) ∧ New0 w1 w') := Lib.hid (fun p g w1 S k hs hsn hu => pquery_any w1 k hs hsn _ _ ms (hM.out _ hu) hqb qa qb hqa hqb2)
  have HQd : Hid (∀ p g w1 S, IsPH p g w1 S → Srt g → Sane g → New0 wx w1 → Calls Try.prog 15 #[.pointer (some ⟨p, 0, none⟩), .slice da0 dms.length dc, .int .i64 da, .int .i64 db] w1 fun e w' => ∃ u, e = .returned u ∧ QView w' (Lb.Nw w1) u (query g dms da db) ∧ New0 w1 w') := Lib.hid (fun p g w1 S k hs hsn hu => pquery_any w1 k hs hsn _ _ dms (hMd.out _ hu) hdb da db hda hdb2)
  have hbnd : Hid (Rc.Bnd ⟨2, [], dms, da, db⟩) := Lib.hid ⟨(show (-9223372036854775808 : Int) ≤ 2 ∧ (2 : Int) ≤ 9223372036854775807 by decide), fun x hx => (by cases hx), hdb, hda, hdb2⟩
  clear hv hmv hdv ux hbd hbq hqb hqa hqb2 hdb hda hdb2 hM
  go_enter Try.func4, Try.ntmps4
  go_wp2_with fail
  rw [hwx.out]
  refine (works_any wx).mono ?_
  rintro e w1 ⟨rfl, hu1⟩
  have HG1 := Lib.hid (HG.out _ hu1)
  replace hu1 := Lib.hid hu1
  clear HG hwx
  go_wp2_with fail
  refine HG1.out.mono ?_
  rintro e w2 ⟨bg, rfl, hu2, hsm⟩
  have hu3' := hu1.out.trans hu2
  obtain ⟨k0, k1, k2⟩ := hX.out _ hu3'
  obtain ⟨j0, j1, j2⟩ := hD.out _ hu3'
  replace hu3' := Lib.hid hu3'
  clear HG1 hu1 hu2
  cases bg with
  | true =>
    clear hsm
    go_wp2_with fail
    go_ret
    exact ⟨rfl, hfin.out _ hu3'.out⟩
  | false =>
      replace hsm := Lib.hid (hsm rfl).2
      obtain ⟨N, hN⟩ : ∃ N : Nat, ms.length + dms.length = N := ⟨_, rfl⟩
      have hsum : wrap64 ((ms.length : Int) + (dms.length : Int)) = (N : Int) := by unfold wrap64; omega
      by_cases h50 : 50 < N
      · have d : decide ((50 : Int) < (N : Int)) = true := decide_eq_true (by omega)
        go_wp2_with fail
        go_ret
        exact ⟨rfl, hfin.out _ hu3'.out⟩
      have d : decide ((50 : Int) < (N : Int)) = false := decide_eq_false (by omega)
      have hd50 : dms.length ≤ 50 := by omega
      go_wp2_with fail
      refine (pnew_any w2).mono ?_
      rintro e w4 ⟨p, S4, rfl, hp, hS4, hu4⟩
      have h4 := Lib.hid (phStart Mt.thingNo (noStart hu3'.out) hp hS4 hu4)
      clear hp hS4 hu4 hu3' k0 k1 k2 j0 j1 j2 d hsum hN h50 hql hdl
      go_wp2_with fail
      go_loopw [8] (fun ov wr => ∃ (j : Nat) (g : H), ov = .int .i64 (j : Int) ∧ j ≤ l.length ∧ j ≤ 50 ∧ Hid (g = apps [] (l.take j)) ∧ Hid (Srt g) ∧ Hid (SaneN (1000 * (100 - j)) g) ∧ Hid (Ob.Own (Tens (IsPH p g) (Mt.NoO)) wx wr)) (fun ov _ => l.length - (intOf ov).toNat)
      case atStart => exact ⟨0, [], rfl, Nat.zero_le _, Nat.zero_le _, Lib.hid rfl, Lib.hid srt_nil, Lib.hid (SaneN.nil (by decide)), h4⟩
      case round =>
        obtain ⟨j, g, rfl, hj, hj5, hge, hs, hsn, ho⟩ := hrel
        by_cases hgo : j < l.length ∧ j < 50
        · obtain ⟨hlt, hltK⟩ := hgo
          have d1 : decide ((j : Int) < (l.length : Int)) = true := decide_eq_true (by omega)
          have d2 : decide ((j : Int) < 50) = true := decide_eq_true (by omega)
          obtain ⟨b0, off, A1, c1, A2, c2, rfl, -, x0, x1, x2, x3, x4, hrv, -⟩ := hR.out _ (newOf ho.out.bel) j hlt
          obtain ⟨hb1, hb2, hb3⟩ := hb.out _ (List.getElem_mem hlt)
          have hsj := hsm.out _ (List.getElem_mem hlt)
          have HO := Lib.hid (Rc.own_any wr _ _ hrv hb1 hb2 hb3)
          obtain ⟨hn1, hn2⟩ := room_nextC hsn.out (show j < 100 by omega) hsj
          have hs2' := Lib.hid (hs.out.app l[j])
          have hge' : Hid (app g l[j] = apps [] (l.take (j + 1))) := Lib.hid (by rw [hge.out, apps_step hlt])
          have HA := Lib.hid (fun u w' (k1 : Rc.RView w' (Lb.Nw wr) u l[j]) (k2 : New0 wr w') => pappNew Mt.thingNo ho.out k1 k2 hs.out hb1 hn1 hsj.lab)
          have hn2' := Lib.hid hn2
          obtain ⟨z, hz⟩ : ∃ z : Nat, tr g l[j] = z := ⟨_, rfl⟩
          rw [hz] at HA
          obtain ⟨g2, hg2⟩ : ∃ g2, app g l[j] = g2 := ⟨_, rfl⟩
          rw [hg2] at HA hn2' hs2' hge'
          obtain ⟨rj, hrj⟩ : ∃ rj, l[j] = rj := ⟨_, rfl⟩
          rw [hrj] at x0 x1 x2 x3 x4 HO HA
          clear hrv hb1 hb2 hb3 hsj hn1 hn2 hz hg2 hrj hs hsn ho hge
          go_wp2_with fail
          refine HO.out.mono ?_
          rintro e w5 ⟨u, rfl, hv5, hu5⟩
          obtain ⟨A5, c5, A5', c5', rfl, -, -⟩ := Rc.RView.shape hv5
          have HA5 := Lib.hid (HA.out _ _ hv5 hu5)
          clear HO HA hv5 hu5 x0 x1 x2 x3 x4
          go_wp2_with fail
          refine HA5.out.mono ?_
          rintro e w6 ⟨rfl, h6⟩
          replace h6 := Lib.hid h6
          clear HA5
          go_wp2_with fail
          go_roundw
          case rel => exact ⟨j + 1, g2, by go_num, hlt, hltK, hge', hs2', hn2', h6⟩
          case measure => simp [intOf]; omega
        · have hje : Hid (j = min l.length 50) := Lib.hid (by omega)
          have hcase : (j < l.length ∧ ¬ j < 50) ∨ ¬ j < l.length := by
            by_cases h1 : j < l.length
            · exact .inl ⟨h1, fun h2 => hgo ⟨h1, h2⟩⟩
            · exact .inr h1
          clear hgo
          rcases hcase with ⟨hlt, h5⟩ | hlt
          case' inl =>
            have d1 : decide ((j : Int) < (l.length : Int)) = true := decide_eq_true (by omega)
            have d2 : decide ((j : Int) < 50) = false := decide_eq_false (by omega)
          case' inr =>
            have d1 : decide ((j : Int) < (l.length : Int)) = false := decide_eq_false (by omega)
          all_goals
            clear h4
            obtain ⟨g0, hg0⟩ : ∃ g0, g0 = g := ⟨_, rfl⟩
            subst hg0
            have hs0 := hs
            clear hs
            have hsan : Hid (SaneN (List.length ([] : List Rc.Smp)) g0) := Lib.hid (hsn.out.less (by simp))
            have hsane0 : Sane g0 := hsan.out.sane
            obtain ⟨Q1, hQ1⟩ : ∃ Q1, query g0 ms qa qb = Q1 := ⟨_, rfl⟩
            obtain ⟨Q2, hQ2⟩ : ∃ Q2, query g0 dms da db = Q2 := ⟨_, rfl⟩
            replace hQ1 := Lib.hid hQ1
            replace hQ2 := Lib.hid hQ2
            have h5 := ho.out
            obtain ⟨Sp5, hSp5⟩ := h5.seeL
            have HQ5 := HQ.out p g0 _ _ hSp5 hs0.out hsane0 (newOf h5.bel)
            rw [hQ1.out] at HQ5
            replace HQ5 := Lib.hid HQ5
            obtain ⟨k0, k1, k2⟩ := hX.out _ (newOf h5.bel)
            replace h5 := Lib.hid h5
            replace hsane0 := Lib.hid hsane0
            clear hSp5 ho hsn hge
            go_wp2_with fail
            refine HQ5.out.mono ?_
            rintro e w6 ⟨u1, rfl, hq6, hu6⟩
            have h6 := qMade (thingPH p g0) h5.out.dropr hq6 hu6
            obtain ⟨Sp6, hSp6⟩ := h6.seeL
            have HQ6 := HQd.out p g0 _ _ hSp6 hs0.out hsane0.out (newOf h6.bel)
            rw [hQ2.out] at HQ6
            replace HQ6 := Lib.hid HQ6
            clear k0 k1 k2
            obtain ⟨j0, j1, j2⟩ := hD.out _ (newOf h6.bel)
            replace h6 := Lib.hid h6
            clear HQ5 h5 hq6 hu6 hSp6
            go_wp2_with fail
            refine HQ6.out.mono ?_
            rintro e w7 ⟨u2, rfl, hq7, hu7⟩
            have h7 := Lib.hid (qMade (Tens.ob (thingPH p g0) (thingQB u1 Q1)) h6.out hq7 hu7).assoc
            clear HQ6 h6 hq7 hu7 j0 j1 j2
            have hme := Lib.hid (fun W : World => Rw.Mine.empty Mt.layM (T := 92) (cell_new W (.cells #[] 92 (0, 0))))
            have hdm := Lib.hid (fun W (hu : New0 w7 W) => hMd.out W ((newOf h7.out.bel).trans hu))
            have hDc := Lib.hid (fun W (hu : New0 wx W) => hD.out W hu)
            have hn7 := Lib.hid (newOf h7.out.bel)
            have HA := Lib.hid (fun u w' (k1 : Rc.RView w' (Lb.Nw w7) u ⟨2, [], dms, da, db⟩) (k2 : New0 w7 w') => pappNew (Tens.ob (thingQB u1 Q1) (thingQB u2 Q2)) h7.out k1 k2 hs0.out hbnd.out hsan.out (fun x hx => (by cases hx)))
            obtain ⟨z, hz⟩ : ∃ z : Nat, tr g0 ⟨2, [], dms, da, db⟩ = z := ⟨_, rfl⟩
            obtain ⟨g1, hg1⟩ : ∃ g1, app g0 ⟨2, [], dms, da, db⟩ = g1 := ⟨_, rfl⟩
            rw [hz, hg1] at HA
            replace hz := Lib.hid hz
            replace hg1 := Lib.hid hg1
            obtain ⟨j0, j1, j2⟩ := hD.out _ hn7.out
            go_wp2_with fail
            go_region_held3 (fun w' => w'.cell? ⟨w.heap.size, 0, none⟩ = some (.slice da0 dms.length dc) ∧ w'.cell? ⟨w.heap.size, 1, none⟩ = some (.int .i64 da) ∧ w'.cell? ⟨w.heap.size, 2, none⟩ = some (.int .i64 db))
              ((first | exact hD.out _ (newOf h12.bel) | exact hD.out _ (hn7.out.trans hn1) | exact hD.out _ (hn7.out.trans (by repeat (first | assumption | exact Upon.refl _ _ | refine Upon.drew ?_ | refine Upon.alloc ?_ _)))))
              (first
              | (refine Rw.step_append Mt.typM (o := ⟨some 68, _, _, _, _, _⟩) (by rfl) _ _ (by rfl) _ _ [] dms AllB (by rfl) (by rfl) (hme.out _) (hdm.out _ (by repeat (first | assumption | exact Upon.refl _ _ | refine Upon.drew ?_ | refine Upon.alloc ?_ _))) (by rw [List.length_nil]; omega) (by rw [List.length_nil]; omega) ?_
                 intro v3 x1 hm1 hgr1 hbl1
                 have hn1 : New0 w7 x1 := Upon.grown (by repeat (first | assumption | exact Upon.refl _ _ | refine Upon.drew ?_ | refine Upon.alloc ?_ _)) hgr1 (fun g h => .inr (by injection h with h; rw [← h]; simp))
                 obtain ⟨A3, c3, rfl, -, -⟩ := Rw.View.shape (show Rw.Mine Mt.layM 92 x1 v3 dms from hm1).view
                 have hv3 : Mt.View x1 (Lb.Nw w7) (.slice A3 dms.length c3) dms := (show Rw.Mine Mt.layM 92 x1 (.slice A3 dms.length c3) dms from hm1).view.mono (fun b _ hb => by
                   rcases hbl1 with h9 | h9 <;> rw [hb] at h9 <;> injection h9 with h9 <;> rw [h9] <;> simp [Lb.Nw])
                 clear hgr1 hbl1 hm1)
              | (go_at_call 11; refine (HA.out _ _ (delView hv3 _ _ rfl) (by first | exact hn1 | exact hn1.trans (by repeat (first | assumption | exact Upon.refl _ _ | refine Upon.drew ?_ | refine Upon.alloc ?_ _)))).mono ?_; rintro e wq ⟨rfl, h12⟩)
              | fail)
            replace hz := hz
            clear HA hme hdm j0 j1 j2 hn7
            by_cases hz0 : z = 0
            case neg =>
              have dz : ((z : Int) != 0) = true := by rw [bne_iff_ne]; omega
              have e1 : g1 = g0 := by rw [← hg1.out, app_no (by rw [hz.out]; exact hz0)]
              rw [e1] at h12
              obtain ⟨S12, hS12⟩ := h12.seeL
              have HQ12 := HQ.out p g0 _ _ hS12 hs0.out hsane0.out (newOf h12.bel)
              rw [hQ1.out] at HQ12
              replace HQ12 := Lib.hid HQ12
              obtain ⟨k0, k1, k2⟩ := hX.out _ (newOf h12.bel)
              replace h12 := Lib.hid h12
              clear hS12 hn1 hv3 e1 h7
              go_wp2_with fail
              refine HQ12.out.mono ?_
              rintro e w13 ⟨u13, rfl, hq13, hu13⟩
              have h13 := h12.out.upon0 (Tens.ob (thingPH _ _) (Tens.ob (thingQB _ _) (thingQB _ _))) hu13
              obtain ⟨SQ, hSQ⟩ := h13.dropl.seeL
              have HS := Lib.hid (qsame_any _ _ _ _ _ Q1 Q1 hq13 hSQ.1)
              rw [decide_eq_true rfl] at HS
              replace h13 := Lib.hid h13
              clear HQ12 h12 hq13 hu13 hSQ k0 k1 k2
              go_wp2_with fail
              refine HS.out.mono ?_
              rintro e w14 ⟨rfl, k14, rfl⟩
              have hn14 := Lib.hid ((newOf h13.out.bel).trans (upon_drewN _ _ k14))
              clear HS h13
              go_wp2_with fail
              go_ret
              exact ⟨rfl, hfin.out _ hn14.out⟩
            case pos =>
              have dz : ((z : Int) != 0) = false := by rw [hz0]; rfl
              have e1 : g1 = del g0 dms da db := by rw [← hg1.out, app_del (by rw [hz.out]; exact hz0) rfl]
              have hs1 : Hid (Srt g1) := Lib.hid (by rw [← hg1.out]; exact hs0.out.app _)
              have hsane1 : Hid (Sane g1) := Lib.hid (by rw [e1]; exact (SaneN.del hsan.out _ _ _).sane)
              have hQ3 : Hid (query g1 ms qa qb = wantL Q1 Q2) := Lib.hid (by rw [e1, ← hQ1.out, ← hQ2.out, want_is hs0.out])
              have hQ4 : Hid (query g1 dms da db = []) := Lib.hid (by rw [e1]; exact gone_is _ _ _ _)
              obtain ⟨S12, hS12⟩ := h12.seeL
              have HQ12 := HQ.out p g1 _ _ hS12 hs1.out hsane1.out (newOf h12.bel)
              rw [hQ3.out] at HQ12
              replace HQ12 := Lib.hid HQ12
              obtain ⟨k0, k1, k2⟩ := hX.out _ (newOf h12.bel)
              replace h12 := Lib.hid h12
              clear hS12 hn1 hv3 e1 h7
              go_wp2_with fail
              refine HQ12.out.mono ?_
              rintro e w13 ⟨u3, rfl, hq13, hu13⟩
              have h13 := Lib.hid (qMade (Tens.ob (thingPH p g1) (Tens.ob (thingQB u1 Q1) (thingQB u2 Q2))) h12.out hq13 hu13)
              clear HQ12 h12 hq13 hu13 k0 k1 k2
              have hl1 : Q1.length ≤ 1000000000 := by rw [← hQ1.out]; exact Nat.le_trans (query_len _ _ _ _) hsane0.out.len
              have hl2 : Q2.length ≤ 1000000000 := by rw [← hQ2.out]; exact Nat.le_trans (query_len _ _ _ _) hsane0.out.len
              have hpt : Hid (∀ y ∈ Q1, y.2.length ≤ 1000000000) := Lib.hid (fun y hy => by rw [← hQ1.out] at hy; exact query_pts hsane0.out hy)
              obtain ⟨S1, hS1⟩ := h13.out.dropr.dropl.seeL
              obtain ⟨S2, hS2⟩ := h13.out.dropr.dropl.seeR
              obtain ⟨A1, c1, e1, -, -⟩ := Rw.DView.shape hS1.1
              subst e1
              obtain ⟨A2, c2, e2, -, -⟩ := Rw.DView.shape hS2.1
              subst e2
              have hV1 := Lib.hid (fun W (hu : New0 w13 W) => (Rw.DView.new hS1.1 hu : QView W S1 (.slice A1 Q1.length c1) Q1))
              have hV2 := Lib.hid (fun W (hu : New0 w13 W) => (Rw.DView.new hS2.1 hu : QView W S2 (.slice A2 Q2.length c2) Q2))
              have hS1b := Lib.hid hS1.2
              have hS2b := Lib.hid hS2.2
              clear hS1 hS2
              go_wp2_with fail
              go_loopw [12, 13] (fun u ov wr => ∃ (j : Nat) (m : List Ser) (rs : List RQ), ov = .int .i64 (j : Int) ∧ j ≤ Q1.length ∧ Hid (wantL (Q1.take j) Q2 = m) ∧ Hid (WantE w13 wr u rs m)) (fun _ ov _ => Q1.length - (intOf ov).toNat)
              case atStart => exact ⟨0, [], [], rfl, Nat.zero_le _, Lib.hid (by simp [wantL]), Lib.hid (WantE.start _)⟩
              case round =>
                obtain ⟨i, m, rs, rfl, hi, hm, hw⟩ := hrel
                obtain ⟨wo, hwo⟩ : ∃ wo, wo = wr := ⟨_, rfl⟩
                subst hwo
                obtain ⟨A7, c7, hu7, -, -⟩ := Rw.View.shape hw.out.row.view
                subst hu7
                by_cases hlt : i < Q1.length
                · obtain ⟨b1, off1, rfl, -, hc1⟩ := qcells (hV1.out _ hw.out.new) (by omega)
                  obtain ⟨⟨sa, sn, sc⟩, ⟨ta, tn, tc⟩, hsv, htv, x0, x1⟩ := hc1 i hlt
                  have hst := wantL_take Q1 Q2 hlt
                  have hpl := hpt.out _ (List.getElem_mem hlt)
                  obtain ⟨⟨lab, ps⟩, hp⟩ : ∃ y, Q1[i] = y := ⟨_, rfl⟩
                  rw [hp] at hsv htv hst hpl
                  simp only at hsv htv hst hpl x0 x1
                  obtain ⟨_, _, es, -, -⟩ := Rw.View.shape hsv
                  injection es with es1 es2 es3
                  subst es2
                  obtain ⟨_, _, et, -, -⟩ := Rw.View.shape htv
                  injection et with et1 et2 et3
                  subst et2
                  clear hc1 hp es1 es3 et1 et3
                  rw [hm.out] at hst
                  replace hst := Lib.hid hst
                  have hT0 : Hid (Two wo.heap.size (.slice sa lab.length sc) (.slice ta ps.length tc) (wo.alloc (.cells #[.slice sa lab.length sc, .slice ta ps.length tc] 45 (0, 0)))) := Lib.hid (cell_new wo _)
                  have hN0 : Hid (New0 wo (wo.alloc (.cells #[.slice sa lab.length sc, .slice ta ps.length tc] 45 (0, 0)))) := Lib.hid ((Upon.refl _ wo).alloc _)
                  have hws := hw.out.new.size
                  have hml : rs.length ≤ 1000000000 := by rw [hw.out.len, ← hm.out]; exact Nat.le_trans (wantL_le _ _ _) hl1
                  have hP0 : Hid (∃ T : Nat → Prop, Rw.View layP (wo.alloc (.cells #[.slice sa lab.length sc, .slice ta ps.length tc] 45 (0, 0))) T (.slice ta ps.length tc) ps ∧ ∀ x, T x → x < (wo.alloc (.cells #[.slice sa lab.length sc, .slice ta ps.length tc] 45 (0, 0))).heap.size ∧ x ≠ wo.heap.size ∧ (x < w13.heap.size ∨ wo.heap.size < x)) := Lib.hid ⟨S1, Rw.View.new htv hN0.out, fun x hx => by
                    have h1 := hS1b.out x hx
                    have h2 := hN0.out.size
                    exact ⟨by omega, by omega, .inl h1⟩⟩
                  have hsv' := Lib.hid hsv
                  have hw' := hw
                  clear hsv htv hm hw
                  go_wp2_with fail
                  go_loopw [15] (fun ov wr => ∃ (k : Nat) (ua : Option Addr) (uc : Nat) (qs : List Pt), ov = .int .i64 (k : Int) ∧ k ≤ Q2.length ∧ Hid (cutB (Q2.take k) lab ps = qs) ∧ Hid (Two wo.heap.size (.slice sa lab.length sc) (.slice ua qs.length uc) wr) ∧ Hid (New0 wo wr) ∧ Hid (∃ T : Nat → Prop, Rw.View layP wr T (.slice ua qs.length uc) qs ∧ ∀ x, T x → x < wr.heap.size ∧ x ≠ wo.heap.size ∧ (x < w13.heap.size ∨ wo.heap.size < x))) (fun ov _ => Q2.length - (intOf ov).toNat)
                  case atStart => exact ⟨0, ta, tc, ps, rfl, Nat.zero_le _, Lib.hid (by simp [cutB]), hT0, hN0, hP0⟩
                  case round =>
                    clear hT0 hN0 hP0 x0 x1
                    obtain ⟨k, ua, uc, qs, rfl, hk, hqs, hT, hN, hP⟩ := hrel
                    obtain ⟨g0', g1'⟩ := hT.out.cells
                    by_cases hkl : k < Q2.length
                    · obtain ⟨b2, off2, rfl, -, hc2⟩ := qcells (hV2.out _ (hw'.out.new.trans hN.out)) (by omega)
                      obtain ⟨⟨s2a, s2n, s2c⟩, ⟨t2a, t2n, t2c⟩, hsv2, htv2, y0, y1⟩ := hc2 k hkl
                      have hcut := cutB_take Q2 lab ps hkl
                      obtain ⟨⟨lab2, ps2⟩, hp2⟩ : ∃ y, Q2[k] = y := ⟨_, rfl⟩
                      rw [hp2] at hsv2 htv2 hcut
                      simp only at hsv2 htv2 hcut y0 y1
                      obtain ⟨_, _, es, -, -⟩ := Rw.View.shape hsv2
                      injection es with es1 es2 es3
                      subst es2
                      obtain ⟨_, _, et, -, -⟩ := Rw.View.shape htv2
                      injection et with et1 et2 et3
                      subst et2
                      clear hc2 hp2 es1 es3 et1 et3
                      rw [hqs.out] at hcut
                      replace hcut := Lib.hid hcut
                      have hsvq := Rw.View.new hsv'.out hN.out
                      have hone1 : Hid (∀ W b, W.heap[b]? = some (.cells #[.slice s2a lab2.length s2c, .slice none 0 0] 45 (0, 0)) → New0 wr W → QView W Rw.All (.slice (some ⟨b, 0, none⟩) 1 1) [(lab2, [])]) := Lib.hid (fun W b h hu => ⟨[(⟨s2a, lab2.length, s2c⟩, ⟨none, 0, 0⟩)], row_one h rfl trivial, rfl, fun x k1 k2 => by
                        have : x = 0 := by simpa using k1
                        subst this
                        exact ⟨(Rw.View.new hsv2 hu).mono fun _ _ _ => trivial, Rw.View.noth _ _ _⟩⟩)
                      have hone2 : Hid (∀ W b, W.heap[b]? = some (.cells #[.slice sa lab.length sc, .slice none 0 0] 45 (0, 0)) → New0 wr W → QView W Rw.All (.slice (some ⟨b, 0, none⟩) 1 1) [(lab, [])]) := Lib.hid (fun W b h hu => ⟨[(⟨sa, lab.length, sc⟩, ⟨none, 0, 0⟩)], row_one h rfl trivial, rfl, fun x k1 k2 => by
                        have : x = 0 := by simpa using k1
                        subst this
                        exact ⟨(Rw.View.new hsvq hu).mono fun _ _ _ => trivial, Rw.View.noth _ _ _⟩⟩)
                      have hG0 := Lib.hid (fun W (hu : New0 wr W) => Lb.New0.cells hu g0')
                      have hY0 := Lib.hid (fun W (hu : New0 wr W) => Lb.New0.cells hu y0)
                      have hY1 := Lib.hid (fun W (hu : New0 wr W) => Lb.New0.cells hu y1)
                      have htv2' := Lib.hid htv2
                      have hNx : Hid (∀ W, New0 wr W → Hid (Two wo.heap.size (.slice sa lab.length sc) (.slice ua qs.length uc) W) ∧ Hid (New0 wo W) ∧ Hid (∃ T : Nat → Prop, Rw.View layP W T (.slice ua qs.length uc) qs ∧ ∀ x, T x → x < W.heap.size ∧ x ≠ wo.heap.size ∧ (x < w13.heap.size ∨ wo.heap.size < x))) := Lib.hid (fun W hu => ⟨Lib.hid (hT.out.new hu), Lib.hid (hN.out.trans hu), Lib.hid (let ⟨T, h1, h2⟩ := hP.out; ⟨T, Rw.View.new h1 hu, fun x hx => ⟨Nat.lt_of_lt_of_le (h2 x hx).1 hu.size, (h2 x hx).2⟩⟩)⟩)
                      have hql : qs.length ≤ 1000000000 := by rw [← hqs.out]; exact Nat.le_trans (cutB_len _ _ _) hpl
                      have hS24 : Hid (∀ W, New0 wr W → W.cell? ⟨wo.heap.size, 1, none⟩ = some (.slice ua qs.length uc) ∧ W.frozen? ⟨wo.heap.size, 1, none⟩ = false ∧ W.cell? ⟨b2, off2 + k * 2 + 1, none⟩ = some (.slice t2a ps2.length t2c)) := Lib.hid (fun W hu => ⟨(hT.out.new hu).cells.2, (hT.out.new hu).frozen 1, hY1.out W hu⟩)
                      have HLs : Hid (∀ W, New0 wr W → Calls Try.prog 16 #[.slice ua qs.length uc, .slice t2a ps2.length t2c] W fun e w' => ∃ u, e = .returned u ∧ OwnP W w' u (lessL qs ps2)) := Lib.hid (fun W hu => let ⟨T, h1, _⟩ := hP.out; less_any W T S2 _ _ qs ps2 (Rw.View.new h1 hu) (Rw.View.new htv2 hu) hql)
                      have hEnd : Hid (∀ W w7 A9 c9, New0 wr W → OwnP W w7 (.slice A9 (lessL qs ps2).length c9) (lessL qs ps2) → Hid (Two wo.heap.size (.slice sa lab.length sc) (.slice A9 (lessL qs ps2).length c9) (w7.setCell ⟨wo.heap.size, 1, none⟩ (.slice A9 (lessL qs ps2).length c9))) ∧ Hid (New0 wo (w7.setCell ⟨wo.heap.size, 1, none⟩ (.slice A9 (lessL qs ps2).length c9))) ∧ Hid (∃ T : Nat → Prop, Rw.View layP (w7.setCell ⟨wo.heap.size, 1, none⟩ (.slice A9 (lessL qs ps2).length c9)) T (.slice A9 (lessL qs ps2).length c9) (lessL qs ps2) ∧ ∀ x, T x → x < (w7.setCell ⟨wo.heap.size, 1, none⟩ (.slice A9 (lessL qs ps2).length c9)).heap.size ∧ x ≠ wo.heap.size ∧ (x < w13.heap.size ∨ wo.heap.size < x))) := Lib.hid (fun W w7 A9 c9 hu ho => by
                        have hlt7 : wo.heap.size < W.heap.size := Nat.lt_of_lt_of_le (Array.getElem?_eq_some_iff.1 hT.out).1 hu.size
                        have esz : (w7.setCell ⟨wo.heap.size, 1, none⟩ (.slice A9 (lessL qs ps2).length c9)).heap.size = w7.heap.size := by simp [World.setCell]
                        refine ⟨Lib.hid ((hT.out.new (hu.trans ho.2.2)).set1 _), Lib.hid (Upon.setCell (p := ⟨wo.heap.size, 1, none⟩) (hN.out.trans (hu.trans ho.2.2)) (.inr (Nat.le_refl _)) _), Lib.hid ⟨fun x => (Value.slice A9 (lessL qs ps2).length c9).ownBlock = some x, Rw.View.upon ho.1.view (Upon.setCell (S := fun b => b = wo.heap.size) (p := ⟨wo.heap.size, 1, none⟩) (Upon.refl _ w7) (.inl rfl) _) (fun b hb e => ?_), fun x hx => ?_⟩⟩
                        · have := ho.2.1 b hb; omega
                        · have h1 := ho.2.1 x hx
                          have h2 := Rw.Mine.lt ho.1 hx
                          exact ⟨by omega, by omega, .inr (by omega)⟩)
                      clear hsvq hsv2 htv2 g1' y1
                      obtain ⟨bs, hbs⟩ : ∃ bs, decide (([(lab2, [])] : List Ser) = [(lab, [])]) = bs := ⟨_, rfl⟩
                      replace hbs := Lib.hid hbs
                      go_wp2_with fail
                      cases bs with
                      | false =>
                        have hcut2 : Hid (cutB (Q2.take (k + 1)) lab ps = qs) := Lib.hid (by rw [hcut.out, if_neg (fun e => of_decide_eq_false hbs.out (by rw [e]))])
                        clear hcut
                        go_region_held3 (fun w' => w'.cell? ⟨wo.heap.size, 0, none⟩ = some (.slice sa lab.length sc) ∧ w'.cell? ⟨b2, off2 + k * 2, none⟩ = some (.slice s2a lab2.length s2c))
                          ((first | exact ⟨hG0.out _ (Upon.trans (by repeat (first | assumption | exact Upon.refl _ _ | refine Upon.drew ?_ | refine Upon.alloc ?_ _)) (upon_drewN _ _ _)), hY0.out _ (Upon.trans (by repeat (first | assumption | exact Upon.refl _ _ | refine Upon.drew ?_ | refine Upon.alloc ?_ _)) (upon_drewN _ _ _))⟩ | exact ⟨hG0.out _ (by repeat (first | assumption | exact Upon.refl _ _ | refine Upon.drew ?_ | refine Upon.alloc ?_ _)), hY0.out _ (by repeat (first | assumption | exact Upon.refl _ _ | refine Upon.drew ?_ | refine Upon.alloc ?_ _))⟩))
                          (first
                          | (go_at_call 14; refine (qsame_any _ Rw.All Rw.All _ _ [(lab2, [])] [(lab, [])] (hone1.out _ _ (by (first | exact (cell_two _ _ _).1 | exact (cell_two _ _ _).2 | simp [World.alloc, World.drew, Array.getElem?_push])) (by repeat (first | assumption | exact Upon.refl _ _ | refine Upon.drew ?_ | refine Upon.alloc ?_ _))) (hone2.out _ _ (by (first | exact (cell_two _ _ _).1 | exact (cell_two _ _ _).2 | simp [World.alloc, World.drew, Array.getElem?_push])) (by repeat (first | assumption | exact Upon.refl _ _ | refine Upon.drew ?_ | refine Upon.alloc ?_ _)))).mono ?_; rintro e wc ⟨rfl, kc, rfl⟩; rw [hbs.out])
                          | fail)
                        all_goals
                          clear hone1 hone2 hG0 hY0 hY1
                          go_wp2_with fail
                          go_roundw
                          case rel => exact ⟨k + 1, ua, uc, qs, by go_num, hkl, hcut2, (hNx.out _ (Upon.trans (by repeat (first | assumption | exact Upon.refl _ _ | refine Upon.drew ?_ | refine Upon.alloc ?_ _)) (upon_drewN _ _ _))).1, (hNx.out _ (Upon.trans (by repeat (first | assumption | exact Upon.refl _ _ | refine Upon.drew ?_ | refine Upon.alloc ?_ _)) (upon_drewN _ _ _))).2.1, (hNx.out _ (Upon.trans (by repeat (first | assumption | exact Upon.refl _ _ | refine Upon.drew ?_ | refine Upon.alloc ?_ _)) (upon_drewN _ _ _))).2.2⟩
                          case measure => simp [intOf]; omega
                      | true =>
                        have hcut2 : Hid (cutB (Q2.take (k + 1)) lab ps = lessL qs ps2) := Lib.hid (by rw [hcut.out, if_pos (by have := of_decide_eq_true hbs.out; simpa using this)])
                        clear hcut
                        go_region_held3 (fun w' => w'.cell? ⟨wo.heap.size, 0, none⟩ = some (.slice sa lab.length sc) ∧ w'.cell? ⟨b2, off2 + k * 2, none⟩ = some (.slice s2a lab2.length s2c))
                          ((first | exact ⟨hG0.out _ (Upon.trans (by repeat (first | assumption | exact Upon.refl _ _ | refine Upon.drew ?_ | refine Upon.alloc ?_ _)) (upon_drewN _ _ _)), hY0.out _ (Upon.trans (by repeat (first | assumption | exact Upon.refl _ _ | refine Upon.drew ?_ | refine Upon.alloc ?_ _)) (upon_drewN _ _ _))⟩ | exact ⟨hG0.out _ (by repeat (first | assumption | exact Upon.refl _ _ | refine Upon.drew ?_ | refine Upon.alloc ?_ _)), hY0.out _ (by repeat (first | assumption | exact Upon.refl _ _ | refine Upon.drew ?_ | refine Upon.alloc ?_ _))⟩))
                          (first
                          | (go_at_call 14; refine (qsame_any _ Rw.All Rw.All _ _ [(lab2, [])] [(lab, [])] (hone1.out _ _ (by (first | exact (cell_two _ _ _).1 | exact (cell_two _ _ _).2 | simp [World.alloc, World.drew, Array.getElem?_push])) (by repeat (first | assumption | exact Upon.refl _ _ | refine Upon.drew ?_ | refine Upon.alloc ?_ _))) (hone2.out _ _ (by (first | exact (cell_two _ _ _).1 | exact (cell_two _ _ _).2 | simp [World.alloc, World.drew, Array.getElem?_push])) (by repeat (first | assumption | exact Upon.refl _ _ | refine Upon.drew ?_ | refine Upon.alloc ?_ _)))).mono ?_; rintro e wc ⟨rfl, kc, rfl⟩; rw [hbs.out])
                          | fail)
                        all_goals
                          clear hone1 hone2 hG0 hY0 hNx
                          go_wp2_with fail
                          refine HeldS.wp_region_S 9 (S := fun w' => w'.cell? ⟨wo.heap.size, 1, none⟩ = some (.slice ua qs.length uc) ∧ w'.frozen? ⟨wo.heap.size, 1, none⟩ = false ∧ w'.cell? ⟨b2, off2 + k * 2 + 1, none⟩ = some (.slice t2a ps2.length t2c)) (by kernel_rfl) (hS24.out _ (by first | exact Upon.drew (Upon.trans (by repeat (first | assumption | exact Upon.refl _ _ | refine Upon.drew ?_ | refine Upon.alloc ?_ _)) (upon_drewN _ _ _)) | exact Upon.trans (by repeat (first | assumption | exact Upon.refl _ _ | refine Upon.drew ?_ | refine Upon.alloc ?_ _)) (upon_drewN _ _ _))) (fun hHeld => ?_)
                          refine HeldS.wpAnyS_take (i := 0) [] (oi := _) (v := ?_) rfl (by kernel_rfl) (by kernel_rfl) (by kernel_rfl) (by kernel_rfl) (by kernel_rfl) (fun _ _ _ h => h) (Or.inl ⟨by rfl, ?_⟩) (by assumption) ?_
                          rotate_left
                          · (intro w hSw; (try dsimp only at hSw); go_simp; (try with_reducible rfl))
                          (try simp only [Act.put, List.setIfInBounds_toArray, List.set_cons_zero, List.set_cons_succ])
                          refine HeldS.wpAnyS_take (i := 1) [] (oi := _) (v := ?_) rfl (by kernel_rfl) (by kernel_rfl) (by kernel_rfl) (by kernel_rfl) (by kernel_rfl) (fun _ _ _ h => h) (Or.inl ⟨by rfl, ?_⟩) (by assumption) ?_
                          rotate_left
                          · (intro w hSw; (try dsimp only at hSw); go_simp; (try with_reducible rfl))
                          (try simp only [Act.put, List.setIfInBounds_toArray, List.set_cons_zero, List.set_cons_succ])
                          refine HeldS.wpAnyS_take (i := 2) [] (oi := _) (v := ?_) rfl (by kernel_rfl) (by kernel_rfl) (by kernel_rfl) (by kernel_rfl) (by kernel_rfl) (fun _ _ _ h => h) (Or.inl ⟨by rfl, ?_⟩) (by assumption) ?_
                          rotate_left
                          · (intro w hSw; (try dsimp only at hSw); go_simp; (try with_reducible rfl))
                          (try simp only [Act.put, List.setIfInBounds_toArray, List.set_cons_zero, List.set_cons_succ])
                          refine HeldS.wpAnyS_take (i := 3) [] (oi := _) (v := ?_) rfl (by kernel_rfl) (by kernel_rfl) (by kernel_rfl) (by kernel_rfl) (by kernel_rfl) (fun _ _ _ h => h) (Or.inl ⟨by rfl, ?_⟩) (by assumption) ?_
                          rotate_left
                          · (intro w hSw; (try dsimp only at hSw); go_simp; (try with_reducible rfl))
                          (try simp only [Act.put, List.setIfInBounds_toArray, List.set_cons_zero, List.set_cons_succ])
                          refine HeldS.wpAnyS_take (i := 4) [] (oi := _) (v := ?_) rfl (by kernel_rfl) (by kernel_rfl) (by kernel_rfl) (by kernel_rfl) (by kernel_rfl) (fun _ _ _ h => h) (Or.inl ⟨by rfl, ?_⟩) (by assumption) ?_
                          rotate_left
                          · (intro w hSw; (try dsimp only at hSw); go_simp; (try with_reducible rfl))
                          (try simp only [Act.put, List.setIfInBounds_toArray, List.set_cons_zero, List.set_cons_succ])
                          refine HeldS.wpAnyS_take (i := 5) [] (oi := _) (v := ?_) rfl (by kernel_rfl) (by kernel_rfl) (by kernel_rfl) (by kernel_rfl) (by kernel_rfl) (fun _ _ _ h => h) (Or.inl ⟨by rfl, ?_⟩) (by assumption) ?_
                          rotate_left
                          · (intro w hSw; (try dsimp only at hSw); go_simp; (try with_reducible rfl))
                          (try simp only [Act.put, List.setIfInBounds_toArray, List.set_cons_zero, List.set_cons_succ])
                          refine HeldS.wpAnyS_take (i := 6) [] (oi := _) (v := ?_) rfl (by kernel_rfl) (by kernel_rfl) (by kernel_rfl) (by kernel_rfl) (by kernel_rfl) (fun _ _ _ h => h) (Or.inl ⟨by rfl, ?_⟩) (by assumption) ?_
                          rotate_left
                          · (intro w hSw; (try dsimp only at hSw); go_simp; (try with_reducible rfl))
                          (try simp only [Act.put, List.setIfInBounds_toArray, List.set_cons_zero, List.set_cons_succ])
                          refine HeldS.wpAnyS_ready (rs := [7]) (by kernel_rfl) (by simp) ?_
                          refine HeldS.AllS.cons (o := ⟨some 129, _, _, _, _, _⟩) rfl (fun K hK => ?_) HeldS.AllS.nil
                          first
                          | (go_simp; go_at_call 16)
                          | (rw [if_pos (by kernel_rfl)]; go_simp; go_at_call 16)
                          | (go_simp; trace "simped"; trace_state)
                          refine (HLs.out _ (by first | exact Upon.drew (Upon.trans (by repeat (first | assumption | exact Upon.refl _ _ | refine Upon.drew ?_ | refine Upon.alloc ?_ _)) (upon_drewN _ _ _)) | exact Upon.trans (by repeat (first | assumption | exact Upon.refl _ _ | refine Upon.drew ?_ | refine Upon.alloc ?_ _)) (upon_drewN _ _ _))).mono ?_
                          rintro e w7 ⟨u7, rfl, ho7⟩
                          obtain ⟨A9, c9, e9, -, -⟩ := Rw.View.shape ho7.1.view
                          subst e9
                          have hend := hEnd.out _ _ A9 c9 (by first | exact Upon.drew (Upon.trans (by repeat (first | assumption | exact Upon.refl _ _ | refine Upon.drew ?_ | refine Upon.alloc ?_ _)) (upon_drewN _ _ _)) | exact Upon.trans (by repeat (first | assumption | exact Upon.refl _ _ | refine Upon.drew ?_ | refine Upon.alloc ?_ _)) (upon_drewN _ _ _)) ho7
                          have ho8 := Lib.hid ho7.2.2
                          go_simp
                          refine hK.out _ _ ?_ (fun hHeld => ?_)
                          · exact hS24.out _ (Upon.trans (by first | exact Upon.drew (Upon.trans (by repeat (first | assumption | exact Upon.refl _ _ | refine Upon.drew ?_ | refine Upon.alloc ?_ _)) (upon_drewN _ _ _)) | exact Upon.trans (by repeat (first | assumption | exact Upon.refl _ _ | refine Upon.drew ?_ | refine Upon.alloc ?_ _)) (upon_drewN _ _ _)) ho8.out)
                          clear hK K
                          (try simp only [Act.put, List.setIfInBounds_toArray, List.set_cons_zero, List.set_cons_succ])
                          refine HeldS.wpAnyS_ready (rs := [8]) (by kernel_rfl) (by simp) ?_
                          refine HeldS.AllS.cons (o := ⟨some 130, _, _, _, _, _⟩) rfl (fun K hK => ?_) HeldS.AllS.nil
                          go_simp
                          refine hK.out _ _ (by assumption) (fun hHeld => ?_)
                          clear hK K
                          (try simp only [Act.put, List.setIfInBounds_toArray, List.set_cons_zero, List.set_cons_succ])
                          refine HeldS.wpAnyS_ready (rs := [9]) (by kernel_rfl) (by simp) ?_
                          refine HeldS.AllS.last (s := 9) (o := ⟨none, _, _, _, _, _⟩) rfl (fun K hK => ?_) HeldS.AllS.nil
                          obtain ⟨pc5, pf5, -⟩ := hHeld
                          go_simp
                          refine hK.out _ _ ?_
                          clear hK K
                          (try simp only [Act.put, List.setIfInBounds_toArray, List.set_cons_zero, List.set_cons_succ])
                          refine HeldS.wpAnyS_done (by kernel_rfl) ?_ _
                          go_wp2_with fail
                          go_roundw
                          case rel => exact ⟨k + 1, A9, c9, lessL qs ps2, by go_num, hkl, hcut2, hend.1, hend.2.1, hend.2.2⟩
                          case measure => simp [intOf]; omega
                    · have hke : k = Q2.length := by omega
                      have hqe : cutB Q2 lab ps = qs := by rw [← hqs.out, hke, List.take_length]
                      have hst1 := hst.out
                      rw [hqe] at hst1
                      by_cases hq0 : qs.length = 0
                      · have hst2 : Hid (wantL (Q1.take (i + 1)) Q2 = m) := Lib.hid (by rw [hst1, if_neg (by rw [List.eq_nil_of_length_eq_zero hq0]; simp), List.append_nil])
                        have d0 : decide ((0 : Int) < (qs.length : Int)) = false := decide_eq_false (by omega)
                        have hw2 := Lib.hid (hw'.out.step hN.out)
                        clear hst hst1 hqe hqs d0
                        rw [hq0] at g1'
                        clear hq0
                        go_wp2_with fail
                        go_roundw
                        case rel => exact ⟨i + 1, m, rs, by go_num, hlt, hst2, hw2⟩
                        case measure => simp [intOf]; omega
                      · have hst2 : Hid (wantL (Q1.take (i + 1)) Q2 = m ++ [(lab, qs)]) := Lib.hid (by rw [hst1, if_pos (fun e => hq0 (by rw [e]; rfl))])
                        have d0 : decide ((0 : Int) < (qs.length : Int)) = true := decide_eq_true (by omega)
                        have hna : New0 wo (wr.alloc (.cells #[.slice sa lab.length sc, .slice ua qs.length uc] 45 (0, 0))) := hN.out.trans ((Upon.refl _ wr).alloc _)
                        have hw2 := Lib.hid (hw'.out.step hna)
                        have hM6 := Lib.hid hw2.out.row
                        have hX6 := Lib.hid (qview_one wr ⟨sa, lab.length, sc⟩ ⟨ua, qs.length, uc⟩)
                        have hR6 : Hid (∃ S' : Nat → Prop, innQ.rel (wr.alloc (.cells #[.slice sa lab.length sc, .slice ua qs.length uc] 45 (0, 0))) S' ((⟨sa, lab.length, sc⟩, ⟨ua, qs.length, uc⟩) : RQ) (lab, qs) ∧ ∀ x, S' x → x < ((wr.alloc (.cells #[.slice sa lab.length sc, .slice ua qs.length uc] 45 (0, 0)))).heap.size ∧ (Value.slice A7 rs.length c7).ownBlock ≠ some x) := Lib.hid (by
                          obtain ⟨T, h1, h2⟩ := hP.out
                          refine ⟨fun x => S1 x ∨ T x, ⟨(Rw.View.new hsv'.out hna).mono fun _ _ h => .inl h, (Rw.View.new h1 ((Upon.refl _ wr).alloc _)).mono fun _ _ h => .inr h⟩, fun x hx => ?_⟩
                          have q1 := hna.size
                          have q2 := ((Upon.refl (fun _ => False) wr).alloc (.cells #[.slice sa lab.length sc, .slice ua qs.length uc] 45 (0, 0))).size
                          rcases hx with hx | hx
                          · have h3 := hS1b.out x hx
                            exact ⟨by omega, fun e => by have := hw'.out.base x e; omega⟩
                          · have h3 := h2 x hx
                            refine ⟨by omega, fun e => ?_⟩
                            have h4 := hw'.out.base x e
                            have h5 := Rw.Mine.lt hw'.out.row e
                            rcases h3.2.2 with h6 | h6 <;> omega)
                        clear hst hst1 hqe hqs
                        go_wp2_with (at_builtin; refine Rw.wpList_append typQ rfl _ _ rfl _ _ rs [((⟨sa, lab.length, sc⟩, ⟨ua, qs.length, uc⟩) : RQ)] All rfl rfl hM6.out hX6.out (by rw [List.length_singleton]; omega) (by rw [List.length_singleton]; omega) ?_)
                        intro v' w6 hown hgr hbl
                        have h6 : Hid (WantE w13 w6 v' (rs ++ [((⟨sa, lab.length, sc⟩, ⟨ua, qs.length, uc⟩) : RQ)]) (m ++ [(lab, qs)])) := Lib.hid (let ⟨_, k1, k2⟩ := hR6.out; hw2.out.app k1 k2 hown hgr (hbl.imp id fun h => h.trans (by simp)))
                        clear hM6 hX6 hR6 hown hgr hbl
                        go_wp2_with fail
                        go_roundw
                        case rel => exact ⟨i + 1, _, _, by go_num, hlt, hst2, h6⟩
                        case measure => simp [intOf]; omega
                · have hie : i = Q1.length := by omega
                  have hmw : m = wantL Q1 Q2 := by rw [← hm.out, hie, List.take_length]
                  subst hmw
                  have h14 := h13.out.upon0 (Tens.ob (Tens.ob (thingPH _ _) (Tens.ob (thingQB _ _) (thingQB _ _))) (thingQB _ _)) hw.out.new
                  obtain ⟨S14, hS14⟩ := h14.dropr.seeL
                  have HQ14 := HQd.out p g1 _ _ hS14 hs1.out hsane1.out (newOf h14.bel)
                  rw [hQ4.out] at HQ14
                  replace HQ14 := Lib.hid HQ14
                  obtain ⟨j0, j1, j2⟩ := hD.out _ (newOf h14.bel)
                  replace h14 := Lib.hid h14
                  clear hS14 hm
                  go_wp2_with fail
                  refine HQ14.out.mono ?_
                  rintro e w15 ⟨u15, rfl, hq15, hu15⟩
                  obtain ⟨A15, c15, e15, -, -⟩ := Rw.DView.shape hq15
                  subst e15
                  have h15 := h14.out.upon0 (Tens.ob (Tens.ob (thingPH _ _) (Tens.ob (thingQB _ _) (thingQB _ _))) (thingQB _ _)) hu15
                  obtain ⟨S15, hS15⟩ := h15.seeR
                  have HS := Lib.hid (qsame_any _ _ _ _ _ (wantL Q1 Q2) (wantL Q1 Q2) hS15.1 (hw.out.step hu15).view)
                  rw [decide_eq_true rfl] at HS
                  replace h15 := Lib.hid h15
                  clear HQ14 h14 hq15 hu15 hS15 j0 j1 j2
                  go_wp2_with fail
                  refine HS.out.mono ?_
                  rintro e w16 ⟨rfl, k16, rfl⟩
                  have hn16 := Lib.hid ((newOf h15.out.bel).trans (upon_drewN _ _ k16))
                  clear HS h15
                  go_wp2_with fail
                  go_ret
                  exact ⟨rfl, hfin.out _ hn16.out⟩
end Hd
end Go.Proofs.Ytfheehlfodoimaa
