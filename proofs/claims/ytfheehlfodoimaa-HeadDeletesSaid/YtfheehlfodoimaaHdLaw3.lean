/- Layer 13: the law HeadHistory. -/
import Derived.Test.YtfheehlfodoimaaHdLaw2
import Derived.Deep.RegionHeld3
set_option maxRecDepth 100000
namespace Go.Proofs.Ytfheehlfodoimaa
open Go.RowKit Go.Sort
namespace Hd
open Bit Dsk Ob Dig
set_option linter.unusedVariables false
set_option linter.unusedSimpArgs false

theorem ph_new {p : Nat} {g : H} {w w' : World} {S : Nat → Prop} (h : IsPH p g w S) (hu : New0 w w') : IsPH p g w' S := (thingPH p g).kept w w' S h (fun b hb => hu.block b ((thingPH p g).lt w S h b hb) (fun f => f)) hu.size
/-- A query in a box. -/
def AskB (g : Nat) (m : Value) (a b : Int) (w : World) : Prop := w.cell? ⟨g, 0, none⟩ = some m ∧ w.cell? ⟨g, 1, none⟩ = some (.int .i64 a) ∧ w.cell? ⟨g, 2, none⟩ = some (.int .i64 b)
theorem AskB.new {g : Nat} {m : Value} {a b : Int} {w w' : World} (h : AskB g m a b w) (hu : New0 w w') : AskB g m a b w' := ⟨Lb.New0.cells hu h.1, Lb.New0.cells hu h.2.1, Lb.New0.cells hu h.2.2⟩
theorem askB (w : World) (m : Value) (a b : Int) : AskB w.heap.size m a b (w.alloc (.cells #[m, .int .i64 a, .int .i64 b] 25 (0, 0))) := by
  have h := cell_new w (.cells #[m, .int .i64 a, .int .i64 b] 25 (0, 0))
  exact ⟨by rw [Lib.cell_of_heap h]; rfl, by rw [Lib.cell_of_heap h]; rfl, by rw [Lib.cell_of_heap h]; rfl⟩
theorem upBel {w w' : World} (hu : New0 w w') : Below w.heap.size w w' := below_of_upon (Below.refl _ _) hu
set_option maxHeartbeats 12800000 in
theorem hist_true (w : World) (v qv : Value) (o : IsRecs v w) (oq : IsAsk qv w) : Calls Try.prog 3 #[v, qv] w fun e w' => e = .returned (.bool true) ∧ Below w.heap.size w w' := by
  obtain ⟨l, hv, hb, hl⟩ := o
  obtain ⟨A, c, rfl, -, -⟩ := Rw.DView.shape hv
  obtain ⟨m, ⟨ms, qa, qb⟩, rfl, hmv, hqb, hqa, hqb2, hql⟩ := oq
  simp only at hmv hqb hqa hqb2 hql
  obtain ⟨ma, mn, mc⟩ := m
  obtain ⟨ma', mc', em, -, -⟩ := Rw.View.shape hmv
  injection em with em1 em2 em3
  subst em2
  clear em1 em3
  have hll : l.length ≤ 9223372036854775807 := by omega
  obtain ⟨wx, hwx⟩ : ∃ wx, w.alloc (.cells #[.slice ma ms.length mc, .int .i64 qa, .int .i64 qb] 25 (0, 0)) = wx := ⟨_, rfl⟩
  have ux := (Upon.refl (fun _ => False) w).alloc (.cells #[.slice ma ms.length mc, .int .i64 qa, .int .i64 qb] 25 (0, 0))
  have hbx := askB w (.slice ma ms.length mc) qa qb
  rw [hwx] at ux hbx
  have HG := Lib.hid (fun w1 (hu : New0 wx w1) => great_any w1 _ l (Rw.DView.new hv (ux.trans hu)) hb hl)
  have hR := Lib.hid (fun w1 (hu : New0 wx w1) i (hi : i < l.length) => RsView.at (Rw.DView.new hv (ux.trans hu)) hi)
  have hM := Lib.hid (fun w1 (hu : New0 wx w1) => (Rw.View.new hmv (ux.trans hu) : Mt.View w1 AllB (.slice ma ms.length mc) ms))
  have hX := Lib.hid (fun w1 (hu : New0 wx w1) => hbx.new hu)
  have hfin := Lib.hid (fun w1 (hu : New0 wx w1) => upBel (ux.trans hu))
  replace hb := Lib.hid hb
  replace hwx := Lib.hid hwx
  have hqb' := Lib.hid hqb
  have hqa' := Lib.hid hqa
  have hqb2' := Lib.hid hqb2
  clear hv hmv ux hbx hqb hqa hqb2
  go_enter Try.func3, Try.ntmps3
  go_wp2_with fail
  rw [hwx.out]
  refine (works_any wx).mono ?_
  rintro e w1 ⟨rfl, hu1⟩
  obtain ⟨k0, k1, k2⟩ := hX.out _ hu1
  have HG1 := Lib.hid (HG.out _ hu1)
  replace hu1 := Lib.hid hu1
  clear HG hwx
  go_wp2_with fail
  refine HG1.out.mono ?_
  rintro e w2 ⟨bg, rfl, hu2, hsm⟩
  have hu2' := hu1.out.trans hu2
  clear k0 k1 k2
  obtain ⟨k0, k1, k2⟩ := hX.out _ hu2'
  replace hu2' := Lib.hid hu2'
  clear HG1 hu1 hu2
  cases bg with
  | true =>
    clear hsm
    go_wp2_with fail
    go_ret
    exact ⟨rfl, hfin.out _ hu2'.out⟩
  | false =>
    replace hsm := Lib.hid (hsm rfl).2
    by_cases h50 : 50 < ms.length
    · have d : decide ((50 : Int) < (ms.length : Int)) = true := decide_eq_true (by omega)
      go_wp2_with fail
      go_ret
      exact ⟨rfl, hfin.out _ hu2'.out⟩
    have d : decide ((50 : Int) < (ms.length : Int)) = false := decide_eq_false (by omega)
    go_wp2_with fail
    refine (pnew_any w2).mono ?_
    rintro e w3 ⟨p, S3, rfl, hp, hS3, hu3⟩
    have h3 := Lib.hid (phStart Mt.thingNo (noStart hu2'.out) hp hS3 hu3)
    clear hp hS3 hu3 hu2' k0 k1 k2
    go_wp2_with fail
    refine (pnew_any w3).mono ?_
    rintro e w4 ⟨q, S4, rfl, hq, hS4, hu4⟩
    have h4 := Lib.hid (phStart (thingPH _ _) h3.out.dropr hq hS4 hu4).swap
    clear hq hS4 hu4 h3
    go_wp2_with fail
    go_loopw [7] (fun ov wr => ∃ (j : Nat) (g : H), ov = .int .i64 (j : Int) ∧ j ≤ l.length ∧ j ≤ 50 ∧ Hid (Srt g) ∧ Hid (SaneN (1000 * (50 - j)) g) ∧ Hid (Ob.Own (Tens (IsPH p g) (IsPH q g)) wx wr)) (fun ov _ => l.length - (intOf ov).toNat)
    case atStart => exact ⟨0, [], rfl, Nat.zero_le _, Nat.zero_le _, Lib.hid srt_nil, Lib.hid (SaneN.nil (by decide)), h4⟩
    case round =>
      clear h4
      obtain ⟨j, g, rfl, hj, hj5, hs, hsn, ho⟩ := hrel
      by_cases hgo : j < l.length ∧ j < 50
      · obtain ⟨hlt, h50j⟩ := hgo
        have d1 : decide ((j : Int) < (l.length : Int)) = true := decide_eq_true (by omega)
        have d2 : decide ((j : Int) < 50) = true := decide_eq_true (by omega)
        obtain ⟨b0, off, A1, c1, A2, c2, rfl, -, x0, x1, x2, x3, x4, hrv, -⟩ := hR.out _ (newOf ho.out.bel) j hlt
        obtain ⟨hb1, hb2, hb3⟩ := hb.out _ (List.getElem_mem hlt)
        have hsj := hsm.out _ (List.getElem_mem hlt)
        have hcell : Hid (∀ w1, New0 wr w1 → (w1.cell? ⟨b0, off + j * 5, none⟩ = some (.int .i64 l[j].kind) ∧ w1.cell? ⟨b0, off + j * 5 + 1, none⟩ = some (.slice A1 l[j].smp.length c1) ∧ w1.cell? ⟨b0, off + j * 5 + 2, none⟩ = some (.slice A2 l[j].ms.length c2) ∧ w1.cell? ⟨b0, off + j * 5 + 3, none⟩ = some (.int .i64 l[j].frm) ∧ w1.cell? ⟨b0, off + j * 5 + 4, none⟩ = some (.int .i64 l[j].til))) := Lib.hid (fun w1 hu => ⟨Lb.New0.cells hu x0, Lb.New0.cells hu x1, Lb.New0.cells hu x2, Lb.New0.cells hu x3, Lb.New0.cells hu x4⟩)
        have hlow : Hid (∀ w1, New0 wx w1 → ∃ A1' c1' A2' c2', (w1.cell? ⟨b0, off + j * 5, none⟩ = some (.int .i64 l[j].kind) ∧ w1.cell? ⟨b0, off + j * 5 + 1, none⟩ = some (.slice A1' l[j].smp.length c1') ∧ w1.cell? ⟨b0, off + j * 5 + 2, none⟩ = some (.slice A2' l[j].ms.length c2') ∧ w1.cell? ⟨b0, off + j * 5 + 3, none⟩ = some (.int .i64 l[j].frm) ∧ w1.cell? ⟨b0, off + j * 5 + 4, none⟩ = some (.int .i64 l[j].til)) ∧ Calls Try.prog 12 #[.agg #[.int .i64 l[j].kind, .slice A1' l[j].smp.length c1', .slice A2' l[j].ms.length c2', .int .i64 l[j].frm, .int .i64 l[j].til]] w1 fun e w' => ∃ u, e = .returned u ∧ Rc.RView w' (Lb.Nw w1) u l[j] ∧ New0 w1 w') := Lib.hid (fun w1 hu => by
          obtain ⟨b0', off', A1', c1', A2', c2', e, -, y0, y1, y2, y3, y4, hrv', -⟩ := hR.out _ hu j hlt
          injection e with e
          injection e with e1 e2
          subst e1 e2
          exact ⟨A1', c1', A2', c2', ⟨y0, y1, y2, y3, y4⟩, Rc.own_any w1 _ _ hrv' hb1 hb2 hb3⟩)
        obtain ⟨hn1, hn2⟩ := room_next hsn.out h50j hsj
        have hs2 := hs.out.app l[j]
        have HA := Lib.hid (fun u w' (k1 : Rc.RView w' (Lb.Nw wr) u l[j]) (k2 : New0 wr w') => pappNew (thingPH _ _) ho.out k1 k2 hs.out hb1 hn1 hsj.lab)
        have HB : Hid (∀ g2 w5 u w', Ob.Own (Tens (IsPH q g) (IsPH p g2)) wx w5 → Rc.RView w' (Lb.Nw w5) u l[j] → New0 w5 w' → Calls Try.prog 11 #[.pointer (some ⟨q, 0, none⟩), u] w' fun e w'' => e = .returned (.int .i64 (tr g l[j] : Int)) ∧ Ob.Own (Tens (IsPH q (app g l[j])) (IsPH p g2)) wx w'') := Lib.hid (fun g2 w5 u w' k0 k1 k2 => pappNew (thingPH _ _) k0 k1 k2 hs.out hb1 hn1 hsj.lab)
        have hn2' := Lib.hid hn2
        have hs2' := Lib.hid hs2
        have htn : Hid (tr g l[j] ≠ 0 → app g l[j] = g) := Lib.hid app_no
        obtain ⟨z, hz⟩ : ∃ z : Nat, tr g l[j] = z := ⟨_, rfl⟩
        rw [hz] at HA HB htn
        obtain ⟨g2, hg2⟩ : ∃ g2, app g l[j] = g2 := ⟨_, rfl⟩
        rw [hg2] at HA HB hn2' hs2' htn
        have HO := (hlow.out wr (newOf ho.out.bel))
        obtain ⟨A1', c1', A2', c2', ⟨y0, y1, y2, y3, y4⟩, HO⟩ := HO
        replace HO := Lib.hid HO
        clear x0 x1 x2 x3 x4 hcell
        obtain ⟨rj, hrj⟩ : ∃ rj, l[j] = rj := ⟨_, rfl⟩
        rw [hrj] at y0 y1 y2 y3 y4 HO HA HB hlow
        clear hrv hb1 hb2 hb3 hsj hn1 hn2 hs2 hz hg2 hrj hs hsn ho
        go_wp2_with fail
        refine HO.out.mono ?_
        rintro e w5 ⟨u, rfl, hv5, hu5⟩
        obtain ⟨A5, c5, A5', c5', rfl, -, -⟩ := Rc.RView.shape hv5
        have HA5 := Lib.hid (HA.out _ _ hv5 hu5)
        clear HO HA hv5 hu5 y0 y1 y2 y3 y4
        go_wp2_with fail
        refine HA5.out.mono ?_
        rintro e w6 ⟨rfl, h6⟩
        clear HA5
        by_cases hz : z = 0
        · subst hz
          obtain ⟨A6, c6, A6', c6', ⟨y0, y1, y2, y3, y4⟩, HO⟩ := hlow.out w6 (newOf h6.bel)
          replace HO := Lib.hid HO
          have h6' := Lib.hid h6.swap
          clear hlow h6 htn
          go_wp2_with fail
          refine HO.out.mono ?_
          rintro e w7 ⟨u7, rfl, hv7, hu7⟩
          obtain ⟨A7, c7, A7', c7', rfl, -, -⟩ := Rc.RView.shape hv7
          have HB7 := Lib.hid (HB.out _ _ _ _ h6'.out hv7 hu7)
          clear HO HB hv7 hu7 h6' y0 y1 y2 y3 y4
          go_wp2_with fail
          refine HB7.out.mono ?_
          rintro e w8 ⟨rfl, h8⟩
          have h8' := Lib.hid h8.swap
          clear HB7 h8
          go_wp2_with fail
          go_roundw
          case rel => exact ⟨j + 1, g2, by go_num, hlt, h50j, hs2', hn2', h8'⟩
          case measure => simp [intOf]; omega
        · have dz : ((z : Int) == 0) = false := by rw [beq_eq_false_iff_ne]; omega
          have e2 := htn.out hz
          subst e2
          replace h6 := Lib.hid h6
          clear htn HB hlow hz
          go_wp2_with fail
          go_roundw
          case rel => exact ⟨j + 1, _, by go_num, hlt, h50j, hs2', hn2', h6⟩
          case measure => simp [intOf]; omega
      · have hsane : SaneN 0 g := hsn.out.less (by omega)
        have hpts : points g ≤ 4611686018427387904 := by
          have h1 := points_le hsane
          have h2 := hsane.len
          have h3 : g.length * 1000000000 ≤ 1000000000 * 1000000000 := Nat.mul_le_mul_right _ (by omega)
          omega
        have hs' := hs.out
        have HC : Hid (∀ p w1 S, IsPH p g w1 S → Calls Try.prog 13 #[.pointer (some ⟨p, 0, none⟩)] w1 fun e w' => e = .returned (.tuple #[.int .i64 (g.length : Int), .int .i64 (points g : Int)]) ∧ New0 w1 w') := Lib.hid (fun p w1 S k => pcounts_any w1 k hs' hsane.sane hpts)
        have HQ : Hid (∀ p w1 S, IsPH p g w1 S → New0 wx w1 → Calls Try.prog 15 #[.pointer (some ⟨p, 0, none⟩), .slice ma ms.length mc, .int .i64 qa, .int .i64 qb] w1 fun e w' => ∃ u, e = .returned u ∧ QView w' (Lb.Nw w1) u (query g ms qa qb) ∧ New0 w1 w') := Lib.hid (fun p w1 S k hu => pquery_any w1 k hs' hsane.sane _ _ ms (hM.out _ hu) hqb'.out qa qb hqa'.out hqb2'.out)
        obtain ⟨Sp, hSp⟩ := ho.out.seeL
        obtain ⟨Sq, hSq⟩ := ho.out.seeR
        have hnr := Lib.hid (newOf ho.out.bel)
        obtain ⟨Q, hQ⟩ : ∃ Q, query g ms qa qb = Q := ⟨_, rfl⟩
        rw [hQ] at HQ
        obtain ⟨P, hP⟩ : ∃ P : Int, (points g : Int) = P := ⟨_, rfl⟩
        rw [hP] at HC
        have hpn := Lib.hid (fun w1 (hu : New0 wr w1) => ph_new hSp hu)
        have hqn := Lib.hid (fun w1 (hu : New0 wr w1) => ph_new hSq hu)
        have HC1 := Lib.hid (HC.out _ _ _ hSp)
        have HQ' : Hid (∀ w1, New0 wr w1 → (Calls Try.prog 15 #[.pointer (some ⟨p, 0, none⟩), .slice ma ms.length mc, .int .i64 qa, .int .i64 qb] w1 fun e w' => ∃ u, e = .returned u ∧ QView w' (Lb.Nw w1) u Q ∧ New0 w1 w') ∧ (Calls Try.prog 15 #[.pointer (some ⟨q, 0, none⟩), .slice ma ms.length mc, .int .i64 qa, .int .i64 qb] w1 fun e w' => ∃ u, e = .returned u ∧ QView w' (Lb.Nw w1) u Q ∧ New0 w1 w')) := Lib.hid (fun w1 hu => ⟨HQ.out _ _ _ (hpn.out _ hu) (hnr.out.trans hu), HQ.out _ _ _ (hqn.out _ hu) (hnr.out.trans hu)⟩)
        have hX' := Lib.hid (fun w1 (hu : New0 wr w1) => hX.out w1 (hnr.out.trans hu))
        have hfin' := Lib.hid (fun w1 (hu : New0 wr w1) => hfin.out w1 (hnr.out.trans hu))
        clear hSp hSq hs' hsane hpts hQ hP HQ hs hsn ho hX hfin hM
        have hcase : (j < l.length ∧ ¬ j < 50) ∨ ¬ j < l.length := by
          by_cases h1 : j < l.length
          · exact .inl ⟨h1, fun h2 => hgo ⟨h1, h2⟩⟩
          · exact .inr h1
        clear hgo
        rcases hcase with ⟨hlt, h5⟩ | hlt
        case' inl =>
          have d1 : decide ((j : Int) < (l.length : Int)) = true := decide_eq_true (by omega)
          have d2 : decide ((j : Int) < 50) = false := decide_eq_false (by omega)
        case' inr =>
          have d1 : decide ((j : Int) < (l.length : Int)) = false := decide_eq_false (by omega)
        all_goals
          go_wp2_with fail
          refine HC1.out.mono ?_
          rintro e w5 ⟨rfl, hu5⟩
          have HC2 := Lib.hid (HC.out _ _ _ (hqn.out _ hu5))
          replace hu5 := Lib.hid hu5
          clear HC1 HC
          go_wp2_with fail
          refine HC2.out.mono ?_
          rintro e w6 ⟨rfl, hu6⟩
          have hn6 := Lib.hid (hu5.out.trans hu6)
          have HQ6 := Lib.hid (fun W (hu : New0 w6 W) => HQ'.out W (hn6.out.trans hu))
          have hX6 := Lib.hid (fun W (hu : New0 w6 W) => hX'.out W (hn6.out.trans hu))
          obtain ⟨k0, k1, k2⟩ := hX6.out w6 (Upon.refl _ _)
          clear HC2 hu5 hu6 HQ' hX'
          go_wp2_with fail

          go_region_held3 (fun w' => w'.cell? ⟨w.heap.size, 0, none⟩ = some (.slice ma ms.length mc) ∧ w'.cell? ⟨w.heap.size, 1, none⟩ = some (.int .i64 qa) ∧ w'.cell? ⟨w.heap.size, 2, none⟩ = some (.int .i64 qb))
            ((first | exact hX6.out _ (nb2.trans (upon_drewN _ _ _)) | exact hX6.out _ (by repeat (first | assumption | exact Upon.refl _ _ | refine Upon.drew ?_))))
            (first
            | (go_at_call 15; (first
                | (refine (HQ6.out wa na).2.mono ?_; rintro e wb ⟨ub, rfl, qvb, nb⟩; have nb2 : New0 w6 wb := na.trans nb; have qva2 := Rw.DView.new qva nb; clear nb)
                | (refine (HQ6.out _ ((by repeat (first | assumption | exact Upon.refl _ _ | refine Upon.drew ?_)))).1.mono ?_; rintro e wa ⟨ua, rfl, qva, na0⟩; have na : New0 w6 wa := Upon.trans ((by repeat (first | assumption | exact Upon.refl _ _ | refine Upon.drew ?_)) : New0 w6 _) na0; clear na0)))
            | (go_at_call 14; refine (qsame_any _ _ _ _ _ Q Q qva2 qvb).mono ?_; rintro e wc ⟨rfl, kc, rfl⟩; rw [decide_eq_true rfl])
            | fail)
          all_goals
            go_wp2_with fail
            go_ret
            exact ⟨rfl, hfin'.out _ (hn6.out.trans (nb2.trans (upon_drewN _ _ _)))⟩
end Hd
end Go.Proofs.Ytfheehlfodoimaa
