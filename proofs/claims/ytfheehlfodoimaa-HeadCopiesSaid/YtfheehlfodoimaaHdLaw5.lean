/- Layer 13: the law HeadCopies. -/
import Derived.Test.YtfheehlfodoimaaHdLaw4
set_option maxRecDepth 100000
namespace Go.Proofs.Ytfheehlfodoimaa
open Go.RowKit Go.Sort
namespace Hd
open Bit Dsk Ob Dig
set_option linter.unusedVariables false
set_option linter.unusedSimpArgs false

theorem pq {A B C : Ob.Rel} {w0 w : World} (H : Ob.Own (Tens A (Tens B C)) w0 w) : Ob.Own (Tens B (Tens A C)) w0 w := H.mono fun S h => Tens.assoc (Tens.mapL (fun A h => Tens.swap h) (Tens.cossa h))
/-- The second head, copied. -/
theorem phCopy {p q : Nat} {g : H} {w0 w w' : World} {S : Nat → Prop} (h : Ob.Own (IsPH p g) w0 w) (hq : IsPH q g w' S) (hS : ∀ b, S b → w.heap.size ≤ b) (hu : New0 w w') : Ob.Own (Tens (IsPH p g) (IsPH q g)) w0 w' := Ob.Own.new (thingPH _ _) h hq hS hu
set_option maxHeartbeats 25600000 in
theorem copies_true (w : World) (v v2 qv : Value) (o : IsRecs v w) (o2 : IsRecs v2 w) (oq : IsAsk qv w) : Calls Try.prog 5 #[v, v2, qv] w fun e w' => e = .returned (.bool true) ∧ Below w.heap.size w w' := by
  obtain ⟨l, hv, hb, hl⟩ := o
  obtain ⟨A, c, rfl, -, -⟩ := Rw.DView.shape hv
  obtain ⟨l2, hv2, hb2m, hl2⟩ := o2
  obtain ⟨B, cB, rfl, -, -⟩ := Rw.DView.shape hv2
  obtain ⟨m, ⟨ms, qa, qb⟩, rfl, hmv, hqb, hqa, hqb2, hql⟩ := oq
  simp only at hmv hqb hqa hqb2 hql
  obtain ⟨ma, mn, mc⟩ := m
  obtain ⟨ma', mc', em, -, -⟩ := Rw.View.shape hmv
  injection em with em1 em2 em3
  subst em2
  clear em1 em3
  have hll : l.length ≤ 9223372036854775807 := by omega
  have hll2 : l2.length ≤ 9223372036854775807 := by omega
  obtain ⟨wx, hwx⟩ : ∃ wx, w.alloc (.cells #[.slice ma ms.length mc, .int .i64 qa, .int .i64 qb] 25 (0, 0)) = wx := ⟨_, rfl⟩
  have ux := (Upon.refl (fun _ => False) w).alloc (.cells #[.slice ma ms.length mc, .int .i64 qa, .int .i64 qb] 25 (0, 0))
  have hbx := askB w (.slice ma ms.length mc) qa qb
  rw [hwx] at ux hbx
  have HG := Lib.hid (fun w1 (hu : New0 wx w1) => great_any w1 _ l (Rw.DView.new hv (ux.trans hu)) hb hl)
  have HGb := Lib.hid (fun w1 (hu : New0 wx w1) => great_any w1 _ l2 (Rw.DView.new hv2 (ux.trans hu)) hb2m hl2)
  have hR := Lib.hid (fun w1 (hu : New0 wx w1) i (hi : i < l.length) => RsView.at (Rw.DView.new hv (ux.trans hu)) hi)
  have hR2 := Lib.hid (fun w1 (hu : New0 wx w1) i (hi : i < l2.length) => RsView.at (Rw.DView.new hv2 (ux.trans hu)) hi)
  have hM := Lib.hid (fun w1 (hu : New0 wx w1) => (Rw.View.new hmv (ux.trans hu) : Mt.View w1 AllB (.slice ma ms.length mc) ms))
  have hX := Lib.hid (fun w1 (hu : New0 wx w1) => hbx.new hu)
  have hfin := Lib.hid (fun w1 (hu : New0 wx w1) => upBel (ux.trans hu))
  replace hb := Lib.hid hb
  replace hb2m := Lib.hid hb2m
  replace hwx := Lib.hid hwx
  have HQ : Hid (∀ p g w1 S, IsPH p g w1 S → Srt g → Sane g → New0 wx w1 → Calls Try.prog 15 #[.pointer (some ⟨p, 0, none⟩), .slice ma ms.length mc, .int .i64 qa, .int .i64 qb] w1 fun e w' => ∃ u, e = .returned u ∧ QView w' (Lb.Nw w1) u (query g ms qa qb) ∧ New0 w1 w') := Lib.hid (fun p g w1 S k hs hsn hu => pquery_any w1 k hs hsn _ _ ms (hM.out _ hu) hqb qa qb hqa hqb2)
  clear hv hv2 hmv ux hbx hqb hqa hqb2 hM
  go_enter Try.func5, Try.ntmps5
  go_wp2_with fail
  rw [hwx.out]
  refine (works_any wx).mono ?_
  rintro e w1 ⟨rfl, hu1⟩
  obtain ⟨k0, k1, k2⟩ := hX.out _ hu1
  have HG1 := Lib.hid (HG.out _ hu1)
  replace hu1 := Lib.hid hu1
  clear HG hwx
  go_wp2_with fail
  refine HG1.out.mono ?_
  rintro e w2 ⟨bg, rfl, hu2, hsm⟩
  have hu2' := hu1.out.trans hu2
  clear k0 k1 k2
  obtain ⟨k0, k1, k2⟩ := hX.out _ hu2'
  have HG2 := Lib.hid (HGb.out _ hu2')
  replace hu2' := Lib.hid hu2'
  clear HG1 hu1 hu2 HGb
  cases bg with
  | true =>
    clear hsm HG2
    go_wp2_with fail
    go_ret
    exact ⟨rfl, hfin.out _ hu2'.out⟩
  | false =>
    replace hsm := Lib.hid (hsm rfl).2
    go_wp2_with fail
    refine HG2.out.mono ?_
    rintro e w3 ⟨bg2, rfl, hu3, hsm2⟩
    have hu3' := hu2'.out.trans hu3
    clear k0 k1 k2
    obtain ⟨k0, k1, k2⟩ := hX.out _ hu3'
    replace hu3' := Lib.hid hu3'
    clear HG2 hu3 hu2'
    cases bg2 with
    | true =>
      clear hsm2
      go_wp2_with fail
      go_ret
      exact ⟨rfl, hfin.out _ hu3'.out⟩
    | false =>
      replace hsm2 := Lib.hid (hsm2 rfl).2
      by_cases h50 : 50 < ms.length
      · have d : decide ((50 : Int) < (ms.length : Int)) = true := decide_eq_true (by omega)
        go_wp2_with fail
        go_ret
        exact ⟨rfl, hfin.out _ hu3'.out⟩
      have d : decide ((50 : Int) < (ms.length : Int)) = false := decide_eq_false (by omega)
      go_wp2_with fail
      refine (pnew_any w3).mono ?_
      rintro e w4 ⟨p, S4, rfl, hp, hS4, hu4⟩
      have h4 := Lib.hid (phStart Mt.thingNo (noStart hu3'.out) hp hS4 hu4)
      clear hp hS4 hu4 hu3' k0 k1 k2 d
      go_wp2_with fail
      go_loopw [8] (fun ov wr => ∃ (j : Nat) (g : H), ov = .int .i64 (j : Int) ∧ j ≤ l.length ∧ j ≤ 30 ∧ Hid (g = apps [] (l.take j)) ∧ Hid (Srt g) ∧ Hid (SaneN (1000 * (100 - j)) g) ∧ Hid (Ob.Own (Tens (IsPH p g) (Mt.NoO)) wx wr)) (fun ov _ => l.length - (intOf ov).toNat)
      case atStart => exact ⟨0, [], rfl, Nat.zero_le _, Nat.zero_le _, Lib.hid rfl, Lib.hid srt_nil, Lib.hid (SaneN.nil (by decide)), h4⟩
      case round =>
        obtain ⟨j, g, rfl, hj, hj5, hge, hs, hsn, ho⟩ := hrel
        by_cases hgo : j < l.length ∧ j < 30
        · obtain ⟨hlt, hltK⟩ := hgo
          have d1 : decide ((j : Int) < (l.length : Int)) = true := decide_eq_true (by omega)
          have d2 : decide ((j : Int) < 30) = true := decide_eq_true (by omega)
          obtain ⟨b0, off, A1, c1, A2, c2, rfl, -, x0, x1, x2, x3, x4, hrv, -⟩ := hR.out _ (newOf ho.out.bel) j hlt
          obtain ⟨hb1, hb2, hb3⟩ := hb.out _ (List.getElem_mem hlt)
          have hsj := hsm.out _ (List.getElem_mem hlt)
          have HO := Lib.hid (Rc.own_any wr _ _ hrv hb1 hb2 hb3)
          obtain ⟨hn1, hn2⟩ := room_nextC hsn.out (show j < 100 by omega) hsj
          have hs2' := Lib.hid (hs.out.app l[j])
          have hge' : Hid (app g l[j] = apps [] (l.take (j + 1))) := Lib.hid (by rw [hge.out, apps_step hlt])
          have HA := Lib.hid (fun u w' (k1 : Rc.RView w' (Lb.Nw wr) u l[j]) (k2 : New0 wr w') => pappNew Mt.thingNo ho.out k1 k2 hs.out hb1 hn1 hsj.lab)
          have hn2' := Lib.hid hn2
          obtain ⟨z, hz⟩ : ∃ z : Nat, tr g l[j] = z := ⟨_, rfl⟩
          rw [hz] at HA
          obtain ⟨g2, hg2⟩ : ∃ g2, app g l[j] = g2 := ⟨_, rfl⟩
          rw [hg2] at HA hn2' hs2' hge'
          obtain ⟨rj, hrj⟩ : ∃ rj, l[j] = rj := ⟨_, rfl⟩
          rw [hrj] at x0 x1 x2 x3 x4 HO HA
          clear hrv hb1 hb2 hb3 hsj hn1 hn2 hz hg2 hrj hs hsn ho hge
          go_wp2_with fail
          refine HO.out.mono ?_
          rintro e w5 ⟨u, rfl, hv5, hu5⟩
          obtain ⟨A5, c5, A5', c5', rfl, -, -⟩ := Rc.RView.shape hv5
          have HA5 := Lib.hid (HA.out _ _ hv5 hu5)
          clear HO HA hv5 hu5 x0 x1 x2 x3 x4
          go_wp2_with fail
          refine HA5.out.mono ?_
          rintro e w6 ⟨rfl, h6⟩
          replace h6 := Lib.hid h6
          clear HA5
          go_wp2_with fail
          go_roundw
          case rel => exact ⟨j + 1, g2, by go_num, hlt, hltK, hge', hs2', hn2', h6⟩
          case measure => simp [intOf]; omega
        · have hje : Hid (j = min l.length 30) := Lib.hid (by omega)
          have hcase : (j < l.length ∧ ¬ j < 30) ∨ ¬ j < l.length := by
            by_cases h1 : j < l.length
            · exact .inl ⟨h1, fun h2 => hgo ⟨h1, h2⟩⟩
            · exact .inr h1
          clear hgo
          rcases hcase with ⟨hlt, h5⟩ | hlt
          case' inl =>
            have d1 : decide ((j : Int) < (l.length : Int)) = true := decide_eq_true (by omega)
            have d2 : decide ((j : Int) < 30) = false := decide_eq_false (by omega)
          case' inr =>
            have d1 : decide ((j : Int) < (l.length : Int)) = false := decide_eq_false (by omega)
          all_goals
            clear h4
            obtain ⟨g0, hg0⟩ : ∃ g0, g0 = g := ⟨_, rfl⟩
            subst hg0
            have hs0 := hs
            clear hs
            have hsn0 : Hid (SaneN (1000 * (70 - 0)) g0) := Lib.hid (hsn.out.less (by omega))
            have hsane0 : Sane g0 := (hsn0.out.less (show 0 ≤ _ by omega)).sane
            obtain ⟨Sp, hSp⟩ := ho.out.seeL
            have HC5 := Lib.hid (pcopy_any _ hSp hs0.out hsane0)
            clear hSp hsn hge
            go_wp2_with fail
            refine HC5.out.mono ?_
            rintro e w5 ⟨q, Sq, rfl, hq5, hSq5, hu5⟩
            have h5 := phCopy ho.out.dropr hq5 hSq5 hu5
            obtain ⟨Sp5, hSp5⟩ := h5.seeL
            have HQ5 := HQ.out p g0 _ _ hSp5 hs0.out hsane0 (newOf h5.bel)
            obtain ⟨Q0, hQ0⟩ : ∃ Q0, query g0 ms qa qb = Q0 := ⟨_, rfl⟩
            rw [hQ0] at HQ5
            replace HQ5 := Lib.hid HQ5
            replace hQ0 := Lib.hid hQ0
            obtain ⟨k0, k1, k2⟩ := hX.out _ (newOf h5.bel)
            replace h5 := Lib.hid h5
            clear HC5 hq5 hSq5 hu5 hSp5 ho
            go_wp2_with fail
            refine HQ5.out.mono ?_
            rintro e w6 ⟨u1, rfl, hq6, hu6⟩
            have h6 := pq (qMade (Tens.ob (thingPH p g0) (thingPH q g0)) h5.out hq6 hu6).assoc
            obtain ⟨Sq6, hSq6⟩ := h6.seeL
            have HQ6 := HQ.out q g0 _ _ hSq6 hs0.out hsane0 (newOf h6.bel)
            rw [hQ0.out] at HQ6
            replace HQ6 := Lib.hid HQ6
            clear k0 k1 k2
            obtain ⟨k0, k1, k2⟩ := hX.out _ (newOf h6.bel)
            replace h6 := Lib.hid h6
            clear HQ5 h5 hq6 hu6 hSq6
            go_wp2_with fail
            refine HQ6.out.mono ?_
            rintro e w7 ⟨u7, rfl, hq7, hu7⟩
            have h7 := h6.out.upon0 (Tens.ob (thingPH _ _) (Tens.ob (thingPH _ _) (thingQB _ _))) hu7
            obtain ⟨SQ, hSQ⟩ := h7.dropl.seeR
            have HS7 := Lib.hid (qsame_any _ _ _ _ _ Q0 Q0 hq7 hSQ.1)
            rw [decide_eq_true rfl] at HS7
            replace h7 := Lib.hid h7
            clear HQ6 h6 hq7 hu7 hSQ k0 k1 k2
            go_wp2_with fail
            refine HS7.out.mono ?_
            rintro e w8 ⟨rfl, k8, rfl⟩
            have h9 := Lib.hid (h7.out.upon0 (Tens.ob (thingPH _ _) (Tens.ob (thingPH _ _) (thingQB _ _))) (upon_drewN _ _ k8))
            clear HS7 h7
            go_wp2_with fail
            go_loopw [11] (fun ov wr => ∃ (j : Nat) (g : H), ov = .int .i64 (j : Int) ∧ j ≤ l2.length ∧ j ≤ 30 ∧ Hid (g = apps g0 (l2.take j)) ∧ Hid (Srt g) ∧ Hid (SaneN (1000 * (70 - j)) g) ∧ Hid (Ob.Own (Tens (IsPH q g) (Tens (IsPH p g0) (QB u1 Q0))) wx wr)) (fun ov _ => l2.length - (intOf ov).toNat)
            case atStart => exact ⟨0, g0, rfl, Nat.zero_le _, Nat.zero_le _, Lib.hid rfl, hs0, hsn0, h9⟩
            case round =>
              obtain ⟨j, g, rfl, hj, hj5, hge, hs, hsn, ho⟩ := hrel
              by_cases hgo : j < l2.length ∧ j < 30
              · obtain ⟨hlt, hltK⟩ := hgo
                have d1 : decide ((j : Int) < (l2.length : Int)) = true := decide_eq_true (by omega)
                have d2 : decide ((j : Int) < 30) = true := decide_eq_true (by omega)
                obtain ⟨b0, off, A1, c1, A2, c2, rfl, -, x0, x1, x2, x3, x4, hrv, -⟩ := hR2.out _ (newOf ho.out.bel) j hlt
                obtain ⟨hb1, hb2, hb3⟩ := hb2m.out _ (List.getElem_mem hlt)
                have hsj := hsm2.out _ (List.getElem_mem hlt)
                have HO := Lib.hid (Rc.own_any wr _ _ hrv hb1 hb2 hb3)
                obtain ⟨hn1, hn2⟩ := room_nextC hsn.out (show j < 70 by omega) hsj
                have hs2' := Lib.hid (hs.out.app l2[j])
                have hge' : Hid (app g l2[j] = apps g0 (l2.take (j + 1))) := Lib.hid (by rw [hge.out, apps_step hlt])
                have HA := Lib.hid (fun u w' (k1 : Rc.RView w' (Lb.Nw wr) u l2[j]) (k2 : New0 wr w') => pappNew (Tens.ob (thingPH _ _) (thingQB _ _)) ho.out k1 k2 hs.out hb1 hn1 hsj.lab)
                have hn2' := Lib.hid hn2
                obtain ⟨z, hz⟩ : ∃ z : Nat, tr g l2[j] = z := ⟨_, rfl⟩
                rw [hz] at HA
                obtain ⟨g2, hg2⟩ : ∃ g2, app g l2[j] = g2 := ⟨_, rfl⟩
                rw [hg2] at HA hn2' hs2' hge'
                obtain ⟨rj, hrj⟩ : ∃ rj, l2[j] = rj := ⟨_, rfl⟩
                rw [hrj] at x0 x1 x2 x3 x4 HO HA
                clear hrv hb1 hb2 hb3 hsj hn1 hn2 hz hg2 hrj hs hsn ho hge
                go_wp2_with fail
                refine HO.out.mono ?_
                rintro e w5 ⟨u, rfl, hv5, hu5⟩
                obtain ⟨A5, c5, A5', c5', rfl, -, -⟩ := Rc.RView.shape hv5
                have HA5 := Lib.hid (HA.out _ _ hv5 hu5)
                clear HO HA hv5 hu5 x0 x1 x2 x3 x4
                go_wp2_with fail
                refine HA5.out.mono ?_
                rintro e w6 ⟨rfl, h6⟩
                replace h6 := Lib.hid h6
                clear HA5
                go_wp2_with fail
                go_roundw
                case rel => exact ⟨j + 1, g2, by go_num, hlt, hltK, hge', hs2', hn2', h6⟩
                case measure => simp [intOf]; omega
              · have hje : Hid (j = min l2.length 30) := Lib.hid (by omega)
                have hcase : (j < l2.length ∧ ¬ j < 30) ∨ ¬ j < l2.length := by
                  by_cases h1 : j < l2.length
                  · exact .inl ⟨h1, fun h2 => hgo ⟨h1, h2⟩⟩
                  · exact .inr h1
                clear hgo
                rcases hcase with ⟨hlt, h5⟩ | hlt
                case' inl =>
                  have d1 : decide ((j : Int) < (l2.length : Int)) = true := decide_eq_true (by omega)
                  have d2 : decide ((j : Int) < 30) = false := decide_eq_false (by omega)
                case' inr =>
                  have d1 : decide ((j : Int) < (l2.length : Int)) = false := decide_eq_false (by omega)
                all_goals
                  obtain ⟨g1, hg1⟩ : ∃ g1, g1 = g := ⟨_, rfl⟩
                  subst hg1
                  have hge1 := hge
                  have hje1 := hje
                  have hs1 := hs
                  clear hs hsn hge hje
                  clear h9
                  have hx := pq ho.out
                  obtain ⟨Sp, hSp⟩ := hx.seeL
                  have HQ10 := HQ.out p g0 _ _ hSp hs0.out (hsn0.out.less (show 0 ≤ _ by omega)).sane (newOf hx.bel)
                  rw [hQ0.out] at HQ10
                  replace HQ10 := Lib.hid HQ10
                  obtain ⟨k0, k1, k2⟩ := hX.out _ (newOf hx.bel)
                  replace hx := Lib.hid hx
                  clear hSp ho
                  go_wp2_with fail
                  refine HQ10.out.mono ?_
                  rintro e w10 ⟨u10, rfl, hq10, hu10⟩
                  have h11 := hx.out.upon0 (Tens.ob (thingPH _ _) (Tens.ob (thingPH _ _) (thingQB _ _))) hu10
                  obtain ⟨SQ, hSQ⟩ := h11.dropl.seeR
                  have HS11 := Lib.hid (qsame_any _ _ _ _ _ Q0 Q0 hq10 hSQ.1)
                  rw [decide_eq_true rfl] at HS11
                  replace h11 := Lib.hid h11
                  clear HQ10 hx hq10 hu10 hSQ k0 k1 k2
                  go_wp2_with fail
                  refine HS11.out.mono ?_
                  rintro e w12 ⟨rfl, k12, rfl⟩
                  have h12 := Lib.hid (h11.out.upon0 (Tens.ob (thingPH _ _) (Tens.ob (thingPH _ _) (thingQB _ _))) (upon_drewN _ _ k12))
                  clear HS11 h11
                  go_wp2_with fail
                  go_loopw [12] (fun ov wr => ∃ (j : Nat) (g : H), ov = .int .i64 (j : Int) ∧ j ≤ l2.length ∧ j ≤ 30 ∧ Hid (g = apps g0 (l2.take j)) ∧ Hid (Srt g) ∧ Hid (SaneN (1000 * (70 - j)) g) ∧ Hid (Ob.Own (Tens (IsPH p g) (Tens (IsPH q g1) (QB u1 Q0))) wx wr)) (fun ov _ => l2.length - (intOf ov).toNat)
                  case atStart => exact ⟨0, g0, rfl, Nat.zero_le _, Nat.zero_le _, Lib.hid rfl, hs0, hsn0, h12⟩
                  case round =>
                    obtain ⟨j, g, rfl, hj, hj5, hge, hs, hsn, ho⟩ := hrel
                    by_cases hgo : j < l2.length ∧ j < 30
                    · obtain ⟨hlt, hltK⟩ := hgo
                      have d1 : decide ((j : Int) < (l2.length : Int)) = true := decide_eq_true (by omega)
                      have d2 : decide ((j : Int) < 30) = true := decide_eq_true (by omega)
                      obtain ⟨b0, off, A1, c1, A2, c2, rfl, -, x0, x1, x2, x3, x4, hrv, -⟩ := hR2.out _ (newOf ho.out.bel) j hlt
                      obtain ⟨hb1, hb2, hb3⟩ := hb2m.out _ (List.getElem_mem hlt)
                      have hsj := hsm2.out _ (List.getElem_mem hlt)
                      have HO := Lib.hid (Rc.own_any wr _ _ hrv hb1 hb2 hb3)
                      obtain ⟨hn1, hn2⟩ := room_nextC hsn.out (show j < 70 by omega) hsj
                      have hs2' := Lib.hid (hs.out.app l2[j])
                      have hge' : Hid (app g l2[j] = apps g0 (l2.take (j + 1))) := Lib.hid (by rw [hge.out, apps_step hlt])
                      have HA := Lib.hid (fun u w' (k1 : Rc.RView w' (Lb.Nw wr) u l2[j]) (k2 : New0 wr w') => pappNew (Tens.ob (thingPH _ _) (thingQB _ _)) ho.out k1 k2 hs.out hb1 hn1 hsj.lab)
                      have hn2' := Lib.hid hn2
                      obtain ⟨z, hz⟩ : ∃ z : Nat, tr g l2[j] = z := ⟨_, rfl⟩
                      rw [hz] at HA
                      obtain ⟨g2, hg2⟩ : ∃ g2, app g l2[j] = g2 := ⟨_, rfl⟩
                      rw [hg2] at HA hn2' hs2' hge'
                      obtain ⟨rj, hrj⟩ : ∃ rj, l2[j] = rj := ⟨_, rfl⟩
                      rw [hrj] at x0 x1 x2 x3 x4 HO HA
                      clear hrv hb1 hb2 hb3 hsj hn1 hn2 hz hg2 hrj hs hsn ho hge
                      go_wp2_with fail
                      refine HO.out.mono ?_
                      rintro e w5 ⟨u, rfl, hv5, hu5⟩
                      obtain ⟨A5, c5, A5', c5', rfl, -, -⟩ := Rc.RView.shape hv5
                      have HA5 := Lib.hid (HA.out _ _ hv5 hu5)
                      clear HO HA hv5 hu5 x0 x1 x2 x3 x4
                      go_wp2_with fail
                      refine HA5.out.mono ?_
                      rintro e w6 ⟨rfl, h6⟩
                      replace h6 := Lib.hid h6
                      clear HA5
                      go_wp2_with fail
                      go_roundw
                      case rel => exact ⟨j + 1, g2, by go_num, hlt, hltK, hge', hs2', hn2', h6⟩
                      case measure => simp [intOf]; omega
                    · have hje : Hid (j = min l2.length 30) := Lib.hid (by omega)
                      have hcase : (j < l2.length ∧ ¬ j < 30) ∨ ¬ j < l2.length := by
                        by_cases h1 : j < l2.length
                        · exact .inl ⟨h1, fun h2 => hgo ⟨h1, h2⟩⟩
                        · exact .inr h1
                      clear hgo
                      rcases hcase with ⟨hlt, h5⟩ | hlt
                      case' inl =>
                        have d1 : decide ((j : Int) < (l2.length : Int)) = true := decide_eq_true (by omega)
                        have d2 : decide ((j : Int) < 30) = false := decide_eq_false (by omega)
                      case' inr =>
                        have d1 : decide ((j : Int) < (l2.length : Int)) = false := decide_eq_false (by omega)
                      all_goals
                        have hgg : Hid (g = g1) := Lib.hid (by rw [hge.out, hge1.out, hje.out, hje1.out])
                        have e3 := hgg.out
                        subst e3
                        obtain ⟨Sp, hSp⟩ := ho.out.seeL
                        obtain ⟨Sq, hSq⟩ := ho.out.dropl.seeL
                        have hn6 := Lib.hid (newOf ho.out.bel)
                        have hsane3 : Sane g := (hsn.out.less (show 0 ≤ _ by omega)).sane
                        have HQ6 : Hid (∀ W, New0 wr W → (Calls Try.prog 15 #[.pointer (some ⟨p, 0, none⟩), .slice ma ms.length mc, .int .i64 qa, .int .i64 qb] W fun e w' => ∃ u, e = .returned u ∧ QView w' (Lb.Nw W) u (query g ms qa qb) ∧ New0 W w') ∧ (Calls Try.prog 15 #[.pointer (some ⟨q, 0, none⟩), .slice ma ms.length mc, .int .i64 qa, .int .i64 qb] W fun e w' => ∃ u, e = .returned u ∧ QView w' (Lb.Nw W) u (query g ms qa qb) ∧ New0 W w')) := Lib.hid (fun W hu => ⟨HQ.out _ _ _ _ (ph_new hSp hu) hs.out hsane3 (hn6.out.trans hu), HQ.out _ _ _ _ (ph_new hSq hu) hs.out hsane3 (hn6.out.trans hu)⟩)
                        have hX6 := Lib.hid (fun W (hu : New0 wr W) => hX.out W (hn6.out.trans hu))
                        obtain ⟨Q, hQ⟩ : ∃ Q, query g ms qa qb = Q := ⟨_, rfl⟩
                        rw [hQ] at HQ6
                        obtain ⟨k0, k1, k2⟩ := hX6.out wr (Upon.refl _ _)
                        clear hSp hSq hQ ho hs hsn hge hge1 hje hje1 hgg HQ
                        go_wp2_with fail
                        go_region_held3 (fun w' => w'.cell? ⟨w.heap.size, 0, none⟩ = some (.slice ma ms.length mc) ∧ w'.cell? ⟨w.heap.size, 1, none⟩ = some (.int .i64 qa) ∧ w'.cell? ⟨w.heap.size, 2, none⟩ = some (.int .i64 qb))
                          ((first | exact hX6.out _ (nb2.trans (upon_drewN _ _ _)) | exact hX6.out _ (by repeat (first | assumption | exact Upon.refl _ _ | refine Upon.drew ?_))))
                          (first
                          | (go_at_call 15; (first
                              | (refine (HQ6.out wa na).2.mono ?_; rintro e wb ⟨ub, rfl, qvb, nb⟩; have nb2 : New0 wr wb := na.trans nb; have qva2 := Rw.DView.new qva nb; clear nb)
                              | (refine (HQ6.out _ ((by repeat (first | assumption | exact Upon.refl _ _ | refine Upon.drew ?_)))).1.mono ?_; rintro e wa ⟨ua, rfl, qva, na0⟩; have na : New0 wr wa := Upon.trans ((by repeat (first | assumption | exact Upon.refl _ _ | refine Upon.drew ?_)) : New0 wr _) na0; clear na0)))
                          | (go_at_call 14; refine (qsame_any _ _ _ _ _ Q Q qva2 qvb).mono ?_; rintro e wc ⟨rfl, kc, rfl⟩; rw [decide_eq_true rfl])
                          | fail)
                        all_goals
                          go_wp2_with fail
                          go_ret
                          exact ⟨rfl, hfin.out _ (hn6.out.trans (nb2.trans (upon_drewN _ _ _)))⟩
end Hd
end Go.Proofs.Ytfheehlfodoimaa
