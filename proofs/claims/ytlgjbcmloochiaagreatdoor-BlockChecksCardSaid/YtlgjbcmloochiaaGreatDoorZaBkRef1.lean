/- The document's own blocks (layer 15): Check. -/
import Derived.Test.YtlgjbcmloochiaaGreatDoorZaBkRow
set_option maxRecDepth 100000
namespace Go.Proofs.YtlgjbcmloochiaaGreatDoor
open Go.RowKit Go.Sort
namespace Bk
open Bit Dsk Ob Dig
set_option linter.unusedVariables false

def GoodR (l : List Row) (j : Nat) : Prop := ∀ i, i < j → rowErr l i = 0
theorem GoodR.start (l : List Row) : GoodR l 0 := fun i h => absurd h (Nat.not_lt_zero i)
theorem GoodR.step {l : List Row} {j : Nat} (h : GoodR l j) (hj : j < l.length) (h1 : Lb.Ok l[j].lab) (h2 : Behind l j) (h3 : PtsOk l[j]) : GoodR l (j + 1) := fun i hi => by
  rcases Nat.lt_succ_iff_lt_or_eq.1 hi with hi | rfl
  · exact h i hi
  · exact rowErr_ok hj h1 h2 h3
theorem behind_zero (l : List Row) : Behind l 0 := fun k h e => by omega
theorem behind_yes {l : List Row} {i j : Nat} (hi : i < l.length) (hj : j < l.length) (e : j = i + 1) (h : Lb.cmp l[i].lab l[j].lab < 0) : Behind l j := fun k h2 e2 h3 => by
  obtain rfl : k = i := by omega
  exact h
theorem behind_no {l : List Row} {i j : Nat} (hi : i < l.length) (hj : j < l.length) (e : j = i + 1) (h : 0 ≤ Lb.cmp l[i].lab l[j].lab) : ¬ Behind l j := fun k => by
  have := k i hj e hi
  omega
structure PtsTo (r : Row) (k : Nat) : Prop where
  rise : Ck.Rises r.pts k
  le : ∀ i (h : i < r.pts.length), i < k → r.pts[i].1 ≤ r.last
theorem PtsTo.start (r : Row) : PtsTo r 0 := ⟨Ck.Rises.zero _, fun i _ h => absurd h (Nat.not_lt_zero i)⟩
theorem PtsTo.step {r : Row} {k : Nat} (h : PtsTo r k) (hk : k < r.pts.length) (h1 : r.pts[k].1 ≤ r.last) (h2 : ∀ i (hi : i < r.pts.length), k = i + 1 → r.pts[i].1 < r.pts[k].1) : PtsTo r (k + 1) := by
  refine ⟨?_, fun i hi hik => ?_⟩
  · cases k with
    | zero => exact Ck.Rises.one _
    | succ i =>
      have := h2 i (by omega) rfl
      exact h.rise.next (by rw [Ck.T_get (by omega), Ck.T_get hk]; exact this)
  · rcases Nat.lt_succ_iff_lt_or_eq.1 hik with h3 | rfl
    · exact h.le i hi h3
    · exact h1
theorem PtsTo.last {r : Row} {k : Nat} (h : PtsTo r k) (hk : ¬ k < r.pts.length) (hk2 : k ≤ r.pts.length) : PtsOk r := by
  obtain rfl : k = r.pts.length := by omega
  refine ⟨h.rise, fun p hp => ?_⟩
  obtain ⟨i, hi, rfl⟩ := List.mem_iff_getElem.1 hp
  exact h.le i hi hi
theorem pts_above {r : Row} {k : Nat} (hk : k < r.pts.length) (h : r.last < r.pts[k].1) : ¬ PtsOk r := fun p => by
  have := p.le _ (List.getElem_mem hk)
  omega
theorem pts_fall {r : Row} {i k : Nat} (hi : i < r.pts.length) (hk : k < r.pts.length) (e : k = i + 1) (h : r.pts[k].1 ≤ r.pts[i].1) : ¬ PtsOk r := fun p => by
  have h1 := p.rise i (by omega)
  subst e
  rw [Ck.T_get hi, Ck.T_get hk] at h1
  omega
theorem GoodD.last {ds : List Rc.R} {j : Nat} (h : ∀ i (hi : i < ds.length), i < j → DelOk ds[i]) (hj : ¬ j < ds.length) : ∀ r ∈ ds, DelOk r := fun r hr => by
  obtain ⟨i, hi, rfl⟩ := List.mem_iff_getElem.1 hr
  exact h i hi (by omega)
/-- Compare, at a world of draws. -/
theorem cmpQ (w : World) (S S' : Nat → Prop) (v1 v2 : Value) (l m : List Lb.Pr) (h1 : Lb.View w S v1 l) (h2 : Lb.View w S' v2 m) {z : Int} (hz : Lb.cmp l m = z) (n : Nat) : Calls Tryz.prog 44 #[v1, v2] (w.drewN n) fun e w' => e = .returned (.int .i64 z) ∧ ∃ k, w' = (w.drewN n).drewN k := by
  subst hz
  exact Lb.refcmp_any _ S S' v1 v2 l m (Rw.View.new h1 (upon_drewN _ w n)) (Rw.View.new h2 (upon_drewN _ w n))

set_option maxHeartbeats 12800000 in
theorem refcheck_any (w : World) (S : Nat → Prop) (v : Value) (b : B) (hv : BView w S v b) (hb : Bnd b) :
    Calls Tryz.prog 13 #[v] w fun e w' => e = .returned (.int .i64 (chk b : Int)) ∧ New0 w w' := by
  obtain ⟨A, c, A', c', rfl, hr, hd⟩ := BView.shape hv
  have hsml := Lib.hid hb.sml
  have hdb := Lib.hid hb.dels
  have hfew := Lib.hid hb.few
  have hfew2 := Lib.hid hb.few2
  have hS1 := Lib.hid (chk_span (b := b))
  have hE1 := Lib.hid (fun hs (j : Nat) (hj : j < b.rows.length) (hg : GoodR b.rows j) (he : rowErr b.rows j ≠ 0) => chk_row (b := b) hs hj hg he)
  have hE2 := Lib.hid (fun hs (hg : GoodR b.rows b.rows.length) r (hr : r ∈ b.dels) (hn : ¬ DelOk r) => chk_del (b := b) hs hg hr hn)
  have hE3 := Lib.hid (fun hs (hg : GoodR b.rows b.rows.length) hd => chk_ok (b := b) hs hg hd)
  have hbs : Hid (badSpan b ↔ b.first < 1 ∨ 99999999 < b.til ∨ b.til < b.first) := Lib.hid Iff.rfl
  obtain ⟨q, hq⟩ : ∃ q, chk b = q := ⟨_, rfl⟩
  rw [hq] at hS1 hE1 hE2 hE3 ⊢
  clear hq hb hv
  obtain ⟨f, t, l, ds⟩ := b
  simp only at hr hd hsml hdb hfew hfew2 hS1 hE1 hE2 hE3 hbs ⊢
  have hB := Lib.hid (box4 w f t (.slice A l.length c) (.slice A' ds.length c') 25)
  have hU := Lib.hid ((Upon.refl (fun _ => False) w).alloc (.cells #[.int .i64 f, .int .i64 t, .slice A l.length c, .slice A' ds.length c'] 25 (0, 0)))
  by_cases c1 : f < 1
  · have hR : Hid ((2 : Int) = (q : Int)) := Lib.hid (by rw [hS1.out (hbs.out.2 (.inl c1))]; rfl)
    clear hr hd hsml hdb hfew hfew2 hS1 hE1 hE2 hE3 hbs hB
    go_enter Tryz.func13, Tryz.ntmps13
    go_wp2_with fail
    go_ret
    exact ⟨Lb.ret_i hR.out, hU.out⟩
  by_cases c2 : 99999999 < t
  · have hR : Hid ((2 : Int) = (q : Int)) := Lib.hid (by rw [hS1.out (hbs.out.2 (.inr (.inl c2)))]; rfl)
    clear hr hd hsml hdb hfew hfew2 hS1 hE1 hE2 hE3 hbs hB
    go_enter Tryz.func13, Tryz.ntmps13
    go_wp2_with fail
    go_ret
    exact ⟨Lb.ret_i hR.out, hU.out⟩
  by_cases c3 : t < f
  · have hR : Hid ((2 : Int) = (q : Int)) := Lib.hid (by rw [hS1.out (hbs.out.2 (.inr (.inr c3)))]; rfl)
    clear hr hd hsml hdb hfew hfew2 hS1 hE1 hE2 hE3 hbs hB
    go_enter Tryz.func13, Tryz.ntmps13
    go_wp2_with fail
    go_ret
    exact ⟨Lb.ret_i hR.out, hU.out⟩
  have hns : ¬ badSpan ⟨f, t, l, ds⟩ := fun k => by rcases hbs.out.1 k with k | k | k <;> contradiction
  have hF1 : Hid (∀ j (hj : j < l.length), GoodR l j → ¬ Lb.Ok l[j].lab → (16 : Int) = (q : Int)) := Lib.hid (fun j hj hg hn => by
    have e := rowErr_lab hj hn
    rw [hE1.out hns j hj hg (by rw [e]; decide), e]; rfl)
  have hF2 : Hid (∀ j (hj : j < l.length), GoodR l j → Lb.Ok l[j].lab → ¬ Behind l j → (9 : Int) = (q : Int)) := Lib.hid (fun j hj hg ho hn => by
    have e := rowErr_ord hj ho hn
    rw [hE1.out hns j hj hg (by rw [e]; decide), e]; rfl)
  have hF3 : Hid (∀ j (hj : j < l.length), GoodR l j → Lb.Ok l[j].lab → ¬ PtsOk l[j] → (9 : Int) = (q : Int)) := Lib.hid (fun j hj hg ho hn => by
    have e := rowErr_pts hj ho hn
    rw [hE1.out hns j hj hg (by rw [e]; decide), e]; rfl)
  replace hE2 : Hid (GoodR l l.length → ∀ r ∈ ds, ¬ DelOk r → (5 : Int) = (q : Int)) := Lib.hid (fun hg r hr hn => by rw [hE2.out hns hg r hr hn]; rfl)
  replace hE3 : Hid (GoodR l l.length → (∀ r ∈ ds, DelOk r) → (0 : Int) = (q : Int)) := Lib.hid (fun hg h => by rw [hE3.out hns hg h]; rfl)
  have hcells := Lib.hid (fun h => BsView.cells hr h)
  have hds := Lib.hid (fun (i : Nat) (hi : i < ds.length) => Hd.RsView.at hd hi)
  clear hS1 hE1 hbs hr hd hns
  have hlm : l.length < 9223372036854775807 := by have := hfew.out; omega
  have hdm : ds.length < 9223372036854775807 := by have := hfew2.out; omega
  clear hfew hfew2
  obtain ⟨wb, hwb⟩ : ∃ wb, w.alloc (.cells #[.int .i64 f, .int .i64 t, .slice A l.length c, .slice A' ds.length c'] 25 (0, 0)) = wb := ⟨_, rfl⟩
  rw [hwb] at hB hU
  replace hwb := Lib.hid hwb
  go_enter Tryz.func13, Tryz.ntmps13
  go_wp2_with fail
  rw [hwb.out]
  clear hwb c1 c2 c3
  go_loopw [3] (fun ov wr => ∃ j : Nat, ov = .int .i64 (j : Int) ∧ j ≤ l.length ∧ Hid (GoodR l j) ∧ Hid (New0 wb wr)) (fun ov _ => l.length - (intOf ov).toNat)
  case atStart => exact ⟨0, rfl, Nat.zero_le _, Lib.hid (GoodR.start l), Lib.hid (Upon.refl _ _)⟩
  case round =>
    obtain ⟨j, rfl, hj, hg, hu⟩ := hrel
    obtain ⟨k0, k1, k2, k3⟩ := hB.out.new hu.out
    by_cases hlt : j < l.length
    · obtain ⟨b0, off, rfl, -, hcl⟩ := hcells.out (by omega)
      obtain ⟨A1, c1, A2, c2, x0, x1, x2, hv1, hv2⟩ := hcl j hlt
      have hall := hU.out.trans hu.out
      have r0 := Lb.New0.cells hall x0
      have r1 := Lb.New0.cells hall x1
      have r2 := Lb.New0.cells hall x2
      have hsm := hsml.out _ (List.getElem_mem hlt)
      have hfl := Lib.hid (hF1.out j hlt hg.out)
      have hfo := Lib.hid (hF2.out j hlt hg.out)
      have hfp := Lib.hid (hF3.out j hlt hg.out)
      have hst := Lib.hid (hg.out.step hlt)
      have hby := Lib.hid (fun i (hi : i < l.length) => behind_yes (l := l) hi hlt)
      have hbn := Lib.hid (fun i (hi : i < l.length) => behind_no (l := l) hi hlt)
      obtain ⟨r, hr⟩ : ∃ r, l[j] = r := ⟨_, rfl⟩
      rw [hr] at r0 r1 r2 hv1 hv2 hsm hfl hfo hfp hst
      replace hby : Hid (∀ i (hi : i < l.length), j = i + 1 → Lb.cmp l[i].lab r.lab < 0 → Behind l j) := Lib.hid (fun i hi e h => hby.out i hi e (by rw [hr]; exact h))
      replace hbn : Hid (∀ i (hi : i < l.length), j = i + 1 → 0 ≤ Lb.cmp l[i].lab r.lab → ¬ Behind l j) := Lib.hid (fun i hi e h => hbn.out i hi e (by rw [hr]; exact h))
      have hrow : Hid (∀ i (hi : i < l.length), ∃ (A1 : Option Addr) (c1 : Nat), w.cell? ⟨b0, off + i * 3, none⟩ = some (.slice A1 l[i].lab.length c1) ∧ Lb.View w S (.slice A1 l[i].lab.length c1) l[i].lab) := Lib.hid (fun i hi => by
        obtain ⟨A1, c1, -, -, y0, -, -, hv, -⟩ := hcl i hi
        exact ⟨A1, c1, y0, hv⟩)
      clear hcl x0 x1 x2 hr hg
      obtain ⟨wx, hwx⟩ : ∃ wx, wr.alloc (.cells #[.slice A1 r.lab.length c1, .int .i64 r.last, .slice A2 r.pts.length c2] 70 (0, 0)) = wx := ⟨_, rfl⟩
      have hX := Lib.hid (box3 wr (.slice A1 r.lab.length c1) r.last (.slice A2 r.pts.length c2) 70)
      have hUX := Lib.hid ((Upon.refl (fun _ => False) wr).alloc (.cells #[.slice A1 r.lab.length c1, .int .i64 r.last, .slice A2 r.pts.length c2] 70 (0, 0)))
      rw [hwx] at hX hUX
      replace hwx := Lib.hid hwx
      have hux := Lib.hid (hall.trans hUX.out)
      have hubx := Lib.hid (hu.out.trans hUX.out)
      have HL1 := Lib.hid (Lb.refcheck_any wx S _ _ (Rw.View.new hv1 hux.out) hsm)
      have hvx := Lib.hid (Rw.View.new hv1 hux.out)
      have hvp := Lib.hid (Rw.View.new hv2 hux.out)
      have hpm : r.pts.length ≤ 9223372036854775807 := by
        obtain ⟨_, _, _, a1, a2⟩ := Rw.View.shape hv2
        have : maxLen = 9223372036854775807 := rfl
        omega
      clear hv1 hv2 hsm hall hu
      by_cases hok : ¬ Lb.Ok r.lab
      · have hR := Lib.hid (hfl.out hok)
        rw [Lb.chk_no hok] at HL1
        clear hfl hfo hfp hst hby hbn hrow hvx hvp hok hF1 hF2 hF3 hE2 hE3 hds hdb hsml
        go_wp2_with fail
        rw [hwx.out]
        refine HL1.out.mono ?_
        rintro e w2 ⟨rfl, n2, rfl⟩
        have hu2 := Lib.hid (hux.out.trans (upon_drewN _ wx n2))
        clear HL1 hux hubx r0 r1 r2 k0 k1 k2 k3 hX hUX
        go_wp2_with fail
        go_ret
        exact ⟨Lb.ret_i hR.out, hu2.out⟩
      replace hok := Classical.not_not.1 hok
      rw [Lb.chk_ok hok] at HL1
      replace hfo := Lib.hid (hfo.out hok)
      replace hfp := Lib.hid (hfp.out hok)
      replace hst := Lib.hid (hst.out hok)
      clear hfl hok
      go_wp2_with fail
      rw [hwx.out]
      refine HL1.out.mono ?_
      rintro e w2 ⟨rfl, n2, rfl⟩
      clear HL1 hwx hUX k0 k1 k2 k3 r0 r1 r2
      obtain ⟨k0, k1, k2, k3⟩ := hB.out.new (hubx.out.trans (upon_drewN _ wx n2))
      obtain ⟨z0, z1, z2⟩ := hX.out.new (upon_drewN _ wx n2)
      obtain ⟨kx0, kx1, kx2, kx3⟩ := hB.out.new hubx.out
      obtain ⟨zx0, zx1, zx2⟩ := hX.out
      by_cases h0 : j = 0
      · have hbe : Hid (Behind l j) := Lib.hid (by rw [h0]; exact behind_zero l)
        have hj0 : decide (0 < j) = false := decide_eq_false (by omega)
        clear hby hbn hrow hfo h0
        go_wp2_with fail
        go_quiet (fail)
        clear k0 k1 k2 k3 z0 z1 z2 hj0
        go_wp2_with fail
        go_loopw [5] (fun ov wr => ∃ k m : Nat, ov = .int .i64 (k : Int) ∧ k ≤ r.pts.length ∧ Hid (PtsTo r k) ∧ wr = wx.drewN m) (fun ov _ => r.pts.length - (intOf ov).toNat)
        case atStart => exact ⟨0, _, rfl, Nat.zero_le _, Lib.hid (PtsTo.start r), by rw [World.drewN_drewN]⟩
        case round =>
          obtain ⟨k, m, rfl, hk, hp, rfl⟩ := hrel
          obtain ⟨k0, k1, k2, k3⟩ := hB.out.new (hubx.out.trans (upon_drewN _ wx m))
          obtain ⟨z0, z1, z2⟩ := hX.out.new (upon_drewN _ wx m)
          by_cases hkl : k < r.pts.length
          · obtain ⟨pb, po, rfl, -, hpc⟩ := pts_cells hvp.out (by omega)
            obtain ⟨p0, -⟩ := hpc k hkl
            have q0 := p0
            have hps := Lib.hid (hp.out.step hkl)
            have hpa := Lib.hid (pts_above (r := r) hkl)
            have hpf := Lib.hid (fun i (hi : i < r.pts.length) => pts_fall (r := r) hi hkl)
            obtain ⟨T, hT⟩ : ∃ T, r.pts[k].1 = T := ⟨_, rfl⟩
            rw [hT] at q0 hps hpa
            replace hpf : Hid (∀ i (hi : i < r.pts.length), k = i + 1 → T ≤ r.pts[i].1 → ¬ PtsOk r) := Lib.hid (fun i hi e h => hpf.out i hi e (by rw [hT]; exact h))
            clear p0 hT hp
            by_cases ha : r.last < T
            · have hR := Lib.hid (hfp.out (hpa.out ha))
              have d1 : decide (r.last < T) = true := decide_eq_true ha
              have hu2 := Lib.hid (hux.out.trans (upon_drewN _ wx m))
              clear hpc hps hpa hpf ha hvp hvx hst hfp hbe hE2 hE3 hds hdb hsml hF1 hF2 hF3 hcells hB hX
              go_wp2_with fail
              go_quiet (fail)
              go_wp2_with fail
              go_ret
              exact ⟨Lb.ret_i hR.out, hu2.out.trans (upon_drewN _ _ _)⟩
            · have d1 : decide (r.last < T) = false := decide_eq_false ha
              by_cases h0 : k = 0
              · have hG := Lib.hid (hps.out (by omega) (fun i _ e => by omega))
                have hk0 : decide (0 < k) = false := decide_eq_false (by omega)
                clear hpc hps hpa hpf ha h0
                go_wp2_with fail
                go_quiet (fail)
                go_wp2_with fail
                go_roundw
                case rel => exact ⟨k + 1, _, by go_num, hkl, hG, rfl⟩
                case measure => simp [intOf]; omega
              · obtain ⟨i, hi⟩ : ∃ i, k = i + 1 := ⟨k - 1, by omega⟩
                have hil : i < r.pts.length := by omega
                obtain ⟨p1, -⟩ := hpc i hil
                have q1 := p1
                have hidx : IntKind.i64.wrap ((k : Int) - 1) = (i : Int) := by rw [IntKind.wrap_i64]; omega
                have hk0 : decide (0 < k) = true := decide_eq_true (by omega)
                replace hpf := Lib.hid (hpf.out i hil hi)
                replace hps : Hid (r.pts[i].1 < T → PtsTo r (k + 1)) := Lib.hid (fun h => hps.out (by omega) (fun i' hi' e => by
                  obtain rfl : i' = i := by omega
                  exact h))
                obtain ⟨U, hU⟩ : ∃ U, r.pts[i].1 = U := ⟨_, rfl⟩
                rw [hU] at q1 hpf hps
                clear p1 hU hpc hpa ha h0 hi
                by_cases hf : T ≤ U
                · have hR := Lib.hid (hfp.out (hpf.out hf))
                  have d2 : decide (T ≤ U) = true := decide_eq_true hf
                  have hu2 := Lib.hid (hux.out.trans (upon_drewN _ wx m))
                  clear hps hpf hf hvp hvx hst hfp hbe hE2 hE3 hds hdb hsml hF1 hF2 hF3 hcells hB hX
                  go_wp2_with fail
                  go_quiet (fail)
                  go_wp2_with fail
                  go_ret
                  exact ⟨Lb.ret_i hR.out, hu2.out.trans (upon_drewN _ _ _)⟩
                · have hG := Lib.hid (hps.out (by omega))
                  have d2 : decide (T ≤ U) = false := decide_eq_false hf
                  clear hps hpf hf
                  go_wp2_with fail
                  go_quiet (fail)
                  go_wp2_with fail
                  go_roundw
                  case rel => exact ⟨k + 1, _, by go_num, hkl, hG, rfl⟩
                  case measure => simp [intOf]; omega
          · have hG := Lib.hid (hst.out hbe.out (hp.out.last hkl hk))
            have hu2 := Lib.hid (hubx.out.trans (upon_drewN _ wx m))
            clear hst hbe hp hvp hvx hfp hX hux hubx
            go_wp2_with fail
            go_roundw
            case rel => exact ⟨j + 1, by go_num, hlt, hG, hu2⟩
            case measure => simp [intOf]; omega
      · obtain ⟨i, hi⟩ : ∃ i, j = i + 1 := ⟨j - 1, by omega⟩
        have hil : i < l.length := by omega
        obtain ⟨A3, c3, y0, hv3⟩ := hrow.out i hil
        have g0 := Lb.New0.cells hux.out y0
        have hidx : IntKind.i64.wrap ((j : Int) - 1) = (i : Int) := by rw [IntKind.wrap_i64]; omega
        have hj0 : decide (0 < j) = true := decide_eq_true (by omega)
        replace hby := Lib.hid (hby.out i hil hi)
        replace hbn := Lib.hid (hbn.out i hil hi)
        obtain ⟨z, hz⟩ : ∃ z, Lb.cmp l[i].lab r.lab = z := ⟨_, rfl⟩
        have HC := Lib.hid (cmpQ wx S S _ _ _ _ (Rw.View.new hv3 hux.out) hvx.out hz)
        rw [hz] at hby hbn
        obtain ⟨n3, hn3⟩ : ∃ n3, l[i].lab.length = n3 := ⟨_, rfl⟩
        rw [hn3] at g0 HC
        clear hrow y0 hv3 hz h0 hi hn3
        by_cases hc : 0 ≤ z
        · have hR := Lib.hid (hfo.out (hbn.out hc))
          have d1 : decide (0 ≤ z) = true := decide_eq_true hc
          have hu2 := Lib.hid (hux.out.trans (upon_drewN _ wx n2))
          clear hby hbn hfo hc hvp hvx hst hfp hE2 hE3 hds hdb hsml hF1 hF2 hF3 hcells hB hX
          go_wp2_with fail
          go_quiet ((go_at_call 44; exact Lb.quiet2 HC.out _ _))
          go_wp2_with fail
          go_ret
          exact ⟨Lb.ret_i hR.out, hu2.out.trans (upon_drewN _ _ _)⟩
        · have hbe := Lib.hid (hby.out (by omega))
          have d1 : decide (0 ≤ z) = false := decide_eq_false hc
          clear hby hbn hfo hc
          go_wp2_with fail
          go_quiet ((go_at_call 44; exact Lb.quiet2 HC.out _ _))
          clear k0 k1 k2 k3 z0 z1 z2 hj0 HC g0 d1 hidx
          go_wp2_with fail
          go_loopw [5] (fun ov wr => ∃ k m : Nat, ov = .int .i64 (k : Int) ∧ k ≤ r.pts.length ∧ Hid (PtsTo r k) ∧ wr = wx.drewN m) (fun ov _ => r.pts.length - (intOf ov).toNat)
          case atStart => exact ⟨0, _, rfl, Nat.zero_le _, Lib.hid (PtsTo.start r), by rw [World.drewN_drewN]⟩
          case round =>
            obtain ⟨k, m, rfl, hk, hp, rfl⟩ := hrel
            obtain ⟨k0, k1, k2, k3⟩ := hB.out.new (hubx.out.trans (upon_drewN _ wx m))
            obtain ⟨z0, z1, z2⟩ := hX.out.new (upon_drewN _ wx m)
            by_cases hkl : k < r.pts.length
            · obtain ⟨pb, po, rfl, -, hpc⟩ := pts_cells hvp.out (by omega)
              obtain ⟨p0, -⟩ := hpc k hkl
              have q0 := p0
              have hps := Lib.hid (hp.out.step hkl)
              have hpa := Lib.hid (pts_above (r := r) hkl)
              have hpf := Lib.hid (fun i (hi : i < r.pts.length) => pts_fall (r := r) hi hkl)
              obtain ⟨T, hT⟩ : ∃ T, r.pts[k].1 = T := ⟨_, rfl⟩
              rw [hT] at q0 hps hpa
              replace hpf : Hid (∀ i (hi : i < r.pts.length), k = i + 1 → T ≤ r.pts[i].1 → ¬ PtsOk r) := Lib.hid (fun i hi e h => hpf.out i hi e (by rw [hT]; exact h))
              clear p0 hT hp
              by_cases ha : r.last < T
              · have hR := Lib.hid (hfp.out (hpa.out ha))
                have d1 : decide (r.last < T) = true := decide_eq_true ha
                have hu2 := Lib.hid (hux.out.trans (upon_drewN _ wx m))
                clear hpc hps hpa hpf ha hvp hvx hst hfp hbe hE2 hE3 hds hdb hsml hF1 hF2 hF3 hcells hB hX
                go_wp2_with fail
                go_quiet (fail)
                go_wp2_with fail
                go_ret
                exact ⟨Lb.ret_i hR.out, hu2.out.trans (upon_drewN _ _ _)⟩
              · have d1 : decide (r.last < T) = false := decide_eq_false ha
                by_cases h0 : k = 0
                · have hG := Lib.hid (hps.out (by omega) (fun i _ e => by omega))
                  have hk0 : decide (0 < k) = false := decide_eq_false (by omega)
                  clear hpc hps hpa hpf ha h0
                  go_wp2_with fail
                  go_quiet (fail)
                  go_wp2_with fail
                  go_roundw
                  case rel => exact ⟨k + 1, _, by go_num, hkl, hG, rfl⟩
                  case measure => simp [intOf]; omega
                · obtain ⟨i, hi⟩ : ∃ i, k = i + 1 := ⟨k - 1, by omega⟩
                  have hil : i < r.pts.length := by omega
                  obtain ⟨p1, -⟩ := hpc i hil
                  have q1 := p1
                  have hidx : IntKind.i64.wrap ((k : Int) - 1) = (i : Int) := by rw [IntKind.wrap_i64]; omega
                  have hk0 : decide (0 < k) = true := decide_eq_true (by omega)
                  replace hpf := Lib.hid (hpf.out i hil hi)
                  replace hps : Hid (r.pts[i].1 < T → PtsTo r (k + 1)) := Lib.hid (fun h => hps.out (by omega) (fun i' hi' e => by
                    obtain rfl : i' = i := by omega
                    exact h))
                  obtain ⟨U, hU⟩ : ∃ U, r.pts[i].1 = U := ⟨_, rfl⟩
                  rw [hU] at q1 hpf hps
                  clear p1 hU hpc hpa ha h0 hi
                  by_cases hf : T ≤ U
                  · have hR := Lib.hid (hfp.out (hpf.out hf))
                    have d2 : decide (T ≤ U) = true := decide_eq_true hf
                    have hu2 := Lib.hid (hux.out.trans (upon_drewN _ wx m))
                    clear hps hpf hf hvp hvx hst hfp hbe hE2 hE3 hds hdb hsml hF1 hF2 hF3 hcells hB hX
                    go_wp2_with fail
                    go_quiet (fail)
                    go_wp2_with fail
                    go_ret
                    exact ⟨Lb.ret_i hR.out, hu2.out.trans (upon_drewN _ _ _)⟩
                  · have hG := Lib.hid (hps.out (by omega))
                    have d2 : decide (T ≤ U) = false := decide_eq_false hf
                    clear hps hpf hf
                    go_wp2_with fail
                    go_quiet (fail)
                    go_wp2_with fail
                    go_roundw
                    case rel => exact ⟨k + 1, _, by go_num, hkl, hG, rfl⟩
                    case measure => simp [intOf]; omega
            · have hG := Lib.hid (hst.out hbe.out (hp.out.last hkl hk))
              have hu2 := Lib.hid (hubx.out.trans (upon_drewN _ wx m))
              clear hst hbe hp hvp hvx hfp hX hux hubx
              go_wp2_with fail
              go_roundw
              case rel => exact ⟨j + 1, by go_num, hlt, hG, hu2⟩
              case measure => simp [intOf]; omega
    · have hgl : GoodR l l.length := by rw [show l.length = j by omega]; exact hg.out
      replace hE2 := Lib.hid (hE2.out hgl)
      replace hE3 := Lib.hid (hE3.out hgl)
      clear hcells hsml hF1 hF2 hF3 hg hgl
      go_wp2_with fail
      clear k0 k1 k2 k3
      go_loopw [6] (fun ov wr => ∃ i : Nat, ov = .int .i64 (i : Int) ∧ i ≤ ds.length ∧ Hid (∀ x (hx : x < ds.length), x < i → DelOk ds[x]) ∧ Hid (New0 wb wr)) (fun ov _ => ds.length - (intOf ov).toNat)
      case atStart => exact ⟨0, rfl, Nat.zero_le _, Lib.hid (fun x _ h => absurd h (Nat.not_lt_zero x)), hu⟩
      case round =>
        obtain ⟨i, rfl, hi, hgd, hu3⟩ := hrel
        obtain ⟨k0, k1, k2, k3⟩ := hB.out.new hu3.out
        have hall := Lib.hid (hU.out.trans hu3.out)
        by_cases hil : i < ds.length
        · obtain ⟨db, doff, B1, e1, B2, e2, rfl, -, y0, y1, y2, y3, y4, hv, -⟩ := hds.out i hil
          have g0 := Lb.New0.cells hall.out y0
          have g1 := Lb.New0.cells hall.out y1
          have g2 := Lb.New0.cells hall.out y2
          have g3 := Lb.New0.cells hall.out y3
          have g4 := Lb.New0.cells hall.out y4
          have HD := Lib.hid (Rc.refcheck_any _ S _ _ (Rc.RView.new hv hall.out) (hdb.out _ (List.getElem_mem hil)).1)
          have hbad := Lib.hid (hE2.out _ (List.getElem_mem hil))
          have hgn : Hid (DelOk ds[i] → ∀ x (hx : x < ds.length), x < i + 1 → DelOk ds[x]) := Lib.hid (fun h x hx hxi => by
            rcases Nat.lt_succ_iff_lt_or_eq.1 hxi with h2 | rfl
            · exact hgd.out x hx h2
            · exact h)
          obtain ⟨r, hr⟩ : ∃ r, ds[i] = r := ⟨_, rfl⟩
          rw [hr] at g0 g1 g2 g3 g4 HD hbad hgn
          clear y0 y1 y2 y3 y4 hv hr hgd
          by_cases hk : r.kind = 2
          · have d1 : (r.kind != 2) = false := by rw [bne_eq_false_iff_eq]; exact hk
            obtain ⟨z, hz⟩ : ∃ z, Rc.chk r = z := ⟨_, rfl⟩
            rw [hz] at HD
            by_cases hc : z = 0
            · have hG := Lib.hid (hgn.out ⟨hk, by rw [hz]; exact hc⟩)
              subst hc
              clear hbad hgn hk hz
              go_wp2_with fail
              refine HD.out.mono ?_
              rintro e w2 ⟨rfl, hu4⟩
              have hu5 := Lib.hid (hu3.out.trans hu4)
              clear HD hu3 hu4 hall g0 g1 g2 g3 g4 k0 k1 k2 k3
              go_wp2_with fail
              go_roundw
              case rel => exact ⟨i + 1, by go_num, hil, hG, hu5⟩
              case measure => simp [intOf]; omega
            · have hR := Lib.hid (hbad.out (fun k => hc (by rw [← hz]; exact k.2)))
              have d2 : ((z : Int) != 0) = true := by rw [bne_iff_ne]; omega
              clear hbad hgn hk hz hc
              go_wp2_with fail
              refine HD.out.mono ?_
              rintro e w2 ⟨rfl, hu4⟩
              have hu5 := Lib.hid (hall.out.trans hu4)
              clear HD hu3 hu4 hall g0 g1 g2 g3 g4 k0 k1 k2 k3
              go_wp2_with fail
              go_ret
              exact ⟨Lb.ret_i hR.out, hu5.out⟩
          · have hR := Lib.hid (hbad.out (fun k => hk k.1))
            have d1 : (r.kind != 2) = true := by rw [bne_iff_ne]; exact hk
            clear hbad hgn hk HD
            go_wp2_with fail
            go_ret
            exact ⟨Lb.ret_i hR.out, hall.out⟩
        · have hR := Lib.hid (hE3.out (GoodD.last hgd.out hil))
          clear hgd hE2 hE3 hds hdb
          go_wp2_with fail
          go_ret
          exact ⟨Lb.ret_i hR.out, hall.out⟩
end Bk
end Go.Proofs.YtlgjbcmloochiaaGreatDoor
