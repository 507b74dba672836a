/- Blocks (layer 15): the law's own Great. -/
import Derived.Test.YtlgjbcmloochiaaGreatDoorZaBkRow
import Derived.Test.YtlgjbcmloochiaaGreatDoorZaPRc2
set_option maxRecDepth 100000
namespace Go.Proofs.YtlgjbcmloochiaaGreatDoor
open Go.RowKit Go.Sort
namespace Bk
open Bit Dsk Ob Dig
set_option linter.unusedVariables false

/-- A row that is small. -/
structure FineB (r : Row) : Prop where
  lab : r.lab.length < 200
  pts : r.pts.length < 2000
  size : ∀ k (h : k < r.lab.length), r.lab[k].1.size < 200000 ∧ r.lab[k].2.size < 200000
/-- A record that is small. -/
def SmallR (r : Rc.R) : Prop := r.ms.length < 1000 ∧ r.smp.length < 1000 ∧ ∀ i (h : i < r.smp.length), Rc.Fine r.smp[i]
set_option maxHeartbeats 12800000 in
theorem great_any (w : World) (v : Value) (b : B) (hv : BView w (fun _ => True) v b) (hb : Bnd b) :
    Calls Tryz.prog 8 #[v] w fun e w' => ∃ g, e = .returned (.bool g) ∧ New0 w w' ∧ (g = false → b.dels.length < 2000 ∧ (∀ i (h : i < b.rows.length), FineB b.rows[i]) ∧ (∀ r ∈ b.dels, SmallR r) ∧ ((∀ r ∈ b.rows, 1 ≤ r.lab.length) → b.rows.length < 200)) := by
  obtain ⟨A, c, A', c', rfl, hr, hd⟩ := BView.shape hv
  have hsml := Lib.hid hb.sml
  have hlen := Lib.hid hb.len
  have hdb := Lib.hid hb.dels
  have hfew := hb.few
  have hfew2 := hb.few2
  clear hv hb
  obtain ⟨f, t, l, ds⟩ := b
  simp only at hr hd hsml hlen hdb hfew hfew2 ⊢
  have hB := Lib.hid (box4 w f t (.slice A l.length c) (.slice A' ds.length c') 25)
  have hU := Lib.hid ((Upon.refl (fun _ => False) w).alloc (.cells #[.int .i64 f, .int .i64 t, .slice A l.length c, .slice A' ds.length c'] 25 (0, 0)))
  obtain ⟨wb, hwb⟩ : ∃ wb, w.alloc (.cells #[.int .i64 f, .int .i64 t, .slice A l.length c, .slice A' ds.length c'] 25 (0, 0)) = wb := ⟨_, rfl⟩
  rw [hwb] at hB hU
  replace hwb := Lib.hid hwb
  have hcells := Lib.hid (fun h => BsView.cells hr h)
  have hds := Lib.hid (fun (i : Nat) (hi : i < ds.length) => Hd.RsView.at hd hi)
  clear hr hd
  obtain ⟨k0, k1, k2, k3⟩ := hB.out
  go_enter Tryz.func8, Tryz.ntmps8
  go_wp2_with fail
  rw [hwb.out]
  go_wp2_with fail
  clear k0 k1 k2 k3 hwb
  go_loopw [3, 4] (fun nv ov wr => ∃ N j : Nat, nv = .int .i64 (N : Int) ∧ ov = .int .i64 (j : Int) ∧ j ≤ l.length ∧ N ≤ 1000000000000000000 ∧ Hid (N < 2000 → ds.length ≤ N ∧ (∀ i (h : i < l.length), i < j → FineB l[i]) ∧ ((∀ i (h : i < l.length), i < j → 1 ≤ l[i].lab.length) → 10 * j ≤ N)) ∧ Hid (New0 wb wr)) (fun _ ov _ => l.length - (intOf ov).toNat)
  case atStart => exact ⟨ds.length, 0, rfl, rfl, Nat.zero_le _, by omega, Lib.hid (fun _ => ⟨Nat.le_refl _, fun i h hi => absurd hi (by omega), fun _ => by omega⟩), Lib.hid (Upon.refl _ _)⟩
  case round =>
    obtain ⟨N, j, rfl, rfl, hj, hN, hf, hu⟩ := hrel
    obtain ⟨-, -, k2, k3⟩ := hB.out.new hu.out
    by_cases hlt : j < l.length
    · by_cases hlN : N < 2000
      · have e1 : (N : Int) < 2000 := by omega
        have e2 : decide ((N : Int) < 2000) = true := decide_eq_true e1
        obtain ⟨b0, off, rfl, -, hcl⟩ := hcells.out (by omega)
        obtain ⟨A1, c1, A2, c2, x0, x1, x2, hv1, hv2⟩ := hcl j hlt
        have hsm := hsml.out _ (List.getElem_mem hlt)
        have hle := hlen.out _ (List.getElem_mem hlt)
        have hfj := hf.out hlN
        obtain ⟨r, hr⟩ : ∃ r, l[j] = r := ⟨_, rfl⟩
        have hstep : Hid (∀ N', N + 10 * r.lab.length ≤ N' → FineB r → (ds.length ≤ N' ∧ (∀ i (h : i < l.length), i < j + 1 → FineB l[i]) ∧ ((∀ i (h : i < l.length), i < j + 1 → 1 ≤ l[i].lab.length) → 10 * (j + 1) ≤ N'))) := Lib.hid (fun N' h1 h2 => ⟨by have := hfj.1; omega, fun i h hi => by
          rcases Nat.lt_succ_iff_lt_or_eq.1 hi with hi2 | rfl
          · exact hfj.2.1 i h hi2
          · rw [hr]; exact h2, fun hall => by
          have h3 := hfj.2.2 (fun i h hi => hall i h (by omega))
          have h4 := hall j hlt (by omega)
          rw [hr] at h4
          omega⟩)
        rw [hr] at x0 x1 x2 hv1 hv2 hsm hle
        have hx0 := Lib.hid (fun w' (hu : New0 wb w') => Lb.New0.cells (hU.out.trans hu) x0)
        replace x0 := hx0.out _ hu.out
        have x2' := Lb.New0.cells (hU.out.trans hu.out) x2
        replace hsm := Lib.hid hsm
        replace hv1 := Lib.hid hv1
        clear hcl hfj hr hf x1 x2 hv2
        go_wp2_with fail
        go_quiet (fail)
        clear x0 x2' k2 k3
        go_wp2_with fail
        go_loopw [3, 5] (fun nv ov wr' => ∃ M i : Nat, nv = .int .i64 (M : Int) ∧ ov = .int .i64 (i : Int) ∧ i ≤ r.lab.length ∧ N + 10 * r.lab.length + r.pts.length ≤ M ∧ M ≤ 1000000000000000000 ∧ Hid (M < 2000 → ∀ k (h : k < r.lab.length), k < i → r.lab[k].1.size < 200000 ∧ r.lab[k].2.size < 200000) ∧ Hid (New0 wb wr')) (fun _ ov _ => r.lab.length - (intOf ov).toNat)
        case atStart => exact ⟨N + 10 * r.lab.length + r.pts.length, 0, by go_num, rfl, Nat.zero_le _, Nat.le_refl _, by omega, Lib.hid (fun _ k h hk => absurd hk (by omega)), Lib.hid (hu.out.trans (upon_drewN _ _ _))⟩
        case round =>
          clear hu
          obtain ⟨M, i, rfl, rfl, hi, hNM, hM, hg, hu⟩ := hrel
          obtain ⟨-, -, k2, k3⟩ := hB.out.new hu.out
          have x0 := hx0.out _ hu.out
          by_cases hli : i < r.lab.length
          · by_cases hlM : M < 2000
            · have e3 : (M : Int) < 2000 := by omega
              have e4 : decide ((M : Int) < 2000) = true := decide_eq_true e3
              obtain ⟨b1, of1, rfl, -, -, hpc⟩ := Lb.View.cells hv1.out (by omega)
              obtain ⟨y0, y1⟩ := hpc i hli
              replace y0 := Lb.New0.cells (hU.out.trans hu.out) y0
              replace y1 := Lb.New0.cells (hU.out.trans hu.out) y1
              have z1 := hsm.out _ (List.getElem_mem hli)
              obtain ⟨⟨pa, pb⟩, hp⟩ : ∃ p, r.lab[i] = p := ⟨_, rfl⟩
              rw [hp] at y0 y1 z1
              simp only at y0 y1 z1
              have hgo : Hid (M + pa.size / 100 + pb.size / 100 < 2000 → ∀ k (h : k < r.lab.length), k < i + 1 → r.lab[k].1.size < 200000 ∧ r.lab[k].2.size < 200000) := Lib.hid (fun hM' k h hk => by
                by_cases hki : k < i
                · exact hg.out hlM k h hki
                · obtain rfl : k = i := by omega
                  rw [hp]
                  exact ⟨show pa.size < 200000 by omega, show pb.size < 200000 by omega⟩)
              clear hg hp hpc
              go_wp2_with fail
              go_quiet (fail)
              go_wp2_with fail
              go_roundw
              case rel => exact ⟨M + pa.size / 100 + pb.size / 100, i + 1, by first | rfl | go_num | (congr 1; omega), by go_num, hli, by omega, by omega, hgo, Lib.hid (hu.out.trans (upon_drewN _ _ _))⟩
              case measure => simp [intOf]; omega
            · have e3 : ¬ (M : Int) < 2000 := by omega
              have e4 : decide ((M : Int) < 2000) = false := decide_eq_false e3
              go_wp2_with fail
              go_roundw
              case rel => exact ⟨M, j + 1, rfl, by go_num, hlt, hM, Lib.hid (fun h => absurd h hlM), hu⟩
              case measure => simp [intOf]; omega
          · have hst : Hid (M < 2000 → ds.length ≤ M ∧ (∀ i (h : i < l.length), i < j + 1 → FineB l[i]) ∧ ((∀ i (h : i < l.length), i < j + 1 → 1 ≤ l[i].lab.length) → 10 * (j + 1) ≤ M)) := Lib.hid (fun h => hstep.out M (by omega) ⟨by omega, by omega, fun k hk => hg.out h k hk (by omega)⟩)
            clear hg hstep
            go_wp2_with fail
            go_roundw
            case rel => exact ⟨M, j + 1, rfl, by go_num, hlt, hM, hst, hu⟩
            case measure => simp [intOf]; omega
      · have e1 : ¬ (N : Int) < 2000 := by omega
        have e2 : decide ((N : Int) < 2000) = false := decide_eq_false e1
        have hfin : Hid (N < 2000 → ds.length ≤ N ∧ (∀ i (h : i < l.length), FineB l[i]) ∧ ((∀ r ∈ l, 1 ≤ r.lab.length) → 10 * l.length ≤ N)) := Lib.hid (fun h => absurd h hlN)
        clear hf hcells hlen hsml
        go_wp2_with fail
        clear e1 e2
        go_loopw [6] (fun ov wr => ∃ i : Nat, ov = .int .i64 (i : Int) ∧ i ≤ ds.length ∧ Hid (∀ x (h : x < ds.length), x < i → SmallR ds[x]) ∧ Hid (New0 wb wr)) (fun ov _ => ds.length - (intOf ov).toNat)
        case atStart => exact ⟨0, rfl, Nat.zero_le _, Lib.hid (fun x h k => absurd k (Nat.not_lt_zero x)), hu⟩
        case round =>
          clear k2 k3
          obtain ⟨i, rfl, hi, hs3, hu3⟩ := hrel
          obtain ⟨-, -, -, k3⟩ := hB.out.new hu3.out
          have hall := Lib.hid (hU.out.trans hu3.out)
          have f1 : ¬ (N : Int) < 2000 := by omega
          have f2 : decide ((N : Int) < 2000) = false := decide_eq_false f1
          have f3 : (2000 : Int) ≤ (N : Int) := by omega
          have f4 : decide ((2000 : Int) ≤ (N : Int)) = true := decide_eq_true f3
          by_cases hil : i < ds.length
          · go_wp2_with fail
            go_ret
            first
              | exact .inr ⟨rfl, hall.out⟩
              | exact ⟨true, rfl, hall.out, fun h => by cases h⟩
          · go_wp2_with fail
            go_ret
            first
              | exact .inr ⟨rfl, hall.out⟩
              | exact ⟨true, rfl, hall.out, fun h => by cases h⟩
    · have hfin : Hid (N < 2000 → ds.length ≤ N ∧ (∀ i (h : i < l.length), FineB l[i]) ∧ ((∀ r ∈ l, 1 ≤ r.lab.length) → 10 * l.length ≤ N)) := Lib.hid (fun h => ⟨(hf.out h).1, fun i hi => (hf.out h).2.1 i hi (by omega), fun hall => by
          have := (hf.out h).2.2 (fun i hi _ => hall _ (List.getElem_mem hi)); omega⟩)
      clear hf hcells hlen hsml
      go_wp2_with fail
      go_loopw [6] (fun ov wr => ∃ i : Nat, ov = .int .i64 (i : Int) ∧ i ≤ ds.length ∧ Hid (∀ x (h : x < ds.length), x < i → SmallR ds[x]) ∧ Hid (New0 wb wr)) (fun ov _ => ds.length - (intOf ov).toNat)
      case atStart => exact ⟨0, rfl, Nat.zero_le _, Lib.hid (fun x h k => absurd k (Nat.not_lt_zero x)), hu⟩
      case round =>
        clear k2 k3
        obtain ⟨i, rfl, hi, hs3, hu3⟩ := hrel
        obtain ⟨-, -, -, k3⟩ := hB.out.new hu3.out
        have hall := Lib.hid (hU.out.trans hu3.out)
        by_cases hN2 : N < 2000
        · have f1 : (N : Int) < 2000 := by omega
          have f2 : decide ((N : Int) < 2000) = true := decide_eq_true f1
          have f3 : ¬ (2000 : Int) ≤ (N : Int) := by omega
          have f4 : decide ((2000 : Int) ≤ (N : Int)) = false := decide_eq_false f3
          have hfn := Lib.hid (hfin.out hN2)
          by_cases hil : i < ds.length
          · obtain ⟨db, doff, B1, e1, B2, e2, rfl, -, y0, y1, y2, y3, y4, hv, -⟩ := hds.out i hil
            have g0 := Lb.New0.cells hall.out y0
            have g1 := Lb.New0.cells hall.out y1
            have g2 := Lb.New0.cells hall.out y2
            have g3 := Lb.New0.cells hall.out y3
            have g4 := Lb.New0.cells hall.out y4
            have hbd := hdb.out _ (List.getElem_mem hil)
            have HG := Lib.hid (Rc.great_any _ _ _ (Rc.RView.new hv hall.out) hbd.1 hbd.2.1 hbd.2.2)
            have hnx : Hid (SmallR ds[i] → ∀ x (hx : x < ds.length), x < i + 1 → SmallR ds[x]) := Lib.hid (fun h x hx hxi => by
              rcases Nat.lt_succ_iff_lt_or_eq.1 hxi with h2 | rfl
              · exact hs3.out x hx h2
              · exact h)
            obtain ⟨r, hr⟩ : ∃ r, ds[i] = r := ⟨_, rfl⟩
            rw [hr] at g0 g1 g2 g3 g4 HG hnx
            clear y0 y1 y2 y3 y4 hv hr hs3 hbd
            go_wp2_with fail
            refine HG.out.mono ?_
            rintro e w2 ⟨g, rfl, hu4, hsm⟩
            have hu5 := Lib.hid (hu3.out.trans hu4)
            have hu6 := Lib.hid (hall.out.trans hu4)
            replace hsm := Lib.hid hsm
            clear HG g0 g1 g2 g3 g4 k3 hu3 hu4 hall
            cases g with
            | true =>
              go_wp2_with fail
              go_ret
              exact ⟨true, rfl, hu6.out, fun h => by cases h⟩
            | false =>
              have hG := Lib.hid (hnx.out (hsm.out rfl))
              go_wp2_with fail
              go_roundw
              case rel => exact ⟨i + 1, by go_num, hil, hG, hu5⟩
              case measure => simp [intOf]; omega
          · have hdl : Hid (∀ r ∈ ds, SmallR r) := Lib.hid (fun r hr => by
              obtain ⟨x, hx, rfl⟩ := List.mem_iff_getElem.1 hr
              exact hs3.out x hx (by omega))
            go_wp2_with fail
            go_ret
            first
              | exact .inl ⟨rfl, hall.out, by have := hfn.out.1; omega, hfn.out.2.1, hdl.out, fun hall => by have := hfn.out.2.2 hall; omega⟩
              | exact ⟨false, rfl, hall.out, fun _ => ⟨by have := hfn.out.1; omega, hfn.out.2.1, hdl.out, fun hall => by have := hfn.out.2.2 hall; omega⟩⟩
        · have f1 : ¬ (N : Int) < 2000 := by omega
          have f2 : decide ((N : Int) < 2000) = false := decide_eq_false f1
          have f3 : (2000 : Int) ≤ (N : Int) := by omega
          have f4 : decide ((2000 : Int) ≤ (N : Int)) = true := decide_eq_true f3
          by_cases hil : i < ds.length
          · go_wp2_with fail
            go_ret
            first
              | exact .inr ⟨rfl, hall.out⟩
              | exact ⟨true, rfl, hall.out, fun h => by cases h⟩
          · go_wp2_with fail
            go_ret
            first
              | exact .inr ⟨rfl, hall.out⟩
              | exact ⟨true, rfl, hall.out, fun h => by cases h⟩
end Bk
end Go.Proofs.YtlgjbcmloochiaaGreatDoor
