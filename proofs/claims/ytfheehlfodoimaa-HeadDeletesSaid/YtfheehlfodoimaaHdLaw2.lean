/- Layer 13: the law HeadTops. -/
import Derived.Test.YtfheehlfodoimaaHdLaw1
set_option maxRecDepth 100000
namespace Go.Proofs.Ytfheehlfodoimaa
open Go.RowKit Go.Sort
namespace Hd
open Bit Dsk Ob Dig
set_option linter.unusedVariables false
set_option linter.unusedSimpArgs false

theorem top_app {g : H} {r : Rc.R} (hs : Srt g) (ht : tr g r = 0) : top (app g r) = r.smp.foldl topf (top g) := by
  obtain ⟨hc, gf, hp, -⟩ := tr_zero ht
  rcases Rc.chk_zero.1 hc with h | h
  · rw [app_com ht (by rw [h.kind]; decide) hp]; exact top_puts hs hp
  · rw [app_del ht h.kind, top_del, h.smp]; rfl
theorem topf_step {l : List Rc.Smp} {j : Nat} (h : j < l.length) (x : Int × Bool) : (l.take (j + 1)).foldl topf x = topf ((l.take j).foldl topf x) l[j] := by
  rw [List.take_succ_eq_append_getElem h, List.foldl_append]; rfl
/-- A new head of the program's, at the law's beginning. -/
theorem phStart {w0 w w' : World} {p : Nat} {S : Nat → Prop} {J : Ob.Rel} (hJ : Thing J) (h : Ob.Own J w0 w) (hp : IsPH p [] w' S) (hS : ∀ b, S b → w.heap.size ≤ b) (hu : New0 w w') : Ob.Own (Tens (IsPH p []) J) w0 w' := (Ob.Own.new hJ h hp hS hu).swap
theorem noStart {w w' : World} (hu : New0 w w') : Ob.Own Mt.NoO w w' := (Rc.own0 w).upon0 Mt.thingNo hu
/-- Room for what is still to come. -/
theorem room_next {g : H} {r : Rc.R} {j : Nat} (hg : SaneN (1000 * (50 - j)) g) (hj : j < 50) (hr : Small r) : SaneN r.smp.length g ∧ SaneN (1000 * (50 - (j + 1))) (app g r) := by
  have h1 := hr.2.1
  exact ⟨hg.less (by omega), SaneN.app (hg.less (by omega)) hr.lab⟩
set_option maxHeartbeats 12800000 in
theorem tops_true (w : World) (v : Value) (o : IsRecs v w) : Calls Try.prog 7 #[v] w fun e w' => e = .returned (.bool true) ∧ Below w.heap.size w w' := by
  obtain ⟨l, hv, hb, hl⟩ := o
  obtain ⟨A, c, rfl, -, -⟩ := Rw.DView.shape hv
  have hll : l.length ≤ 9223372036854775807 := by omega
  have HG := Lib.hid (fun w1 (hu : New0 w w1) => great_any w1 _ l (Rw.DView.new hv hu) hb hl)
  have hR := Lib.hid (fun w1 (hu : New0 w w1) i (hi : i < l.length) => RsView.at (Rw.DView.new hv hu) hi)
  replace hb := Lib.hid hb
  clear hv
  go_enter Try.func7, Try.ntmps7
  go_wp2_with fail
  refine (works_any w).mono ?_
  rintro e w1 ⟨rfl, hu1⟩
  have HG1 := Lib.hid (HG.out _ hu1)
  replace hu1 := Lib.hid hu1
  clear HG
  go_wp2_with fail
  refine HG1.out.mono ?_
  rintro e w2 ⟨bg, rfl, hu2, hsm⟩
  have h2 := Lib.hid (noStart (hu1.out.trans hu2))
  clear HG1 hu1 hu2
  cases bg with
  | true =>
    clear hsm
    go_wp2_with fail
    go_ret
    exact ⟨rfl, h2.out.bel⟩
  | false =>
    replace hsm := Lib.hid (hsm rfl).2
    go_wp2_with fail
    refine (pnew_any w2).mono ?_
    rintro e w3 ⟨p, S3, rfl, hp, hS3, hu3⟩
    have h3 := Lib.hid (phStart Mt.thingNo h2.out hp hS3 hu3)
    clear hp hS3 hu3 h2
    go_wp2_with fail
    go_loopw [4, 5, 6] (fun tv bv ov wr => ∃ (j : Nat) (g : H) (t : Int) (b : Bool), ov = .int .i64 (j : Int) ∧ tv = .int .i64 t ∧ bv = .bool b ∧ j ≤ l.length ∧ j ≤ 40 ∧ Hid (Srt g) ∧ Hid (SaneN (1000 * (50 - j)) g) ∧ Hid (top g = (t, b)) ∧ Hid (Ob.Own (Tens (IsPH p g) Mt.NoO) w wr)) (fun _ _ ov _ => l.length - (intOf ov).toNat)
    case atStart => exact ⟨0, [], 0, false, rfl, rfl, rfl, Nat.zero_le _, Nat.zero_le _, Lib.hid srt_nil, Lib.hid (SaneN.nil (by decide)), Lib.hid top_nil, h3⟩
    case round =>
      clear h3
      obtain ⟨j, g, t, b, rfl, rfl, rfl, hj, hj4, hs, hsn, htop, ho⟩ := hrel
      by_cases hlt : j < l.length
      · have d1 : decide ((j : Int) < (l.length : Int)) = true := decide_eq_true (by omega)
        by_cases h40 : j < 40
        · have d2 : decide ((j : Int) < 40) = true := decide_eq_true (by omega)
          obtain ⟨b0, off, A1, c1, A2, c2, rfl, -, x0, x1, x2, x3, x4, hrv, -⟩ := hR.out _ (newOf ho.out.bel) j hlt
          obtain ⟨hb1, hb2, hb3⟩ := hb.out _ (List.getElem_mem hlt)
          have hsj := hsm.out _ (List.getElem_mem hlt)
          have HO := Lib.hid (Rc.own_any wr _ _ hrv hb1 hb2 hb3)
          obtain ⟨hn1, hn2⟩ := room_next hsn.out (by omega) hsj
          have hn3 : SaneN 0 (app g l[j]) := hn2.less (by omega)
          have hs2 := hs.out.app l[j]
          have HA := Lib.hid (fun u w' (k1 : Rc.RView w' (Lb.Nw wr) u l[j]) (k2 : New0 wr w') => pappNew Mt.thingNo ho.out k1 k2 hs.out hb1 hn1 hsj.lab)
          have HT := Lib.hid (fun w' A (k : IsPH p (app g l[j]) w' A) => ptop_any w' k hs2 hn3.sane)
          have hfew : l[j].smp.length < 1000 := hsj.2.1
          have hcS : Hid (∀ w1, New0 w w1 → ∃ A1' c1', w1.cell? ⟨b0, off + j * 5 + 1, none⟩ = some (.slice A1' l[j].smp.length c1') ∧ Rc.SView w1 AllB (.slice A1' l[j].smp.length c1') l[j].smp) := Lib.hid (fun w1 hu => by
            obtain ⟨b0', off', A1', c1', A2', c2', e, -, y0, y1, y2, y3, y4, hrv', hsv'⟩ := hR.out _ hu j hlt
            injection e with e
            injection e with e1 e2
            subst e1 e2
            exact ⟨A1', c1', y1, hsv'⟩)
          have hn2' := Lib.hid hn2
          have hs2' := Lib.hid hs2
          have htz : Hid (tr g l[j] = 0 → top (app g l[j]) = l[j].smp.foldl topf (t, b)) := Lib.hid (fun h => by rw [← htop.out]; exact top_app hs.out h)
          have htn : Hid (tr g l[j] ≠ 0 → top (app g l[j]) = (t, b)) := Lib.hid (fun h => by rw [app_no h]; exact htop.out)
          obtain ⟨z, hz⟩ : ∃ z : Nat, tr g l[j] = z := ⟨_, rfl⟩
          rw [hz] at HA htz htn
          obtain ⟨g2, hg2⟩ : ∃ g2, app g l[j] = g2 := ⟨_, rfl⟩
          rw [hg2] at HA HT hn2' hs2' htz htn
          obtain ⟨rj, hrj⟩ : ∃ rj, l[j] = rj := ⟨_, rfl⟩
          rw [hrj] at x0 x1 x2 x3 x4 HO HA hfew hcS htz
          clear hrv hb1 hb2 hb3 hsj hn1 hn2 hn3 hs2 hz hg2 hrj hs hsn htop ho
          go_wp2_with fail
          refine HO.out.mono ?_
          rintro e w4 ⟨u, rfl, hv4, hu4⟩
          obtain ⟨A4, c4, A4', c4', rfl, -, -⟩ := Rc.RView.shape hv4
          have HA4 := Lib.hid (HA.out _ _ hv4 hu4)
          clear HO HA hv4 hu4 x0 x1 x2 x3 x4
          go_wp2_with fail
          refine HA4.out.mono ?_
          rintro e w5 ⟨rfl, h5⟩
          have hn5 := Lib.hid (newOf h5.bel)
          obtain ⟨S5, hS5⟩ := h5.seeL
          have HT5 := Lib.hid (HT.out _ _ hS5)
          replace h5 := Lib.hid h5
          clear HA4 HT hS5
          by_cases hz : z = 0
          · subst hz
            have htz' := Lib.hid (htz.out rfl)
            obtain ⟨A5, c5, y5, hsv⟩ := hcS.out _ hn5.out
            have hcel : Hid (∀ k (hk : k < rj.smp.length), ∃ bs offs, A5 = some ⟨bs, offs, none⟩ ∧ w5.cell? ⟨bs, offs + k * 3 + 1, none⟩ = some (.int .i64 rj.smp[k].2.1)) := Lib.hid (fun k hk => by
              obtain ⟨bs, offs, e, hbl, hc⟩ := Rc.SView.cells hsv (by omega)
              obtain ⟨s, -, -, k1, -⟩ := hc k hk
              exact ⟨bs, offs, e, k1⟩)
            clear htz htn hcS hsv
            go_wp2_with fail
            go_loopw [4, 5, 7] (fun tv bv kv wq => ∃ (k : Nat) (t' : Int) (b' : Bool), kv = .int .i64 (k : Int) ∧ tv = .int .i64 t' ∧ bv = .bool b' ∧ k ≤ rj.smp.length ∧ Hid ((rj.smp.take k).foldl topf (t, b) = (t', b')) ∧ wq = w5) (fun _ _ kv _ => rj.smp.length - (intOf kv).toNat)
            case atStart => exact ⟨0, t, b, rfl, rfl, rfl, Nat.zero_le _, Lib.hid rfl, rfl⟩
            case round =>
              obtain ⟨k, t', b', rfl, rfl, rfl, hk, hfo, rfl⟩ := hrel
              by_cases hkl : k < rj.smp.length
              · obtain ⟨bs, offs, rfl, z1⟩ := hcel.out k hkl
                have hst := Lib.hid (topf_step hkl (t, b))
                rw [hfo.out] at hst
                obtain ⟨tk, htk⟩ : ∃ tk, rj.smp[k].2.1 = tk := ⟨_, rfl⟩
                rw [htk] at z1
                cases b' with
                | false =>
                  have hnx : Hid ((rj.smp.take (k + 1)).foldl topf (t, b) = (tk, true)) := Lib.hid (by rw [hst.out, topf, if_pos (.inl rfl), htk])
                  clear hst htk hfo
                  go_wp2_with fail
                  go_roundw
                  case rel => exact ⟨k + 1, tk, true, by go_num, rfl, rfl, hkl, hnx, trivial⟩
                  case measure => simp [intOf]; omega
                | true =>
                  by_cases hgt : t' < tk
                  · have d3 : decide (t' < tk) = true := decide_eq_true hgt
                    have hnx : Hid ((rj.smp.take (k + 1)).foldl topf (t, b) = (tk, true)) := Lib.hid (by rw [hst.out, topf, if_pos (.inr (by rw [htk]; exact hgt)), htk])
                    clear hst htk hfo
                    go_wp2_with fail
                    go_roundw
                    case rel => exact ⟨k + 1, tk, true, by go_num, rfl, rfl, hkl, hnx, trivial⟩
                    case measure => simp [intOf]; omega
                  · have d3 : decide (t' < tk) = false := decide_eq_false hgt
                    have hnx : Hid ((rj.smp.take (k + 1)).foldl topf (t, b) = (t', true)) := Lib.hid (by
                      rw [hst.out, topf, if_neg (by
                        rintro (h | h)
                        · cases h
                        · rw [htk] at h; exact hgt h)])
                    clear hst htk hfo
                    go_wp2_with fail
                    go_roundw
                    case rel => exact ⟨k + 1, t', true, by go_num, rfl, rfl, hkl, hnx, trivial⟩
                    case measure => simp [intOf]; omega
              · have hfin : Hid (top g2 = (t', b')) := Lib.hid (by rw [htz'.out, ← hfo.out, List.take_of_length_le (by omega)])
                have HT6 := HT5.out
                rw [hfin.out] at HT6
                replace HT6 := Lib.hid HT6
                clear hfo hcel htz' HT5
                go_wp2_with fail
                refine HT6.out.mono ?_
                rintro e w6 ⟨rfl, hu6⟩
                have h6 := Lib.hid (h5.out.upon0 (Tens.ob (thingPH _ _) Mt.thingNo) hu6)
                clear HT6 h5 hu6
                go_wp2_with fail
                go_roundw
                case rel => exact ⟨j + 1, g2, t', b', by go_num, rfl, rfl, hlt, h40, hs2', hn2', hfin, h6⟩
                case measure => simp [intOf]; omega
          · have dz : ((z : Int) == 0) = false := by rw [beq_eq_false_iff_ne]; omega
            have hfin := Lib.hid (htn.out hz)
            have HT6 := HT5.out
            rw [hfin.out] at HT6
            replace HT6 := Lib.hid HT6
            clear htz htn HT5 hcS hz
            go_wp2_with fail
            refine HT6.out.mono ?_
            rintro e w6 ⟨rfl, hu6⟩
            have h6 := Lib.hid (h5.out.upon0 (Tens.ob (thingPH _ _) Mt.thingNo) hu6)
            clear HT6 h5 hu6
            go_wp2_with fail
            go_roundw
            case rel => exact ⟨j + 1, g2, t, b, by go_num, rfl, rfl, hlt, h40, hs2', hn2', hfin, h6⟩
            case measure => simp [intOf]; omega
        · have d2 : decide ((j : Int) < 40) = false := decide_eq_false (by omega)
          have hbel := Lib.hid ho.out.bel
          clear ho hs hsn htop
          go_wp2_with fail
          go_ret
          exact ⟨rfl, hbel.out⟩
      · have d1 : decide ((j : Int) < (l.length : Int)) = false := decide_eq_false (by omega)
        have hbel := Lib.hid ho.out.bel
        clear ho hs hsn htop
        go_wp2_with fail
        go_ret
        exact ⟨rfl, hbel.out⟩
end Hd
end Go.Proofs.Ytfheehlfodoimaa
