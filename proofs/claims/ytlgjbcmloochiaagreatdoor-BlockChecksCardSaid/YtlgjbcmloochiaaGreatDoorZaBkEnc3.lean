/- The program's blocks (layer 15): framesOf, Encode. -/
import Derived.Test.YtlgjbcmloochiaaGreatDoorZaBkEnc2
set_option maxRecDepth 100000
namespace Go.Proofs.YtlgjbcmloochiaaGreatDoor
open Go.RowKit Go.Sort
namespace Bk
open Bit Dsk Ob Dig
set_option linter.unusedVariables false

/-! ### rows of frames -/
def layF : Rw.Lay Fr := ⟨2, by decide, fun f => [.int .i64 (f.1 : Int), .string f.2], fun _ => rfl, fun x u hu => by
  simp only [List.mem_cons, List.not_mem_nil, or_false] at hu
  rcases hu with rfl | rfl <;> rfl⟩
theorem typF : Rw.Typ layF 77 80 24 := Rw.Typ.mk' (z := .agg #[.int .i64 0, .string ⟨#[]⟩]) Tryz.underlying77 (by kernel_rfl) rfl
abbrev FMine := Rw.Mine layF 80
theorem fview_one (w : World) (f : Fr) : FMine (w.alloc (.cells #[.int .i64 (f.1 : Int), .string f.2] 80 (0, 0))) (.slice (some ⟨w.heap.size, 0, none⟩) 1 1) [f] :=
  ⟨by simp [Rw.cells, layF], .inr ⟨w.heap.size, 1, _, rfl, Nat.zero_le _, cell_new w _, Nat.le_refl _, by unfold maxLen; decide, by simp [layF], by simp [Rw.cells, layF]⟩⟩
/-- A row of frames of the call's own. -/
structure FOwn (w0 w : World) (u : Value) (fs : List Fr) : Prop where
  row : FMine w u fs
  base : ∀ g, u.ownBlock = some g → w0.heap.size ≤ g
  new : New0 w0 w
theorem FOwn.step {w0 w w' : World} {u : Value} {fs : List Fr} (h : FOwn w0 w u fs) (hu : New0 w w') : FOwn w0 w' u fs := ⟨h.row.new hu, h.base, h.new.trans hu⟩
theorem FOwn.app {w0 w w' : World} {u u' : Value} {fs : List Fr} {f : Fr} (h : FOwn w0 w u fs) (hown : FMine w' u' (fs ++ [f])) (hg : w.grownBy w' u.ownBlock) (hb : u'.ownBlock = u.ownBlock ∨ u'.ownBlock = some w.heap.size) : FOwn w0 w' u' (fs ++ [f]) := by
  refine ⟨hown, fun g hk => ?_, Rw.grown_new (v' := u') hg (fun g hg => h.base g hg) w0 (Nat.le_refl _) h.new⟩
  rcases hb with hb | hb
  · exact h.base g (hb.symm.trans hk)
  · rw [hb] at hk
    injection hk with hk
    have := h.new.size
    omega
theorem FOwn.view {w0 w : World} {u : Value} {fs : List Fr} (h : FOwn w0 w u fs) : Rw.View layF w (fun b => w0.heap.size ≤ b) u fs := h.row.view.mono fun b _ hb => h.base b hb
set_option maxHeartbeats 12800000 in
theorem pframes_any (w : World) (S : Nat → Prop) (v : Value) (b : B) (hv : BView w S v b) (hb : Bnd b) (hf : Few b) (hg : Good b) (hT : TabA w) :
    Calls Tryz.prog 25 #[v] w fun e w' => ∃ u, e = .returned u ∧ Rw.View layF w' (fun b => w.heap.size ≤ b) u (frs b) ∧ New0 w w' := by
  obtain ⟨A, c, A', c', rfl, hr, hd⟩ := BView.shape hv
  have hsp := hg.span
  unfold badSpan at hsp
  have hlab := Lib.hid hg.lab
  have hpts := Lib.hid hg.pts
  have hdel := Lib.hid hg.dels
  have hsml := Lib.hid hb.sml
  have hinn := Lib.hid hb.inn
  have hdb := Lib.hid hb.dels
  have hfp := Lib.hid hf.pts
  have hfew := hf.rows
  have hfew2 := hf.dels
  have hhe := hs_end b
  have hfrs : Hid (frs b = headF b :: (b.rows.map rowF ++ b.dels.map delF)) := Lib.hid rfl
  obtain ⟨FR, hFR⟩ : ∃ FR, frs b = FR := ⟨_, rfl⟩
  rw [hFR] at hfrs ⊢
  have hHF : Hid (headF b = (2, bts (headL b))) := Lib.hid rfl
  obtain ⟨HF, hHF'⟩ : ∃ HF, headF b = HF := ⟨_, rfl⟩
  rw [hHF'] at hHF hfrs
  obtain ⟨HL, hHL⟩ : ∃ HL, bts (headL b) = HL := ⟨_, rfl⟩
  rw [hHL] at hHF hhe
  clear hFR hHF' hHL hg hb hf hv
  obtain ⟨f, t, l, ds⟩ := b
  simp only at hr hd hsml hdb hfew hfew2 hlab hpts hdel hinn hfp hsp hhe hfrs ⊢
  obtain ⟨F, rfl⟩ := Int.eq_ofNat_of_zero_le (show 0 ≤ f by omega)
  obtain ⟨T, rfl⟩ := Int.eq_ofNat_of_zero_le (show 0 ≤ t by omega)
  rw [Int.toNat_natCast, Int.toNat_natCast] at hhe
  have hcells := Lib.hid (fun h => BsView.cells hr h)
  have hds := Lib.hid (fun (i : Nat) (hi : i < ds.length) => Hd.RsView.at hd hi)
  have hB := Lib.hid (box4 w (F : Int) (T : Int) (.slice A l.length c) (.slice A' ds.length c') 29)
  have hU := Lib.hid ((Upon.refl (fun _ => False) w).alloc (.cells #[.int .i64 (F : Int), .int .i64 (T : Int), .slice A l.length c, .slice A' ds.length c'] 29 (0, 0)))
  obtain ⟨wb, hwb⟩ : ∃ wb, w.alloc (.cells #[.int .i64 (F : Int), .int .i64 (T : Int), .slice A l.length c, .slice A' ds.length c'] 29 (0, 0)) = wb := ⟨_, rfl⟩
  rw [hwb] at hB hU
  replace hwb := Lib.hid hwb
  have HH := Lib.hid (fun w => phead_any w F T l.length ds.length (.slice A l.length c) (.slice A' ds.length c') A c A' c' (by omega))
  simp only [hhe] at HH
  obtain ⟨k0, k1, k2, k3⟩ := hB.out
  replace hT := Lib.hid hT
  clear hr hd hsp hhe
  go_enter Tryz.func25, Tryz.ntmps25
  go_wp2_with fail
  rw [hwb.out]
  refine (HH.out _).mono ?_
  rintro e w2 ⟨rfl, hu2⟩
  have hM2 : Hid (FOwn wb (w2.alloc (.cells #[.int .i64 2, .string HL] 80 (0, 0))) (.slice (some ⟨w2.heap.size, 0, none⟩) 1 1) [HF]) := Lib.hid (by
    have h1 : FMine (w2.alloc (.cells #[.int .i64 2, .string HL] 80 (0, 0))) (.slice (some ⟨w2.heap.size, 0, none⟩) 1 1) [HF] := by rw [hHF.out]; exact fview_one w2 (2, HL)
    exact ⟨h1, fun g hg => by
      have e : w2.heap.size = g := by simpa [Value.ownBlock] using hg
      have := hu2.size
      omega, hu2.alloc _⟩)
  have hb2 := hB.out.new (hu2.alloc (.cells #[.int .i64 2, .string HL] 80 (0, 0)))
  clear HH hwb k0 k1 k2 k3 hu2
  obtain ⟨k0, k1, k2, k3⟩ := hb2
  go_wp2_with fail
  clear k0 k1 k2 k3
  go_loopw [3, 17] (fun uv ov wr => ∃ (j : Nat), ov = .int .i64 (j : Int) ∧ j ≤ l.length ∧ Hid (FOwn wb wr uv (HF :: (l.take j).map rowF))) (fun _ ov _ => l.length - (intOf ov).toNat)
  case atStart => exact ⟨0, rfl, Nat.zero_le _, by simpa using hM2⟩
  case round =>
    clear hM2
    obtain ⟨j, rfl, hj, hM⟩ := hrel
    have hu := Lib.hid hM.out.new
    by_cases hlt : j < l.length
    · obtain ⟨b0, off, rfl, -, hcl⟩ := hcells.out (by omega)
      obtain ⟨A1, c1, A2, c2, x0, x1, x2, hv1, hv2⟩ := hcl j hlt
      have hall := hU.out.trans hu.out
      have r0 := Lb.New0.cells hall x0
      have r1 := Lb.New0.cells hall x1
      have r2 := Lb.New0.cells hall x2
      have hm := List.getElem_mem hlt
      have hok := hlab.out _ hm
      have hsm := hsml.out _ hm
      have hpo := hpts.out _ hm
      have hin := hinn.out _ hm
      have hpf := hfp.out _ hm
      have htk : HF :: (l.take j).map rowF ++ [rowF l[j]] = HF :: (l.take (j + 1)).map rowF := by rw [List.take_succ_eq_append_getElem hlt, List.map_append]; rfl
      obtain ⟨r, hr⟩ : ∃ r, l[j] = r := ⟨_, rfl⟩
      rw [hr] at r0 r1 r2 hv1 hv2 hok hsm hpo hin hpf htk
      clear hcl x0 x1 x2 hr hm
      obtain ⟨wx, hwx⟩ : ∃ wx, wr.alloc (.cells #[.slice A1 r.lab.length c1, .int .i64 r.last, .slice A2 r.pts.length c2] 66 (0, 0)) = wx := ⟨_, rfl⟩
      have hX := Lib.hid (box3 wr (.slice A1 r.lab.length c1) r.last (.slice A2 r.pts.length c2) 66)
      have hUX := (Upon.refl (fun _ => False) wr).alloc (.cells #[.slice A1 r.lab.length c1, .int .i64 r.last, .slice A2 r.pts.length c2] 66 (0, 0))
      rw [hwx] at hX hUX
      replace hwx := Lib.hid hwx
      have HR := Lib.hid (prow_any wx S A1 c1 A2 c2 r (Rw.View.new hv1 (hall.trans hUX)) (Rw.View.new hv2 (hall.trans hUX)) hsm hok hpo hin hpf (hT.out.new (hall.trans hUX)))
      obtain ⟨z0, z1, z2⟩ := hX.out
      have hMx := Lib.hid (hM.out.step hUX)
      obtain ⟨RL, hRL⟩ : ∃ RL, bts (rowL r) = RL := ⟨_, rfl⟩
      have hrf : Hid (rowF r = (3, RL)) := Lib.hid (by rw [← hRL]; rfl)
      rw [hRL] at HR
      have hln : (HF :: (l.take j).map rowF).length ≤ 100001 := by rw [List.length_cons, List.length_map, List.length_take]; omega
      replace htk := Lib.hid htk
      obtain ⟨fs, hfs⟩ : ∃ fs, HF :: (l.take j).map rowF = fs := ⟨_, rfl⟩
      rw [hfs] at hMx hln htk
      clear hv1 hv2 hall hok hsm hpo hin hpf hUX hu hM hRL hfs
      go_wp2_with fail
      rw [hwx.out]
      refine HR.out.mono ?_
      rintro e w4 ⟨rfl, hu4⟩
      have hM4 := hMx.out.step hu4
      obtain ⟨Au, cu, hu', -, -⟩ := Rw.View.shape hM4.view
      have hM5 := Lib.hid (hM4.step ((Upon.refl (fun _ => False) w4).alloc (.cells #[.int .i64 3, .string RL] 80 (0, 0))))
      have hV5 : Hid (FMine (w4.alloc (.cells #[.int .i64 3, .string RL] 80 (0, 0))) (.slice (some ⟨w4.heap.size, 0, none⟩) 1 1) [rowF r]) := Lib.hid (by rw [hrf.out]; exact fview_one w4 (3, RL))
      subst hu'
      clear HR hwx hMx hu4 hM4 z0 z1 z2 r0 r1 r2
      go_wp2_with (at_builtin; refine Rw.wpList_append typF rfl _ _ rfl _ _ fs [rowF r] _ rfl rfl hM5.out.row hV5.out.view (by rw [List.length_singleton]; omega) (by rw [List.length_singleton]; omega) ?_)
      intro v6 w6 hown hgr hbl
      have hM6 := hM5.out.app hown hgr (hbl.imp id fun h => h.trans (by simp))
      rw [htk.out] at hM6
      replace hM6 := Lib.hid hM6
      clear hM5 hV5 hown hgr hbl
      go_wp2_with fail
      go_roundw
      case rel => exact ⟨j + 1, by go_num, hlt, hM6⟩
      case measure => simp [intOf]; omega
    · have hM0 : Hid (FOwn wb wr u3 (HF :: (l.map rowF ++ (ds.take 0).map delF))) := Lib.hid (by
        have e : l.take j = l := List.take_of_length_le (by omega)
        have := hM.out
        rw [e] at this
        simpa using this)
      obtain ⟨k0, k1, k2, k3⟩ := hB.out.new hu.out
      clear hM hcells hlab hpts hsml hinn hfp hHF
      go_wp2_with fail
      clear k0 k1 k2 k3 hu
      go_loopw [3, 31] (fun uv ov wr => ∃ (i : Nat), ov = .int .i64 (i : Int) ∧ i ≤ ds.length ∧ Hid (FOwn wb wr uv (HF :: (l.map rowF ++ (ds.take i).map delF)))) (fun _ ov _ => ds.length - (intOf ov).toNat)
      case atStart => exact ⟨0, rfl, Nat.zero_le _, hM0⟩
      case round =>
        clear hM0
        obtain ⟨i, rfl, hi, hM⟩ := hrel
        have hu := Lib.hid hM.out.new
        have hall := Lib.hid (hU.out.trans hu.out)
        by_cases hil : i < ds.length
        · obtain ⟨db, doff, B1, e1, B2, e2, rfl, -, y0, y1, y2, y3, y4, hv, -⟩ := hds.out i hil
          have g0 := Lb.New0.cells hall.out y0
          have g1 := Lb.New0.cells hall.out y1
          have g2 := Lb.New0.cells hall.out y2
          have g3 := Lb.New0.cells hall.out y3
          have g4 := Lb.New0.cells hall.out y4
          have hm := List.getElem_mem hil
          have hbd := hdb.out _ hm
          have hok := hdel.out _ hm
          have htk : HF :: (l.map rowF ++ (ds.take i).map delF) ++ [delF ds[i]] = HF :: (l.map rowF ++ (ds.take (i + 1)).map delF) := by rw [List.take_succ_eq_append_getElem hil, List.map_append]; simp
          obtain ⟨r, hr⟩ : ∃ r, ds[i] = r := ⟨_, rfl⟩
          rw [hr] at g0 g1 g2 g3 g4 hv hbd hok htk
          obtain ⟨wd, hwd⟩ : ∃ wd, wr.alloc (.cells #[.int .i64 r.kind, .slice B1 r.smp.length e1, .slice B2 r.ms.length e2, .int .i64 r.frm, .int .i64 r.til] 50 (0, 0)) = wd := ⟨_, rfl⟩
          have hD := Rc.box5 wr r.kind (.slice B1 r.smp.length e1) (.slice B2 r.ms.length e2) r.frm r.til
          have hUD := (Upon.refl (fun _ => False) wr).alloc (.cells #[.int .i64 r.kind, .slice B1 r.smp.length e1, .slice B2 r.ms.length e2, .int .i64 r.frm, .int .i64 r.til] 50 (0, 0))
          rw [hwd] at hD hUD
          have HE := Rc.enc_any wd _ _ _ (Rc.RView.new hv (hall.out.trans hUD)) hbd.1
          rw [Rc.encR_ok hok.2] at HE
          obtain ⟨RL, hRL⟩ : ∃ RL : ByteArray, (⟨(Rc.encB r).toArray⟩ : ByteArray) = RL := ⟨_, rfl⟩
          have hrf : Hid (delF r = (4, RL)) := Lib.hid (by rw [← hRL]; rfl)
          rw [hRL] at HE
          obtain ⟨d0, d1, d2, d3, d4⟩ := hD
          have hMx := Lib.hid (hM.out.step hUD)
          have hln : (HF :: (l.map rowF ++ (ds.take i).map delF)).length ≤ 200001 := by rw [List.length_cons, List.length_append, List.length_map, List.length_map, List.length_take]; omega
          replace htk := Lib.hid htk
          obtain ⟨fs, hfs⟩ : ∃ fs, HF :: (l.map rowF ++ (ds.take i).map delF) = fs := ⟨_, rfl⟩
          rw [hfs] at hMx hln htk
          replace hwd := Lib.hid hwd
          replace HE := Lib.hid HE
          clear y0 y1 y2 y3 y4 hv hr hbd hok hm hUD hu hM hRL hfs hall
          go_wp2_with fail
          rw [hwd.out]
          refine HE.out.mono ?_
          rintro e w4 ⟨rfl, hu4⟩
          have hM4 := hMx.out.step hu4
          obtain ⟨Au, cu, hu', -, -⟩ := Rw.View.shape hM4.view
          have hM5 := Lib.hid (hM4.step ((Upon.refl (fun _ => False) w4).alloc (.cells #[.int .i64 4, .string RL] 80 (0, 0))))
          have hV5 : Hid (FMine (w4.alloc (.cells #[.int .i64 4, .string RL] 80 (0, 0))) (.slice (some ⟨w4.heap.size, 0, none⟩) 1 1) [delF r]) := Lib.hid (by rw [hrf.out]; exact fview_one w4 (4, RL))
          subst hu'
          clear HE hwd hMx hu4 hM4 d0 d1 d2 d3 d4 g0 g1 g2 g3 g4
          go_wp2_with (at_builtin; refine Rw.wpList_append typF rfl _ _ rfl _ _ fs [delF r] _ rfl rfl hM5.out.row hV5.out.view (by rw [List.length_singleton]; omega) (by rw [List.length_singleton]; omega) ?_)
          intro v6 w6 hown hgr hbl
          have hM6 := hM5.out.app hown hgr (hbl.imp id fun h => h.trans (by simp))
          rw [htk.out] at hM6
          replace hM6 := Lib.hid hM6
          clear hM5 hV5 hown hgr hbl
          go_wp2_with fail
          go_roundw
          case rel => exact ⟨i + 1, by go_num, hil, hM6⟩
          case measure => simp [intOf]; omega
        · have hE : Hid (Rw.View layF wr (fun b => w.heap.size ≤ b) u3 FR) := Lib.hid (by
            have e : ds.take i = ds := List.take_of_length_le (by omega)
            have h1 := hM.out
            rw [e, ← hfrs.out] at h1
            have := hU.out.size
            exact h1.view.mono fun b _ hb => by omega)
          clear hM hu hds hdb hdel
          go_wp2_with fail
          go_ret
          exact ⟨_, rfl, hE.out, hall.out⟩
end Bk
end Go.Proofs.YtlgjbcmloochiaaGreatDoor
