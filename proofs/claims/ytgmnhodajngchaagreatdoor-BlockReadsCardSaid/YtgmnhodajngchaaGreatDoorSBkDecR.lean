/- Parts: BkRefR, BkDecR. -/
import Derived.Test.YtgmnhodajngchaaGreatDoorSBkBoth
import Derived.Test.YtgmnhodajngchaaGreatDoorSCkRefD2
set_option maxRecDepth 100000
set_option linter.unusedSimpArgs false
set_option linter.unusedVariables false
namespace Go.Proofs.YtgmnhodajngchaaGreatDoor
section
open Go.RowKit Go.Sort
namespace Bk
open Bit Dsk Ob Dig
theorem nx_ok {α : Type} {x : Rc.Rd α} {s s' : ByteArray} {a : α} (h : Rc.Nx x s 0 a s' 0) : x s.data.toList = .ok (a, s'.data.toList) := by
 rcases h.1 rfl with ⟨-, h⟩ | ⟨h, -⟩
 ·exact h
 ·exact absurd rfl h
theorem nx_no {α : Type} {x : Rc.Rd α} {s s' : ByteArray} {a : α} {e : Nat} (h : Rc.Nx x s 0 a s' e) (he : e ≠ 0) : ∀ b r, x s.data.toList ≠ .ok (b, r) := fun b r k => by
 rcases h.1 rfl with ⟨h, -⟩ | ⟨-, h⟩
 ·exact he h
 ·rw [h] at k; cases k
theorem txt_less {m : Int} {s s' : ByteArray} {t : ByteArray} (h : Rc.txtR m s.data.toList = .ok (t, s'.data.toList)) : t.size + s'.size + 1 <= s.size := by
 have := congrArg List.length (txt_back h)
 rw [List.length_append, txtL, List.length_append, numL_length] at this
 rw [<- Frm.size_list t, <- Frm.size_list s', <- Frm.size_list s]
 omega
theorem sgn_less {s s' : ByteArray} {x : Int} (h : Rc.sgnR s.data.toList = .ok (x, s'.data.toList)) : s'.size <= s.size := by
 have := congrArg List.length (Rc.sgn_back h).1
 rw [List.length_append] at this
 rw [<- Frm.size_list s', <- Frm.size_list s]
 omega
theorem enc_three {p : List Pt} {t : ByteArray} (h : Ck.enc p = (t.data.toList, 0)) : 3 <= t.size := by
 obtain ⟨h1, h2, -, h4⟩ := Ck.enc_is h
 have h5 : 1 <= nd p.length := by
  have := nd_lt p.length (by omega)
  cases hn : nd p.length with
  | zero => rw [hn, Nat.pow_zero] at this; omega
  | succ k => omega
 rw [<- Frm.size_list t, <- h4]
 unfold Ck.code
 simp only [List.length_append, numL_length]
 omega
def strLen (w : World) (p : Nat) : Nat := match w.cell? ⟨p, 0, none⟩ with
 | some (.string s) => s.size
 | _ => 0
theorem strLen_of {w : World} {p : Nat} {s : ByteArray} (h : w.cell? ⟨p, 0, none⟩ = some (.string s)) : strLen w p = s.size := by unfold strLen; rw [h]
set_option maxHeartbeats 12800000 in
theorem refrow_any (w : World) (s : ByteArray) (hs : s.size <= 65536) :
  Calls Tryz.prog 24 #[.string s] w (RowE w s.data.toList) := by
 obtain ⟨wA, hwA⟩ : ∃ wA, w.alloc (.cells #[.slice none 0 0, .int .i64 0, .slice none 0 0] 79 (0, 0)) = wA := ⟨_, rfl⟩
 have hres : Mt.Three 79 w.heap.size (.slice none 0 0) (.int .i64 0) (.slice none 0 0) wA := by rw [<- hwA]; exact cell_new w _
 have hN0 : New0 w wA := by rw [<- hwA]; exact (Upon.refl _ w).alloc _
 have hsz : wA.heap.size = w.heap.size + 1 := by rw [<- hwA]; simp
 obtain ⟨wB, hwB⟩ : ∃ wB, wA.alloc (.cells #[.string s, .int .i64 0] 77 (0, 0)) = wB := ⟨_, rfl⟩
 have H0 : Own (Lb.InO (w.heap.size + 1) s 0) wA wB := by rw [<- hwB, <- hsz]; exact Rw.box2Own (Below.refl _ _) (.string s) (.int .i64 ((0 : Nat) : Int)) _
 have hw : Hid ((w.alloc (.cells #[.slice none 0 0, .int .i64 0, .slice none 0 0] 79 (0, 0))).alloc (.cells #[.string s, .int .i64 0] 77 (0, 0)) = wB) := Lib.hid (by rw [hwA, hwB])
 have HT := Lib.hid (Rc.rTxt Mt.thingNo (Mt.ownNo (Lb.thingIn _ _ _) H0) (by omega) 1024 (by decide))
 replace hres := Lib.hid hres
 replace hN0 := Lib.hid hN0
 replace hsz := Lib.hid hsz
 clear hwA hwB H0
 go_enter Tryz.func24, Tryz.ntmps24
 go_wp2_with fail
 rw [hw.out]
 refine HT.out.mono ?_
 rintro e w2 ⟨t, s1, e1, rfl, hts, hs1, hx1, h1⟩
 clear HT hw
 obtain ⟨c0, c1, f0, f1⟩ := Mt.ioBox h1
 replace h1 := Lib.hid h1
 by_cases he1 : e1 = 0
 ·subst he1
  have ht1 := nx_ok hx1
  have hl1 := txt_less ht1
  obtain ⟨⟨ls, ed⟩, hde⟩ : ∃ x, Lb.dec t.data.toList = x := ⟨_, rfl⟩
  have HD := Lib.hid (Lb.refdec_new w2 t (by omega))
  rw [hde] at HD
  simp only at HD
  clear hx1
  replace ht1 := Lib.hid ht1
  replace hde := Lib.hid hde
  go_wp2_with fail
  refine HD.out.mono ?_
  rintro e w3 ⟨v, rfl, hv, hu⟩
  obtain ⟨A3, c3, rfl, -, -⟩ := Rw.View.shape hv
  have h3 := (Rc.labMade (Tens.ob (Lb.thingIn _ _ _) Mt.thingNo) h1.out (s := ⟨A3, ls.length, c3⟩) hv hu).assoc
  have hJ1 := Tens.ob Mt.thingNo (Rc.thingLab ⟨A3, ls.length, c3⟩ ls)
  have HS := Lib.hid (Rc.rSgn hJ1 h3 (by omega))
  replace hJ1 := Lib.hid hJ1
  clear HD hv hu h1 h3 c0 c1 f0 f1
  go_wp2_with fail
  refine HS.out.mono ?_
  rintro e w4 ⟨a, s2, e2, rfl, hab, hs2, hx2, h4⟩
  have h5 := (Rw.rowNone Hd.layP 153 (Tens.ob (Lb.thingIn _ _ _) (Tens.ob hJ1.out (thingTri _ _ _ _ _))) (triMade (Tens.ob (Lb.thingIn _ _ _) hJ1.out) h4 (.slice A3 ls.length c3) (.int .i64 a) (.slice none 0 0) 79).assoc).assoc
  obtain ⟨g, hg⟩ : ∃ g, w4.heap.size = g := ⟨_, rfl⟩
  obtain ⟨w5, hw5⟩ : ∃ w5, w4.alloc (.cells #[.slice A3 ls.length c3, .int .i64 a, .slice none 0 0] 79 (0, 0)) = w5 := ⟨_, rfl⟩
  rw [hg, hw5] at h5
  have hJ := Lib.hid (fun u l => Tens.ob (Tens.ob hJ1.out (thingTri 79 g (.slice A3 ls.length c3) (.int .i64 a) u)) (Rw.thingRow Hd.layP 153 u l))
  have hi1 : Hid (e2 = 0 -> s2.size <= 65536 /\ ([] : List Pt).length + 16 * s2.size <= 16 * s.size /\ ∃ q, Rc.sgnR s1.data.toList = .ok (a, q) /\ RefTo q [] s2.data.toList) := Lib.hid (fun h0 => by
   subst h0
   have k := nx_ok hx2
   have := sgn_less k
   exact ⟨by omega, by rw [List.length_nil]; omega, _, k, RefTo.start _⟩)
  have hi2 : Hid (e2 ≠ 0 -> RowNot s.data.toList) := Lib.hid (fun h0 => row_sgn_no (by decide) ht1.out (nx_no hx2 h0))
  replace h5 := Lib.hid h5
  replace hw5 := Lib.hid hw5
  replace hg := Lib.hid hg
  clear HS h4 hx2 hs2 hs1 hts hl1
  go_wp2_with fail
  rw [hg.out, hw5.out]
  clear hg hw5
  go_loopw [] (fun wr => ∃ (e : Nat) (sx : ByteArray) (l : List Pt) (u : Value), Hid (e = 0 -> sx.size <= 65536 /\ l.length + 16 * sx.size <= 16 * s.size /\ ∃ q, Rc.sgnR s1.data.toList = .ok (a, q) /\ RefTo q l sx.data.toList) /\ Hid (e ≠ 0 -> RowNot s.data.toList) /\
   Hid (Own (Tens (Lb.InO (w.heap.size + 1) sx e) (Tens (Tens (Tens Mt.NoO (Rc.LabO ⟨A3, ls.length, c3⟩ ls)) (TriO 79 g (.slice A3 ls.length c3) (.int .i64 a) u)) (Rw.RowO Hd.layP 153 u l))) wA wr)) (fun wr => strLen wr (w.heap.size + 1))
  case atStart => exact ⟨e2, s2, [], _, hi1, hi2, h5⟩
  case round =>
   clear h5 hi1 hi2
   obtain ⟨e, sx, l, u, hi1, hi2, ho⟩ := hrel
   obtain ⟨Au, cu, rfl, -, -⟩ := (Rw.rowSee ho.out.cossa).view.shape
   obtain ⟨nu, hnu⟩ : ∃ nu, l.length = nu := ⟨_, rfl⟩
   rw [hnu] at ho
   replace hnu := Lib.hid hnu
   by_cases he : e = 0
   ·subst he
    obtain ⟨hsx, hlx, q, hsg, hrt⟩ := hi1.out rfl
    replace hsg := Lib.hid hsg
    replace hrt := Lib.hid hrt
    clear hi1 hi2
    cases hb6 : sx.toList.isEmpty with
    | true =>
     have hnil : sx.data.toList = [] := by rw [ByteArray.toList_eq, List.isEmpty_iff] at hb6; exact hb6
     have hrl := Lib.hid (hnil ▸ hrt.out)
     by_cases hed : ed = 0
     ·subst hed
      have hone := Lib.hid (row_one (by decide) ht1.out hsg.out hde.out hrl.out)
      have hlok := Lib.hid (Rc.dec_bnd hde.out)
      have hpin := Lib.hid hrl.out.inn
      have hsee := Lib.hid (row_see (sl := ⟨A3, ls.length, c3⟩) (pl := ⟨Au, nu, cu⟩) ho.out)
      have hTr := triSee (Lb.thingIn _ _ _) hJ1.out (Rw.thingRow _ _ _ _) ho.out
      obtain ⟨c0, c1, f0, f1⟩ := Mt.ioBox ho.out
      obtain ⟨k0, k1, k2⟩ := hTr.cells
      have hF := hres.out.new (newOf ho.out.bel)
      obtain ⟨g0, g1, g2⟩ := hF.cells
      have z0 := hF.frozen 0
      obtain ⟨p1, q1, p2, q2, p3, q3, -, -, -⟩ := hF.roads (.slice A3 ls.length c3) (.int .i64 a) (.slice Au nu cu)
      have hN := hN0.out.trans (newOf ho.out.bel)
      obtain ⟨wz, hwz⟩ : ∃ wz, (((wr.setCell ⟨w.heap.size, 0, none⟩ (.slice A3 ls.length c3)).setCell ⟨w.heap.size, 1, none⟩ (.int .i64 a)).setCell ⟨w.heap.size, 2, none⟩ (.slice Au nu cu)) = wz := ⟨_, rfl⟩
      have hFz := (((hF.set0 (.slice A3 ls.length c3)).set1 (.int .i64 a)).set2 (.slice Au nu cu)).cells
      rw [hwz] at hFz
      replace hFz := Lib.hid hFz
      have hNz : Hid (New0 w wz) := Lib.hid (by rw [<- hwz]; exact upon_set3 hN (.inr (Nat.le_refl _)) _ _ _)
      have hUz : Hid (Upon (fun x => x = w.heap.size) wr wz) := Lib.hid (by rw [<- hwz]; exact upon_set3 (S := fun x => x = w.heap.size) (Upon.refl _ _) (.inl rfl) _ _ _)
      have hwz' : Hid ((((wr.setCell ⟨w.heap.size, 0, none⟩ (.slice A3 ls.length c3)).setCell ⟨w.heap.size, 1, none⟩ (.int .i64 a)).setCell ⟨w.heap.size, 2, none⟩ (.slice Au nu cu)) = wz) := Lib.hid hwz
      clear hwz hTr hF hN
      have hdj : ∀ b, Lb.Nw wA b -> ¬ b = w.heap.size := fun b hb e => by have := hsz.out; unfold Lb.Nw at hb; omega
      have hnn : ∀ b, Lb.Nw wA b -> Lb.Nw w b := fun b hb => by have := hsz.out; unfold Lb.Nw at hb ⊢; omega
      have hVz : Hid (innB.rel wz (Lb.Nw w) ⟨⟨A3, ls.length, c3⟩, a, ⟨Au, nu, cu⟩⟩ ⟨ls, l, a⟩) := Lib.hid ⟨rfl, Rw.View.mono (Rw.View.upon hsee.out.1 hUz.out hdj) (fun b _ hb => hnn b hb), Rw.View.mono (Rw.View.upon hsee.out.2 hUz.out hdj) (fun b _ hb => hnn b hb)⟩
      have hll : Hid (l.length <= 16 * s.data.toList.length) := Lib.hid (by rw [Frm.size_list]; omega)
      clear hdj hnn
      go_wp2_with fail
      go_region
      all_goals
       clear c0 c1 f0 f1 g0 g1 g2 k0 k1 k2 z0 p1 q1 p2 q2 p3 q3
       rw [hwz'.out]
       go_wp2_with fail
       obtain ⟨r0, r1, r2⟩ := hFz.out
       refine bodyPost_ret (v := .tuple #[.agg #[.slice A3 ls.length c3, .int .i64 a, .slice Au nu cu], .bool true]) (by simp [results, Tryz.results24, go_sem, r0, r1, r2]) rfl ?_
       exact ⟨⟨A3, ls.length, c3⟩, ⟨Au, nu, cu⟩, a, true, rfl, hNz.out.trans (upon_drewN _ _ 1), fun h => (by cases h), fun _ => ⟨⟨ls, l, a⟩, rfl, innB.upon hVz.out (upon_drewN _ _ 1) (fun _ _ f => f), ⟨hab, hpin.out⟩, hlok.out.1, hlok.out.2, hll.out, hone.out⟩⟩
     ·have hD := Lib.hid (row_lab_no (by decide) ht1.out (by rw [hde.out]; exact hed))
      have dx : ((ed : Int) == 0) = false := by rw [beq_eq_false_iff_ne]; omega
      have dx' : ((ed : Int) != 0) = true := by rw [bne_iff_ne]; omega
      have hTr := triSee (Lb.thingIn _ _ _) hJ1.out (Rw.thingRow _ _ _ _) ho.out
      obtain ⟨c0, c1, f0, f1⟩ := Mt.ioBox ho.out
      obtain ⟨k0, k1, k2⟩ := hTr.cells
      have hF := hres.out.new (newOf ho.out.bel)
      obtain ⟨g0, g1, g2⟩ := hF.cells
      have z0 := hF.frozen 0
      obtain ⟨p1, q1, p2, q2, p3, q3, -, -, -⟩ := hF.roads (.slice A3 ls.length c3) (.int .i64 a) (.slice Au nu cu)
      have hN := hN0.out.trans (newOf ho.out.bel)
      obtain ⟨wz, hwz⟩ : ∃ wz, (((wr.setCell ⟨w.heap.size, 0, none⟩ (.slice A3 ls.length c3)).setCell ⟨w.heap.size, 1, none⟩ (.int .i64 a)).setCell ⟨w.heap.size, 2, none⟩ (.slice Au nu cu)) = wz := ⟨_, rfl⟩
      have hFz := (((hF.set0 (.slice A3 ls.length c3)).set1 (.int .i64 a)).set2 (.slice Au nu cu)).cells
      rw [hwz] at hFz
      replace hFz := Lib.hid hFz
      have hNz : Hid (New0 w wz) := Lib.hid (by rw [<- hwz]; exact upon_set3 hN (.inr (Nat.le_refl _)) _ _ _)
      have hUz : Hid (Upon (fun x => x = w.heap.size) wr wz) := Lib.hid (by rw [<- hwz]; exact upon_set3 (S := fun x => x = w.heap.size) (Upon.refl _ _) (.inl rfl) _ _ _)
      have hwz' : Hid ((((wr.setCell ⟨w.heap.size, 0, none⟩ (.slice A3 ls.length c3)).setCell ⟨w.heap.size, 1, none⟩ (.int .i64 a)).setCell ⟨w.heap.size, 2, none⟩ (.slice Au nu cu)) = wz) := Lib.hid hwz
      clear hwz hTr hF hN
      go_wp2_with fail
      go_region
      all_goals
       clear c0 c1 f0 f1 g0 g1 g2 k0 k1 k2 z0 p1 q1 p2 q2 p3 q3
       rw [hwz'.out]
       go_wp2_with fail
       obtain ⟨r0, r1, r2⟩ := hFz.out
       refine bodyPost_ret (v := .tuple #[.agg #[.slice A3 ls.length c3, .int .i64 a, .slice Au nu cu], .bool false]) (by simp [results, Tryz.results24, go_sem, r0, r1, r2]) rfl ?_
       exact RowE.no hD.out (hNz.out.trans (upon_drewN _ _ 1))
    | false =>
     have hne : sx.data.toList ≠ [] := fun e => by rw [ByteArray.toList_eq, e] at hb6; cases hb6
     have HT2 := Lib.hid (Rc.rTxt (hJ.out _ _) ho.out (by omega) 65536 (by decide))
     have hTr := triSee (Lb.thingIn _ _ _) hJ1.out (Rw.thingRow _ _ _ _) ho.out
     obtain ⟨c0, c1, f0, f1⟩ := Mt.ioBox ho.out
     have hst := strLen_of c0
     replace hst := Lib.hid hst
     replace hne := Lib.hid hne
     clear ho hTr
     go_wp2_with fail
     refine HT2.out.mono ?_
     rintro e w6 ⟨t6, s6, e6, rfl, hts6, hs6, hx6, h6⟩
     clear HT2 c0 c1 f0 f1
     obtain ⟨c0, c1, f0, f1⟩ := Mt.ioBox h6
     replace h6 := Lib.hid h6
     by_cases he6 : e6 = 0
     ·subst he6
      have ht6 := nx_ok hx6
      have hl6 := txt_less ht6
      have HP := Lib.hid (Ck.refdec_dd w6 t6 (by omega))
      replace ht6 := Lib.hid ht6
      clear hx6
      go_wp2_with fail
      refine HP.out.mono ?_
      rintro e w7 ⟨v7, p7, x7, rfl, hd7, hv7, hu7⟩
      have hp7 : p7.length <= 64 := by
       rcases hd7 with ⟨-, h, -⟩ | ⟨-, -, h, -⟩
       ·exact (Ck.enc_is h).2.1
       ·rw [h]; exact Nat.zero_le _
      obtain ⟨A7, c7, rfl, -, -⟩ := hv7.shape
      have hvp := Lib.hid (ptsOf hv7)
      have h7 := h6.out.upon0 (Tens.ob (Lb.thingIn _ _ _) (hJ.out _ _)) hu7
      have hMi := Lib.hid (Rw.rowSee h7.cossa)
      obtain ⟨k0, k1, k2⟩ := (triSee (Lb.thingIn _ _ _) hJ1.out (Rw.thingRow _ _ _ _) h7).cells
      replace h7 := Lib.hid h7
      replace hd7 := Lib.hid hd7
      have hln := hnu.out
      have hsum : l.length + p7.length <= 4194304 := by omega
      clear HP c0 c1 f0 f1 h6 hv7 hu7 hln
      go_wp2_with (at_builtin; refine Rw.wpList_append Hd.typP rfl _ _ rfl _ _ l p7 Rw.All rfl rfl hMi.out hvp.out (by omega) (by omega) ?_)
      intro v8 w8 hown hgr hbl
      have h8 := (Rw.rowAppend (Tens.ob (Lb.thingIn _ _ _) (Tens.ob hJ1.out (thingTri _ _ _ _ _))) h7.out.cossa hown hgr hbl).assoc
      obtain ⟨A8, c8, rfl, -, -⟩ := hown.view.shape
      rw [List.length_append] at h8
      have hT8 := triSee (Lb.thingIn _ _ _) hJ1.out (Rw.thingRow _ _ _ _) h8
      obtain ⟨m0, m1, m2⟩ := hT8.cells
      have m2f := hT8.frozen 2
      have h9 := triSet (Lb.thingIn _ _ _) hJ1.out (Rw.thingRow _ _ _ _) h8 (.slice A8 (l.length + p7.length) c8)
      obtain ⟨c0, -, -, -⟩ := Mt.ioBox h9
      have hms : strLen (w8.setCell ⟨g, 2, none⟩ (.slice A8 (l.length + p7.length) c8)) (w.heap.size + 1) < strLen wr (w.heap.size + 1) := by
       rw [strLen_of c0, hst.out]; omega
      replace h9 := Lib.hid h9
      replace hms := Lib.hid hms
      clear h7 h8 hT8 hown hgr hbl hMi hvp k0 k1 k2 c0
      by_cases hx7 : x7 = 0
      ·subst hx7
       have hen : Ck.enc p7 = (t6.data.toList, 0) /\ ∀ q ∈ p7, Ck.PtIn q := by
        rcases hd7.out with ⟨-, h1, h2⟩ | ⟨h, -⟩
        ·exact ⟨h1, h2⟩
        ·exact absurd rfl h
       have hi1 : Hid ((0 : Nat) = 0 -> s6.size <= 65536 /\ (l ++ p7).length + 16 * s6.size <= 16 * s.size /\ ∃ q, Rc.sgnR s1.data.toList = .ok (a, q) /\ RefTo q (l ++ p7) s6.data.toList) := Lib.hid (fun _ => by
        refine ⟨by omega, ?_, q, hsg.out, RefTo.step hrt.out hne.out ht6.out hen.1 hen.2⟩
        have := enc_three hen.1
        rw [List.length_append]; omega)
       have hi2 : Hid ((0 : Nat) ≠ 0 -> RowNot s.data.toList) := Lib.hid (fun h => absurd rfl h)
       clear hen hd7 hrt hsg hl6 hsum
       go_wp2_with fail
       go_roundw
       case rel => exact ⟨0, s6, l ++ p7, _, hi1, hi2, h9⟩
       case measure => exact hms.out
      ·have dx : ((x7 : Int) != 0) = true := by rw [bne_iff_ne]; omega
       have hD := Lib.hid (row_pts_no (by decide) ht1.out hsg.out (RefTo.dec hrt.out hne.out ht6.out (by
        rcases hd7.out with ⟨h, -⟩ | ⟨-, -, -, h⟩
        ·exact absurd h hx7
        ·exact h)))
       clear hd7 hrt hsg hl6 hsum hms
       have hF := hres.out.new (newOf h9.out.bel)
       obtain ⟨g0, g1, g2⟩ := hF.cells
       have z0 := hF.frozen 0
       obtain ⟨p1, q1, p2, q2, p3, q3, -, -, -⟩ := hF.roads (.slice none 0 0) (.int .i64 0) (.slice none 0 0)
       have hN := hN0.out.trans (newOf h9.out.bel)
       obtain ⟨wz, hwz⟩ : ∃ wz, ((((w8.setCell ⟨g, 2, none⟩ (.slice A8 (l.length + p7.length) c8)).setCell ⟨w.heap.size, 0, none⟩ (.slice none 0 0)).setCell ⟨w.heap.size, 1, none⟩ (.int .i64 0)).setCell ⟨w.heap.size, 2, none⟩ (.slice none 0 0)) = wz := ⟨_, rfl⟩
       have hFz := (((hF.set0 (.slice none 0 0)).set1 (.int .i64 0)).set2 (.slice none 0 0)).cells
       rw [hwz] at hFz
       replace hFz := Lib.hid hFz
       have hNz : Hid (New0 w wz) := Lib.hid (by rw [<- hwz]; exact upon_set3 hN (.inr (Nat.le_refl _)) _ _ _)
       have hwz' : Hid (((((w8.setCell ⟨g, 2, none⟩ (.slice A8 (l.length + p7.length) c8)).setCell ⟨w.heap.size, 0, none⟩ (.slice none 0 0)).setCell ⟨w.heap.size, 1, none⟩ (.int .i64 0)).setCell ⟨w.heap.size, 2, none⟩ (.slice none 0 0)) = wz) := Lib.hid hwz
       clear hwz hF hN
       go_wp2_with fail
       rw [hwz'.out]
       obtain ⟨r0, r1, r2⟩ := hFz.out
       clear g0 g1 g2 z0 p1 q1 p2 q2 p3 q3
       refine bodyPost_ret (v := .tuple #[.agg #[.slice none 0 0, .int .i64 0, .slice none 0 0], .bool false]) (by simp [results, Tryz.results24, go_sem, r0, r1, r2]) rfl ?_
       exact RowE.no hD.out hNz.out
     ·have hD := Lib.hid (row_pts_no (by decide) ht1.out hsg.out (hrt.out.txt hne.out (nx_no hx6 he6)))
      have dx : ((e6 : Int) == 0) = false := by rw [beq_eq_false_iff_ne]; omega
      have dx' : ((e6 : Int) != 0) = true := by rw [bne_iff_ne]; omega
      clear hx6 c0 c1 f0 f1 hst
      by_cases hed : ed = 0
      ·subst hed
       have hTr := triSee (Lb.thingIn _ _ _) hJ1.out (Rw.thingRow _ _ _ _) h6.out
       obtain ⟨c0, c1, f0, f1⟩ := Mt.ioBox h6.out
       obtain ⟨k0, k1, k2⟩ := hTr.cells
       have hF := hres.out.new (newOf h6.out.bel)
       obtain ⟨g0, g1, g2⟩ := hF.cells
       have z0 := hF.frozen 0
       obtain ⟨p1, q1, p2, q2, p3, q3, -, -, -⟩ := hF.roads (.slice A3 ls.length c3) (.int .i64 a) (.slice Au nu cu)
       have hN := hN0.out.trans (newOf h6.out.bel)
       obtain ⟨wz, hwz⟩ : ∃ wz, (((w6.setCell ⟨w.heap.size, 0, none⟩ (.slice A3 ls.length c3)).setCell ⟨w.heap.size, 1, none⟩ (.int .i64 a)).setCell ⟨w.heap.size, 2, none⟩ (.slice Au nu cu)) = wz := ⟨_, rfl⟩
       have hFz := (((hF.set0 (.slice A3 ls.length c3)).set1 (.int .i64 a)).set2 (.slice Au nu cu)).cells
       rw [hwz] at hFz
       replace hFz := Lib.hid hFz
       have hNz : Hid (New0 w wz) := Lib.hid (by rw [<- hwz]; exact upon_set3 hN (.inr (Nat.le_refl _)) _ _ _)
       have hUz : Hid (Upon (fun x => x = w.heap.size) w6 wz) := Lib.hid (by rw [<- hwz]; exact upon_set3 (S := fun x => x = w.heap.size) (Upon.refl _ _) (.inl rfl) _ _ _)
       have hwz' : Hid ((((w6.setCell ⟨w.heap.size, 0, none⟩ (.slice A3 ls.length c3)).setCell ⟨w.heap.size, 1, none⟩ (.int .i64 a)).setCell ⟨w.heap.size, 2, none⟩ (.slice Au nu cu)) = wz) := Lib.hid hwz
       clear hwz hTr hF hN
       go_wp2_with fail
       go_region
       all_goals
        clear c0 c1 f0 f1 g0 g1 g2 k0 k1 k2 z0 p1 q1 p2 q2 p3 q3
        rw [hwz'.out]
        go_wp2_with fail
        obtain ⟨r0, r1, r2⟩ := hFz.out
        refine bodyPost_ret (v := .tuple #[.agg #[.slice A3 ls.length c3, .int .i64 a, .slice Au nu cu], .bool false]) (by simp [results, Tryz.results24, go_sem, r0, r1, r2]) rfl ?_
        exact RowE.no hD.out (hNz.out.trans (upon_drewN _ _ 1))
      ·have dy : ((ed : Int) == 0) = false := by rw [beq_eq_false_iff_ne]; omega
       have hTr := triSee (Lb.thingIn _ _ _) hJ1.out (Rw.thingRow _ _ _ _) h6.out
       obtain ⟨c0, c1, f0, f1⟩ := Mt.ioBox h6.out
       obtain ⟨k0, k1, k2⟩ := hTr.cells
       have hF := hres.out.new (newOf h6.out.bel)
       obtain ⟨g0, g1, g2⟩ := hF.cells
       have z0 := hF.frozen 0
       obtain ⟨p1, q1, p2, q2, p3, q3, -, -, -⟩ := hF.roads (.slice A3 ls.length c3) (.int .i64 a) (.slice Au nu cu)
       have hN := hN0.out.trans (newOf h6.out.bel)
       obtain ⟨wz, hwz⟩ : ∃ wz, (((w6.setCell ⟨w.heap.size, 0, none⟩ (.slice A3 ls.length c3)).setCell ⟨w.heap.size, 1, none⟩ (.int .i64 a)).setCell ⟨w.heap.size, 2, none⟩ (.slice Au nu cu)) = wz := ⟨_, rfl⟩
       have hFz := (((hF.set0 (.slice A3 ls.length c3)).set1 (.int .i64 a)).set2 (.slice Au nu cu)).cells
       rw [hwz] at hFz
       replace hFz := Lib.hid hFz
       have hNz : Hid (New0 w wz) := Lib.hid (by rw [<- hwz]; exact upon_set3 hN (.inr (Nat.le_refl _)) _ _ _)
       have hUz : Hid (Upon (fun x => x = w.heap.size) w6 wz) := Lib.hid (by rw [<- hwz]; exact upon_set3 (S := fun x => x = w.heap.size) (Upon.refl _ _) (.inl rfl) _ _ _)
       have hwz' : Hid ((((w6.setCell ⟨w.heap.size, 0, none⟩ (.slice A3 ls.length c3)).setCell ⟨w.heap.size, 1, none⟩ (.int .i64 a)).setCell ⟨w.heap.size, 2, none⟩ (.slice Au nu cu)) = wz) := Lib.hid hwz
       clear hwz hTr hF hN
       go_wp2_with fail
       go_region
       all_goals
        clear c0 c1 f0 f1 g0 g1 g2 k0 k1 k2 z0 p1 q1 p2 q2 p3 q3
        rw [hwz'.out]
        go_wp2_with fail
        obtain ⟨r0, r1, r2⟩ := hFz.out
        refine bodyPost_ret (v := .tuple #[.agg #[.slice A3 ls.length c3, .int .i64 a, .slice Au nu cu], .bool false]) (by simp [results, Tryz.results24, go_sem, r0, r1, r2]) rfl ?_
        exact RowE.no hD.out (hNz.out.trans (upon_drewN _ _ 1))
   ·have hD := Lib.hid (hi2.out he)
    have dx : ((e : Int) == 0) = false := by rw [beq_eq_false_iff_ne]; omega
    have dx' : ((e : Int) != 0) = true := by rw [bne_iff_ne]; omega
    clear hi1 hi2
    by_cases hed : ed = 0
    ·subst hed
     have hTr := triSee (Lb.thingIn _ _ _) hJ1.out (Rw.thingRow _ _ _ _) ho.out
     obtain ⟨c0, c1, f0, f1⟩ := Mt.ioBox ho.out
     obtain ⟨k0, k1, k2⟩ := hTr.cells
     have hF := hres.out.new (newOf ho.out.bel)
     obtain ⟨g0, g1, g2⟩ := hF.cells
     have z0 := hF.frozen 0
     obtain ⟨p1, q1, p2, q2, p3, q3, -, -, -⟩ := hF.roads (.slice A3 ls.length c3) (.int .i64 a) (.slice Au nu cu)
     have hN := hN0.out.trans (newOf ho.out.bel)
     obtain ⟨wz, hwz⟩ : ∃ wz, (((wr.setCell ⟨w.heap.size, 0, none⟩ (.slice A3 ls.length c3)).setCell ⟨w.heap.size, 1, none⟩ (.int .i64 a)).setCell ⟨w.heap.size, 2, none⟩ (.slice Au nu cu)) = wz := ⟨_, rfl⟩
     have hFz := (((hF.set0 (.slice A3 ls.length c3)).set1 (.int .i64 a)).set2 (.slice Au nu cu)).cells
     rw [hwz] at hFz
     replace hFz := Lib.hid hFz
     have hNz : Hid (New0 w wz) := Lib.hid (by rw [<- hwz]; exact upon_set3 hN (.inr (Nat.le_refl _)) _ _ _)
     have hUz : Hid (Upon (fun x => x = w.heap.size) wr wz) := Lib.hid (by rw [<- hwz]; exact upon_set3 (S := fun x => x = w.heap.size) (Upon.refl _ _) (.inl rfl) _ _ _)
     have hwz' : Hid ((((wr.setCell ⟨w.heap.size, 0, none⟩ (.slice A3 ls.length c3)).setCell ⟨w.heap.size, 1, none⟩ (.int .i64 a)).setCell ⟨w.heap.size, 2, none⟩ (.slice Au nu cu)) = wz) := Lib.hid hwz
     clear hwz hTr hF hN
     go_wp2_with fail
     go_region
     all_goals
      clear c0 c1 f0 f1 g0 g1 g2 k0 k1 k2 z0 p1 q1 p2 q2 p3 q3
      rw [hwz'.out]
      go_wp2_with fail
      obtain ⟨r0, r1, r2⟩ := hFz.out
      refine bodyPost_ret (v := .tuple #[.agg #[.slice A3 ls.length c3, .int .i64 a, .slice Au nu cu], .bool false]) (by simp [results, Tryz.results24, go_sem, r0, r1, r2]) rfl ?_
      exact RowE.no hD.out (hNz.out.trans (upon_drewN _ _ 1))
    ·have dy : ((ed : Int) == 0) = false := by rw [beq_eq_false_iff_ne]; omega
     have hTr := triSee (Lb.thingIn _ _ _) hJ1.out (Rw.thingRow _ _ _ _) ho.out
     obtain ⟨c0, c1, f0, f1⟩ := Mt.ioBox ho.out
     obtain ⟨k0, k1, k2⟩ := hTr.cells
     have hF := hres.out.new (newOf ho.out.bel)
     obtain ⟨g0, g1, g2⟩ := hF.cells
     have z0 := hF.frozen 0
     obtain ⟨p1, q1, p2, q2, p3, q3, -, -, -⟩ := hF.roads (.slice A3 ls.length c3) (.int .i64 a) (.slice Au nu cu)
     have hN := hN0.out.trans (newOf ho.out.bel)
     obtain ⟨wz, hwz⟩ : ∃ wz, (((wr.setCell ⟨w.heap.size, 0, none⟩ (.slice A3 ls.length c3)).setCell ⟨w.heap.size, 1, none⟩ (.int .i64 a)).setCell ⟨w.heap.size, 2, none⟩ (.slice Au nu cu)) = wz := ⟨_, rfl⟩
     have hFz := (((hF.set0 (.slice A3 ls.length c3)).set1 (.int .i64 a)).set2 (.slice Au nu cu)).cells
     rw [hwz] at hFz
     replace hFz := Lib.hid hFz
     have hNz : Hid (New0 w wz) := Lib.hid (by rw [<- hwz]; exact upon_set3 hN (.inr (Nat.le_refl _)) _ _ _)
     have hUz : Hid (Upon (fun x => x = w.heap.size) wr wz) := Lib.hid (by rw [<- hwz]; exact upon_set3 (S := fun x => x = w.heap.size) (Upon.refl _ _) (.inl rfl) _ _ _)
     have hwz' : Hid ((((wr.setCell ⟨w.heap.size, 0, none⟩ (.slice A3 ls.length c3)).setCell ⟨w.heap.size, 1, none⟩ (.int .i64 a)).setCell ⟨w.heap.size, 2, none⟩ (.slice Au nu cu)) = wz) := Lib.hid hwz
     clear hwz hTr hF hN
     go_wp2_with fail
     go_region
     all_goals
      clear c0 c1 f0 f1 g0 g1 g2 k0 k1 k2 z0 p1 q1 p2 q2 p3 q3
      rw [hwz'.out]
      go_wp2_with fail
      obtain ⟨r0, r1, r2⟩ := hFz.out
      refine bodyPost_ret (v := .tuple #[.agg #[.slice A3 ls.length c3, .int .i64 a, .slice Au nu cu], .bool false]) (by simp [results, Tryz.results24, go_sem, r0, r1, r2]) rfl ?_
      exact RowE.no hD.out (hNz.out.trans (upon_drewN _ _ 1))
 ·have hD := Lib.hid (row_txt_no (by decide) (nx_no hx1 he1))
  have dx : ((e1 : Int) == 0) = false := by rw [beq_eq_false_iff_ne]; omega
  have dx' : ((e1 : Int) != 0) = true := by rw [bne_iff_ne]; omega
  clear hx1
  have hF := hres.out.new (newOf h1.out.bel)
  obtain ⟨g0, g1, g2⟩ := hF.cells
  have z0 := hF.frozen 0
  obtain ⟨p1, q1, p2, q2, p3, q3, -, -, -⟩ := hF.roads (.slice none 0 0) (.int .i64 0) (.slice none 0 0)
  have hN := hN0.out.trans (newOf h1.out.bel)
  obtain ⟨wz, hwz⟩ : ∃ wz, (((w2.setCell ⟨w.heap.size, 0, none⟩ (.slice none 0 0)).setCell ⟨w.heap.size, 1, none⟩ (.int .i64 0)).setCell ⟨w.heap.size, 2, none⟩ (.slice none 0 0)) = wz := ⟨_, rfl⟩
  have hFz := (((hF.set0 (.slice none 0 0)).set1 (.int .i64 0)).set2 (.slice none 0 0)).cells
  rw [hwz] at hFz
  replace hFz := Lib.hid hFz
  have hNz : Hid (New0 w wz) := Lib.hid (by rw [<- hwz]; exact upon_set3 hN (.inr (Nat.le_refl _)) _ _ _)
  have hwz' : Hid ((((w2.setCell ⟨w.heap.size, 0, none⟩ (.slice none 0 0)).setCell ⟨w.heap.size, 1, none⟩ (.int .i64 0)).setCell ⟨w.heap.size, 2, none⟩ (.slice none 0 0)) = wz) := Lib.hid hwz
  clear hwz hF hN
  go_wp2_with fail
  rw [hwz'.out]
  obtain ⟨r0, r1, r2⟩ := hFz.out
  clear g0 g1 g2 z0 p1 q1 p2 q2 p3 q3
  refine bodyPost_ret (v := .tuple #[.agg #[.slice none 0 0, .int .i64 0, .slice none 0 0], .bool false]) (by simp [results, Tryz.results24, go_sem, r0, r1, r2]) rfl ?_
  exact RowE.no hD.out hNz.out
end Bk
end
section
open Go.RowKit
namespace Bk
open Bit Dsk Ob Dig
theorem scan_code {c : B} (g : Good c) (l : ¬ Long c) {s : ByteArray} (e : code c = s.data.toList) : Frm.scanF (s.size + 1) s 0 = (allF c, s.size, 0) := by
 have h := Frm.scan_all (allF c) (allF_ok g.dels l) s 0 (s.size + 1) (by omega) [] (by rw [List.drop_zero, List.append_nil, <- e]; rfl) (.inl rfl) (Nat.zero_le _)
 rw [h]
 have hl : (Frm.allA (allF c)).length = s.size := by rw [<- Frm.size_list s, <- e]; rfl
 rw [hl]; simp
theorem got_few {s : ByteArray} (h : (Frm.gotF s).err = 0) : (Frm.gotF s).data.size <= s.size /\ (Frm.gotF s).data.size <= 65536 := by
 obtain ⟨e, -, -, h3⟩ := frm_back h
 refine ⟨?_, h3⟩
 have := congrArg List.length e
 rw [List.length_append] at this
 have h2 : (Frm.gotF s).data.size <= (Frm.putA (Frm.gotF s).kind (Frm.gotF s).data).data.toList.length := by
  unfold Frm.putA
  rw [app_l, Frm.hdr_list]
  simp only [List.length_append, List.length_cons]
  rw [<- Frm.size_list (Frm.gotF s).data]
  omega
 rw [<- Frm.size_list s]
 omega
theorem scan_few : ∀ (f : Nat) (s : ByteArray) (m : Nat), ∀ p ∈ (Frm.scanF f s m).1, p.2.size <= s.size /\ p.2.size <= 65536
 | 0, s, m => fun p hp => by simp [Frm.scanF] at hp
 | f + 1, s, m => fun p hp => by
  by_cases h : m < s.size
  ·by_cases he : (Frm.gotF (s.extract m s.size)).err = 0
   ·rw [Frm.scan_more f s m h he] at hp
    rcases List.mem_cons.1 hp with rfl | hp
    ·have := got_few he
     have hz : (s.extract m s.size).size <= s.size := by rw [ByteArray.size_extract]; omega
     exact ⟨by simp only; omega, this.2⟩
    ·exact scan_few f s _ p hp
   ·rw [Frm.scan_err f s m h he] at hp
    cases hp
  ·rw [Frm.scan_end _ s m (by omega)] at hp
   cases hp
structure Scn (s : ByteArray) (fs : List Fr) : Prop where
 is : ∀ c, InR c -> enc c = (s.data.toList, 0) -> Good c /\ allF c = fs
theorem scn_of {s : ByteArray} {fs : List Fr} {m e : Nat} (h : Frm.scanF (s.size + 1) s 0 = (fs, m, e)) : Scn s fs := ⟨fun c ic hc => by
 obtain ⟨g, l, k⟩ := enc_is hc
 have := scan_code g l k
 rw [h] at this
 exact ⟨g, (Prod.mk.inj this).1.symm⟩⟩
theorem scn_err {s : ByteArray} {fs : List Fr} {m e : Nat} (h : Frm.scanF (s.size + 1) s 0 = (fs, m, e)) (he : e ≠ 0) : Not s.data.toList := fun c ic hc => by
 obtain ⟨g, l, k⟩ := enc_is hc
 have := scan_code g l k
 rw [h] at this
 exact he (Prod.mk.inj (Prod.mk.inj this).2).2
theorem Scn.few {s : ByteArray} {fs : List Fr} (h : Scn s fs) (hl : fs.length < 2) : Not s.data.toList := fun c ic hc => by
 obtain ⟨g, k⟩ := h.is c ic hc
 have := congrArg List.length k
 rw [allF_len] at this
 omega
theorem Scn.kind {s : ByteArray} {fs : List Fr} (h : Scn s fs) (hl : 0 < fs.length) (hk : fs[0].1 ≠ 2) : Not s.data.toList := fun c ic hc => by
 obtain ⟨g, k⟩ := h.is c ic hc
 subst k
 exact hk rfl
theorem head_nums {c : B} (hb : ¬ badSpan c) (ic : InR c) : ∃ r1 r2, Rc.numR (headL c) = .ok (c.first.toNat, r1) /\ Rc.numR r1 = .ok (c.til.toNat, r2) := by
 unfold badSpan at hb
 unfold headL
 exact ⟨_, _, Rc.num_enc _ (by omega) _, Rc.num_enc _ (by omega) _⟩
theorem Scn.head {s : ByteArray} {fs : List Fr} (h : Scn s fs) (hl : 0 < fs.length) {c : B} (ic : InR c) (hc : enc c = (s.data.toList, 0)) : ∃ r1 r2, Rc.numR fs[0].2.data.toList = .ok (c.first.toNat, r1) /\ Rc.numR r1 = .ok (c.til.toNat, r2) /\ 1 <= c.first /\ c.first <= 99999999 /\ c.til <= 99999999 /\ 1 <= c.til := by
 obtain ⟨g, k⟩ := h.is c ic hc
 subst k
 obtain ⟨r1, r2, h1, h2⟩ := head_nums g.span ic
 have hb := g.span
 unfold badSpan at hb
 refine ⟨r1, r2, ?_, h2, by omega, by omega, by omega, by omega⟩
 show Rc.numR (bts (headL c)).data.toList = _
 rw [bts_list]; exact h1
structure Rf (s : ByteArray) (fs : List Fr) (b : B) (k : Nat) : Prop where
 scn : Scn s fs
 is : ∀ c, InR c -> enc c = (s.data.toList, 0) -> c.first = b.first /\ c.til = b.til /\ b.rows = c.rows.take k /\ b.dels = c.dels.take (k - c.rows.length)
theorem Rf.start {s : ByteArray} {fs : List Fr} (h : Scn s fs) (hl : 0 < fs.length) {f t : Nat} {r1 r2 : List UInt8} (h1 : Rc.numR fs[0].2.data.toList = .ok (f, r1)) (h2 : Rc.numR r1 = .ok (t, r2)) : Rf s fs ⟨f, t, [], []⟩ 0 := ⟨h, fun c ic hc => by
 obtain ⟨q1, q2, k1, k2, k3, -, -, k4⟩ := h.head hl ic hc
 rw [h1] at k1
 obtain ⟨e1, e2⟩ := Prod.mk.inj (Except.ok.inj k1)
 subst e2
 rw [h2] at k2
 obtain ⟨e3, -⟩ := Prod.mk.inj (Except.ok.inj k2)
 simp only [List.take_zero, Nat.zero_sub, and_true]
 omega⟩
theorem Rf.frame {s : ByteArray} {fs : List Fr} {b : B} {k : Nat} (h : Rf s fs b k) (hk : k + 2 < fs.length) {c : B} (ic : InR c) (hc : enc c = (s.data.toList, 0)) : Good c /\ fs.length = c.rows.length + c.dels.length + 2 /\
  ((∃ hi : k < c.rows.length, fs[k + 1] = rowF c.rows[k]) \/ (c.rows.length <= k /\ ∃ hi : k - c.rows.length < c.dels.length, fs[k + 1] = delF c.dels[k - c.rows.length])) := by
 obtain ⟨g, e⟩ := h.scn.is c ic hc
 have hl := congrArg List.length e
 rw [allF_len] at hl
 refine ⟨g, hl.symm, ?_⟩
 have hf : (allF c)[k + 1]? = some fs[k + 1] := by rw [e, List.getElem?_eq_getElem]
 unfold allF frs at hf
 rw [List.cons_append, List.getElem?_cons_succ, List.append_assoc] at hf
 by_cases hi : k < c.rows.length
 ·rw [List.getElem?_append_left (by rw [List.length_map]; exact hi), List.getElem?_map, List.getElem?_eq_getElem hi] at hf
  exact .inl ⟨hi, (Option.some.inj hf).symm⟩
 ·have hi2 : k - c.rows.length < c.dels.length := by omega
  rw [List.getElem?_append_right (by rw [List.length_map]; omega), List.length_map, List.getElem?_append_left (by rw [List.length_map]; exact hi2), List.getElem?_map, List.getElem?_eq_getElem hi2] at hf
  exact .inr ⟨by omega, hi2, (Option.some.inj hf).symm⟩
theorem Rf.row {s : ByteArray} {fs : List Fr} {b : B} {k : Nat} (h : Rf s fs b k) (hk : k + 2 < fs.length) (h3 : fs[k + 1].1 = 3) {r : Row} (hr : ∀ c, RowOk c -> rowL c = fs[k + 1].2.data.toList -> c = r) : Rf s fs ⟨b.first, b.til, b.rows ++ [r], b.dels⟩ (k + 1) := ⟨h.scn, fun c ic hc => by
 obtain ⟨g, hl, hh⟩ := h.frame hk ic hc
 obtain ⟨e1, e2, e3, e4⟩ := h.is c ic hc
 rcases hh with ⟨hi, e⟩ | ⟨-, hi, e⟩
 ·have hm := List.getElem_mem hi
  have k1 := hr c.rows[k] ⟨g.lab _ hm, g.pts _ hm, ic.rows _ hm⟩ (by rw [e]; exact (bts_list _).symm)
  refine ⟨e1, e2, ?_, ?_⟩
  ·rw [List.take_succ_eq_append_getElem hi, k1, e3]
  ·rw [e4, show k - c.rows.length = 0 by omega, show k + 1 - c.rows.length = 0 by omega]
 ·rw [e] at h3
  exact absurd (show (4 : Nat) = 3 from h3) (by decide)⟩
theorem Rf.row_no {s : ByteArray} {fs : List Fr} {b : B} {k : Nat} (h : Rf s fs b k) (hk : k + 2 < fs.length) (h3 : fs[k + 1].1 = 3) (hr : RowNot fs[k + 1].2.data.toList) : Not s.data.toList := fun c ic hc => by
 obtain ⟨g, hl, hh⟩ := h.frame hk ic hc
 rcases hh with ⟨hi, e⟩ | ⟨-, hi, e⟩
 ·have hm := List.getElem_mem hi
  exact hr c.rows[k] ⟨g.lab _ hm, g.pts _ hm, ic.rows _ hm⟩ (by rw [e]; exact (bts_list _).symm)
 ·rw [e] at h3
  exact absurd (show (4 : Nat) = 3 from h3) (by decide)
theorem Rf.del {s : ByteArray} {fs : List Fr} {b : B} {k : Nat} (h : Rf s fs b k) (hk : k + 2 < fs.length) (h3 : fs[k + 1].1 ≠ 3) {r : Rc.R} (hr : Rc.dec fs[k + 1].2.data.toList = (r, 0)) : Rf s fs ⟨b.first, b.til, b.rows, b.dels ++ [r]⟩ (k + 1) := ⟨h.scn, fun c ic hc => by
 obtain ⟨g, hl, hh⟩ := h.frame hk ic hc
 obtain ⟨e1, e2, e3, e4⟩ := h.is c ic hc
 rcases hh with ⟨hi, e⟩ | ⟨hge, hi, e⟩
 ·rw [e] at h3
  exact absurd rfl h3
 ·have hm := List.getElem_mem hi
  rw [e] at hr
  have k1 := del_dec (g.dels _ hm) (ic.dels _ hm)
  have k2 : Rc.dec (bts (Rc.encB c.dels[k - c.rows.length])).data.toList = (r, 0) := hr
  rw [k1] at k2
  have k3 := (Prod.mk.inj k2).1
  refine ⟨e1, e2, ?_, ?_⟩
  ·rw [e3, List.take_of_length_le hge, List.take_of_length_le (by omega)]
  ·rw [show k + 1 - c.rows.length = k - c.rows.length + 1 by omega, List.take_succ_eq_append_getElem hi, k3, e4]⟩
theorem Rf.del_no {s : ByteArray} {fs : List Fr} {b : B} {k : Nat} (h : Rf s fs b k) (hk : k + 2 < fs.length) (h3 : fs[k + 1].1 ≠ 3) (hr : (Rc.dec fs[k + 1].2.data.toList).2 ≠ 0) : Not s.data.toList := fun c ic hc => by
 obtain ⟨g, hl, hh⟩ := h.frame hk ic hc
 rcases hh with ⟨hi, e⟩ | ⟨hge, hi, e⟩
 ·rw [e] at h3
  exact absurd rfl h3
 ·have hm := List.getElem_mem hi
  rw [e] at hr
  have k1 := del_dec (g.dels _ hm) (ic.dels _ hm)
  have k2 : (Rc.dec (bts (Rc.encB c.dels[k - c.rows.length])).data.toList).2 ≠ 0 := hr
  rw [k1] at k2
  exact k2 rfl
theorem Rf.last {s : ByteArray} {fs : List Fr} {b : B} {k : Nat} (h : Rf s fs b k) (hk : k + 2 = fs.length) {c : B} (ic : InR c) (hc : enc c = (s.data.toList, 0)) : c = b := by
 obtain ⟨g, e⟩ := h.scn.is c ic hc
 obtain ⟨e1, e2, e3, e4⟩ := h.is c ic hc
 have hl := congrArg List.length e
 rw [allF_len] at hl
 rw [List.take_of_length_le (by omega)] at e3 e4
 obtain ⟨a1, a2, a3, a4⟩ := c
 obtain ⟨b1, b2, b3, b4⟩ := b
 simp only at e1 e2 e3 e4
 rw [e1, e2, e3, e4]
theorem Rf.yes {s : ByteArray} {fs : List Fr} {b : B} {k : Nat} (h : Rf s fs b k) (ib : InR b) (he : enc b = (s.data.toList, 0)) : Dec s.data.toList b 0 := .inl ⟨rfl, he, ib⟩
theorem dec_not {s : List UInt8} (h : Not s) : Dec s zero 3 := .inr ⟨rfl, rfl, h⟩
end Bk
end
end Go.Proofs.YtgmnhodajngchaaGreatDoor
