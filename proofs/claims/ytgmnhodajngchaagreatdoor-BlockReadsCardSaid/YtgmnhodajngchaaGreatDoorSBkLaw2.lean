/- Parts: RcDecC, RcDecD, RcDecA, BkRefD, BkSame, BkLaw2. -/
import Derived.Test.YtgmnhodajngchaaGreatDoorSPRc1
import Derived.Test.YtgmnhodajngchaaGreatDoorSBkDcd
import Derived.Test.YtgmnhodajngchaaGreatDoorSBkRow
import Derived.Test.YtgmnhodajngchaaGreatDoorSPRc4
import Derived.Test.YtgmnhodajngchaaGreatDoorSBkBoth
set_option maxRecDepth 100000
set_option linter.unusedSimpArgs false
set_option linter.unusedVariables false
namespace Go.Proofs.YtgmnhodajngchaaGreatDoor
section
open Go.RowKit Go.Sort
namespace Rc
open Bit Dsk Ob Dig Lb
set_option maxHeartbeats 25600000 in
theorem refdec_com (w : World) (s : ByteArray) (hs : s.size <= 140737488355328) {k kk x : Nat} (hg : gotN s.data.toList = (k, kk, x)) (hk : k = 1) :
  Calls Tryz.prog 25 #[.string s] w fun e w' => DecN w s.data.toList e w' := by
 obtain ⟨wA, hwA⟩ : ∃ wA, w.alloc (.cells #[.int .i64 0, .slice none 0 0, .slice none 0 0, .int .i64 0, .int .i64 0] 47 (0, 0)) = wA := ⟨_, rfl⟩
 have hres : Five 47 w.heap.size zeroV wA := by rw [<- hwA]; exact cell_new w _
 have hN0 : New0 w wA := by rw [<- hwA]; exact (Upon.refl _ w).alloc _
 have hsz : wA.heap.size = w.heap.size + 1 := by rw [<- hwA]; simp
 obtain ⟨wB, hwB⟩ : ∃ wB, wA.alloc (.cells #[.string s, .int .i64 0] 77 (0, 0)) = wB := ⟨_, rfl⟩
 have H0 : Own (InO (w.heap.size + 1) s 0) wA wB := by rw [<- hwB, <- hsz]; exact Rw.box2Own (Below.refl _ _) (.string s) (.int .i64 ((0 : Nat) : Int)) _
 have HN := Lib.hid (Mt.ioNum Mt.thingNo (Mt.ownNo (thingIn _ _ _) H0) (by omega) hg)
 have hk64 : k < 18446744073709551616 := by
  have := (gotN_lt s.data.toList).1
  rw [hg] at this
  exact this
 have hx1 := nx_num hg
 have hs1 : (s.extract kk s.size).size <= 140737488355328 := Nat.le_trans (ext_size _ _ _) hs
 obtain ⟨s1, hs1_⟩ : ∃ s1, s.extract kk s.size = s1 := ⟨_, rfl⟩
 rw [hs1_] at HN hx1 hs1
 clear hs1_
 obtain ⟨sl, hsl⟩ : ∃ sl, s.data.toList = sl := ⟨_, rfl⟩
 have hrest := Rest.start allR s
 rw [hsl] at hrest ⊢
 have hR : ∀ (s1 : ByteArray) (e1 k : Nat), Nx numR s 0 k s1 e1 -> Rest (bnd (mustR (decide (k = 1) || decide (k = 2)) 5) fun _ => if k = 1 then comR else delR) s1 e1 (allR sl) := fun s1 e1 k hx => Rest.step (f := fun k => bnd (mustR (decide (k = 1) || decide (k = 2)) 5) fun _ => if k = 1 then comR else delR) hrest hx
 have hw : Hid ((w.alloc (.cells #[.int .i64 0, .slice none 0 0, .slice none 0 0, .int .i64 0, .int .i64 0] 47 (0, 0))).alloc (.cells #[.string s, .int .i64 0] 77 (0, 0)) = wB) := Lib.hid (by rw [hwA, hwB])
 replace hR := Lib.hid hR
 replace hres := Lib.hid hres
 replace hN0 := Lib.hid hN0
 clear hwA hwB H0 hsl hrest hsz hg
 go_enter Tryz.func25, Tryz.ntmps25
 go_wp2_with fail
 rw [hw.out]
 refine HN.out.mono ?_
 rintro e w2 ⟨rfl, h2⟩
 have hr1 := Lib.hid (hR.out _ _ _ hx1)
 replace h2 := Lib.hid h2
 clear HN hw hR hx1
 subst hk
 have hr2 := hr1.out
 rw [show (decide ((1 : Nat) = 1) || decide ((1 : Nat) = 2)) = true from rfl] at hr2
 have HM := Lib.hid (rMust Mt.thingNo h2.out true 5 (by decide))
 replace hr2 := Lib.hid hr2
 clear hr1 h2
 go_wp2_with fail
 refine HM.out.mono ?_
 rintro e w3 ⟨e2, rfl, hx2, h3⟩
 have hr3 := Lib.hid (by have h := Rest.step (f := fun _ => if (1 : Nat) = 1 then comR else delR) hr2.out hx2; rw [if_pos rfl, comR_is] at h; exact h)
 have h4 := Lib.hid (Own.mono (Own.assoc (boxMade (Tens.ob (thingIn _ _ _) Mt.thingNo) h3 ⟨.int .i64 1, .slice none 0 0, .slice none 0 0, .int .i64 0, .int .i64 0⟩)) fun S h => Tens.mapR (fun A h => noBox h) h)
 have h5 := Lib.hid (labsNone (Tens.ob (Tens.ob (thingIn _ _ _) (thingBox _ _)) (Rw.thingRow _ _ _ _)) (Rw.rowNone layS 91 (Tens.ob (thingIn _ _ _) (thingBox _ _)) h4.out)).assoc.assoc
 have hJ := Lib.hid (fun gr v u rs l => Tens.ob (thingBox gr v) (Tens.ob (Rw.thingRow layS 91 u rs) (thingLabs rs l)))
 clear HM hr2 hx2 h3 h4
 have HN2 := Lib.hid (rNum (hJ.out _ _ _ _ _) h5.out hs1)
 clear h5
 go_wp2_with fail
 refine HN2.out.mono ?_
 rintro e w4 ⟨n, s4, e4, rfl, hn64, hs4, hx4, h4⟩
 have hr4 := Lib.hid (Rest.step (x := numR) (f := fun n => bnd (mustR (decide (1 <= n) && decide (n <= 32)) 2) fun _ => manyK comF n []) hr3.out hx4)
 replace h4 := Lib.hid h4
 clear HN2 hr3 hx4
 by_cases hn1 : 1 <= n
 ·by_cases hn32 : n <= 32
  ·have d1 : decide (1 <= (n : Int)) = true := decide_eq_true (by omega)
   have d1' : (1 : Int) <= (n : Int) := by omega
   have d2 : decide ((n : Int) <= 32) = true := decide_eq_true (by omega)
   have d2' : decide (n <= 32) = true := decide_eq_true hn32
   have d2'' : (n : Int) <= 32 := by omega
   have hb : (decide (1 <= n) && decide (n <= 32)) = true := by rw [decide_eq_true hn1, decide_eq_true hn32]; rfl
   have hr5 := hr4.out
   simp only [hb] at hr5
   have HM2 := Lib.hid (rMust (hJ.out _ _ _ _ _) h4.out true 2 (by decide))
   replace hr5 := Lib.hid hr5
   clear hr4 h4 hb
   go_wp2_with fail
   refine HM2.out.mono ?_
   rintro e w5 ⟨e5, rfl, hx5, h5⟩
   have hr6 := Lib.hid (Rest.step (f := fun _ => manyK comF n []) hr5.out hx5)
   replace h5 := Lib.hid h5
   clear HM2 hr5 hx5 d1 d1' d2 d2' d2''
   generalize hK : allR sl = K at *
   go_wp2_with fail
   go_loopw [8] (fun ov wr => ∃ (j e : Nat) (sx : ByteArray) (l : List Smp) (u : Value) (rs : List RS), ov = .int .u64 (j : Int) /\ j <= n /\ sx.size <= 140737488355328 /\ Hid (l.length = j) /\ Hid (∀ x ∈ l, BndS x) /\ Hid (Rest (manyK comF (n - j) l) sx e K) /\
    Hid (Own (Tens (InO (w.heap.size + 1) sx e) (Tens (BoxO w3.heap.size ⟨.int .i64 1, u, .slice none 0 0, .int .i64 0, .int .i64 0⟩) (Tens (Rw.RowO layS 91 u rs) (LabsO rs l)))) wA wr)) (fun ov _ => n - (intOf ov).toNat)
   case atStart => exact ⟨0, e5, s4, [], _, [], rfl, Nat.zero_le _, hs4, Lib.hid rfl, Lib.hid (fun x hx => by cases hx), hr6, h5⟩
   case round =>
    clear hr6 h5
    obtain ⟨j, e, sx, l, u, rs, rfl, hj, hsx, hlj, hbs, hr, ho⟩ := hrel
    obtain ⟨c0, c1, f0, f1⟩ := Mt.ioBox ho.out
    by_cases he : e = 0
    ·subst he
     by_cases hlt : j < n
     ·have HT := Lib.hid (rTxt (hJ.out _ _ _ _ _) ho.out hsx 1024 (by decide))
      replace hr : Hid (Rest (bnd (txtR 1024) fun t => bnd (labR t) fun ls => bnd sgnR fun a => bnd numR fun b => manyK comF (n - (j + 1)) (l ++ [(ls, a, b)])) sx 0 K) := Lib.hid (by
       have h := hr.out
       rw [show n - j = n - (j + 1) + 1 by omega, manyK] at h
       exact h)
      clear ho
      go_wp2_with fail
      refine HT.out.mono ?_
      rintro e w6 ⟨t, s6, e6, rfl, hts, hs6, hx6, h6⟩
      have hr6 := Lib.hid (Rest.step (f := fun t => bnd (labR t) fun ls => bnd sgnR fun a => bnd numR fun b => manyK comF (n - (j + 1)) (l ++ [(ls, a, b)])) hr.out hx6)
      clear HT hr hx6 c0 c1 f0 f1 hsx
      obtain ⟨c0, c1, f0, f1⟩ := Mt.ioBox h6
      replace h6 := Lib.hid h6
      by_cases he6 : e6 = 0
      ·subst he6
       obtain ⟨⟨ls, e7⟩, hde⟩ : ∃ x, Lb.dec t.data.toList = x := ⟨_, rfl⟩
       have HD := Lib.hid (Lb.refdec_new w6 t hts)
       have hnl := nx_lab t s6
       rw [hde] at HD hnl
       simp only at HD hnl
       have hlb := Lib.hid (dec_bnd hde)
       have hr7 := Lib.hid (Rest.step (f := fun ls => bnd sgnR fun a => bnd numR fun b => manyK comF (n - (j + 1)) (l ++ [(ls, a, b)])) hr6.out hnl)
       clear hde hnl hr6
       go_wp2_with fail
       refine HD.out.mono ?_
       rintro e w7 ⟨v, rfl, hv, hu⟩
       obtain ⟨A7, c7, rfl, -, -⟩ := Rw.View.shape hv
       have h7 := labIn (labMade (Tens.ob (thingIn _ _ _) (hJ.out _ _ _ _ _)) h6.out (s := ⟨A7, ls.length, c7⟩) hv hu)
       clear HD hv hu h6 c0 c1 f0 f1
       obtain ⟨c0, c1, f0, f1⟩ := Mt.ioBox h7
       have hJ2 := Lib.hid (fun gr v u rs l s ls => Tens.ob (thingBox gr v) (Tens.ob (Tens.ob (Rw.thingRow layS 91 u rs) (thingLabs rs l)) (thingLab s ls)))
       have h8 := Mt.ioSet (hJ2.out _ _ _ _ _ _ _) h7 e7
       have HS := Lib.hid (rSgn (hJ2.out _ _ _ _ _ _ _) h8 hs6)
       clear h7 h8
       go_wp2_with fail
       refine HS.out.mono ?_
       rintro e w9 ⟨a, s9, e9, rfl, hab, hs9, hx9, h9⟩
       have hr9 := Lib.hid (Rest.step (f := fun a => bnd numR fun b => manyK comF (n - (j + 1)) (l ++ [(ls, a, b)])) hr7.out hx9)
       have HN3 := Lib.hid (rNum (hJ2.out _ _ _ _ _ _ _) h9 hs9)
       clear HS hr7 hx9 h9
       go_wp2_with fail
       refine HN3.out.mono ?_
       rintro e w10 ⟨b, s10, e10, rfl, hb64, hs10, hx10, h10⟩
       have hr10 := Lib.hid (Rest.step (f := fun b => manyK comF (n - (j + 1)) (l ++ [(ls, a, b)])) hr9.out hx10)
       clear HN3 hr9 hx10 c0 c1 f0 f1
       have hll : l.length <= 32 := by have := hlj.out; omega
       obtain ⟨k0, k1, k2, k3, k4⟩ := (seeBox h10).cells
       have hMi := Lib.hid (Rw.Mine.new (rowMine h10) ((Upon.refl _ w10).alloc (.cells #[(⟨A7, ls.length, c7⟩ : Rw.Sl).v, .int .i64 a, .int .u64 (b : Int)] 91 (0, 0))))
       have hXi := Lib.hid (view_smp w10 (⟨A7, ls.length, c7⟩ : Rw.Sl) a b)
       have hPe := Lib.hid (permOut (Own.upon0 (Tens.ob (thingIn _ _ _) (hJ2.out _ _ _ _ _ _ _)) h10 ((Upon.refl _ w10).alloc (.cells #[(⟨A7, ls.length, c7⟩ : Rw.Sl).v, .int .i64 a, .int .u64 (b : Int)] 91 (0, 0)))))
       obtain ⟨A10, c10, hu10, -, -⟩ := Rw.View.shape (rowMine h10).view
       have hrl : rs.length <= 32 := by
        obtain ⟨S10, hS10⟩ := h10.dropl.dropl.dropr.seeR
        have := hS10.1
        omega
       subst hu10
       clear h10
       go_wp2_with (at_builtin; refine Rw.wpList_append typS rfl _ _ rfl _ _ rs [((⟨A7, ls.length, c7⟩ : Rw.Sl), a, b)] Rw.All rfl rfl hMi.out hXi.out (by rw [List.length_singleton]; omega) (by rw [List.length_singleton]; omega) ?_)
       intro v' w11 hown hgr hbl
       have h11 := Rw.rowAppend (Tens.ob (thingIn _ _ _) (Tens.ob (thingBox _ _) (Tens.ob (thingLabs _ _) (thingLab _ _)))) hPe.out hown hgr (hbl.imp id fun h => h.trans (by simp))
       have h12 := permIn h11 (fun w S h => labs_add (t := a) (u := b) h)
       have hF12 := seeBox h12
       obtain ⟨m0, m1, m2, m3, m4⟩ := hF12.cells
       have m1f := hF12.frozen 1
       have h13 := Lib.hid (boxSet (thingIn _ _ _) (Tens.ob (Rw.thingRow _ _ _ _) (thingLabs _ _)) h12 (hF12.set1 v'))
       obtain ⟨A11, c11, hu11, -, -⟩ := Rw.View.shape (show Rw.Mine layS 91 w11 v' _ from hown).view
       subst hu11
       rw [show (rs ++ [((⟨A7, ls.length, c7⟩ : Rw.Sl), a, b)]).length = rs.length + 1 by rw [List.length_append]; rfl] at h13
       clear hMi hXi hPe hown hgr hbl h11 h12 hF12 k0 k1 k2 k3 k4
       have hlj' : Hid ((l ++ [(ls, a, b)]).length = j + 1) := Lib.hid (by rw [List.length_append, hlj.out]; rfl)
       have hbs' : Hid (∀ x ∈ l ++ [(ls, a, b)], BndS x) := Lib.hid (bnds_snoc hbs.out ⟨hlb.out.1, hlb.out.2, hab.1, hab.2, hb64⟩)
       clear hbs hlj hlb
       go_wp2_with fail
       go_roundw
       case rel => exact ⟨j + 1, e10, s10, _, _, _, by go_num, hlt, hs10, hlj', hbs', hr10, h13⟩
       case measure => simp [intOf]; omega
      ·have hr7 := Lib.hid (Rest.step (f := fun ls => bnd sgnR fun a => bnd numR fun b => manyK comF (n - (j + 1)) (l ++ [(ls, a, b)])) hr6.out (nx_err (labR t) s6 he6 [] s6))
       have h7 := labIn (labMade (Tens.ob (thingIn _ _ _) (hJ.out _ _ _ _ _)) h6.out (s := ⟨none, 0, 0⟩) (l := []) (Rw.View.noth _ _ _) (Upon.refl _ w6))
       have hlb : Hid (Lb.Sml ([] : List Pr) /\ ([] : List Pr).length * 32 <= 140737488351232) := Lib.hid ⟨fun p hp => (by cases hp), by simp⟩
       have hJ2 := Lib.hid (fun gr v u rs l s ls => Tens.ob (thingBox gr v) (Tens.ob (Tens.ob (Rw.thingRow layS 91 u rs) (thingLabs rs l)) (thingLab s ls)))
       have d6 : ((e6 : Int) == 0) = false := by rw [beq_eq_false_iff_ne]; omega
       have HS := Lib.hid (rSgn (hJ2.out _ _ _ _ _ _ _) h7 hs6)
       clear h7 h6 hr6 he6
       go_wp2_with fail
       refine HS.out.mono ?_
       rintro e w9 ⟨a, s9, e9, rfl, hab, hs9, hx9, h9⟩
       have hr9 := Lib.hid (Rest.step (f := fun a => bnd numR fun b => manyK comF (n - (j + 1)) (l ++ [(([] : List Pr), a, b)])) hr7.out hx9)
       have HN3 := Lib.hid (rNum (hJ2.out _ _ _ _ _ _ _) h9 hs9)
       clear HS hr7 hx9 h9
       go_wp2_with fail
       refine HN3.out.mono ?_
       rintro e w10 ⟨b, s10, e10, rfl, hb64, hs10, hx10, h10⟩
       have hr10 := Lib.hid (Rest.step (f := fun b => manyK comF (n - (j + 1)) (l ++ [(([] : List Pr), a, b)])) hr9.out hx10)
       clear HN3 hr9 hx10 c0 c1 f0 f1
       have hll : l.length <= 32 := by have := hlj.out; omega
       obtain ⟨k0, k1, k2, k3, k4⟩ := (seeBox h10).cells
       have hMi := Lib.hid (Rw.Mine.new (rowMine h10) ((Upon.refl _ w10).alloc (.cells #[(⟨none, 0, 0⟩ : Rw.Sl).v, .int .i64 a, .int .u64 (b : Int)] 91 (0, 0))))
       have hXi := Lib.hid (view_smp w10 (⟨none, 0, 0⟩ : Rw.Sl) a b)
       have hPe := Lib.hid (permOut (Own.upon0 (Tens.ob (thingIn _ _ _) (hJ2.out _ _ _ _ _ _ _)) h10 ((Upon.refl _ w10).alloc (.cells #[(⟨none, 0, 0⟩ : Rw.Sl).v, .int .i64 a, .int .u64 (b : Int)] 91 (0, 0)))))
       obtain ⟨A10, c10, hu10, -, -⟩ := Rw.View.shape (rowMine h10).view
       have hrl : rs.length <= 32 := by
        obtain ⟨S10, hS10⟩ := h10.dropl.dropl.dropr.seeR
        have := hS10.1
        omega
       subst hu10
       clear h10
       go_wp2_with (at_builtin; refine Rw.wpList_append typS rfl _ _ rfl _ _ rs [((⟨none, 0, 0⟩ : Rw.Sl), a, b)] Rw.All rfl rfl hMi.out hXi.out (by rw [List.length_singleton]; omega) (by rw [List.length_singleton]; omega) ?_)
       intro v' w11 hown hgr hbl
       have h11 := Rw.rowAppend (Tens.ob (thingIn _ _ _) (Tens.ob (thingBox _ _) (Tens.ob (thingLabs _ _) (thingLab _ _)))) hPe.out hown hgr (hbl.imp id fun h => h.trans (by simp))
       have h12 := permIn h11 (fun w S h => labs_add (t := a) (u := b) h)
       have hF12 := seeBox h12
       obtain ⟨m0, m1, m2, m3, m4⟩ := hF12.cells
       have m1f := hF12.frozen 1
       have h13 := Lib.hid (boxSet (thingIn _ _ _) (Tens.ob (Rw.thingRow _ _ _ _) (thingLabs _ _)) h12 (hF12.set1 v'))
       obtain ⟨A11, c11, hu11, -, -⟩ := Rw.View.shape (show Rw.Mine layS 91 w11 v' _ from hown).view
       subst hu11
       rw [show (rs ++ [((⟨none, 0, 0⟩ : Rw.Sl), a, b)]).length = rs.length + 1 by rw [List.length_append]; rfl] at h13
       clear hMi hXi hPe hown hgr hbl h11 h12 hF12 k0 k1 k2 k3 k4
       have hlj' : Hid ((l ++ [(([] : List Pr), a, b)]).length = j + 1) := Lib.hid (by rw [List.length_append, hlj.out]; rfl)
       have hbs' : Hid (∀ x ∈ l ++ [(([] : List Pr), a, b)], BndS x) := Lib.hid (bnds_snoc hbs.out ⟨hlb.out.1, hlb.out.2, hab.1, hab.2, hb64⟩)
       clear hbs hlj hlb
       go_wp2_with fail
       go_roundw
       case rel => exact ⟨j + 1, e10, s10, _, _, _, by go_num, hlt, hs10, hlj', hbs', hr10, h13⟩
       case measure => simp [intOf]; omega
     ·have hr2 := hr.out
      rw [show n - j = 0 by omega, manyK] at hr2
      have hKr := Lib.hid (hK.trans ((Rest.ret hr2).1 rfl))
      have hbnd : Hid (Bnd (R.mk 1 l [] 0 0)) := Lib.hid ⟨⟨(show (-9223372036854775808 : Int) <= 1 by decide), (show (1 : Int) <= 9223372036854775807 by decide)⟩, hbs.out, fun m hm => (by cases hm), ⟨(show (-9223372036854775808 : Int) <= 0 by decide), (show (0 : Int) <= 9223372036854775807 by decide)⟩, ⟨(show (-9223372036854775808 : Int) <= 0 by decide), (show (0 : Int) <= 9223372036854775807 by decide)⟩⟩
      obtain ⟨Su, hSu⟩ := ho.out.dropl.dropl.seeL
      obtain ⟨Au, cu, hu_, -, -⟩ := Rw.View.shape (Rw.Mine.view hSu.1)
      subst hu_
      clear hr hr2 hbs hSu c0 c1 f0 f1
      obtain ⟨c0, c1, f0, f1⟩ := Mt.ioBox ho.out
      cases hb6 : sx.toList.isEmpty with
      | false =>
       have HMz := Lib.hid (by have := Mt.ioMust (hJ.out _ _ _ _ _) ho.out false 6; rw [show mustE false 0 6 = 6 from rfl] at this; exact this)
       have hD : Hid (dec sl = (zero, 6)) := Lib.hid (dec_more hKr.out (fun e => by rw [ByteArray.toList_eq, e] at hb6; cases hb6))
       clear hKr hbnd
       go_wp2_with fail
       refine HMz.out.mono ?_
       rintro e w18 ⟨rfl, h18⟩
       clear HMz c0 c1 f0 f1 ho
       obtain ⟨c0, c1, f0, f1⟩ := Mt.ioBox h18
       have hF := five_keep hres.out h18
       obtain ⟨g0, g1, g2, g3, g4⟩ := hF.cells
       have z0 := hF.frozen 0
       obtain ⟨⟨p1, q1⟩, ⟨p2, q2⟩, ⟨p3, q3⟩, ⟨p4, q4⟩⟩ := hF.roads zeroV
       have hN := Lib.hid (hN0.out.trans (newOf h18.bel))
       go_wp2_with fail
       obtain ⟨wz, hwz⟩ : ∃ wz, setFive w.heap.size zeroV w18 = wz := ⟨_, rfl⟩
       have hFz := (hF.setAll zeroV).cells
       rw [hwz] at hFz
       replace hFz := Lib.hid hFz
       have hNz : Hid (New0 w wz) := Lib.hid (by rw [<- hwz]; exact upon_setFive hN.out (.inr (Nat.le_refl _)))
       have hwz' : Hid ((((((w18.setCell ⟨w.heap.size, 0, none⟩ (.int .i64 0)).setCell ⟨w.heap.size, 1, none⟩ (.slice none 0 0)).setCell ⟨w.heap.size, 2, none⟩ (.slice none 0 0)).setCell ⟨w.heap.size, 3, none⟩ (.int .i64 0)).setCell ⟨w.heap.size, 4, none⟩ (.int .i64 0)) = wz) := Lib.hid hwz
       clear hwz
       go_region
       all_goals
        clear c0 c1 f0 f1 g0 g1 g2 g3 g4 z0 p1 q1 p2 q2 p3 q3 p4 q4
        rw [hwz'.out]
        go_wp2_with fail
        obtain ⟨r0, r1, r2, r3, r4⟩ := hFz.out
        refine bodyPost_ret (v := .tuple #[.agg #[.int .i64 0, .slice none 0 0, .slice none 0 0, .int .i64 0, .int .i64 0], .int .i64 (6 : Int)]) (by simp [results, Tryz.results25, go_sem, r0, r1, r2, r3, r4]) rfl ?_
        exact DecN.no hD.out (hNz.out.trans (upon_drewN _ _ 1))
      | true =>
       have HMz := Lib.hid (by have := Mt.ioMust (hJ.out _ _ _ _ _) ho.out true 6; rw [show mustE true 0 6 = 0 from rfl] at this; exact this)
       have hKe : Hid (allR sl = .ok ((R.mk 1 l [] 0 0), [])) := Lib.hid (by rw [hKr.out]; rw [ByteArray.toList_eq, List.isEmpty_iff] at hb6; rw [hb6])
       clear hKr
       go_wp2_with fail
       refine HMz.out.mono ?_
       rintro e w18 ⟨rfl, h18⟩
       clear HMz c0 c1 f0 f1 ho
       obtain ⟨c0, c1, f0, f1⟩ := Mt.ioBox h18
       obtain ⟨k0, k1, k2, k3, k4⟩ := (seeBox h18).cells
       have hrv : Hid (RView w18 (Nw wA) (.agg #[.int .i64 1, .slice Au rs.length cu, .slice none 0 0, .int .i64 0, .int .i64 0]) (R.mk 1 l [] 0 0)) := Lib.hid (⟨⟨Au, rs.length, cu⟩, ⟨none, 0, 0⟩, rfl, sview_own h18, Rw.View.noth _ _ _⟩)
       obtain ⟨z, hz⟩ : ∃ z, chk (R.mk 1 l [] 0 0) = z := ⟨_, rfl⟩
       have HC := Lib.hid (refcheck_is w18 _ _ _ hrv.out hbnd.out hz)
       replace h18 := Lib.hid h18
       replace hz := Lib.hid hz
       go_wp2_with fail
       refine HC.out.mono ?_
       rintro e w19 ⟨rfl, hu19⟩
       have h19 := Own.upon0 (Tens.ob (thingIn _ _ _) (hJ.out _ _ _ _ _)) h18.out hu19
       have hrv9 := Lib.hid (hrv.out.new hu19)
       clear HC c0 c1 f0 f1 k0 k1 k2 k3 k4 h18 hrv hu19
       obtain ⟨c0, c1, f0, f1⟩ := Mt.ioBox h19
       have h20 := Mt.ioSet (hJ.out _ _ _ _ _) h19 z
       by_cases hz0 : z = 0
       ·subst hz0
        have hD := Lib.hid (dec_ok hKe.out hz.out)
        replace h20 : Own _ wA (w19.setCell ⟨w.heap.size + 1, 1, none⟩ (.int .i64 0)) := h20
        have hrv20 : RView (w19.setCell ⟨w.heap.size + 1, 1, none⟩ (.int .i64 0)) (Nw wA) (.agg #[.int .i64 1, .slice Au rs.length cu, .slice none 0 0, .int .i64 0, .int .i64 0]) (R.mk 1 l [] 0 0) := ⟨⟨Au, rs.length, cu⟩, ⟨none, 0, 0⟩, rfl, sview_own h20, Rw.View.noth _ _ _⟩
        obtain ⟨b0, b1, b2, b3⟩ := Mt.ioBox h20
        obtain ⟨k0, k1, k2, k3, k4⟩ := (seeBox h20).cells
        have hF := five_keep hres.out h20
        obtain ⟨g0, g1, g2, g3, g4⟩ := hF.cells
        have z0 := hF.frozen 0
        obtain ⟨⟨p1, q1⟩, ⟨p2, q2⟩, ⟨p3, q3⟩, ⟨p4, q4⟩⟩ := hF.roads ⟨.int .i64 1, .slice Au rs.length cu, .slice none 0 0, .int .i64 0, .int .i64 0⟩
        have hN := hN0.out.trans (newOf h20.bel)
        obtain ⟨wz, hwz⟩ : ∃ wz, setFive w.heap.size ⟨.int .i64 1, .slice Au rs.length cu, .slice none 0 0, .int .i64 0, .int .i64 0⟩ (w19.setCell ⟨w.heap.size + 1, 1, none⟩ (.int .i64 0)) = wz := ⟨_, rfl⟩
        have hFz := (hF.setAll ⟨.int .i64 1, .slice Au rs.length cu, .slice none 0 0, .int .i64 0, .int .i64 0⟩).cells
        rw [hwz] at hFz
        replace hFz := Lib.hid hFz
        have hNz : Hid (New0 w wz) := Lib.hid (by rw [<- hwz]; exact upon_setFive hN (.inr (Nat.le_refl _)))
        have hlt0 := (Array.getElem?_eq_some_iff.1 hres.out).1
        have hVz : Hid (RView wz (Nw w) (.agg #[.int .i64 1, .slice Au rs.length cu, .slice none 0 0, .int .i64 0, .int .i64 0]) (R.mk 1 l [] 0 0)) := Lib.hid (by
         rw [<- hwz]
         exact (hrv20.upon (upon_setFive (S := fun b => b = w.heap.size) (Upon.refl _ _) (.inl rfl)) (fun b hb e => by unfold Nw at hb; omega)).mono fun b _ hb => by unfold Nw at hb ⊢; omega)
        have hwz' : Hid (((((((w19.setCell ⟨w.heap.size + 1, 1, none⟩ (.int .i64 0)).setCell ⟨w.heap.size, 0, none⟩ (.int .i64 1)).setCell ⟨w.heap.size, 1, none⟩ (.slice Au rs.length cu)).setCell ⟨w.heap.size, 2, none⟩ (.slice none 0 0)).setCell ⟨w.heap.size, 3, none⟩ (.int .i64 0)).setCell ⟨w.heap.size, 4, none⟩ (.int .i64 0)) = wz) := Lib.hid hwz
        have hrng : Hid (Rng (R.mk 1 l [] 0 0)) := Lib.hid ⟨fun x hx => rngS_of (hbnd.out.smp x hx), hbnd.out.frm, hbnd.out.til⟩
        clear hwz hF hN hlt0 hrv20 h20 hKe hz h19 hrv9 hbnd
        go_wp2_with fail
        rw [hwz'.out]
        obtain ⟨r0, r1, r2, r3, r4⟩ := hFz.out
        clear p1 q1 p2 q2 p3 q3 p4 q4 g0 g1 g2 g3 g4 k0 k1 k2 k3 k4 b0 b1 b2 b3 c0 c1 f0 f1 z0
        refine bodyPost_ret (v := .tuple #[.agg #[.int .i64 1, .slice Au rs.length cu, .slice none 0 0, .int .i64 0, .int .i64 0], .int .i64 0]) (by simp [results, Tryz.results25, go_sem, r0, r1, r2, r3, r4]) rfl ?_
        exact DecN.yes hD.out hVz.out hrng.out hNz.out
       ·have hD := Lib.hid (by have := dec_chk hKe.out (by rw [hz.out]; exact hz0); rw [hz.out] at this; exact this)
        have dx : ((z : Int) == 0) = false := by rw [beq_eq_false_iff_ne]; omega
        have dx' : ((z : Int) != 0) = true := by rw [bne_iff_ne]; omega
        clear hKe hz h19 hz0 hrv9 hbnd
        obtain ⟨c0, c1, f0, f1⟩ := Mt.ioBox h20
        have hF := five_keep hres.out h20
        obtain ⟨g0, g1, g2, g3, g4⟩ := hF.cells
        have z0 := hF.frozen 0
        obtain ⟨⟨p1, q1⟩, ⟨p2, q2⟩, ⟨p3, q3⟩, ⟨p4, q4⟩⟩ := hF.roads zeroV
        have hN := Lib.hid (hN0.out.trans (newOf h20.bel))
        go_wp2_with fail
        obtain ⟨wz, hwz⟩ : ∃ wz, setFive w.heap.size zeroV (w19.setCell ⟨w.heap.size + 1, 1, none⟩ (.int .i64 (z : Int))) = wz := ⟨_, rfl⟩
        have hFz := (hF.setAll zeroV).cells
        rw [hwz] at hFz
        replace hFz := Lib.hid hFz
        have hNz : Hid (New0 w wz) := Lib.hid (by rw [<- hwz]; exact upon_setFive hN.out (.inr (Nat.le_refl _)))
        have hwz' : Hid (((((((w19.setCell ⟨w.heap.size + 1, 1, none⟩ (.int .i64 (z : Int))).setCell ⟨w.heap.size, 0, none⟩ (.int .i64 0)).setCell ⟨w.heap.size, 1, none⟩ (.slice none 0 0)).setCell ⟨w.heap.size, 2, none⟩ (.slice none 0 0)).setCell ⟨w.heap.size, 3, none⟩ (.int .i64 0)).setCell ⟨w.heap.size, 4, none⟩ (.int .i64 0)) = wz) := Lib.hid hwz
        clear hwz
        go_region
        all_goals
         clear c0 c1 f0 f1 g0 g1 g2 g3 g4 z0 p1 q1 p2 q2 p3 q3 p4 q4
         rw [hwz'.out]
         go_wp2_with fail
         obtain ⟨r0, r1, r2, r3, r4⟩ := hFz.out
         refine bodyPost_ret (v := .tuple #[.agg #[.int .i64 0, .slice none 0 0, .slice none 0 0, .int .i64 0, .int .i64 0], .int .i64 (z : Int)]) (by simp [results, Tryz.results25, go_sem, r0, r1, r2, r3, r4]) rfl ?_
         exact DecN.no hD.out (hNz.out.trans (upon_drewN _ _ 1))
    ·have hD := Lib.hid (dec_err (hK.trans (hr.out.2 he)))
     have dx : ((e : Int) == 0) = false := by rw [beq_eq_false_iff_ne]; omega
     have dx' : ((e : Int) != 0) = true := by rw [bne_iff_ne]; omega
     clear c0 c1 f0 f1 hr
     by_cases hlt : j < n
     ·skip
      obtain ⟨c0, c1, f0, f1⟩ := Mt.ioBox ho.out
      have HMz := Lib.hid (by have := Mt.ioMust (hJ.out _ _ _ _ _) ho.out sx.toList.isEmpty 6; rw [mustE_err he] at this; exact this)
      go_wp2_with fail
      refine HMz.out.mono ?_
      rintro e w18 ⟨rfl, h18⟩
      clear HMz c0 c1 f0 f1 ho
      obtain ⟨c0, c1, f0, f1⟩ := Mt.ioBox h18
      have hF := five_keep hres.out h18
      obtain ⟨g0, g1, g2, g3, g4⟩ := hF.cells
      have z0 := hF.frozen 0
      obtain ⟨⟨p1, q1⟩, ⟨p2, q2⟩, ⟨p3, q3⟩, ⟨p4, q4⟩⟩ := hF.roads zeroV
      have hN := Lib.hid (hN0.out.trans (newOf h18.bel))
      go_wp2_with fail
      obtain ⟨wz, hwz⟩ : ∃ wz, setFive w.heap.size zeroV w18 = wz := ⟨_, rfl⟩
      have hFz := (hF.setAll zeroV).cells
      rw [hwz] at hFz
      replace hFz := Lib.hid hFz
      have hNz : Hid (New0 w wz) := Lib.hid (by rw [<- hwz]; exact upon_setFive hN.out (.inr (Nat.le_refl _)))
      have hwz' : Hid ((((((w18.setCell ⟨w.heap.size, 0, none⟩ (.int .i64 0)).setCell ⟨w.heap.size, 1, none⟩ (.slice none 0 0)).setCell ⟨w.heap.size, 2, none⟩ (.slice none 0 0)).setCell ⟨w.heap.size, 3, none⟩ (.int .i64 0)).setCell ⟨w.heap.size, 4, none⟩ (.int .i64 0)) = wz) := Lib.hid hwz
      clear hwz
      go_region
      all_goals
       clear c0 c1 f0 f1 g0 g1 g2 g3 g4 z0 p1 q1 p2 q2 p3 q3 p4 q4
       rw [hwz'.out]
       go_wp2_with fail
       obtain ⟨r0, r1, r2, r3, r4⟩ := hFz.out
       refine bodyPost_ret (v := .tuple #[.agg #[.int .i64 0, .slice none 0 0, .slice none 0 0, .int .i64 0, .int .i64 0], .int .i64 (e : Int)]) (by simp [results, Tryz.results25, go_sem, r0, r1, r2, r3, r4]) rfl ?_
       exact DecN.no hD.out (hNz.out.trans (upon_drewN _ _ 1))
     ·skip
      obtain ⟨c0, c1, f0, f1⟩ := Mt.ioBox ho.out
      have HMz := Lib.hid (by have := Mt.ioMust (hJ.out _ _ _ _ _) ho.out sx.toList.isEmpty 6; rw [mustE_err he] at this; exact this)
      go_wp2_with fail
      refine HMz.out.mono ?_
      rintro e w18 ⟨rfl, h18⟩
      clear HMz c0 c1 f0 f1 ho
      obtain ⟨c0, c1, f0, f1⟩ := Mt.ioBox h18
      have hF := five_keep hres.out h18
      obtain ⟨g0, g1, g2, g3, g4⟩ := hF.cells
      have z0 := hF.frozen 0
      obtain ⟨⟨p1, q1⟩, ⟨p2, q2⟩, ⟨p3, q3⟩, ⟨p4, q4⟩⟩ := hF.roads zeroV
      have hN := Lib.hid (hN0.out.trans (newOf h18.bel))
      go_wp2_with fail
      obtain ⟨wz, hwz⟩ : ∃ wz, setFive w.heap.size zeroV w18 = wz := ⟨_, rfl⟩
      have hFz := (hF.setAll zeroV).cells
      rw [hwz] at hFz
      replace hFz := Lib.hid hFz
      have hNz : Hid (New0 w wz) := Lib.hid (by rw [<- hwz]; exact upon_setFive hN.out (.inr (Nat.le_refl _)))
      have hwz' : Hid ((((((w18.setCell ⟨w.heap.size, 0, none⟩ (.int .i64 0)).setCell ⟨w.heap.size, 1, none⟩ (.slice none 0 0)).setCell ⟨w.heap.size, 2, none⟩ (.slice none 0 0)).setCell ⟨w.heap.size, 3, none⟩ (.int .i64 0)).setCell ⟨w.heap.size, 4, none⟩ (.int .i64 0)) = wz) := Lib.hid hwz
      clear hwz
      go_region
      all_goals
       clear c0 c1 f0 f1 g0 g1 g2 g3 g4 z0 p1 q1 p2 q2 p3 q3 p4 q4
       rw [hwz'.out]
       go_wp2_with fail
       obtain ⟨r0, r1, r2, r3, r4⟩ := hFz.out
       refine bodyPost_ret (v := .tuple #[.agg #[.int .i64 0, .slice none 0 0, .slice none 0 0, .int .i64 0, .int .i64 0], .int .i64 (e : Int)]) (by simp [results, Tryz.results25, go_sem, r0, r1, r2, r3, r4]) rfl ?_
       exact DecN.no hD.out (hNz.out.trans (upon_drewN _ _ 1))
  ·have d1 : decide (1 <= (n : Int)) = true := decide_eq_true (by omega)
   have d1' : (1 : Int) <= (n : Int) := by omega
   have d2 : decide ((n : Int) <= 32) = false := decide_eq_false (by omega)
   have d2' : decide (n <= 32) = false := decide_eq_false hn32
   have d2'' : ¬ (n : Int) <= 32 := by omega
   have hb : (decide (1 <= n) && decide (n <= 32)) = false := by rw [decide_eq_false hn32, Bool.and_false]
   have hr5 := hr4.out
   simp only [hb] at hr5
   have HM2 := Lib.hid (rMust (hJ.out _ _ _ _ _) h4.out false 2 (by decide))
   replace hr5 := Lib.hid hr5
   have hn0 : 0 < n := by omega
   clear hr4 h4 hb hn1
   go_wp2_with fail
   refine HM2.out.mono ?_
   rintro e w5 ⟨e5, rfl, hx5, h5⟩
   have hr6 := Rest.step (f := fun _ => manyK comF n []) hr5.out hx5
   have he5 : e5 ≠ 0 := fun c => by
    by_cases c4 : e4 = 0
    ·rcases hx5.1 c4 with ⟨-, h⟩ | ⟨h, -⟩
     ·simp [mustR] at h
     ·exact h c
    ·rw [hx5.2 c4] at c; exact c4 c
   have hD := Lib.hid (dec_err (hr6.2 he5))
   have dx : ((e5 : Int) == 0) = false := by rw [beq_eq_false_iff_ne]; omega
   have dx' : ((e5 : Int) != 0) = true := by rw [bne_iff_ne]; omega
   replace h5 := Lib.hid h5
   have he := he5
   clear HM2 hr5 hr6 hx5 d1 d1' d2 d2' d2'' he5
   go_wp2_with fail
   go_loopw [8] (fun ov wr => ov = .int .u64 0 /\ wr = w5) (fun _ _ => 0)
   case atStart => exact ⟨rfl, rfl⟩
   case round =>
    obtain ⟨rfl, rfl⟩ := hrel
    obtain ⟨c0, c1, f0, f1⟩ := Mt.ioBox h5.out
    have HMz := Lib.hid (by have := Mt.ioMust (hJ.out _ _ _ _ _) h5.out s4.toList.isEmpty 6; rw [mustE_err he] at this; exact this)
    go_wp2_with fail
    refine HMz.out.mono ?_
    rintro e w18 ⟨rfl, h18⟩
    clear HMz c0 c1 f0 f1 h5
    obtain ⟨c0, c1, f0, f1⟩ := Mt.ioBox h18
    have hF := five_keep hres.out h18
    obtain ⟨g0, g1, g2, g3, g4⟩ := hF.cells
    have z0 := hF.frozen 0
    obtain ⟨⟨p1, q1⟩, ⟨p2, q2⟩, ⟨p3, q3⟩, ⟨p4, q4⟩⟩ := hF.roads zeroV
    have hN := Lib.hid (hN0.out.trans (newOf h18.bel))
    go_wp2_with fail
    obtain ⟨wz, hwz⟩ : ∃ wz, setFive w.heap.size zeroV w18 = wz := ⟨_, rfl⟩
    have hFz := (hF.setAll zeroV).cells
    rw [hwz] at hFz
    replace hFz := Lib.hid hFz
    have hNz : Hid (New0 w wz) := Lib.hid (by rw [<- hwz]; exact upon_setFive hN.out (.inr (Nat.le_refl _)))
    have hwz' : Hid ((((((w18.setCell ⟨w.heap.size, 0, none⟩ (.int .i64 0)).setCell ⟨w.heap.size, 1, none⟩ (.slice none 0 0)).setCell ⟨w.heap.size, 2, none⟩ (.slice none 0 0)).setCell ⟨w.heap.size, 3, none⟩ (.int .i64 0)).setCell ⟨w.heap.size, 4, none⟩ (.int .i64 0)) = wz) := Lib.hid hwz
    clear hwz
    go_region
    all_goals
     clear c0 c1 f0 f1 g0 g1 g2 g3 g4 z0 p1 q1 p2 q2 p3 q3 p4 q4
     rw [hwz'.out]
     go_wp2_with fail
     obtain ⟨r0, r1, r2, r3, r4⟩ := hFz.out
     refine bodyPost_ret (v := .tuple #[.agg #[.int .i64 0, .slice none 0 0, .slice none 0 0, .int .i64 0, .int .i64 0], .int .i64 (e5 : Int)]) (by simp [results, Tryz.results25, go_sem, r0, r1, r2, r3, r4]) rfl ?_
     exact DecN.no hD.out (hNz.out.trans (upon_drewN _ _ 1))
 ·have d1 : decide (1 <= (n : Int)) = false := decide_eq_false (by omega)
  have d1' : ¬ (1 : Int) <= (n : Int) := by omega
  have hb : (decide (1 <= n) && decide (n <= 32)) = false := by rw [decide_eq_false hn1]; rfl
  have hr5 := hr4.out
  simp only [hb] at hr5
  have HM2 := Lib.hid (rMust (hJ.out _ _ _ _ _) h4.out false 2 (by decide))
  replace hr5 := Lib.hid hr5
  have hn0 : n = 0 := by omega
  clear hr4 h4 hb hn1
  subst hn0
  go_wp2_with fail
  refine HM2.out.mono ?_
  rintro e w5 ⟨e5, rfl, hx5, h5⟩
  have hr6 := Rest.step (f := fun _ => manyK comF 0 []) hr5.out hx5
  have he5 : e5 ≠ 0 := fun c => by
   by_cases c4 : e4 = 0
   ·rcases hx5.1 c4 with ⟨-, h⟩ | ⟨h, -⟩
    ·simp [mustR] at h
    ·exact h c
   ·rw [hx5.2 c4] at c; exact c4 c
  have hD := Lib.hid (dec_err (hr6.2 he5))
  have dx : ((e5 : Int) == 0) = false := by rw [beq_eq_false_iff_ne]; omega
  have dx' : ((e5 : Int) != 0) = true := by rw [bne_iff_ne]; omega
  replace h5 := Lib.hid h5
  have he := he5
  clear HM2 hr5 hr6 hx5 d1 d1' he5
  go_wp2_with fail
  go_loopw [8] (fun ov wr => ov = .int .u64 0 /\ wr = w5) (fun _ _ => 0)
  case atStart => exact ⟨rfl, rfl⟩
  case round =>
   obtain ⟨rfl, rfl⟩ := hrel
   obtain ⟨c0, c1, f0, f1⟩ := Mt.ioBox h5.out
   have HMz := Lib.hid (by have := Mt.ioMust (hJ.out _ _ _ _ _) h5.out s4.toList.isEmpty 6; rw [mustE_err he] at this; exact this)
   go_wp2_with fail
   refine HMz.out.mono ?_
   rintro e w18 ⟨rfl, h18⟩
   clear HMz c0 c1 f0 f1 h5
   obtain ⟨c0, c1, f0, f1⟩ := Mt.ioBox h18
   have hF := five_keep hres.out h18
   obtain ⟨g0, g1, g2, g3, g4⟩ := hF.cells
   have z0 := hF.frozen 0
   obtain ⟨⟨p1, q1⟩, ⟨p2, q2⟩, ⟨p3, q3⟩, ⟨p4, q4⟩⟩ := hF.roads zeroV
   have hN := Lib.hid (hN0.out.trans (newOf h18.bel))
   go_wp2_with fail
   obtain ⟨wz, hwz⟩ : ∃ wz, setFive w.heap.size zeroV w18 = wz := ⟨_, rfl⟩
   have hFz := (hF.setAll zeroV).cells
   rw [hwz] at hFz
   replace hFz := Lib.hid hFz
   have hNz : Hid (New0 w wz) := Lib.hid (by rw [<- hwz]; exact upon_setFive hN.out (.inr (Nat.le_refl _)))
   have hwz' : Hid ((((((w18.setCell ⟨w.heap.size, 0, none⟩ (.int .i64 0)).setCell ⟨w.heap.size, 1, none⟩ (.slice none 0 0)).setCell ⟨w.heap.size, 2, none⟩ (.slice none 0 0)).setCell ⟨w.heap.size, 3, none⟩ (.int .i64 0)).setCell ⟨w.heap.size, 4, none⟩ (.int .i64 0)) = wz) := Lib.hid hwz
   clear hwz
   go_region
   all_goals
    clear c0 c1 f0 f1 g0 g1 g2 g3 g4 z0 p1 q1 p2 q2 p3 q3 p4 q4
    rw [hwz'.out]
    go_wp2_with fail
    obtain ⟨r0, r1, r2, r3, r4⟩ := hFz.out
    refine bodyPost_ret (v := .tuple #[.agg #[.int .i64 0, .slice none 0 0, .slice none 0 0, .int .i64 0, .int .i64 0], .int .i64 (e5 : Int)]) (by simp [results, Tryz.results25, go_sem, r0, r1, r2, r3, r4]) rfl ?_
    exact DecN.no hD.out (hNz.out.trans (upon_drewN _ _ 1))
end Rc
end
section
open Go.RowKit Go.Sort
namespace Rc
open Bit Dsk Ob Dig Lb
set_option maxHeartbeats 25600000 in
theorem refdec_del (w : World) (s : ByteArray) (hs : s.size <= 140737488355328) {k kk x : Nat} (hg : gotN s.data.toList = (k, kk, x)) (hk : k ≠ 1) :
  Calls Tryz.prog 25 #[.string s] w fun e w' => DecN w s.data.toList e w' := by
 obtain ⟨wA, hwA⟩ : ∃ wA, w.alloc (.cells #[.int .i64 0, .slice none 0 0, .slice none 0 0, .int .i64 0, .int .i64 0] 47 (0, 0)) = wA := ⟨_, rfl⟩
 have hres : Five 47 w.heap.size zeroV wA := by rw [<- hwA]; exact cell_new w _
 have hN0 : New0 w wA := by rw [<- hwA]; exact (Upon.refl _ w).alloc _
 have hsz : wA.heap.size = w.heap.size + 1 := by rw [<- hwA]; simp
 obtain ⟨wB, hwB⟩ : ∃ wB, wA.alloc (.cells #[.string s, .int .i64 0] 77 (0, 0)) = wB := ⟨_, rfl⟩
 have H0 : Own (InO (w.heap.size + 1) s 0) wA wB := by rw [<- hwB, <- hsz]; exact Rw.box2Own (Below.refl _ _) (.string s) (.int .i64 ((0 : Nat) : Int)) _
 have HN := Lib.hid (Mt.ioNum Mt.thingNo (Mt.ownNo (thingIn _ _ _) H0) (by omega) hg)
 have hk64 : k < 18446744073709551616 := by
  have := (gotN_lt s.data.toList).1
  rw [hg] at this
  exact this
 have hx1 := nx_num hg
 have hs1 : (s.extract kk s.size).size <= 140737488355328 := Nat.le_trans (ext_size _ _ _) hs
 obtain ⟨s1, hs1_⟩ : ∃ s1, s.extract kk s.size = s1 := ⟨_, rfl⟩
 rw [hs1_] at HN hx1 hs1
 clear hs1_
 obtain ⟨sl, hsl⟩ : ∃ sl, s.data.toList = sl := ⟨_, rfl⟩
 have hrest := Rest.start allR s
 rw [hsl] at hrest ⊢
 have hR : ∀ (s1 : ByteArray) (e1 k : Nat), Nx numR s 0 k s1 e1 -> Rest (bnd (mustR (decide (k = 1) || decide (k = 2)) 5) fun _ => if k = 1 then comR else delR) s1 e1 (allR sl) := fun s1 e1 k hx => Rest.step (f := fun k => bnd (mustR (decide (k = 1) || decide (k = 2)) 5) fun _ => if k = 1 then comR else delR) hrest hx
 have hw : Hid ((w.alloc (.cells #[.int .i64 0, .slice none 0 0, .slice none 0 0, .int .i64 0, .int .i64 0] 47 (0, 0))).alloc (.cells #[.string s, .int .i64 0] 77 (0, 0)) = wB) := Lib.hid (by rw [hwA, hwB])
 replace hR := Lib.hid hR
 replace hres := Lib.hid hres
 replace hN0 := Lib.hid hN0
 clear hwA hwB H0 hsl hrest hsz hg
 go_enter Tryz.func25, Tryz.ntmps25
 go_wp2_with fail
 rw [hw.out]
 refine HN.out.mono ?_
 rintro e w2 ⟨rfl, h2⟩
 have hr1 := Lib.hid (hR.out _ _ _ hx1)
 replace h2 := Lib.hid h2
 clear HN hw hR hx1
 have e1 : ((k : Int) == 1) = false := by rw [beq_eq_false_iff_ne]; omega
 obtain ⟨b2, hb2⟩ : ∃ b2, decide (k = 2) = b2 := ⟨_, rfl⟩
 have hb2' : ((k : Int) == 2) = b2 := by
  rw [<- hb2]
  by_cases c : k = 2
  ·rw [decide_eq_true c, beq_iff_eq]; omega
  ·rw [decide_eq_false c, beq_eq_false_iff_ne]; omega
 have hr2 := hr1.out
 rw [decide_eq_false hk, hb2, Bool.false_or] at hr2
 have HM := Lib.hid (rMust Mt.thingNo h2.out b2 5 (by decide))
 replace hr2 := Lib.hid hr2
 clear hr1 h2
 go_wp2_with fail
 refine HM.out.mono ?_
 rintro e w3 ⟨e2, rfl, hx2, h3⟩
 have hr3 := Lib.hid (by have h := Rest.step (f := fun _ => if k = 1 then comR else delR) hr2.out hx2; rw [if_neg hk] at h; exact h)
 obtain ⟨kv, hcv⟩ : ∃ kv, IntKind.i64.wrap (k : Int) = kv := ⟨_, rfl⟩
 have h4 := Lib.hid (Own.mono (Own.assoc (boxMade (Tens.ob (thingIn _ _ _) Mt.thingNo) h3 ⟨.int .i64 kv, .slice none 0 0, .slice none 0 0, .int .i64 0, .int .i64 0⟩)) fun S h => Tens.mapR (fun A h => noBox h) h)
 have hk2 : e2 = 0 -> k = 2 := fun c => by
  by_cases cx : x = 0
  ·rcases hx2.1 cx with ⟨-, h⟩ | ⟨h, -⟩
   ·cases b2 with
    | true => exact of_decide_eq_true hb2
    | false => simp [mustR] at h
   ·exact absurd c h
  ·rw [hx2.2 cx] at c; exact absurd c cx
 replace hk2 := Lib.hid hk2
 clear HM hr2 hx2 h3 hb2
 obtain ⟨c0, c1, f0, f1⟩ := Mt.ioBox h4.out
 by_cases he : e2 = 0
 ·subst he
  have hk2' := hk2.out rfl
  have hkv : kv = 2 := by rw [<- hcv, hk2', IntKind.wrap_i64]; decide
  subst hkv
  have HT := Lib.hid (rTake (thingBox _ _) h4.out hs1)
  have hJ := Lib.hid (fun g v u (l : List Mt.M) => Tens.ob (thingBox g v) (Rw.thingRow Mt.layM 174 u l))
  clear h4 hk2 hb2'
  go_wp2_with fail
  refine HT.out.mono ?_
  rintro e w5 ⟨u, l, s5, e5, rfl, hs5, hbl, hx5, h5⟩
  have hr5 := Lib.hid (Rest.step (f := fun m => bnd sgnR fun a => bnd sgnR fun b => retR (R.mk 2 [] m a b)) (show Rest (bnd takeR fun m => bnd sgnR fun a => bnd sgnR fun b => retR (R.mk 2 [] m a b)) _ _ _ from hr3.out) hx5)
  replace hbl := Lib.hid hbl
  clear HT hr3 hx5 c0 c1 f0 f1
  obtain ⟨A5, c5, hu5, -, -⟩ := Rw.View.shape (Rw.rowSee h5.dropl).view
  subst hu5
  have hF5 := seeBox h5
  obtain ⟨m0, m1, m2, m3, m4⟩ := hF5.cells
  have m2f := hF5.frozen 2
  have h6 := boxSet (thingIn _ _ _) (Rw.thingRow _ _ _ _) h5 (hF5.set2 (.slice A5 l.length c5))
  have HS := Lib.hid (rSgn (hJ.out _ _ _ _) h6 hs5)
  clear h5 h6 hF5
  go_wp2_with fail
  refine HS.out.mono ?_
  rintro e w7 ⟨a, s7, e7, rfl, hab, hs7, hx7, h7⟩
  have hr7 := Lib.hid (Rest.step (f := fun a => bnd sgnR fun b => retR (R.mk 2 [] l a b)) hr5.out hx7)
  clear HS hr5 hx7 m0 m1 m2 m3 m4 m2f
  have hF7 := seeBox h7
  obtain ⟨m0, m1, m2, m3, m4⟩ := hF7.cells
  have m3f := hF7.frozen 3
  have h8 := boxSet (thingIn _ _ _) (Rw.thingRow _ _ _ _) h7 (hF7.set3 (.int .i64 a))
  have HS2 := Lib.hid (rSgn (hJ.out _ _ _ _) h8 hs7)
  clear h7 h8 hF7
  go_wp2_with fail
  refine HS2.out.mono ?_
  rintro e w9 ⟨b, s9, e9, rfl, hbb, hs9, hx9, h9⟩
  have hr9 := Lib.hid (Rest.step (f := fun b => retR (R.mk 2 [] l a b)) hr7.out hx9)
  clear HS2 hr7 hx9 m0 m1 m2 m3 m4 m3f
  have hF9 := seeBox h9
  obtain ⟨m0, m1, m2, m3, m4⟩ := hF9.cells
  have m4f := hF9.frozen 4
  have h10 := Lib.hid (boxSet (thingIn _ _ _) (Rw.thingRow _ _ _ _) h9 (hF9.set4 (.int .i64 b)))
  clear h9 hF9
  by_cases he9 : e9 = 0
  ·subst he9
   have hKr := Lib.hid ((Rest.ret hr9.out).1 rfl)
   have hbnd : Hid (Bnd ⟨2, [], l, a, b⟩) := Lib.hid ⟨⟨(show (-9223372036854775808 : Int) <= 2 by decide), (show (2 : Int) <= 9223372036854775807 by decide)⟩, fun x hx => (by cases hx), hbl.out, hab, hbb⟩
   clear hr9
   obtain ⟨c0, c1, f0, f1⟩ := Mt.ioBox h10.out
   cases hb6 : s9.toList.isEmpty with
   | false =>
    have HMz := Lib.hid (by have := Mt.ioMust (hJ.out _ _ _ _) h10.out false 6; rw [show mustE false 0 6 = 6 from rfl] at this; exact this)
    have hD : Hid (dec sl = (zero, 6)) := Lib.hid (dec_more hKr.out (fun e => by rw [ByteArray.toList_eq, e] at hb6; cases hb6))
    clear hKr hbnd
    go_wp2_with fail
    refine HMz.out.mono ?_
    rintro e w18 ⟨rfl, h18⟩
    clear HMz c0 c1 f0 f1 h10
    obtain ⟨c0, c1, f0, f1⟩ := Mt.ioBox h18
    have hF := five_keep hres.out h18
    obtain ⟨g0, g1, g2, g3, g4⟩ := hF.cells
    have z0 := hF.frozen 0
    obtain ⟨⟨p1, q1⟩, ⟨p2, q2⟩, ⟨p3, q3⟩, ⟨p4, q4⟩⟩ := hF.roads zeroV
    have hN := Lib.hid (hN0.out.trans (newOf h18.bel))
    go_wp2_with fail
    obtain ⟨wz, hwz⟩ : ∃ wz, setFive w.heap.size zeroV w18 = wz := ⟨_, rfl⟩
    have hFz := (hF.setAll zeroV).cells
    rw [hwz] at hFz
    replace hFz := Lib.hid hFz
    have hNz : Hid (New0 w wz) := Lib.hid (by rw [<- hwz]; exact upon_setFive hN.out (.inr (Nat.le_refl _)))
    have hwz' : Hid ((((((w18.setCell ⟨w.heap.size, 0, none⟩ (.int .i64 0)).setCell ⟨w.heap.size, 1, none⟩ (.slice none 0 0)).setCell ⟨w.heap.size, 2, none⟩ (.slice none 0 0)).setCell ⟨w.heap.size, 3, none⟩ (.int .i64 0)).setCell ⟨w.heap.size, 4, none⟩ (.int .i64 0)) = wz) := Lib.hid hwz
    clear hwz
    go_region
    all_goals
     clear c0 c1 f0 f1 g0 g1 g2 g3 g4 z0 p1 q1 p2 q2 p3 q3 p4 q4
     rw [hwz'.out]
     go_wp2_with fail
     obtain ⟨r0, r1, r2, r3, r4⟩ := hFz.out
     refine bodyPost_ret (v := .tuple #[.agg #[.int .i64 0, .slice none 0 0, .slice none 0 0, .int .i64 0, .int .i64 0], .int .i64 (6 : Int)]) (by simp [results, Tryz.results25, go_sem, r0, r1, r2, r3, r4]) rfl ?_
     exact DecN.no hD.out (hNz.out.trans (upon_drewN _ _ 1))
   | true =>
    have HMz := Lib.hid (by have := Mt.ioMust (hJ.out _ _ _ _) h10.out true 6; rw [show mustE true 0 6 = 0 from rfl] at this; exact this)
    have hKe : Hid (allR sl = .ok ((⟨2, [], l, a, b⟩ : R), [])) := Lib.hid (by rw [hKr.out]; rw [ByteArray.toList_eq, List.isEmpty_iff] at hb6; rw [hb6])
    clear hKr
    go_wp2_with fail
    refine HMz.out.mono ?_
    rintro e w18 ⟨rfl, h18⟩
    clear HMz c0 c1 f0 f1 h10
    obtain ⟨c0, c1, f0, f1⟩ := Mt.ioBox h18
    obtain ⟨k0, k1, k2, k3, k4⟩ := (seeBox h18).cells
    have hrv : Hid (RView w18 (Nw wA) (.agg #[.int .i64 2, .slice none 0 0, .slice A5 l.length c5, .int .i64 a, .int .i64 b]) (⟨2, [], l, a, b⟩ : R)) := Lib.hid (⟨⟨none, 0, 0⟩, ⟨A5, l.length, c5⟩, rfl, Rw.DView.noth _ _ _ _, mview_own h18⟩)
    obtain ⟨z, hz⟩ : ∃ z, chk (⟨2, [], l, a, b⟩ : R) = z := ⟨_, rfl⟩
    have HC := Lib.hid (refcheck_is w18 _ _ _ hrv.out hbnd.out hz)
    replace h18 := Lib.hid h18
    replace hz := Lib.hid hz
    go_wp2_with fail
    refine HC.out.mono ?_
    rintro e w19 ⟨rfl, hu19⟩
    have h19 := Own.upon0 (Tens.ob (thingIn _ _ _) (hJ.out _ _ _ _)) h18.out hu19
    have hrv9 := Lib.hid (hrv.out.new hu19)
    clear HC c0 c1 f0 f1 k0 k1 k2 k3 k4 h18 hrv hu19
    obtain ⟨c0, c1, f0, f1⟩ := Mt.ioBox h19
    have h20 := Mt.ioSet (hJ.out _ _ _ _) h19 z
    by_cases hz0 : z = 0
    ·subst hz0
     have hD := Lib.hid (dec_ok hKe.out hz.out)
     replace h20 : Own _ wA (w19.setCell ⟨w.heap.size + 1, 1, none⟩ (.int .i64 0)) := h20
     have hrv20 : RView (w19.setCell ⟨w.heap.size + 1, 1, none⟩ (.int .i64 0)) (Nw wA) (.agg #[.int .i64 2, .slice none 0 0, .slice A5 l.length c5, .int .i64 a, .int .i64 b]) (⟨2, [], l, a, b⟩ : R) := ⟨⟨none, 0, 0⟩, ⟨A5, l.length, c5⟩, rfl, Rw.DView.noth _ _ _ _, mview_own h20⟩
     obtain ⟨b0, b1, b2, b3⟩ := Mt.ioBox h20
     obtain ⟨k0, k1, k2, k3, k4⟩ := (seeBox h20).cells
     have hF := five_keep hres.out h20
     obtain ⟨g0, g1, g2, g3, g4⟩ := hF.cells
     have z0 := hF.frozen 0
     obtain ⟨⟨p1, q1⟩, ⟨p2, q2⟩, ⟨p3, q3⟩, ⟨p4, q4⟩⟩ := hF.roads ⟨.int .i64 2, .slice none 0 0, .slice A5 l.length c5, .int .i64 a, .int .i64 b⟩
     have hN := hN0.out.trans (newOf h20.bel)
     obtain ⟨wz, hwz⟩ : ∃ wz, setFive w.heap.size ⟨.int .i64 2, .slice none 0 0, .slice A5 l.length c5, .int .i64 a, .int .i64 b⟩ (w19.setCell ⟨w.heap.size + 1, 1, none⟩ (.int .i64 0)) = wz := ⟨_, rfl⟩
     have hFz := (hF.setAll ⟨.int .i64 2, .slice none 0 0, .slice A5 l.length c5, .int .i64 a, .int .i64 b⟩).cells
     rw [hwz] at hFz
     replace hFz := Lib.hid hFz
     have hNz : Hid (New0 w wz) := Lib.hid (by rw [<- hwz]; exact upon_setFive hN (.inr (Nat.le_refl _)))
     have hlt0 := (Array.getElem?_eq_some_iff.1 hres.out).1
     have hVz : Hid (RView wz (Nw w) (.agg #[.int .i64 2, .slice none 0 0, .slice A5 l.length c5, .int .i64 a, .int .i64 b]) (⟨2, [], l, a, b⟩ : R)) := Lib.hid (by
      rw [<- hwz]
      exact (hrv20.upon (upon_setFive (S := fun b => b = w.heap.size) (Upon.refl _ _) (.inl rfl)) (fun b hb e => by unfold Nw at hb; omega)).mono fun b _ hb => by unfold Nw at hb ⊢; omega)
     have hwz' : Hid (((((((w19.setCell ⟨w.heap.size + 1, 1, none⟩ (.int .i64 0)).setCell ⟨w.heap.size, 0, none⟩ (.int .i64 2)).setCell ⟨w.heap.size, 1, none⟩ (.slice none 0 0)).setCell ⟨w.heap.size, 2, none⟩ (.slice A5 l.length c5)).setCell ⟨w.heap.size, 3, none⟩ (.int .i64 a)).setCell ⟨w.heap.size, 4, none⟩ (.int .i64 b)) = wz) := Lib.hid hwz
     have hrng : Hid (Rng (⟨2, [], l, a, b⟩ : R)) := Lib.hid ⟨fun x hx => rngS_of (hbnd.out.smp x hx), hbnd.out.frm, hbnd.out.til⟩
     clear hwz hF hN hlt0 hrv20 h20 hKe hz h19 hrv9 hbnd
     go_wp2_with fail
     rw [hwz'.out]
     obtain ⟨r0, r1, r2, r3, r4⟩ := hFz.out
     clear p1 q1 p2 q2 p3 q3 p4 q4 g0 g1 g2 g3 g4 k0 k1 k2 k3 k4 b0 b1 b2 b3 c0 c1 f0 f1 z0
     refine bodyPost_ret (v := .tuple #[.agg #[.int .i64 2, .slice none 0 0, .slice A5 l.length c5, .int .i64 a, .int .i64 b], .int .i64 0]) (by simp [results, Tryz.results25, go_sem, r0, r1, r2, r3, r4]) rfl ?_
     exact DecN.yes hD.out hVz.out hrng.out hNz.out
    ·have hD := Lib.hid (by have := dec_chk hKe.out (by rw [hz.out]; exact hz0); rw [hz.out] at this; exact this)
     have dx : ((z : Int) == 0) = false := by rw [beq_eq_false_iff_ne]; omega
     have dx' : ((z : Int) != 0) = true := by rw [bne_iff_ne]; omega
     clear hKe hz h19 hz0 hrv9 hbnd
     obtain ⟨c0, c1, f0, f1⟩ := Mt.ioBox h20
     have hF := five_keep hres.out h20
     obtain ⟨g0, g1, g2, g3, g4⟩ := hF.cells
     have z0 := hF.frozen 0
     obtain ⟨⟨p1, q1⟩, ⟨p2, q2⟩, ⟨p3, q3⟩, ⟨p4, q4⟩⟩ := hF.roads zeroV
     have hN := Lib.hid (hN0.out.trans (newOf h20.bel))
     go_wp2_with fail
     obtain ⟨wz, hwz⟩ : ∃ wz, setFive w.heap.size zeroV (w19.setCell ⟨w.heap.size + 1, 1, none⟩ (.int .i64 (z : Int))) = wz := ⟨_, rfl⟩
     have hFz := (hF.setAll zeroV).cells
     rw [hwz] at hFz
     replace hFz := Lib.hid hFz
     have hNz : Hid (New0 w wz) := Lib.hid (by rw [<- hwz]; exact upon_setFive hN.out (.inr (Nat.le_refl _)))
     have hwz' : Hid (((((((w19.setCell ⟨w.heap.size + 1, 1, none⟩ (.int .i64 (z : Int))).setCell ⟨w.heap.size, 0, none⟩ (.int .i64 0)).setCell ⟨w.heap.size, 1, none⟩ (.slice none 0 0)).setCell ⟨w.heap.size, 2, none⟩ (.slice none 0 0)).setCell ⟨w.heap.size, 3, none⟩ (.int .i64 0)).setCell ⟨w.heap.size, 4, none⟩ (.int .i64 0)) = wz) := Lib.hid hwz
     clear hwz
     go_region
     all_goals
      clear c0 c1 f0 f1 g0 g1 g2 g3 g4 z0 p1 q1 p2 q2 p3 q3 p4 q4
      rw [hwz'.out]
      go_wp2_with fail
      obtain ⟨r0, r1, r2, r3, r4⟩ := hFz.out
      refine bodyPost_ret (v := .tuple #[.agg #[.int .i64 0, .slice none 0 0, .slice none 0 0, .int .i64 0, .int .i64 0], .int .i64 (z : Int)]) (by simp [results, Tryz.results25, go_sem, r0, r1, r2, r3, r4]) rfl ?_
      exact DecN.no hD.out (hNz.out.trans (upon_drewN _ _ 1))
  ·have hD := Lib.hid (dec_err ((Rest.ret hr9.out).2 he9))
   have dx : ((e9 : Int) == 0) = false := by rw [beq_eq_false_iff_ne]; omega
   have dx' : ((e9 : Int) != 0) = true := by rw [bne_iff_ne]; omega
   have he := he9
   clear hr9 hbl he9
   obtain ⟨c0, c1, f0, f1⟩ := Mt.ioBox h10.out
   have HMz := Lib.hid (by have := Mt.ioMust (hJ.out _ _ _ _) h10.out s9.toList.isEmpty 6; rw [mustE_err he] at this; exact this)
   go_wp2_with fail
   refine HMz.out.mono ?_
   rintro e w18 ⟨rfl, h18⟩
   clear HMz c0 c1 f0 f1 h10
   obtain ⟨c0, c1, f0, f1⟩ := Mt.ioBox h18
   have hF := five_keep hres.out h18
   obtain ⟨g0, g1, g2, g3, g4⟩ := hF.cells
   have z0 := hF.frozen 0
   obtain ⟨⟨p1, q1⟩, ⟨p2, q2⟩, ⟨p3, q3⟩, ⟨p4, q4⟩⟩ := hF.roads zeroV
   have hN := Lib.hid (hN0.out.trans (newOf h18.bel))
   go_wp2_with fail
   obtain ⟨wz, hwz⟩ : ∃ wz, setFive w.heap.size zeroV w18 = wz := ⟨_, rfl⟩
   have hFz := (hF.setAll zeroV).cells
   rw [hwz] at hFz
   replace hFz := Lib.hid hFz
   have hNz : Hid (New0 w wz) := Lib.hid (by rw [<- hwz]; exact upon_setFive hN.out (.inr (Nat.le_refl _)))
   have hwz' : Hid ((((((w18.setCell ⟨w.heap.size, 0, none⟩ (.int .i64 0)).setCell ⟨w.heap.size, 1, none⟩ (.slice none 0 0)).setCell ⟨w.heap.size, 2, none⟩ (.slice none 0 0)).setCell ⟨w.heap.size, 3, none⟩ (.int .i64 0)).setCell ⟨w.heap.size, 4, none⟩ (.int .i64 0)) = wz) := Lib.hid hwz
   clear hwz
   go_region
   all_goals
    clear c0 c1 f0 f1 g0 g1 g2 g3 g4 z0 p1 q1 p2 q2 p3 q3 p4 q4
    rw [hwz'.out]
    go_wp2_with fail
    obtain ⟨r0, r1, r2, r3, r4⟩ := hFz.out
    refine bodyPost_ret (v := .tuple #[.agg #[.int .i64 0, .slice none 0 0, .slice none 0 0, .int .i64 0, .int .i64 0], .int .i64 (e9 : Int)]) (by simp [results, Tryz.results25, go_sem, r0, r1, r2, r3, r4]) rfl ?_
    exact DecN.no hD.out (hNz.out.trans (upon_drewN _ _ 1))
 ·have hD := Lib.hid (dec_err (hr3.out.2 he))
  have dx : ((e2 : Int) == 0) = false := by rw [beq_eq_false_iff_ne]; omega
  have dx' : ((e2 : Int) != 0) = true := by rw [bne_iff_ne]; omega
  clear hr3 hk2 hb2' c0 c1 f0 f1
  obtain ⟨c0, c1, f0, f1⟩ := Mt.ioBox h4.out
  have HMz := Lib.hid (by have := Mt.ioMust (thingBox _ _) h4.out s1.toList.isEmpty 6; rw [mustE_err he] at this; exact this)
  go_wp2_with fail
  refine HMz.out.mono ?_
  rintro e w18 ⟨rfl, h18⟩
  clear HMz c0 c1 f0 f1 h4
  obtain ⟨c0, c1, f0, f1⟩ := Mt.ioBox h18
  have hF := five_keep hres.out h18
  obtain ⟨g0, g1, g2, g3, g4⟩ := hF.cells
  have z0 := hF.frozen 0
  obtain ⟨⟨p1, q1⟩, ⟨p2, q2⟩, ⟨p3, q3⟩, ⟨p4, q4⟩⟩ := hF.roads zeroV
  have hN := Lib.hid (hN0.out.trans (newOf h18.bel))
  go_wp2_with fail
  obtain ⟨wz, hwz⟩ : ∃ wz, setFive w.heap.size zeroV w18 = wz := ⟨_, rfl⟩
  have hFz := (hF.setAll zeroV).cells
  rw [hwz] at hFz
  replace hFz := Lib.hid hFz
  have hNz : Hid (New0 w wz) := Lib.hid (by rw [<- hwz]; exact upon_setFive hN.out (.inr (Nat.le_refl _)))
  have hwz' : Hid ((((((w18.setCell ⟨w.heap.size, 0, none⟩ (.int .i64 0)).setCell ⟨w.heap.size, 1, none⟩ (.slice none 0 0)).setCell ⟨w.heap.size, 2, none⟩ (.slice none 0 0)).setCell ⟨w.heap.size, 3, none⟩ (.int .i64 0)).setCell ⟨w.heap.size, 4, none⟩ (.int .i64 0)) = wz) := Lib.hid hwz
  clear hwz
  go_region
  all_goals
   clear c0 c1 f0 f1 g0 g1 g2 g3 g4 z0 p1 q1 p2 q2 p3 q3 p4 q4
   rw [hwz'.out]
   go_wp2_with fail
   obtain ⟨r0, r1, r2, r3, r4⟩ := hFz.out
   refine bodyPost_ret (v := .tuple #[.agg #[.int .i64 0, .slice none 0 0, .slice none 0 0, .int .i64 0, .int .i64 0], .int .i64 (e2 : Int)]) (by simp [results, Tryz.results25, go_sem, r0, r1, r2, r3, r4]) rfl ?_
   exact DecN.no hD.out (hNz.out.trans (upon_drewN _ _ 1))
end Rc
end
section
open Go.RowKit Go.Sort
namespace Rc
open Bit Dsk Ob Dig Lb
theorem refdec_new (w : World) (s : ByteArray) (hs : s.size <= 140737488355328) :
  Calls Tryz.prog 25 #[.string s] w fun e w' => DecN w s.data.toList e w' := by
 obtain ⟨k, kk, x, hg⟩ : ∃ k kk x, gotN s.data.toList = (k, kk, x) := ⟨_, _, _, rfl⟩
 by_cases hk : k = 1
 ·exact refdec_com w s hs hg hk
 ·exact refdec_del w s hs hg hk
end Rc
end
section
open Go.RowKit Go.Sort
namespace Bk
open Bit Dsk Ob Dig
theorem refdoc (w : World) (s : ByteArray) (hs : s.size <= 5000) :
  Calls Tryz.prog 8 #[.string s] w (DocE w s.data.toList) :=
 refdoc_any (fun w t h => by have := Rc.refdec_new w t (by omega); unfold Rc.DecN at this; exact this) w s hs
end Bk
end
section
open Go.RowKit Go.Sort
namespace Bk
open Bit Dsk Ob Dig
set_option maxHeartbeats 6400000 in
theorem same_any (w : World) (S S' : Nat -> Prop) (v1 v2 : Value) (b : B) (h1 : BView w S v1 b) (h2 : BView w S' v2 b) (hfew : b.rows.length <= 3000000000000) (hfew2 : b.dels.length <= 1000000000) (hsmp : ∀ r ∈ b.dels, r.smp.length <= 1000000000) :
  Calls Tryz.prog 9 #[v1, v2] w fun e w' => e = .returned (.bool true) /\ New0 w w' := by
 obtain ⟨A, c, A', c', rfl, hs, hm⟩ := BView.shape h1
 obtain ⟨C, d, C', d', rfl, ht, hn⟩ := BView.shape h2
 obtain ⟨f, t, l, ds⟩ := b
 simp only at hs hm ht hn hfew hfew2 hsmp ⊢
 obtain ⟨wx, hwx⟩ : ∃ wx, w.alloc (.cells #[.int .i64 f, .int .i64 t, .slice A l.length c, .slice A' ds.length c'] 31 (0, 0)) = wx := ⟨_, rfl⟩
 obtain ⟨wb, hwb⟩ : ∃ wb, wx.alloc (.cells #[.int .i64 f, .int .i64 t, .slice C l.length d, .slice C' ds.length d'] 31 (0, 0)) = wb := ⟨_, rfl⟩
 have hX := box4 w f t (.slice A l.length c) (.slice A' ds.length c') 31
 have hY := box4 wx f t (.slice C l.length d) (.slice C' ds.length d') 31
 have ux := (Upon.refl (fun _ => False) w).alloc (.cells #[.int .i64 f, .int .i64 t, .slice A l.length c, .slice A' ds.length c'] 31 (0, 0))
 have uy := (Upon.refl (fun _ => False) wx).alloc (.cells #[.int .i64 f, .int .i64 t, .slice C l.length d, .slice C' ds.length d'] 31 (0, 0))
 have sx : wx.heap.size = w.heap.size + 1 := by rw [<- hwx]; simp
 rw [hwx] at hX ux
 rw [hwb, sx] at hY
 rw [hwb] at uy
 have hU := Lib.hid (ux.trans uy)
 have hB := Lib.hid (fun w' (hu : New0 wb w') => And.intro ((hX.new uy).new hu) (hY.new hu))
 have hw : Hid ((w.alloc (.cells #[.int .i64 f, .int .i64 t, .slice A l.length c, .slice A' ds.length c'] 31 (0, 0))).alloc (.cells #[.int .i64 f, .int .i64 t, .slice C l.length d, .slice C' ds.length d'] 31 (0, 0)) = wb) := Lib.hid (by rw [hwx, hwb])
 have HL := Lib.hid (fun w1 (hu : New0 w w1) T T' u u' x (hx : Lb.View w T u x) (hy : Lb.View w T' u' x) => by have := Lb.same_any w1 T T' u u' x x (Rw.View.new hx hu) (Rw.View.new hy hu); rw [decide_eq_true rfl] at this; exact this)
 have HP := Lib.hid (fun w1 (hu : New0 w w1) T T' u u' x (hx : Rw.View Hd.layP w T u x) (hy : Rw.View Hd.layP w T' u' x) => by have := Hd.psame_any w1 T T' u u' x x (Rw.View.new hx hu) (Rw.View.new hy hu); rw [decide_eq_true rfl] at this; exact this)
 have HR := Lib.hid (fun w1 (hu : New0 w w1) T T' u u' r (hx : Rc.RView w T u r) (hy : Rc.RView w T' u' r) (hf : r.smp.length <= 1000000000) => Rc.same_any w1 T T' u u' r (Rc.RView.new hx hu) (Rc.RView.new hy hu) (by omega))
 have hcx := Lib.hid (fun h => BsView.cells hs h)
 have hcy := Lib.hid (fun h => BsView.cells ht h)
 have hdx := Lib.hid (fun (i : Nat) (hi : i < ds.length) => Hd.RsView.at hm hi)
 have hdy := Lib.hid (fun (i : Nat) (hi : i < ds.length) => Hd.RsView.at hn hi)
 replace hsmp := Lib.hid hsmp
 clear h1 h2 hm hn hs ht ux uy sx hX hY hwx hwb
 go_enter Tryz.func9, Tryz.ntmps9
 go_wp2_with fail
 rw [hw.out]
 clear hw
 go_loopw [5] (fun ov wr => ∃ j : Nat, ov = .int .i64 (j : Int) /\ j <= l.length /\ Hid (New0 wb wr)) (fun ov _ => l.length - (intOf ov).toNat)
 case atStart => exact ⟨0, rfl, Nat.zero_le _, Lib.hid (Upon.refl _ _)⟩
 case round =>
  obtain ⟨j, rfl, hj, hu⟩ := hrel
  by_cases hlt : j < l.length
  ·obtain ⟨⟨-, -, k2, -⟩, ⟨-, -, p2, -⟩⟩ := hB.out _ hu.out
   obtain ⟨gx, ox, rfl, -, hcx1⟩ := hcx.out (by omega)
   obtain ⟨gy, oy, rfl, -, hcy1⟩ := hcy.out (by omega)
   obtain ⟨A1, c1, A2, c2, x0, x1, x2, hvx, hqx⟩ := hcx1 j hlt
   obtain ⟨C1, d1, C2, d2, y0, y1, y2, hvy, hqy⟩ := hcy1 j hlt
   replace x0 := Lb.New0.cells (hU.out.trans hu.out) x0
   replace x1 := Lb.New0.cells (hU.out.trans hu.out) x1
   replace x2 := Lb.New0.cells (hU.out.trans hu.out) x2
   replace y0 := Lb.New0.cells (hU.out.trans hu.out) y0
   replace y1 := Lb.New0.cells (hU.out.trans hu.out) y1
   replace y2 := Lb.New0.cells (hU.out.trans hu.out) y2
   have HL1 := Lib.hid (fun w1 (hu : New0 w w1) => HL.out w1 hu _ _ _ _ _ hvx hvy)
   have HP1 := Lib.hid (fun w1 (hu : New0 w w1) => HP.out w1 hu _ _ _ _ _ hqx hqy)
   obtain ⟨r, hr⟩ : ∃ r, l[j] = r := ⟨_, rfl⟩
   rw [hr] at x0 x1 x2 y0 y1 y2 HL1 HP1
   clear hcx1 hcy1 hvx hvy hqx hqy hr hdx hdy HL HP HR
   have k2_1 := fun o => Lb.New0.cells ((Upon.refl (fun _ => False) wr).alloc o) k2
   have k2_2 := fun o o' => Lb.New0.cells (((Upon.refl (fun _ => False) wr).alloc o).alloc o') k2
   have p2_1 := fun o => Lb.New0.cells ((Upon.refl (fun _ => False) wr).alloc o) p2
   have p2_2 := fun o o' => Lb.New0.cells (((Upon.refl (fun _ => False) wr).alloc o).alloc o') p2
   have x0_1 := fun o => Lb.New0.cells ((Upon.refl (fun _ => False) wr).alloc o) x0
   have x0_2 := fun o o' => Lb.New0.cells (((Upon.refl (fun _ => False) wr).alloc o).alloc o') x0
   have x1_1 := fun o => Lb.New0.cells ((Upon.refl (fun _ => False) wr).alloc o) x1
   have x1_2 := fun o o' => Lb.New0.cells (((Upon.refl (fun _ => False) wr).alloc o).alloc o') x1
   have x2_1 := fun o => Lb.New0.cells ((Upon.refl (fun _ => False) wr).alloc o) x2
   have x2_2 := fun o o' => Lb.New0.cells (((Upon.refl (fun _ => False) wr).alloc o).alloc o') x2
   have y0_1 := fun o => Lb.New0.cells ((Upon.refl (fun _ => False) wr).alloc o) y0
   have y0_2 := fun o o' => Lb.New0.cells (((Upon.refl (fun _ => False) wr).alloc o).alloc o') y0
   have y1_1 := fun o => Lb.New0.cells ((Upon.refl (fun _ => False) wr).alloc o) y1
   have y1_2 := fun o o' => Lb.New0.cells (((Upon.refl (fun _ => False) wr).alloc o).alloc o') y1
   have y2_1 := fun o => Lb.New0.cells ((Upon.refl (fun _ => False) wr).alloc o) y2
   have y2_2 := fun o o' => Lb.New0.cells (((Upon.refl (fun _ => False) wr).alloc o).alloc o') y2
   go_wp2_with fail
   go_region
   all_goals
    clear k2 k2_1 k2_2 p2 p2_1 p2_2 x0 x0_1 x0_2 x1 x1_1 x1_2 x2 x2_1 x2_2 y0 y0_1 y0_2 y1 y1_1 y1_2 y2 y2_1 y2_2
    go_wp2_with fail
    refine (HL1.out _ (hU.out.trans (hu.out.trans (by repeat (first | exact Upon.refl _ _ | refine Upon.drew ?_ | refine Upon.alloc ?_ _))))).mono ?_
    rintro e w5 ⟨rfl, n5, rfl⟩
    clear HL1
    go_wp2_with fail
    refine (HP1.out _ (hU.out.trans (hu.out.trans ((((Upon.refl _ wr).alloc _).alloc _).trans (upon_drewN _ _ _))))).mono ?_
    rintro e w6 ⟨rfl, n6, rfl⟩
    clear HP1
    go_wp2_with fail
    go_roundw
    case rel => exact ⟨j + 1, by go_num, hlt, Lib.hid (hu.out.trans ((((Upon.refl _ wr).alloc _).alloc _).trans (upon_drewN _ _ _)))⟩
    case measure => simp [intOf]; omega
  ·obtain ⟨⟨-, -, k2, k3⟩, ⟨-, -, p2, p3⟩⟩ := hB.out _ hu.out
   clear HL HP hcx hcy
   go_wp2_with fail
   clear k2 k3 p2 p3
   go_loopw [8] (fun ov wr => ∃ i : Nat, ov = .int .i64 (i : Int) /\ i <= ds.length /\ Hid (New0 wb wr)) (fun ov _ => ds.length - (intOf ov).toNat)
   case atStart => exact ⟨0, rfl, Nat.zero_le _, hu⟩
   case round =>
    obtain ⟨i, rfl, hi, hu3⟩ := hrel
    obtain ⟨⟨-, -, -, k3⟩, ⟨-, -, -, p3⟩⟩ := hB.out _ hu3.out
    by_cases hil : i < ds.length
    ·obtain ⟨db, doff, B1, e1, B2, e2, rfl, -, x0, x1, x2, x3, x4, hvx, -⟩ := hdx.out i hil
     obtain ⟨db', doff', D1, f1, D2, f2, rfl, -, y0, y1, y2, y3, y4, hvy, -⟩ := hdy.out i hil
     have hall := hU.out.trans hu3.out
     replace x0 := Lb.New0.cells hall x0
     replace x1 := Lb.New0.cells hall x1
     replace x2 := Lb.New0.cells hall x2
     replace x3 := Lb.New0.cells hall x3
     replace x4 := Lb.New0.cells hall x4
     replace y0 := Lb.New0.cells hall y0
     replace y1 := Lb.New0.cells hall y1
     replace y2 := Lb.New0.cells hall y2
     replace y3 := Lb.New0.cells hall y3
     replace y4 := Lb.New0.cells hall y4
     have HR1 := Lib.hid (fun w1 (hu : New0 w w1) => HR.out w1 hu _ _ _ _ _ hvx hvy (hsmp.out _ (List.getElem_mem hil)))
     obtain ⟨r, hr⟩ : ∃ r, ds[i] = r := ⟨_, rfl⟩
     rw [hr] at x0 x1 x2 x3 x4 y0 y1 y2 y3 y4 HR1
     clear hdx hdy hvx hvy hr HR
     go_wp2_with fail
     go_region_with (go_at_call 29; refine (HR1.out _ (hU.out.trans (hu3.out.trans (by repeat (first | exact Upon.refl _ _ | refine Upon.drew ?_))))).mono ?_; rintro e w5 ⟨rfl, n5⟩)
     all_goals
      have hu5 := Lib.hid (hu3.out.trans (Upon.trans (by repeat (first | exact Upon.refl _ _ | refine Upon.drew ?_)) n5))
      clear x0 x1 x2 x3 x4 y0 y1 y2 y3 y4 HR1 n5 k3 p3
      go_wp2_with fail
      go_roundw
      case rel => exact ⟨i + 1, by go_num, hil, hu5⟩
      case measure => simp [intOf]; omega
    ·clear HR hdx hdy
     go_wp2_with fail
     go_ret
     exact ⟨rfl, hU.out.trans hu3.out⟩
end Bk
end
section
open Go.RowKit Go.Sort
namespace Bk
open Bit Dsk Ob Dig
theorem dec_dels {s : List UInt8} {b : B} {x : Nat} (h : Dec s b x) : ∀ r ∈ b.dels, r.smp.length <= 1000000000 := fun r hr => by
 rcases h with ⟨-, h, -⟩ | ⟨-, rfl, -⟩
 ·obtain ⟨g, -, -⟩ := enc_is h
  have hd := g.dels r hr
  rcases Rc.chk_zero.1 hd.2 with hc | hc
  ·exact absurd (hc.kind ▸ hd.1) (by decide)
  ·rw [hc.smp]; exact Nat.zero_le _
 ·cases hr
theorem dec_few {s : List UInt8} {b : B} {x : Nat} (h : Dec s b x) : b.dels.length <= s.length := by
 rcases h with ⟨-, h, -⟩ | ⟨-, rfl, -⟩
 ·obtain ⟨g, -, e⟩ := enc_is h
  have e2 : Frm.allA (allF b) = s := e
  have h1 := allA_len (allF b)
  rw [e2, allF_len] at h1
  omega
 ·exact Nat.zero_le _
set_option maxHeartbeats 12800000 in
theorem reads_true (s : ByteArray) (hs : s.size <= 140737488351232) (W : World) (hT : TabA W) :
  Calls Tryz.prog 3 #[.string s] W fun e W' => e = .returned (.bool true) /\ Below W.heap.size W W' := by
 by_cases hl : s.size <= 5000
 ·have d0 : decide ((5000 : Int) < (s.size : Int)) = false := decide_eq_false (by omega)
  have HP := Lib.hid (pdec_any W s (by omega) hT)
  have HR := Lib.hid (fun w => refdoc w s hl)
  unfold DocE at HP HR
  obtain ⟨sl, hsl⟩ : ∃ sl, s.data.toList = sl := ⟨_, rfl⟩
  simp only [hsl] at HP HR
  have hlz : Hid (sl.length <= 5000) := Lib.hid (by rw [<- hsl, Frm.size_list]; exact hl)
  clear hT hsl
  go_enter Tryz.func3, Tryz.ntmps3
  go_wp2_with fail
  refine HP.out.mono ?_
  rintro e w2 ⟨v1, b, x, rfl, hd, hv, hb, hu2⟩
  have hdl := Lib.hid (dec_dels hd)
  have hd5 : b.dels.length <= 1000000000 := by have := dec_few hd; have := hlz.out; omega
  have hfw := hb.few
  have hfw2 := hb.few2
  obtain ⟨A, c, A', c', rfl, -, -⟩ := BView.shape hv
  have uy := (Upon.refl (fun _ => False) w2).alloc (.cells #[.int .i64 b.first, .int .i64 b.til, .slice A b.rows.length c, .slice A' b.dels.length c'] 25 (0, 0))
  have hY := Lib.hid (box4 w2 b.first b.til (.slice A b.rows.length c) (.slice A' b.dels.length c') 25)
  obtain ⟨wy, hwy⟩ : ∃ wy, w2.alloc (.cells #[.int .i64 b.first, .int .i64 b.til, .slice A b.rows.length c, .slice A' b.dels.length c'] 25 (0, 0)) = wy := ⟨_, rfl⟩
  rw [hwy] at hY uy
  have hvy := Lib.hid (hv.new uy)
  have hny := Lib.hid (hu2.trans uy)
  have HR1 := Lib.hid (HR.out wy)
  replace hd := Lib.hid hd
  replace hb := Lib.hid hb
  replace hwy := Lib.hid hwy
  clear HP HR hv uy hu2
  go_wp2_with fail
  rw [hwy.out]
  refine HR1.out.mono ?_
  rintro e w3 ⟨v2, b2, x2, rfl, hd2, hv2, hb2, hu3⟩
  obtain ⟨rfl, rfl⟩ := Dec.one hd.out hd2
  obtain ⟨C, d, C', d', rfl, -, -⟩ := BView.shape hv2
  have uz := (Upon.refl (fun _ => False) w3).alloc (.cells #[.int .i64 b.first, .int .i64 b.til, .slice C b.rows.length d, .slice C' b.dels.length d'] 31 (0, 0))
  have hZ := Lib.hid (box4 w3 b.first b.til (.slice C b.rows.length d) (.slice C' b.dels.length d') 31)
  obtain ⟨wz, hwz⟩ : ∃ wz, w3.alloc (.cells #[.int .i64 b.first, .int .i64 b.til, .slice C b.rows.length d, .slice C' b.dels.length d'] 31 (0, 0)) = wz := ⟨_, rfl⟩
  rw [hwz] at hZ uz
  have hvz := Lib.hid (hvy.out.new (hu3.trans uz))
  have hv2z := Lib.hid (hv2.new uz)
  have hnz := Lib.hid (hny.out.trans (hu3.trans uz))
  have hYz := Lib.hid (hY.out.new (hu3.trans uz))
  have hkeep := Lib.hid (fun w' (hn : New0 wz w') => And.intro (hYz.out.new hn) (hZ.out.new hn))
  have HF := Lib.hid (fun w' (hn : New0 wz w') => from_any w' _ b ((hvz.out.new hn).mono fun _ _ _ => trivial) hb.out)
  have HS := Lib.hid (fun w' u (hn : New0 wz w') (hv : BView w' (fun _ => True) u b) => same_any w' (fun _ => True) _ u _ b hv (hv2z.out.new hn) (by omega) (by omega) hdl.out)
  have hend := Lib.hid (fun w' (hn : New0 wz w') => belowOf (hnz.out.trans hn))
  have hq1 : ((x : Int) == (x : Int)) = true := by simp
  replace hwz := Lib.hid hwz
  clear HR1 hvy hny hd hb hd2 hv2 hb2 hu3 uz hZ hvz hv2z hnz hYz hwy hY
  go_wp2_with fail
  rw [hwz.out]
  obtain ⟨⟨y0, y1, y2, y3⟩, ⟨z0, z1, z2, z3⟩⟩ := hkeep.out wz (Upon.refl _ _)
  go_region_held3 (fun w' => (w'.cell? ⟨w2.heap.size, 0, none⟩ = some (.int .i64 b.first) /\ w'.cell? ⟨w2.heap.size, 1, none⟩ = some (.int .i64 b.til) /\ w'.cell? ⟨w2.heap.size, 2, none⟩ = some (.slice A b.rows.length c) /\ w'.cell? ⟨w2.heap.size, 3, none⟩ = some (.slice A' b.dels.length c')) /\
    w'.cell? ⟨w3.heap.size, 0, none⟩ = some (.int .i64 b.first) /\ w'.cell? ⟨w3.heap.size, 1, none⟩ = some (.int .i64 b.til) /\ w'.cell? ⟨w3.heap.size, 2, none⟩ = some (.slice C b.rows.length d) /\ w'.cell? ⟨w3.heap.size, 3, none⟩ = some (.slice C' b.dels.length d'))
   ((first | exact (let ⟨⟨a0, a1, a2, a3⟩, ⟨b0, b1, b2, b3⟩⟩ := hkeep.out _ nb; ⟨⟨a0, a1, a2, a3⟩, b0, b1, b2, b3⟩) | exact (let ⟨⟨a0, a1, a2, a3⟩, ⟨b0, b1, b2, b3⟩⟩ := hkeep.out _ na; ⟨⟨a0, a1, a2, a3⟩, b0, b1, b2, b3⟩) | exact (let ⟨⟨a0, a1, a2, a3⟩, ⟨b0, b1, b2, b3⟩⟩ := hkeep.out _ (upon_drewN _ wz 1); ⟨⟨a0, a1, a2, a3⟩, b0, b1, b2, b3⟩)))
   (first
   | (go_at_call 10; refine (HF.out _ (upon_drewN _ wz 1)).mono ?_; rintro e wa ⟨uf, rfl, hvf, ha⟩; have na : New0 wz wa := (upon_drewN _ wz 1).trans ha)
   | (go_at_call 9; refine (HS.out _ uf na hvf).mono ?_; rintro e wb ⟨rfl, hb⟩; have nb : New0 wz wb := na.trans hb)
   | fail)
  all_goals
   go_wp2_with fail
   go_ret
   first
    | exact ⟨rfl, hend.out _ nb⟩
    | exact ⟨Lb.ret_b (by simp), hend.out _ nb⟩
 ·have d0 : decide ((5000 : Int) < (s.size : Int)) = true := decide_eq_true (by omega)
  clear hT
  go_enter Tryz.func3, Tryz.ntmps3
  go_wp2_with fail
  go_ret
  exact ⟨rfl, Below.refl _ _⟩
end Bk
end
end Go.Proofs.YtgmnhodajngchaaGreatDoor
