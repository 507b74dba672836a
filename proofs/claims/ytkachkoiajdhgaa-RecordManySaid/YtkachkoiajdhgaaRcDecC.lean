/- The document's own records (layer 12): Decode, of a commit. -/
import Derived.Test.YtkachkoiajdhgaaRcDec
set_option maxRecDepth 100000
namespace Go.Proofs.Ytkachkoiajdhgaa
open Go.RowKit Go.Sort
namespace Rc
open Bit Dsk Ob Dig Lb
set_option linter.unusedVariables false
set_option linter.unusedSimpArgs false

set_option maxHeartbeats 25600000 in
theorem refdec_com (w : World) (s : ByteArray) (hs : s.size ≤ 140737488355328) {k kk x : Nat} (hg : gotN s.data.toList = (k, kk, x)) (hk : k = 1) :
    Calls Try.prog 18 #[.string s] w fun e w' => DecE w s.data.toList e w' := by
  obtain ⟨wA, hwA⟩ : ∃ wA, w.alloc (.cells #[.int .i64 0, .slice none 0 0, .slice none 0 0, .int .i64 0, .int .i64 0] 25 (0, 0)) = wA := ⟨_, rfl⟩
  have hres : Five 25 w.heap.size zeroV wA := by rw [← hwA]; exact cell_new w _
  have hN0 : New0 w wA := by rw [← hwA]; exact (Upon.refl _ w).alloc _
  have hsz : wA.heap.size = w.heap.size + 1 := by rw [← hwA]; simp
  obtain ⟨wB, hwB⟩ : ∃ wB, wA.alloc (.cells #[.string s, .int .i64 0] 64 (0, 0)) = wB := ⟨_, rfl⟩
  have H0 : Own (InO (w.heap.size + 1) s 0) wA wB := by rw [← hwB, ← hsz]; exact Rw.box2Own (Below.refl _ _) (.string s) (.int .i64 ((0 : Nat) : Int)) _
  have HN := Lib.hid (Mt.ioNum Mt.thingNo (Mt.ownNo (thingIn _ _ _) H0) (by omega) hg)
  have hk64 : k < 18446744073709551616 := by
    have := (gotN_lt s.data.toList).1
    rw [hg] at this
    exact this
  have hx1 := nx_num hg
  have hs1 : (s.extract kk s.size).size ≤ 140737488355328 := Nat.le_trans (ext_size _ _ _) hs
  obtain ⟨s1, hs1_⟩ : ∃ s1, s.extract kk s.size = s1 := ⟨_, rfl⟩
  rw [hs1_] at HN hx1 hs1
  clear hs1_
  obtain ⟨sl, hsl⟩ : ∃ sl, s.data.toList = sl := ⟨_, rfl⟩
  have hrest := Rest.start allR s
  rw [hsl] at hrest ⊢
  have hR : ∀ (s1 : ByteArray) (e1 k : Nat), Nx numR s 0 k s1 e1 → Rest (bnd (mustR (decide (k = 1) || decide (k = 2)) 5) fun _ => if k = 1 then comR else delR) s1 e1 (allR sl) := fun s1 e1 k hx => Rest.step (f := fun k => bnd (mustR (decide (k = 1) || decide (k = 2)) 5) fun _ => if k = 1 then comR else delR) hrest hx
  have hw : Hid ((w.alloc (.cells #[.int .i64 0, .slice none 0 0, .slice none 0 0, .int .i64 0, .int .i64 0] 25 (0, 0))).alloc (.cells #[.string s, .int .i64 0] 64 (0, 0)) = wB) := Lib.hid (by rw [hwA, hwB])
  replace hR := Lib.hid hR
  replace hres := Lib.hid hres
  replace hN0 := Lib.hid hN0
  clear hwA hwB H0 hsl hrest hsz hg
  go_enter Try.func18, Try.ntmps18
  go_wp2_with fail
  rw [hw.out]
  refine HN.out.mono ?_
  rintro e w2 ⟨rfl, h2⟩
  have hr1 := Lib.hid (hR.out _ _ _ hx1)
  replace h2 := Lib.hid h2
  clear HN hw hR hx1
  subst hk
  have hr2 := hr1.out
  rw [show (decide ((1 : Nat) = 1) || decide ((1 : Nat) = 2)) = true from rfl] at hr2
  have HM := Lib.hid (rMust Mt.thingNo h2.out true 5 (by decide))
  replace hr2 := Lib.hid hr2
  clear hr1 h2
  go_wp2_with fail
  refine HM.out.mono ?_
  rintro e w3 ⟨e2, rfl, hx2, h3⟩
  have hr3 := Lib.hid (by have h := Rest.step (f := fun _ => if (1 : Nat) = 1 then comR else delR) hr2.out hx2; rw [if_pos rfl, comR_is] at h; exact h)
  have h4 := Lib.hid (Own.mono (Own.assoc (boxMade (Tens.ob (thingIn _ _ _) Mt.thingNo) h3 ⟨.int .i64 1, .slice none 0 0, .slice none 0 0, .int .i64 0, .int .i64 0⟩)) fun S h => Tens.mapR (fun A h => noBox h) h)
  have h5 := Lib.hid (labsNone (Tens.ob (Tens.ob (thingIn _ _ _) (thingBox _ _)) (Rw.thingRow _ _ _ _)) (Rw.rowNone layS 43 (Tens.ob (thingIn _ _ _) (thingBox _ _)) h4.out)).assoc.assoc
  have hJ := Lib.hid (fun gr v u rs l => Tens.ob (thingBox gr v) (Tens.ob (Rw.thingRow layS 43 u rs) (thingLabs rs l)))
  clear HM hr2 hx2 h3 h4
  have HN2 := Lib.hid (rNum (hJ.out _ _ _ _ _) h5.out hs1)
  clear h5
  go_wp2_with fail
  refine HN2.out.mono ?_
  rintro e w4 ⟨n, s4, e4, rfl, hn64, hs4, hx4, h4⟩
  have hr4 := Lib.hid (Rest.step (x := numR) (f := fun n => bnd (mustR (decide (1 ≤ n) && decide (n ≤ 32)) 2) fun _ => manyK comF n []) hr3.out hx4)
  replace h4 := Lib.hid h4
  clear HN2 hr3 hx4
  by_cases hn1 : 1 ≤ n
  · by_cases hn32 : n ≤ 32
    · have d1 : decide (1 ≤ (n : Int)) = true := decide_eq_true (by omega)
      have d1' : (1 : Int) ≤ (n : Int) := by omega
      have d2 : decide ((n : Int) ≤ 32) = true := decide_eq_true (by omega)
      have d2' : decide (n ≤ 32) = true := decide_eq_true hn32
      have d2'' : (n : Int) ≤ 32 := by omega
      have hb : (decide (1 ≤ n) && decide (n ≤ 32)) = true := by rw [decide_eq_true hn1, decide_eq_true hn32]; rfl
      have hr5 := hr4.out
      simp only [hb] at hr5
      have HM2 := Lib.hid (rMust (hJ.out _ _ _ _ _) h4.out true 2 (by decide))
      replace hr5 := Lib.hid hr5
      clear hr4 h4 hb
      go_wp2_with fail
      refine HM2.out.mono ?_
      rintro e w5 ⟨e5, rfl, hx5, h5⟩
      have hr6 := Lib.hid (Rest.step (f := fun _ => manyK comF n []) hr5.out hx5)
      replace h5 := Lib.hid h5
      clear HM2 hr5 hx5 d1 d1' d2 d2' d2''
      generalize hK : allR sl = K at *
      go_wp2_with fail
      go_loopw [8] (fun ov wr => ∃ (j e : Nat) (sx : ByteArray) (l : List Smp) (u : Value) (rs : List RS), ov = .int .u64 (j : Int) ∧ j ≤ n ∧ sx.size ≤ 140737488355328 ∧ Hid (l.length = j) ∧ Hid (∀ x ∈ l, BndS x) ∧ Hid (Rest (manyK comF (n - j) l) sx e K) ∧
        Hid (Own (Tens (InO (w.heap.size + 1) sx e) (Tens (BoxO w3.heap.size ⟨.int .i64 1, u, .slice none 0 0, .int .i64 0, .int .i64 0⟩) (Tens (Rw.RowO layS 43 u rs) (LabsO rs l)))) wA wr)) (fun ov _ => n - (intOf ov).toNat)
      case atStart => exact ⟨0, e5, s4, [], _, [], rfl, Nat.zero_le _, hs4, Lib.hid rfl, Lib.hid (fun x hx => by cases hx), hr6, h5⟩
      case round =>
        clear hr6 h5
        obtain ⟨j, e, sx, l, u, rs, rfl, hj, hsx, hlj, hbs, hr, ho⟩ := hrel
        obtain ⟨c0, c1, f0, f1⟩ := Mt.ioBox ho.out
        by_cases he : e = 0
        · subst he
          by_cases hlt : j < n
          · have HT := Lib.hid (rTxt (hJ.out _ _ _ _ _) ho.out hsx 1024 (by decide))
            replace hr : Hid (Rest (bnd (txtR 1024) fun t => bnd (labR t) fun ls => bnd sgnR fun a => bnd numR fun b => manyK comF (n - (j + 1)) (l ++ [(ls, a, b)])) sx 0 K) := Lib.hid (by
              have h := hr.out
              rw [show n - j = n - (j + 1) + 1 by omega, manyK] at h
              exact h)
            clear ho
            go_wp2_with fail
            refine HT.out.mono ?_
            rintro e w6 ⟨t, s6, e6, rfl, hts, hs6, hx6, h6⟩
            have hr6 := Lib.hid (Rest.step (f := fun t => bnd (labR t) fun ls => bnd sgnR fun a => bnd numR fun b => manyK comF (n - (j + 1)) (l ++ [(ls, a, b)])) hr.out hx6)
            clear HT hr hx6 c0 c1 f0 f1 hsx
            obtain ⟨c0, c1, f0, f1⟩ := Mt.ioBox h6
            replace h6 := Lib.hid h6
            by_cases he6 : e6 = 0
            · subst he6
              obtain ⟨⟨ls, e7⟩, hde⟩ : ∃ x, Lb.dec t.data.toList = x := ⟨_, rfl⟩
              have HD := Lib.hid (Lb.refdec_new w6 t hts)
              have hnl := nx_lab t s6
              rw [hde] at HD hnl
              simp only at HD hnl
              have hlb := Lib.hid (dec_bnd hde)
              have hr7 := Lib.hid (Rest.step (f := fun ls => bnd sgnR fun a => bnd numR fun b => manyK comF (n - (j + 1)) (l ++ [(ls, a, b)])) hr6.out hnl)
              clear hde hnl hr6
              go_wp2_with fail
              refine HD.out.mono ?_
              rintro e w7 ⟨v, rfl, hv, hu⟩
              obtain ⟨A7, c7, rfl, -, -⟩ := Rw.View.shape hv
              have h7 := labIn (labMade (Tens.ob (thingIn _ _ _) (hJ.out _ _ _ _ _)) h6.out (s := ⟨A7, ls.length, c7⟩) hv hu)
              clear HD hv hu h6 c0 c1 f0 f1
              obtain ⟨c0, c1, f0, f1⟩ := Mt.ioBox h7
              have hJ2 := Lib.hid (fun gr v u rs l s ls => Tens.ob (thingBox gr v) (Tens.ob (Tens.ob (Rw.thingRow layS 43 u rs) (thingLabs rs l)) (thingLab s ls)))
              have h8 := Mt.ioSet (hJ2.out _ _ _ _ _ _ _) h7 e7
              have HS := Lib.hid (rSgn (hJ2.out _ _ _ _ _ _ _) h8 hs6)
              clear h7 h8
              go_wp2_with fail
              refine HS.out.mono ?_
              rintro e w9 ⟨a, s9, e9, rfl, hab, hs9, hx9, h9⟩
              have hr9 := Lib.hid (Rest.step (f := fun a => bnd numR fun b => manyK comF (n - (j + 1)) (l ++ [(ls, a, b)])) hr7.out hx9)
              have HN3 := Lib.hid (rNum (hJ2.out _ _ _ _ _ _ _) h9 hs9)
              clear HS hr7 hx9 h9
              go_wp2_with fail
              refine HN3.out.mono ?_
              rintro e w10 ⟨b, s10, e10, rfl, hb64, hs10, hx10, h10⟩
              have hr10 := Lib.hid (Rest.step (f := fun b => manyK comF (n - (j + 1)) (l ++ [(ls, a, b)])) hr9.out hx10)
              clear HN3 hr9 hx10 c0 c1 f0 f1
              have hll : l.length ≤ 32 := by have := hlj.out; omega
              obtain ⟨k0, k1, k2, k3, k4⟩ := (seeBox h10).cells
              have hMi := Lib.hid (Rw.Mine.new (rowMine h10) ((Upon.refl _ w10).alloc (.cells #[(⟨A7, ls.length, c7⟩ : Rw.Sl).v, .int .i64 a, .int .u64 (b : Int)] 43 (0, 0))))
              have hXi := Lib.hid (view_smp w10 (⟨A7, ls.length, c7⟩ : Rw.Sl) a b)
              have hPe := Lib.hid (permOut (Own.upon0 (Tens.ob (thingIn _ _ _) (hJ2.out _ _ _ _ _ _ _)) h10 ((Upon.refl _ w10).alloc (.cells #[(⟨A7, ls.length, c7⟩ : Rw.Sl).v, .int .i64 a, .int .u64 (b : Int)] 43 (0, 0)))))
              obtain ⟨A10, c10, hu10, -, -⟩ := Rw.View.shape (rowMine h10).view
              have hrl : rs.length ≤ 32 := by
                obtain ⟨S10, hS10⟩ := h10.dropl.dropl.dropr.seeR
                have := hS10.1
                omega
              subst hu10
              clear h10
              go_wp2_with (at_builtin; refine Rw.wpList_append typS rfl _ _ rfl _ _ rs [((⟨A7, ls.length, c7⟩ : Rw.Sl), a, b)] Rw.All rfl rfl hMi.out hXi.out (by rw [List.length_singleton]; omega) (by rw [List.length_singleton]; omega) ?_)
              intro v' w11 hown hgr hbl
              have h11 := Rw.rowAppend (Tens.ob (thingIn _ _ _) (Tens.ob (thingBox _ _) (Tens.ob (thingLabs _ _) (thingLab _ _)))) hPe.out hown hgr (hbl.imp id fun h => h.trans (by simp))
              have h12 := permIn h11 (fun w S h => labs_add (t := a) (u := b) h)
              have hF12 := seeBox h12
              obtain ⟨m0, m1, m2, m3, m4⟩ := hF12.cells
              have m1f := hF12.frozen 1
              have h13 := Lib.hid (boxSet (thingIn _ _ _) (Tens.ob (Rw.thingRow _ _ _ _) (thingLabs _ _)) h12 (hF12.set1 v'))
              obtain ⟨A11, c11, hu11, -, -⟩ := Rw.View.shape (show Rw.Mine layS 43 w11 v' _ from hown).view
              subst hu11
              rw [show (rs ++ [((⟨A7, ls.length, c7⟩ : Rw.Sl), a, b)]).length = rs.length + 1 by rw [List.length_append]; rfl] at h13
              clear hMi hXi hPe hown hgr hbl h11 h12 hF12 k0 k1 k2 k3 k4
              have hlj' : Hid ((l ++ [(ls, a, b)]).length = j + 1) := Lib.hid (by rw [List.length_append, hlj.out]; rfl)
              have hbs' : Hid (∀ x ∈ l ++ [(ls, a, b)], BndS x) := Lib.hid (bnds_snoc hbs.out ⟨hlb.out.1, hlb.out.2, hab.1, hab.2, hb64⟩)
              clear hbs hlj hlb
              go_wp2_with fail
              go_roundw
              case rel => exact ⟨j + 1, e10, s10, _, _, _, by go_num, hlt, hs10, hlj', hbs', hr10, h13⟩
              case measure => simp [intOf]; omega
            · have hr7 := Lib.hid (Rest.step (f := fun ls => bnd sgnR fun a => bnd numR fun b => manyK comF (n - (j + 1)) (l ++ [(ls, a, b)])) hr6.out (nx_err (labR t) s6 he6 [] s6))
              have h7 := labIn (labMade (Tens.ob (thingIn _ _ _) (hJ.out _ _ _ _ _)) h6.out (s := ⟨none, 0, 0⟩) (l := []) (Rw.View.noth _ _ _) (Upon.refl _ w6))
              have hlb : Hid (Lb.Sml ([] : List Pr) ∧ ([] : List Pr).length * 32 ≤ 140737488351232) := Lib.hid ⟨fun p hp => (by cases hp), by simp⟩
              have hJ2 := Lib.hid (fun gr v u rs l s ls => Tens.ob (thingBox gr v) (Tens.ob (Tens.ob (Rw.thingRow layS 43 u rs) (thingLabs rs l)) (thingLab s ls)))
              have d6 : ((e6 : Int) == 0) = false := by rw [beq_eq_false_iff_ne]; omega
              have HS := Lib.hid (rSgn (hJ2.out _ _ _ _ _ _ _) h7 hs6)
              clear h7 h6 hr6 he6
              go_wp2_with fail
              refine HS.out.mono ?_
              rintro e w9 ⟨a, s9, e9, rfl, hab, hs9, hx9, h9⟩
              have hr9 := Lib.hid (Rest.step (f := fun a => bnd numR fun b => manyK comF (n - (j + 1)) (l ++ [(([] : List Pr), a, b)])) hr7.out hx9)
              have HN3 := Lib.hid (rNum (hJ2.out _ _ _ _ _ _ _) h9 hs9)
              clear HS hr7 hx9 h9
              go_wp2_with fail
              refine HN3.out.mono ?_
              rintro e w10 ⟨b, s10, e10, rfl, hb64, hs10, hx10, h10⟩
              have hr10 := Lib.hid (Rest.step (f := fun b => manyK comF (n - (j + 1)) (l ++ [(([] : List Pr), a, b)])) hr9.out hx10)
              clear HN3 hr9 hx10 c0 c1 f0 f1
              have hll : l.length ≤ 32 := by have := hlj.out; omega
              obtain ⟨k0, k1, k2, k3, k4⟩ := (seeBox h10).cells
              have hMi := Lib.hid (Rw.Mine.new (rowMine h10) ((Upon.refl _ w10).alloc (.cells #[(⟨none, 0, 0⟩ : Rw.Sl).v, .int .i64 a, .int .u64 (b : Int)] 43 (0, 0))))
              have hXi := Lib.hid (view_smp w10 (⟨none, 0, 0⟩ : Rw.Sl) a b)
              have hPe := Lib.hid (permOut (Own.upon0 (Tens.ob (thingIn _ _ _) (hJ2.out _ _ _ _ _ _ _)) h10 ((Upon.refl _ w10).alloc (.cells #[(⟨none, 0, 0⟩ : Rw.Sl).v, .int .i64 a, .int .u64 (b : Int)] 43 (0, 0)))))
              obtain ⟨A10, c10, hu10, -, -⟩ := Rw.View.shape (rowMine h10).view
              have hrl : rs.length ≤ 32 := by
                obtain ⟨S10, hS10⟩ := h10.dropl.dropl.dropr.seeR
                have := hS10.1
                omega
              subst hu10
              clear h10
              go_wp2_with (at_builtin; refine Rw.wpList_append typS rfl _ _ rfl _ _ rs [((⟨none, 0, 0⟩ : Rw.Sl), a, b)] Rw.All rfl rfl hMi.out hXi.out (by rw [List.length_singleton]; omega) (by rw [List.length_singleton]; omega) ?_)
              intro v' w11 hown hgr hbl
              have h11 := Rw.rowAppend (Tens.ob (thingIn _ _ _) (Tens.ob (thingBox _ _) (Tens.ob (thingLabs _ _) (thingLab _ _)))) hPe.out hown hgr (hbl.imp id fun h => h.trans (by simp))
              have h12 := permIn h11 (fun w S h => labs_add (t := a) (u := b) h)
              have hF12 := seeBox h12
              obtain ⟨m0, m1, m2, m3, m4⟩ := hF12.cells
              have m1f := hF12.frozen 1
              have h13 := Lib.hid (boxSet (thingIn _ _ _) (Tens.ob (Rw.thingRow _ _ _ _) (thingLabs _ _)) h12 (hF12.set1 v'))
              obtain ⟨A11, c11, hu11, -, -⟩ := Rw.View.shape (show Rw.Mine layS 43 w11 v' _ from hown).view
              subst hu11
              rw [show (rs ++ [((⟨none, 0, 0⟩ : Rw.Sl), a, b)]).length = rs.length + 1 by rw [List.length_append]; rfl] at h13
              clear hMi hXi hPe hown hgr hbl h11 h12 hF12 k0 k1 k2 k3 k4
              have hlj' : Hid ((l ++ [(([] : List Pr), a, b)]).length = j + 1) := Lib.hid (by rw [List.length_append, hlj.out]; rfl)
              have hbs' : Hid (∀ x ∈ l ++ [(([] : List Pr), a, b)], BndS x) := Lib.hid (bnds_snoc hbs.out ⟨hlb.out.1, hlb.out.2, hab.1, hab.2, hb64⟩)
              clear hbs hlj hlb
              go_wp2_with fail
              go_roundw
              case rel => exact ⟨j + 1, e10, s10, _, _, _, by go_num, hlt, hs10, hlj', hbs', hr10, h13⟩
              case measure => simp [intOf]; omega
          · have hr2 := hr.out
            rw [show n - j = 0 by omega, manyK] at hr2
            have hKr := Lib.hid (hK.trans ((Rest.ret hr2).1 rfl))
            have hbnd : Hid (Bnd (R.mk 1 l [] 0 0)) := Lib.hid ⟨⟨(show (-9223372036854775808 : Int) ≤ 1 by decide), (show (1 : Int) ≤ 9223372036854775807 by decide)⟩, hbs.out, fun m hm => (by cases hm), ⟨(show (-9223372036854775808 : Int) ≤ 0 by decide), (show (0 : Int) ≤ 9223372036854775807 by decide)⟩, ⟨(show (-9223372036854775808 : Int) ≤ 0 by decide), (show (0 : Int) ≤ 9223372036854775807 by decide)⟩⟩
            obtain ⟨Su, hSu⟩ := ho.out.dropl.dropl.seeL
            obtain ⟨Au, cu, hu_, -, -⟩ := Rw.View.shape (Rw.Mine.view hSu.1)
            subst hu_
            clear hr hr2 hbs hSu c0 c1 f0 f1
            obtain ⟨c0, c1, f0, f1⟩ := Mt.ioBox ho.out
            cases hb6 : sx.toList.isEmpty with
            | false =>
              have HMz := Lib.hid (by have := Mt.ioMust (hJ.out _ _ _ _ _) ho.out false 6; rw [show mustE false 0 6 = 6 from rfl] at this; exact this)
              have hD : Hid (dec sl = (zero, 6)) := Lib.hid (dec_more hKr.out (fun e => by rw [ByteArray.toList_eq, e] at hb6; cases hb6))
              clear hKr hbnd
              go_wp2_with fail
              refine HMz.out.mono ?_
              rintro e w18 ⟨rfl, h18⟩
              clear HMz c0 c1 f0 f1 ho
              obtain ⟨c0, c1, f0, f1⟩ := Mt.ioBox h18
              have hF := five_keep hres.out h18
              obtain ⟨g0, g1, g2, g3, g4⟩ := hF.cells
              have z0 := hF.frozen 0
              obtain ⟨⟨p1, q1⟩, ⟨p2, q2⟩, ⟨p3, q3⟩, ⟨p4, q4⟩⟩ := hF.roads zeroV
              have hN := Lib.hid (hN0.out.trans (newOf h18.bel))
              go_wp2_with fail
              obtain ⟨wz, hwz⟩ : ∃ wz, setFive w.heap.size zeroV w18 = wz := ⟨_, rfl⟩
              have hFz := (hF.setAll zeroV).cells
              rw [hwz] at hFz
              replace hFz := Lib.hid hFz
              have hNz : Hid (New0 w wz) := Lib.hid (by rw [← hwz]; exact upon_setFive hN.out (.inr (Nat.le_refl _)))
              have hwz' : Hid ((((((w18.setCell ⟨w.heap.size, 0, none⟩ (.int .i64 0)).setCell ⟨w.heap.size, 1, none⟩ (.slice none 0 0)).setCell ⟨w.heap.size, 2, none⟩ (.slice none 0 0)).setCell ⟨w.heap.size, 3, none⟩ (.int .i64 0)).setCell ⟨w.heap.size, 4, none⟩ (.int .i64 0)) = wz) := Lib.hid hwz
              clear hwz
              go_region
              all_goals
                clear c0 c1 f0 f1 g0 g1 g2 g3 g4 z0 p1 q1 p2 q2 p3 q3 p4 q4
                rw [hwz'.out]
                go_wp2_with fail
                obtain ⟨r0, r1, r2, r3, r4⟩ := hFz.out
                refine bodyPost_ret (v := .tuple #[.agg #[.int .i64 0, .slice none 0 0, .slice none 0 0, .int .i64 0, .int .i64 0], .int .i64 (6 : Int)]) (by simp [results, Try.results18, go_sem, r0, r1, r2, r3, r4]) rfl ?_
                exact DecE.no hD.out (hNz.out.trans (upon_drewN _ _ 1))
            | true =>
              have HMz := Lib.hid (by have := Mt.ioMust (hJ.out _ _ _ _ _) ho.out true 6; rw [show mustE true 0 6 = 0 from rfl] at this; exact this)
              have hKe : Hid (allR sl = .ok ((R.mk 1 l [] 0 0), [])) := Lib.hid (by rw [hKr.out]; rw [ByteArray.toList_eq, List.isEmpty_iff] at hb6; rw [hb6])
              clear hKr
              go_wp2_with fail
              refine HMz.out.mono ?_
              rintro e w18 ⟨rfl, h18⟩
              clear HMz c0 c1 f0 f1 ho
              obtain ⟨c0, c1, f0, f1⟩ := Mt.ioBox h18
              obtain ⟨k0, k1, k2, k3, k4⟩ := (seeBox h18).cells
              have hrv : Hid (RView w18 (Nw wA) (.agg #[.int .i64 1, .slice Au rs.length cu, .slice none 0 0, .int .i64 0, .int .i64 0]) (R.mk 1 l [] 0 0)) := Lib.hid (⟨⟨Au, rs.length, cu⟩, ⟨none, 0, 0⟩, rfl, sview_own h18, Rw.View.noth _ _ _⟩)
              obtain ⟨z, hz⟩ : ∃ z, chk (R.mk 1 l [] 0 0) = z := ⟨_, rfl⟩
              have HC := Lib.hid (refcheck_is w18 _ _ _ hrv.out hbnd.out hz)
              replace h18 := Lib.hid h18
              replace hz := Lib.hid hz
              go_wp2_with fail
              refine HC.out.mono ?_
              rintro e w19 ⟨rfl, hu19⟩
              have h19 := Own.upon0 (Tens.ob (thingIn _ _ _) (hJ.out _ _ _ _ _)) h18.out hu19
              have hrv9 := Lib.hid (hrv.out.new hu19)
              clear HC c0 c1 f0 f1 k0 k1 k2 k3 k4 h18 hrv hu19
              obtain ⟨c0, c1, f0, f1⟩ := Mt.ioBox h19
              have h20 := Mt.ioSet (hJ.out _ _ _ _ _) h19 z
              by_cases hz0 : z = 0
              · subst hz0
                have hD := Lib.hid (dec_ok hKe.out hz.out)
                replace h20 : Own _ wA (w19.setCell ⟨w.heap.size + 1, 1, none⟩ (.int .i64 0)) := h20
                have hrv20 : RView (w19.setCell ⟨w.heap.size + 1, 1, none⟩ (.int .i64 0)) (Nw wA) (.agg #[.int .i64 1, .slice Au rs.length cu, .slice none 0 0, .int .i64 0, .int .i64 0]) (R.mk 1 l [] 0 0) := ⟨⟨Au, rs.length, cu⟩, ⟨none, 0, 0⟩, rfl, sview_own h20, Rw.View.noth _ _ _⟩
                obtain ⟨b0, b1, b2, b3⟩ := Mt.ioBox h20
                obtain ⟨k0, k1, k2, k3, k4⟩ := (seeBox h20).cells
                have hF := five_keep hres.out h20
                obtain ⟨g0, g1, g2, g3, g4⟩ := hF.cells
                have z0 := hF.frozen 0
                obtain ⟨⟨p1, q1⟩, ⟨p2, q2⟩, ⟨p3, q3⟩, ⟨p4, q4⟩⟩ := hF.roads ⟨.int .i64 1, .slice Au rs.length cu, .slice none 0 0, .int .i64 0, .int .i64 0⟩
                have hN := hN0.out.trans (newOf h20.bel)
                obtain ⟨wz, hwz⟩ : ∃ wz, setFive w.heap.size ⟨.int .i64 1, .slice Au rs.length cu, .slice none 0 0, .int .i64 0, .int .i64 0⟩ (w19.setCell ⟨w.heap.size + 1, 1, none⟩ (.int .i64 0)) = wz := ⟨_, rfl⟩
                have hFz := (hF.setAll ⟨.int .i64 1, .slice Au rs.length cu, .slice none 0 0, .int .i64 0, .int .i64 0⟩).cells
                rw [hwz] at hFz
                replace hFz := Lib.hid hFz
                have hNz : Hid (New0 w wz) := Lib.hid (by rw [← hwz]; exact upon_setFive hN (.inr (Nat.le_refl _)))
                have hlt0 := (Array.getElem?_eq_some_iff.1 hres.out).1
                have hVz : Hid (RView wz All (.agg #[.int .i64 1, .slice Au rs.length cu, .slice none 0 0, .int .i64 0, .int .i64 0]) (R.mk 1 l [] 0 0)) := Lib.hid (by
                  rw [← hwz]
                  exact (hrv20.upon (upon_setFive (S := fun b => b = w.heap.size) (Upon.refl _ _) (.inl rfl)) (fun b hb e => by unfold Nw at hb; omega)).all)
                have hwz' : Hid (((((((w19.setCell ⟨w.heap.size + 1, 1, none⟩ (.int .i64 0)).setCell ⟨w.heap.size, 0, none⟩ (.int .i64 1)).setCell ⟨w.heap.size, 1, none⟩ (.slice Au rs.length cu)).setCell ⟨w.heap.size, 2, none⟩ (.slice none 0 0)).setCell ⟨w.heap.size, 3, none⟩ (.int .i64 0)).setCell ⟨w.heap.size, 4, none⟩ (.int .i64 0)) = wz) := Lib.hid hwz
                have hrng : Hid (Rng (R.mk 1 l [] 0 0)) := Lib.hid ⟨fun x hx => rngS_of (hbnd.out.smp x hx), hbnd.out.frm, hbnd.out.til⟩
                clear hwz hF hN hlt0 hrv20 h20 hKe hz h19 hrv9 hbnd
                go_wp2_with fail
                rw [hwz'.out]
                obtain ⟨r0, r1, r2, r3, r4⟩ := hFz.out
                clear p1 q1 p2 q2 p3 q3 p4 q4 g0 g1 g2 g3 g4 k0 k1 k2 k3 k4 b0 b1 b2 b3 c0 c1 f0 f1 z0
                refine bodyPost_ret (v := .tuple #[.agg #[.int .i64 1, .slice Au rs.length cu, .slice none 0 0, .int .i64 0, .int .i64 0], .int .i64 0]) (by simp [results, Try.results18, go_sem, r0, r1, r2, r3, r4]) rfl ?_
                exact DecE.yes hD.out hVz.out hrng.out hNz.out
              · have hD := Lib.hid (by have := dec_chk hKe.out (by rw [hz.out]; exact hz0); rw [hz.out] at this; exact this)
                have dx : ((z : Int) == 0) = false := by rw [beq_eq_false_iff_ne]; omega
                have dx' : ((z : Int) != 0) = true := by rw [bne_iff_ne]; omega
                clear hKe hz h19 hz0 hrv9 hbnd
                obtain ⟨c0, c1, f0, f1⟩ := Mt.ioBox h20
                have hF := five_keep hres.out h20
                obtain ⟨g0, g1, g2, g3, g4⟩ := hF.cells
                have z0 := hF.frozen 0
                obtain ⟨⟨p1, q1⟩, ⟨p2, q2⟩, ⟨p3, q3⟩, ⟨p4, q4⟩⟩ := hF.roads zeroV
                have hN := Lib.hid (hN0.out.trans (newOf h20.bel))
                go_wp2_with fail
                obtain ⟨wz, hwz⟩ : ∃ wz, setFive w.heap.size zeroV (w19.setCell ⟨w.heap.size + 1, 1, none⟩ (.int .i64 (z : Int))) = wz := ⟨_, rfl⟩
                have hFz := (hF.setAll zeroV).cells
                rw [hwz] at hFz
                replace hFz := Lib.hid hFz
                have hNz : Hid (New0 w wz) := Lib.hid (by rw [← hwz]; exact upon_setFive hN.out (.inr (Nat.le_refl _)))
                have hwz' : Hid (((((((w19.setCell ⟨w.heap.size + 1, 1, none⟩ (.int .i64 (z : Int))).setCell ⟨w.heap.size, 0, none⟩ (.int .i64 0)).setCell ⟨w.heap.size, 1, none⟩ (.slice none 0 0)).setCell ⟨w.heap.size, 2, none⟩ (.slice none 0 0)).setCell ⟨w.heap.size, 3, none⟩ (.int .i64 0)).setCell ⟨w.heap.size, 4, none⟩ (.int .i64 0)) = wz) := Lib.hid hwz
                clear hwz
                go_region
                all_goals
                  clear c0 c1 f0 f1 g0 g1 g2 g3 g4 z0 p1 q1 p2 q2 p3 q3 p4 q4
                  rw [hwz'.out]
                  go_wp2_with fail
                  obtain ⟨r0, r1, r2, r3, r4⟩ := hFz.out
                  refine bodyPost_ret (v := .tuple #[.agg #[.int .i64 0, .slice none 0 0, .slice none 0 0, .int .i64 0, .int .i64 0], .int .i64 (z : Int)]) (by simp [results, Try.results18, go_sem, r0, r1, r2, r3, r4]) rfl ?_
                  exact DecE.no hD.out (hNz.out.trans (upon_drewN _ _ 1))
        · have hD := Lib.hid (dec_err (hK.trans (hr.out.2 he)))
          have dx : ((e : Int) == 0) = false := by rw [beq_eq_false_iff_ne]; omega
          have dx' : ((e : Int) != 0) = true := by rw [bne_iff_ne]; omega
          clear c0 c1 f0 f1 hr
          by_cases hlt : j < n
          · skip
            obtain ⟨c0, c1, f0, f1⟩ := Mt.ioBox ho.out
            have HMz := Lib.hid (by have := Mt.ioMust (hJ.out _ _ _ _ _) ho.out sx.toList.isEmpty 6; rw [mustE_err he] at this; exact this)
            go_wp2_with fail
            refine HMz.out.mono ?_
            rintro e w18 ⟨rfl, h18⟩
            clear HMz c0 c1 f0 f1 ho
            obtain ⟨c0, c1, f0, f1⟩ := Mt.ioBox h18
            have hF := five_keep hres.out h18
            obtain ⟨g0, g1, g2, g3, g4⟩ := hF.cells
            have z0 := hF.frozen 0
            obtain ⟨⟨p1, q1⟩, ⟨p2, q2⟩, ⟨p3, q3⟩, ⟨p4, q4⟩⟩ := hF.roads zeroV
            have hN := Lib.hid (hN0.out.trans (newOf h18.bel))
            go_wp2_with fail
            obtain ⟨wz, hwz⟩ : ∃ wz, setFive w.heap.size zeroV w18 = wz := ⟨_, rfl⟩
            have hFz := (hF.setAll zeroV).cells
            rw [hwz] at hFz
            replace hFz := Lib.hid hFz
            have hNz : Hid (New0 w wz) := Lib.hid (by rw [← hwz]; exact upon_setFive hN.out (.inr (Nat.le_refl _)))
            have hwz' : Hid ((((((w18.setCell ⟨w.heap.size, 0, none⟩ (.int .i64 0)).setCell ⟨w.heap.size, 1, none⟩ (.slice none 0 0)).setCell ⟨w.heap.size, 2, none⟩ (.slice none 0 0)).setCell ⟨w.heap.size, 3, none⟩ (.int .i64 0)).setCell ⟨w.heap.size, 4, none⟩ (.int .i64 0)) = wz) := Lib.hid hwz
            clear hwz
            go_region
            all_goals
              clear c0 c1 f0 f1 g0 g1 g2 g3 g4 z0 p1 q1 p2 q2 p3 q3 p4 q4
              rw [hwz'.out]
              go_wp2_with fail
              obtain ⟨r0, r1, r2, r3, r4⟩ := hFz.out
              refine bodyPost_ret (v := .tuple #[.agg #[.int .i64 0, .slice none 0 0, .slice none 0 0, .int .i64 0, .int .i64 0], .int .i64 (e : Int)]) (by simp [results, Try.results18, go_sem, r0, r1, r2, r3, r4]) rfl ?_
              exact DecE.no hD.out (hNz.out.trans (upon_drewN _ _ 1))
          · skip
            obtain ⟨c0, c1, f0, f1⟩ := Mt.ioBox ho.out
            have HMz := Lib.hid (by have := Mt.ioMust (hJ.out _ _ _ _ _) ho.out sx.toList.isEmpty 6; rw [mustE_err he] at this; exact this)
            go_wp2_with fail
            refine HMz.out.mono ?_
            rintro e w18 ⟨rfl, h18⟩
            clear HMz c0 c1 f0 f1 ho
            obtain ⟨c0, c1, f0, f1⟩ := Mt.ioBox h18
            have hF := five_keep hres.out h18
            obtain ⟨g0, g1, g2, g3, g4⟩ := hF.cells
            have z0 := hF.frozen 0
            obtain ⟨⟨p1, q1⟩, ⟨p2, q2⟩, ⟨p3, q3⟩, ⟨p4, q4⟩⟩ := hF.roads zeroV
            have hN := Lib.hid (hN0.out.trans (newOf h18.bel))
            go_wp2_with fail
            obtain ⟨wz, hwz⟩ : ∃ wz, setFive w.heap.size zeroV w18 = wz := ⟨_, rfl⟩
            have hFz := (hF.setAll zeroV).cells
            rw [hwz] at hFz
            replace hFz := Lib.hid hFz
            have hNz : Hid (New0 w wz) := Lib.hid (by rw [← hwz]; exact upon_setFive hN.out (.inr (Nat.le_refl _)))
            have hwz' : Hid ((((((w18.setCell ⟨w.heap.size, 0, none⟩ (.int .i64 0)).setCell ⟨w.heap.size, 1, none⟩ (.slice none 0 0)).setCell ⟨w.heap.size, 2, none⟩ (.slice none 0 0)).setCell ⟨w.heap.size, 3, none⟩ (.int .i64 0)).setCell ⟨w.heap.size, 4, none⟩ (.int .i64 0)) = wz) := Lib.hid hwz
            clear hwz
            go_region
            all_goals
              clear c0 c1 f0 f1 g0 g1 g2 g3 g4 z0 p1 q1 p2 q2 p3 q3 p4 q4
              rw [hwz'.out]
              go_wp2_with fail
              obtain ⟨r0, r1, r2, r3, r4⟩ := hFz.out
              refine bodyPost_ret (v := .tuple #[.agg #[.int .i64 0, .slice none 0 0, .slice none 0 0, .int .i64 0, .int .i64 0], .int .i64 (e : Int)]) (by simp [results, Try.results18, go_sem, r0, r1, r2, r3, r4]) rfl ?_
              exact DecE.no hD.out (hNz.out.trans (upon_drewN _ _ 1))
    · have d1 : decide (1 ≤ (n : Int)) = true := decide_eq_true (by omega)
      have d1' : (1 : Int) ≤ (n : Int) := by omega
      have d2 : decide ((n : Int) ≤ 32) = false := decide_eq_false (by omega)
      have d2' : decide (n ≤ 32) = false := decide_eq_false hn32
      have d2'' : ¬ (n : Int) ≤ 32 := by omega
      have hb : (decide (1 ≤ n) && decide (n ≤ 32)) = false := by rw [decide_eq_false hn32, Bool.and_false]
      have hr5 := hr4.out
      simp only [hb] at hr5
      have HM2 := Lib.hid (rMust (hJ.out _ _ _ _ _) h4.out false 2 (by decide))
      replace hr5 := Lib.hid hr5
      have hn0 : 0 < n := by omega
      clear hr4 h4 hb hn1
      go_wp2_with fail
      refine HM2.out.mono ?_
      rintro e w5 ⟨e5, rfl, hx5, h5⟩
      have hr6 := Rest.step (f := fun _ => manyK comF n []) hr5.out hx5
      have he5 : e5 ≠ 0 := fun c => by
        by_cases c4 : e4 = 0
        · rcases hx5.1 c4 with ⟨-, h⟩ | ⟨h, -⟩
          · simp [mustR] at h
          · exact h c
        · rw [hx5.2 c4] at c; exact c4 c
      have hD := Lib.hid (dec_err (hr6.2 he5))
      have dx : ((e5 : Int) == 0) = false := by rw [beq_eq_false_iff_ne]; omega
      have dx' : ((e5 : Int) != 0) = true := by rw [bne_iff_ne]; omega
      replace h5 := Lib.hid h5
      have he := he5
      clear HM2 hr5 hr6 hx5 d1 d1' d2 d2' d2'' he5
      go_wp2_with fail
      go_loopw [8] (fun ov wr => ov = .int .u64 0 ∧ wr = w5) (fun _ _ => 0)
      case atStart => exact ⟨rfl, rfl⟩
      case round =>
        obtain ⟨rfl, rfl⟩ := hrel
        obtain ⟨c0, c1, f0, f1⟩ := Mt.ioBox h5.out
        have HMz := Lib.hid (by have := Mt.ioMust (hJ.out _ _ _ _ _) h5.out s4.toList.isEmpty 6; rw [mustE_err he] at this; exact this)
        go_wp2_with fail
        refine HMz.out.mono ?_
        rintro e w18 ⟨rfl, h18⟩
        clear HMz c0 c1 f0 f1 h5
        obtain ⟨c0, c1, f0, f1⟩ := Mt.ioBox h18
        have hF := five_keep hres.out h18
        obtain ⟨g0, g1, g2, g3, g4⟩ := hF.cells
        have z0 := hF.frozen 0
        obtain ⟨⟨p1, q1⟩, ⟨p2, q2⟩, ⟨p3, q3⟩, ⟨p4, q4⟩⟩ := hF.roads zeroV
        have hN := Lib.hid (hN0.out.trans (newOf h18.bel))
        go_wp2_with fail
        obtain ⟨wz, hwz⟩ : ∃ wz, setFive w.heap.size zeroV w18 = wz := ⟨_, rfl⟩
        have hFz := (hF.setAll zeroV).cells
        rw [hwz] at hFz
        replace hFz := Lib.hid hFz
        have hNz : Hid (New0 w wz) := Lib.hid (by rw [← hwz]; exact upon_setFive hN.out (.inr (Nat.le_refl _)))
        have hwz' : Hid ((((((w18.setCell ⟨w.heap.size, 0, none⟩ (.int .i64 0)).setCell ⟨w.heap.size, 1, none⟩ (.slice none 0 0)).setCell ⟨w.heap.size, 2, none⟩ (.slice none 0 0)).setCell ⟨w.heap.size, 3, none⟩ (.int .i64 0)).setCell ⟨w.heap.size, 4, none⟩ (.int .i64 0)) = wz) := Lib.hid hwz
        clear hwz
        go_region
        all_goals
          clear c0 c1 f0 f1 g0 g1 g2 g3 g4 z0 p1 q1 p2 q2 p3 q3 p4 q4
          rw [hwz'.out]
          go_wp2_with fail
          obtain ⟨r0, r1, r2, r3, r4⟩ := hFz.out
          refine bodyPost_ret (v := .tuple #[.agg #[.int .i64 0, .slice none 0 0, .slice none 0 0, .int .i64 0, .int .i64 0], .int .i64 (e5 : Int)]) (by simp [results, Try.results18, go_sem, r0, r1, r2, r3, r4]) rfl ?_
          exact DecE.no hD.out (hNz.out.trans (upon_drewN _ _ 1))
  · have d1 : decide (1 ≤ (n : Int)) = false := decide_eq_false (by omega)
    have d1' : ¬ (1 : Int) ≤ (n : Int) := by omega
    have hb : (decide (1 ≤ n) && decide (n ≤ 32)) = false := by rw [decide_eq_false hn1]; rfl
    have hr5 := hr4.out
    simp only [hb] at hr5
    have HM2 := Lib.hid (rMust (hJ.out _ _ _ _ _) h4.out false 2 (by decide))
    replace hr5 := Lib.hid hr5
    have hn0 : n = 0 := by omega
    clear hr4 h4 hb hn1
    subst hn0
    go_wp2_with fail
    refine HM2.out.mono ?_
    rintro e w5 ⟨e5, rfl, hx5, h5⟩
    have hr6 := Rest.step (f := fun _ => manyK comF 0 []) hr5.out hx5
    have he5 : e5 ≠ 0 := fun c => by
      by_cases c4 : e4 = 0
      · rcases hx5.1 c4 with ⟨-, h⟩ | ⟨h, -⟩
        · simp [mustR] at h
        · exact h c
      · rw [hx5.2 c4] at c; exact c4 c
    have hD := Lib.hid (dec_err (hr6.2 he5))
    have dx : ((e5 : Int) == 0) = false := by rw [beq_eq_false_iff_ne]; omega
    have dx' : ((e5 : Int) != 0) = true := by rw [bne_iff_ne]; omega
    replace h5 := Lib.hid h5
    have he := he5
    clear HM2 hr5 hr6 hx5 d1 d1' he5
    go_wp2_with fail
    go_loopw [8] (fun ov wr => ov = .int .u64 0 ∧ wr = w5) (fun _ _ => 0)
    case atStart => exact ⟨rfl, rfl⟩
    case round =>
      obtain ⟨rfl, rfl⟩ := hrel
      obtain ⟨c0, c1, f0, f1⟩ := Mt.ioBox h5.out
      have HMz := Lib.hid (by have := Mt.ioMust (hJ.out _ _ _ _ _) h5.out s4.toList.isEmpty 6; rw [mustE_err he] at this; exact this)
      go_wp2_with fail
      refine HMz.out.mono ?_
      rintro e w18 ⟨rfl, h18⟩
      clear HMz c0 c1 f0 f1 h5
      obtain ⟨c0, c1, f0, f1⟩ := Mt.ioBox h18
      have hF := five_keep hres.out h18
      obtain ⟨g0, g1, g2, g3, g4⟩ := hF.cells
      have z0 := hF.frozen 0
      obtain ⟨⟨p1, q1⟩, ⟨p2, q2⟩, ⟨p3, q3⟩, ⟨p4, q4⟩⟩ := hF.roads zeroV
      have hN := Lib.hid (hN0.out.trans (newOf h18.bel))
      go_wp2_with fail
      obtain ⟨wz, hwz⟩ : ∃ wz, setFive w.heap.size zeroV w18 = wz := ⟨_, rfl⟩
      have hFz := (hF.setAll zeroV).cells
      rw [hwz] at hFz
      replace hFz := Lib.hid hFz
      have hNz : Hid (New0 w wz) := Lib.hid (by rw [← hwz]; exact upon_setFive hN.out (.inr (Nat.le_refl _)))
      have hwz' : Hid ((((((w18.setCell ⟨w.heap.size, 0, none⟩ (.int .i64 0)).setCell ⟨w.heap.size, 1, none⟩ (.slice none 0 0)).setCell ⟨w.heap.size, 2, none⟩ (.slice none 0 0)).setCell ⟨w.heap.size, 3, none⟩ (.int .i64 0)).setCell ⟨w.heap.size, 4, none⟩ (.int .i64 0)) = wz) := Lib.hid hwz
      clear hwz
      go_region
      all_goals
        clear c0 c1 f0 f1 g0 g1 g2 g3 g4 z0 p1 q1 p2 q2 p3 q3 p4 q4
        rw [hwz'.out]
        go_wp2_with fail
        obtain ⟨r0, r1, r2, r3, r4⟩ := hFz.out
        refine bodyPost_ret (v := .tuple #[.agg #[.int .i64 0, .slice none 0 0, .slice none 0 0, .int .i64 0, .int .i64 0], .int .i64 (e5 : Int)]) (by simp [results, Try.results18, go_sem, r0, r1, r2, r3, r4]) rfl ?_
        exact DecE.no hD.out (hNz.out.trans (upon_drewN _ _ 1))
end Rc
end Go.Proofs.Ytkachkoiajdhgaa
