/- The document's own records (layer 12): Decode, of a delete. -/
import Derived.Test.YtkachkoiajdhgaaRcDec
set_option maxRecDepth 100000
namespace Go.Proofs.Ytkachkoiajdhgaa
open Go.RowKit Go.Sort
namespace Rc
open Bit Dsk Ob Dig Lb
set_option linter.unusedVariables false
set_option linter.unusedSimpArgs false

set_option maxHeartbeats 25600000 in
theorem refdec_del (w : World) (s : ByteArray) (hs : s.size ≤ 140737488355328) {k kk x : Nat} (hg : gotN s.data.toList = (k, kk, x)) (hk : k ≠ 1) :
    Calls Try.prog 18 #[.string s] w fun e w' => DecE w s.data.toList e w' := by
  obtain ⟨wA, hwA⟩ : ∃ wA, w.alloc (.cells #[.int .i64 0, .slice none 0 0, .slice none 0 0, .int .i64 0, .int .i64 0] 25 (0, 0)) = wA := ⟨_, rfl⟩
  have hres : Five 25 w.heap.size zeroV wA := by rw [← hwA]; exact cell_new w _
  have hN0 : New0 w wA := by rw [← hwA]; exact (Upon.refl _ w).alloc _
  have hsz : wA.heap.size = w.heap.size + 1 := by rw [← hwA]; simp
  obtain ⟨wB, hwB⟩ : ∃ wB, wA.alloc (.cells #[.string s, .int .i64 0] 64 (0, 0)) = wB := ⟨_, rfl⟩
  have H0 : Own (InO (w.heap.size + 1) s 0) wA wB := by rw [← hwB, ← hsz]; exact Rw.box2Own (Below.refl _ _) (.string s) (.int .i64 ((0 : Nat) : Int)) _
  have HN := Lib.hid (Mt.ioNum Mt.thingNo (Mt.ownNo (thingIn _ _ _) H0) (by omega) hg)
  have hk64 : k < 18446744073709551616 := by
    have := (gotN_lt s.data.toList).1
    rw [hg] at this
    exact this
  have hx1 := nx_num hg
  have hs1 : (s.extract kk s.size).size ≤ 140737488355328 := Nat.le_trans (ext_size _ _ _) hs
  obtain ⟨s1, hs1_⟩ : ∃ s1, s.extract kk s.size = s1 := ⟨_, rfl⟩
  rw [hs1_] at HN hx1 hs1
  clear hs1_
  obtain ⟨sl, hsl⟩ : ∃ sl, s.data.toList = sl := ⟨_, rfl⟩
  have hrest := Rest.start allR s
  rw [hsl] at hrest ⊢
  have hR : ∀ (s1 : ByteArray) (e1 k : Nat), Nx numR s 0 k s1 e1 → Rest (bnd (mustR (decide (k = 1) || decide (k = 2)) 5) fun _ => if k = 1 then comR else delR) s1 e1 (allR sl) := fun s1 e1 k hx => Rest.step (f := fun k => bnd (mustR (decide (k = 1) || decide (k = 2)) 5) fun _ => if k = 1 then comR else delR) hrest hx
  have hw : Hid ((w.alloc (.cells #[.int .i64 0, .slice none 0 0, .slice none 0 0, .int .i64 0, .int .i64 0] 25 (0, 0))).alloc (.cells #[.string s, .int .i64 0] 64 (0, 0)) = wB) := Lib.hid (by rw [hwA, hwB])
  replace hR := Lib.hid hR
  replace hres := Lib.hid hres
  replace hN0 := Lib.hid hN0
  clear hwA hwB H0 hsl hrest hsz hg
  go_enter Try.func18, Try.ntmps18
  go_wp2_with fail
  rw [hw.out]
  refine HN.out.mono ?_
  rintro e w2 ⟨rfl, h2⟩
  have hr1 := Lib.hid (hR.out _ _ _ hx1)
  replace h2 := Lib.hid h2
  clear HN hw hR hx1
  have e1 : ((k : Int) == 1) = false := by rw [beq_eq_false_iff_ne]; omega
  obtain ⟨b2, hb2⟩ : ∃ b2, decide (k = 2) = b2 := ⟨_, rfl⟩
  have hb2' : ((k : Int) == 2) = b2 := by
    rw [← hb2]
    by_cases c : k = 2
    · rw [decide_eq_true c, beq_iff_eq]; omega
    · rw [decide_eq_false c, beq_eq_false_iff_ne]; omega
  have hr2 := hr1.out
  rw [decide_eq_false hk, hb2, Bool.false_or] at hr2
  have HM := Lib.hid (rMust Mt.thingNo h2.out b2 5 (by decide))
  replace hr2 := Lib.hid hr2
  clear hr1 h2
  go_wp2_with fail
  refine HM.out.mono ?_
  rintro e w3 ⟨e2, rfl, hx2, h3⟩
  have hr3 := Lib.hid (by have h := Rest.step (f := fun _ => if k = 1 then comR else delR) hr2.out hx2; rw [if_neg hk] at h; exact h)
  obtain ⟨kv, hcv⟩ : ∃ kv, IntKind.i64.wrap (k : Int) = kv := ⟨_, rfl⟩
  have h4 := Lib.hid (Own.mono (Own.assoc (boxMade (Tens.ob (thingIn _ _ _) Mt.thingNo) h3 ⟨.int .i64 kv, .slice none 0 0, .slice none 0 0, .int .i64 0, .int .i64 0⟩)) fun S h => Tens.mapR (fun A h => noBox h) h)
  have hk2 : e2 = 0 → k = 2 := fun c => by
    by_cases cx : x = 0
    · rcases hx2.1 cx with ⟨-, h⟩ | ⟨h, -⟩
      · cases b2 with
        | true => exact of_decide_eq_true hb2
        | false => simp [mustR] at h
      · exact absurd c h
    · rw [hx2.2 cx] at c; exact absurd c cx
  replace hk2 := Lib.hid hk2
  clear HM hr2 hx2 h3 hb2
  obtain ⟨c0, c1, f0, f1⟩ := Mt.ioBox h4.out
  by_cases he : e2 = 0
  · subst he
    have hk2' := hk2.out rfl
    have hkv : kv = 2 := by rw [← hcv, hk2', IntKind.wrap_i64]; decide
    subst hkv
    have HT := Lib.hid (rTake (thingBox _ _) h4.out hs1)
    have hJ := Lib.hid (fun g v u (l : List Mt.M) => Tens.ob (thingBox g v) (Rw.thingRow Mt.layM 76 u l))
    clear h4 hk2 hb2'
    go_wp2_with fail
    refine HT.out.mono ?_
    rintro e w5 ⟨u, l, s5, e5, rfl, hs5, hbl, hx5, h5⟩
    have hr5 := Lib.hid (Rest.step (f := fun m => bnd sgnR fun a => bnd sgnR fun b => retR (R.mk 2 [] m a b)) (show Rest (bnd takeR fun m => bnd sgnR fun a => bnd sgnR fun b => retR (R.mk 2 [] m a b)) _ _ _ from hr3.out) hx5)
    replace hbl := Lib.hid hbl
    clear HT hr3 hx5 c0 c1 f0 f1
    obtain ⟨A5, c5, hu5, -, -⟩ := Rw.View.shape (Rw.rowSee h5.dropl).view
    subst hu5
    have hF5 := seeBox h5
    obtain ⟨m0, m1, m2, m3, m4⟩ := hF5.cells
    have m2f := hF5.frozen 2
    have h6 := boxSet (thingIn _ _ _) (Rw.thingRow _ _ _ _) h5 (hF5.set2 (.slice A5 l.length c5))
    have HS := Lib.hid (rSgn (hJ.out _ _ _ _) h6 hs5)
    clear h5 h6 hF5
    go_wp2_with fail
    refine HS.out.mono ?_
    rintro e w7 ⟨a, s7, e7, rfl, hab, hs7, hx7, h7⟩
    have hr7 := Lib.hid (Rest.step (f := fun a => bnd sgnR fun b => retR (R.mk 2 [] l a b)) hr5.out hx7)
    clear HS hr5 hx7 m0 m1 m2 m3 m4 m2f
    have hF7 := seeBox h7
    obtain ⟨m0, m1, m2, m3, m4⟩ := hF7.cells
    have m3f := hF7.frozen 3
    have h8 := boxSet (thingIn _ _ _) (Rw.thingRow _ _ _ _) h7 (hF7.set3 (.int .i64 a))
    have HS2 := Lib.hid (rSgn (hJ.out _ _ _ _) h8 hs7)
    clear h7 h8 hF7
    go_wp2_with fail
    refine HS2.out.mono ?_
    rintro e w9 ⟨b, s9, e9, rfl, hbb, hs9, hx9, h9⟩
    have hr9 := Lib.hid (Rest.step (f := fun b => retR (R.mk 2 [] l a b)) hr7.out hx9)
    clear HS2 hr7 hx9 m0 m1 m2 m3 m4 m3f
    have hF9 := seeBox h9
    obtain ⟨m0, m1, m2, m3, m4⟩ := hF9.cells
    have m4f := hF9.frozen 4
    have h10 := Lib.hid (boxSet (thingIn _ _ _) (Rw.thingRow _ _ _ _) h9 (hF9.set4 (.int .i64 b)))
    clear h9 hF9
    by_cases he9 : e9 = 0
    · subst he9
      have hKr := Lib.hid ((Rest.ret hr9.out).1 rfl)
      have hbnd : Hid (Bnd ⟨2, [], l, a, b⟩) := Lib.hid ⟨⟨(show (-9223372036854775808 : Int) ≤ 2 by decide), (show (2 : Int) ≤ 9223372036854775807 by decide)⟩, fun x hx => (by cases hx), hbl.out, hab, hbb⟩
      clear hr9
      obtain ⟨c0, c1, f0, f1⟩ := Mt.ioBox h10.out
      cases hb6 : s9.toList.isEmpty with
      | false =>
        have HMz := Lib.hid (by have := Mt.ioMust (hJ.out _ _ _ _) h10.out false 6; rw [show mustE false 0 6 = 6 from rfl] at this; exact this)
        have hD : Hid (dec sl = (zero, 6)) := Lib.hid (dec_more hKr.out (fun e => by rw [ByteArray.toList_eq, e] at hb6; cases hb6))
        clear hKr hbnd
        go_wp2_with fail
        refine HMz.out.mono ?_
        rintro e w18 ⟨rfl, h18⟩
        clear HMz c0 c1 f0 f1 h10
        obtain ⟨c0, c1, f0, f1⟩ := Mt.ioBox h18
        have hF := five_keep hres.out h18
        obtain ⟨g0, g1, g2, g3, g4⟩ := hF.cells
        have z0 := hF.frozen 0
        obtain ⟨⟨p1, q1⟩, ⟨p2, q2⟩, ⟨p3, q3⟩, ⟨p4, q4⟩⟩ := hF.roads zeroV
        have hN := Lib.hid (hN0.out.trans (newOf h18.bel))
        go_wp2_with fail
        obtain ⟨wz, hwz⟩ : ∃ wz, setFive w.heap.size zeroV w18 = wz := ⟨_, rfl⟩
        have hFz := (hF.setAll zeroV).cells
        rw [hwz] at hFz
        replace hFz := Lib.hid hFz
        have hNz : Hid (New0 w wz) := Lib.hid (by rw [← hwz]; exact upon_setFive hN.out (.inr (Nat.le_refl _)))
        have hwz' : Hid ((((((w18.setCell ⟨w.heap.size, 0, none⟩ (.int .i64 0)).setCell ⟨w.heap.size, 1, none⟩ (.slice none 0 0)).setCell ⟨w.heap.size, 2, none⟩ (.slice none 0 0)).setCell ⟨w.heap.size, 3, none⟩ (.int .i64 0)).setCell ⟨w.heap.size, 4, none⟩ (.int .i64 0)) = wz) := Lib.hid hwz
        clear hwz
        go_region
        all_goals
          clear c0 c1 f0 f1 g0 g1 g2 g3 g4 z0 p1 q1 p2 q2 p3 q3 p4 q4
          rw [hwz'.out]
          go_wp2_with fail
          obtain ⟨r0, r1, r2, r3, r4⟩ := hFz.out
          refine bodyPost_ret (v := .tuple #[.agg #[.int .i64 0, .slice none 0 0, .slice none 0 0, .int .i64 0, .int .i64 0], .int .i64 (6 : Int)]) (by simp [results, Try.results18, go_sem, r0, r1, r2, r3, r4]) rfl ?_
          exact DecE.no hD.out (hNz.out.trans (upon_drewN _ _ 1))
      | true =>
        have HMz := Lib.hid (by have := Mt.ioMust (hJ.out _ _ _ _) h10.out true 6; rw [show mustE true 0 6 = 0 from rfl] at this; exact this)
        have hKe : Hid (allR sl = .ok ((⟨2, [], l, a, b⟩ : R), [])) := Lib.hid (by rw [hKr.out]; rw [ByteArray.toList_eq, List.isEmpty_iff] at hb6; rw [hb6])
        clear hKr
        go_wp2_with fail
        refine HMz.out.mono ?_
        rintro e w18 ⟨rfl, h18⟩
        clear HMz c0 c1 f0 f1 h10
        obtain ⟨c0, c1, f0, f1⟩ := Mt.ioBox h18
        obtain ⟨k0, k1, k2, k3, k4⟩ := (seeBox h18).cells
        have hrv : Hid (RView w18 (Nw wA) (.agg #[.int .i64 2, .slice none 0 0, .slice A5 l.length c5, .int .i64 a, .int .i64 b]) (⟨2, [], l, a, b⟩ : R)) := Lib.hid (⟨⟨none, 0, 0⟩, ⟨A5, l.length, c5⟩, rfl, Rw.DView.noth _ _ _ _, mview_own h18⟩)
        obtain ⟨z, hz⟩ : ∃ z, chk (⟨2, [], l, a, b⟩ : R) = z := ⟨_, rfl⟩
        have HC := Lib.hid (refcheck_is w18 _ _ _ hrv.out hbnd.out hz)
        replace h18 := Lib.hid h18
        replace hz := Lib.hid hz
        go_wp2_with fail
        refine HC.out.mono ?_
        rintro e w19 ⟨rfl, hu19⟩
        have h19 := Own.upon0 (Tens.ob (thingIn _ _ _) (hJ.out _ _ _ _)) h18.out hu19
        have hrv9 := Lib.hid (hrv.out.new hu19)
        clear HC c0 c1 f0 f1 k0 k1 k2 k3 k4 h18 hrv hu19
        obtain ⟨c0, c1, f0, f1⟩ := Mt.ioBox h19
        have h20 := Mt.ioSet (hJ.out _ _ _ _) h19 z
        by_cases hz0 : z = 0
        · subst hz0
          have hD := Lib.hid (dec_ok hKe.out hz.out)
          replace h20 : Own _ wA (w19.setCell ⟨w.heap.size + 1, 1, none⟩ (.int .i64 0)) := h20
          have hrv20 : RView (w19.setCell ⟨w.heap.size + 1, 1, none⟩ (.int .i64 0)) (Nw wA) (.agg #[.int .i64 2, .slice none 0 0, .slice A5 l.length c5, .int .i64 a, .int .i64 b]) (⟨2, [], l, a, b⟩ : R) := ⟨⟨none, 0, 0⟩, ⟨A5, l.length, c5⟩, rfl, Rw.DView.noth _ _ _ _, mview_own h20⟩
          obtain ⟨b0, b1, b2, b3⟩ := Mt.ioBox h20
          obtain ⟨k0, k1, k2, k3, k4⟩ := (seeBox h20).cells
          have hF := five_keep hres.out h20
          obtain ⟨g0, g1, g2, g3, g4⟩ := hF.cells
          have z0 := hF.frozen 0
          obtain ⟨⟨p1, q1⟩, ⟨p2, q2⟩, ⟨p3, q3⟩, ⟨p4, q4⟩⟩ := hF.roads ⟨.int .i64 2, .slice none 0 0, .slice A5 l.length c5, .int .i64 a, .int .i64 b⟩
          have hN := hN0.out.trans (newOf h20.bel)
          obtain ⟨wz, hwz⟩ : ∃ wz, setFive w.heap.size ⟨.int .i64 2, .slice none 0 0, .slice A5 l.length c5, .int .i64 a, .int .i64 b⟩ (w19.setCell ⟨w.heap.size + 1, 1, none⟩ (.int .i64 0)) = wz := ⟨_, rfl⟩
          have hFz := (hF.setAll ⟨.int .i64 2, .slice none 0 0, .slice A5 l.length c5, .int .i64 a, .int .i64 b⟩).cells
          rw [hwz] at hFz
          replace hFz := Lib.hid hFz
          have hNz : Hid (New0 w wz) := Lib.hid (by rw [← hwz]; exact upon_setFive hN (.inr (Nat.le_refl _)))
          have hlt0 := (Array.getElem?_eq_some_iff.1 hres.out).1
          have hVz : Hid (RView wz All (.agg #[.int .i64 2, .slice none 0 0, .slice A5 l.length c5, .int .i64 a, .int .i64 b]) (⟨2, [], l, a, b⟩ : R)) := Lib.hid (by
            rw [← hwz]
            exact (hrv20.upon (upon_setFive (S := fun b => b = w.heap.size) (Upon.refl _ _) (.inl rfl)) (fun b hb e => by unfold Nw at hb; omega)).all)
          have hwz' : Hid (((((((w19.setCell ⟨w.heap.size + 1, 1, none⟩ (.int .i64 0)).setCell ⟨w.heap.size, 0, none⟩ (.int .i64 2)).setCell ⟨w.heap.size, 1, none⟩ (.slice none 0 0)).setCell ⟨w.heap.size, 2, none⟩ (.slice A5 l.length c5)).setCell ⟨w.heap.size, 3, none⟩ (.int .i64 a)).setCell ⟨w.heap.size, 4, none⟩ (.int .i64 b)) = wz) := Lib.hid hwz
          have hrng : Hid (Rng (⟨2, [], l, a, b⟩ : R)) := Lib.hid ⟨fun x hx => rngS_of (hbnd.out.smp x hx), hbnd.out.frm, hbnd.out.til⟩
          clear hwz hF hN hlt0 hrv20 h20 hKe hz h19 hrv9 hbnd
          go_wp2_with fail
          rw [hwz'.out]
          obtain ⟨r0, r1, r2, r3, r4⟩ := hFz.out
          clear p1 q1 p2 q2 p3 q3 p4 q4 g0 g1 g2 g3 g4 k0 k1 k2 k3 k4 b0 b1 b2 b3 c0 c1 f0 f1 z0
          refine bodyPost_ret (v := .tuple #[.agg #[.int .i64 2, .slice none 0 0, .slice A5 l.length c5, .int .i64 a, .int .i64 b], .int .i64 0]) (by simp [results, Try.results18, go_sem, r0, r1, r2, r3, r4]) rfl ?_
          exact DecE.yes hD.out hVz.out hrng.out hNz.out
        · have hD := Lib.hid (by have := dec_chk hKe.out (by rw [hz.out]; exact hz0); rw [hz.out] at this; exact this)
          have dx : ((z : Int) == 0) = false := by rw [beq_eq_false_iff_ne]; omega
          have dx' : ((z : Int) != 0) = true := by rw [bne_iff_ne]; omega
          clear hKe hz h19 hz0 hrv9 hbnd
          obtain ⟨c0, c1, f0, f1⟩ := Mt.ioBox h20
          have hF := five_keep hres.out h20
          obtain ⟨g0, g1, g2, g3, g4⟩ := hF.cells
          have z0 := hF.frozen 0
          obtain ⟨⟨p1, q1⟩, ⟨p2, q2⟩, ⟨p3, q3⟩, ⟨p4, q4⟩⟩ := hF.roads zeroV
          have hN := Lib.hid (hN0.out.trans (newOf h20.bel))
          go_wp2_with fail
          obtain ⟨wz, hwz⟩ : ∃ wz, setFive w.heap.size zeroV (w19.setCell ⟨w.heap.size + 1, 1, none⟩ (.int .i64 (z : Int))) = wz := ⟨_, rfl⟩
          have hFz := (hF.setAll zeroV).cells
          rw [hwz] at hFz
          replace hFz := Lib.hid hFz
          have hNz : Hid (New0 w wz) := Lib.hid (by rw [← hwz]; exact upon_setFive hN.out (.inr (Nat.le_refl _)))
          have hwz' : Hid (((((((w19.setCell ⟨w.heap.size + 1, 1, none⟩ (.int .i64 (z : Int))).setCell ⟨w.heap.size, 0, none⟩ (.int .i64 0)).setCell ⟨w.heap.size, 1, none⟩ (.slice none 0 0)).setCell ⟨w.heap.size, 2, none⟩ (.slice none 0 0)).setCell ⟨w.heap.size, 3, none⟩ (.int .i64 0)).setCell ⟨w.heap.size, 4, none⟩ (.int .i64 0)) = wz) := Lib.hid hwz
          clear hwz
          go_region
          all_goals
            clear c0 c1 f0 f1 g0 g1 g2 g3 g4 z0 p1 q1 p2 q2 p3 q3 p4 q4
            rw [hwz'.out]
            go_wp2_with fail
            obtain ⟨r0, r1, r2, r3, r4⟩ := hFz.out
            refine bodyPost_ret (v := .tuple #[.agg #[.int .i64 0, .slice none 0 0, .slice none 0 0, .int .i64 0, .int .i64 0], .int .i64 (z : Int)]) (by simp [results, Try.results18, go_sem, r0, r1, r2, r3, r4]) rfl ?_
            exact DecE.no hD.out (hNz.out.trans (upon_drewN _ _ 1))
    · have hD := Lib.hid (dec_err ((Rest.ret hr9.out).2 he9))
      have dx : ((e9 : Int) == 0) = false := by rw [beq_eq_false_iff_ne]; omega
      have dx' : ((e9 : Int) != 0) = true := by rw [bne_iff_ne]; omega
      have he := he9
      clear hr9 hbl he9
      obtain ⟨c0, c1, f0, f1⟩ := Mt.ioBox h10.out
      have HMz := Lib.hid (by have := Mt.ioMust (hJ.out _ _ _ _) h10.out s9.toList.isEmpty 6; rw [mustE_err he] at this; exact this)
      go_wp2_with fail
      refine HMz.out.mono ?_
      rintro e w18 ⟨rfl, h18⟩
      clear HMz c0 c1 f0 f1 h10
      obtain ⟨c0, c1, f0, f1⟩ := Mt.ioBox h18
      have hF := five_keep hres.out h18
      obtain ⟨g0, g1, g2, g3, g4⟩ := hF.cells
      have z0 := hF.frozen 0
      obtain ⟨⟨p1, q1⟩, ⟨p2, q2⟩, ⟨p3, q3⟩, ⟨p4, q4⟩⟩ := hF.roads zeroV
      have hN := Lib.hid (hN0.out.trans (newOf h18.bel))
      go_wp2_with fail
      obtain ⟨wz, hwz⟩ : ∃ wz, setFive w.heap.size zeroV w18 = wz := ⟨_, rfl⟩
      have hFz := (hF.setAll zeroV).cells
      rw [hwz] at hFz
      replace hFz := Lib.hid hFz
      have hNz : Hid (New0 w wz) := Lib.hid (by rw [← hwz]; exact upon_setFive hN.out (.inr (Nat.le_refl _)))
      have hwz' : Hid ((((((w18.setCell ⟨w.heap.size, 0, none⟩ (.int .i64 0)).setCell ⟨w.heap.size, 1, none⟩ (.slice none 0 0)).setCell ⟨w.heap.size, 2, none⟩ (.slice none 0 0)).setCell ⟨w.heap.size, 3, none⟩ (.int .i64 0)).setCell ⟨w.heap.size, 4, none⟩ (.int .i64 0)) = wz) := Lib.hid hwz
      clear hwz
      go_region
      all_goals
        clear c0 c1 f0 f1 g0 g1 g2 g3 g4 z0 p1 q1 p2 q2 p3 q3 p4 q4
        rw [hwz'.out]
        go_wp2_with fail
        obtain ⟨r0, r1, r2, r3, r4⟩ := hFz.out
        refine bodyPost_ret (v := .tuple #[.agg #[.int .i64 0, .slice none 0 0, .slice none 0 0, .int .i64 0, .int .i64 0], .int .i64 (e9 : Int)]) (by simp [results, Try.results18, go_sem, r0, r1, r2, r3, r4]) rfl ?_
        exact DecE.no hD.out (hNz.out.trans (upon_drewN _ _ 1))
  · have hD := Lib.hid (dec_err (hr3.out.2 he))
    have dx : ((e2 : Int) == 0) = false := by rw [beq_eq_false_iff_ne]; omega
    have dx' : ((e2 : Int) != 0) = true := by rw [bne_iff_ne]; omega
    clear hr3 hk2 hb2' c0 c1 f0 f1
    obtain ⟨c0, c1, f0, f1⟩ := Mt.ioBox h4.out
    have HMz := Lib.hid (by have := Mt.ioMust (thingBox _ _) h4.out s1.toList.isEmpty 6; rw [mustE_err he] at this; exact this)
    go_wp2_with fail
    refine HMz.out.mono ?_
    rintro e w18 ⟨rfl, h18⟩
    clear HMz c0 c1 f0 f1 h4
    obtain ⟨c0, c1, f0, f1⟩ := Mt.ioBox h18
    have hF := five_keep hres.out h18
    obtain ⟨g0, g1, g2, g3, g4⟩ := hF.cells
    have z0 := hF.frozen 0
    obtain ⟨⟨p1, q1⟩, ⟨p2, q2⟩, ⟨p3, q3⟩, ⟨p4, q4⟩⟩ := hF.roads zeroV
    have hN := Lib.hid (hN0.out.trans (newOf h18.bel))
    go_wp2_with fail
    obtain ⟨wz, hwz⟩ : ∃ wz, setFive w.heap.size zeroV w18 = wz := ⟨_, rfl⟩
    have hFz := (hF.setAll zeroV).cells
    rw [hwz] at hFz
    replace hFz := Lib.hid hFz
    have hNz : Hid (New0 w wz) := Lib.hid (by rw [← hwz]; exact upon_setFive hN.out (.inr (Nat.le_refl _)))
    have hwz' : Hid ((((((w18.setCell ⟨w.heap.size, 0, none⟩ (.int .i64 0)).setCell ⟨w.heap.size, 1, none⟩ (.slice none 0 0)).setCell ⟨w.heap.size, 2, none⟩ (.slice none 0 0)).setCell ⟨w.heap.size, 3, none⟩ (.int .i64 0)).setCell ⟨w.heap.size, 4, none⟩ (.int .i64 0)) = wz) := Lib.hid hwz
    clear hwz
    go_region
    all_goals
      clear c0 c1 f0 f1 g0 g1 g2 g3 g4 z0 p1 q1 p2 q2 p3 q3 p4 q4
      rw [hwz'.out]
      go_wp2_with fail
      obtain ⟨r0, r1, r2, r3, r4⟩ := hFz.out
      refine bodyPost_ret (v := .tuple #[.agg #[.int .i64 0, .slice none 0 0, .slice none 0 0, .int .i64 0, .int .i64 0], .int .i64 (e2 : Int)]) (by simp [results, Try.results18, go_sem, r0, r1, r2, r3, r4]) rfl ?_
      exact DecE.no hD.out (hNz.out.trans (upon_drewN _ _ 1))
end Rc
end Go.Proofs.Ytkachkoiajdhgaa
