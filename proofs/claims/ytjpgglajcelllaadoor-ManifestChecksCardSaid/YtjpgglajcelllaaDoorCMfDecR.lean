/- The document's manifests (layer 17): Decode. Written by wip/tools/mfdecr.py. -/
import Derived.Test.YtjpgglajcelllaaDoorCMfRefE
import Derived.Test.YtjpgglajcelllaaDoorCMfGrow
set_option maxRecDepth 100000
namespace Go.Proofs.YtjpgglajcelllaaDoor
open Go.RowKit
namespace Mf
open Bit Dsk Ob Dig
set_option linter.unusedVariables false
set_option linter.unusedSimpArgs false
/-! ### the reader, in its one block -/
theorem oneStep {p : Nat} {s s' : ByteArray} {e e' : Nat} {w w' : World} (h : Lb.InO p s e w (fun x => x = p)) (k : ObjStep (Lb.InO p s' e') (fun x => x = p) w w') : Lb.InO p s' e' w' (fun x => x = p) ∧ Upon (fun x => x = p) w w' := by
  obtain ⟨⟨S', h1, -, -⟩, hu⟩ := k
  exact ⟨⟨h1.1, fun x => Iff.rfl⟩, hu⟩
theorem ext_le (s : ByteArray) (a b : Nat) : (s.extract a b).size ≤ s.size := by rw [ByteArray.size_extract]; omega
section
variable {p : Nat} {s : ByteArray} {e : Nat} {w : World}
theorem dNum (h : Lb.InO p s e w (fun x => x = p)) (hs : s.size ≤ 1000000) :
    Calls Tryd.prog 37 #[.pointer (some ⟨p, 0, none⟩)] w fun r w' => ∃ (n : Nat) (s' : ByteArray) (e' : Nat), r = .returned (.int .u64 (n : Int)) ∧ n < 18446744073709551616 ∧ s'.size ≤ 1000000 ∧ Rc.Nx Rc.numR s e n s' e' ∧ Lb.InO p s' e' w' (fun x => x = p) ∧ Upon (fun x => x = p) w w' := by
  by_cases he : e = 0
  · subst he
    obtain ⟨n, k, x, hg⟩ : ∃ n k x, gotN s.data.toList = (n, k, x) := ⟨_, _, _, rfl⟩
    have hn := (gotN_lt s.data.toList).1
    rw [hg] at hn
    exact (Lb.innum_any w _ p s (by omega) n k x hg _ rfl h).mono fun r w' ⟨h1, h2⟩ => ⟨n, _, x, h1, hn, Nat.le_trans (ext_le _ _ _) hs, Rc.nx_num hg, oneStep h h2⟩
  · exact (Rc.innum_err w _ p s e he h).mono fun r w' ⟨h1, h2⟩ => ⟨0, s, e, h1, by decide, hs, Rc.nx_err _ _ he _ _, oneStep h h2⟩
theorem dSgn (h : Lb.InO p s e w (fun x => x = p)) (hs : s.size ≤ 1000000) :
    Calls Tryd.prog 38 #[.pointer (some ⟨p, 0, none⟩)] w fun r w' => ∃ (n : Int) (s' : ByteArray) (e' : Nat), r = .returned (.int .i64 n) ∧ (-9223372036854775808 ≤ n ∧ n ≤ 9223372036854775807) ∧ s'.size ≤ 1000000 ∧ Rc.Nx Rc.sgnR s e n s' e' ∧ Lb.InO p s' e' w' (fun x => x = p) ∧ Upon (fun x => x = p) w w' := by
  by_cases he : e = 0
  · subst he
    obtain ⟨n, k, x, hg⟩ : ∃ n k x, gotN s.data.toList = (n, k, x) := ⟨_, _, _, rfl⟩
    have hn := (gotN_lt s.data.toList).1
    rw [hg] at hn
    exact (Rc.insigned_any w _ p s (by omega) n k x hg _ rfl h).mono fun r w' ⟨h1, h2⟩ => ⟨unz n, _, x, h1, unz_bd n hn, Nat.le_trans (ext_le _ _ _) hs, Rc.nx_sgn hg, oneStep h h2⟩
  · exact (Rc.insigned_err w _ p s e he h).mono fun r w' ⟨h1, h2⟩ => ⟨0, s, e, h1, by omega, hs, Rc.nx_err _ _ he _ _, oneStep h h2⟩
theorem dTxt (h : Lb.InO p s e w (fun x => x = p)) (hs : s.size ≤ 1000000) :
    Calls Tryd.prog 40 #[.pointer (some ⟨p, 0, none⟩), .int .i64 32] w fun r w' => ∃ (t s' : ByteArray) (e' : Nat), r = .returned (.string t) ∧ t.size ≤ 1000000 ∧ s'.size ≤ 1000000 ∧ Rc.Nx (Rc.txtR 32) s e t s' e' ∧ Lb.InO p s' e' w' (fun x => x = p) ∧ Upon (fun x => x = p) w w' := by
  by_cases he : e = 0
  · subst he
    obtain ⟨n, k, x, hg⟩ : ∃ n k x, gotT s.data.toList 32 = (n, k, x) := ⟨_, _, _, rfl⟩
    exact (Lb.intext_any w _ p s 32 (by omega) (by decide) n k x hg _ _ rfl rfl h).mono fun r w' ⟨h1, h2⟩ => ⟨_, _, x, h1, Nat.le_trans (ext_le _ _ _) hs, Nat.le_trans (ext_le _ _ _) hs, Rc.nx_txt hg, oneStep h h2⟩
  · exact (Lb.intext_err w _ p s 32 e he h).mono fun r w' ⟨h1, h2⟩ => ⟨_, s, e, h1, Nat.zero_le _, hs, Rc.nx_err _ _ he _ _, oneStep h h2⟩
theorem dMust (h : Lb.InO p s e w (fun x => x = p)) (b : Bool) :
    Calls Tryd.prog 39 #[.pointer (some ⟨p, 0, none⟩), .bool b, .int .i64 3] w fun r w' => ∃ e', r = .returned (.tuple #[]) ∧ Rc.Nx (Rc.mustR b 3) s e () s e' ∧ (e' = 0 → b = true) ∧ Lb.InO p s e' w' (fun x => x = p) ∧ Upon (fun x => x = p) w w' :=
  (Lb.inmust_any w _ p s b e 3 h).mono fun r w' ⟨h1, h2⟩ => ⟨_, h1, Rc.nx_must b s e 3 (by decide), fun h3 => by
    unfold Lb.mustE at h3
    cases b with
    | true => rfl
    | false =>
      by_cases he : e = 0
      · rw [if_pos ⟨he, rfl⟩] at h3; cases h3
      · rw [if_neg (fun k => he k.1)] at h3; exact absurd h3 he, oneStep h h2⟩
end
theorem wrap_in (n : Nat) : -9223372036854775808 ≤ wrap64 (n : Int) ∧ wrap64 (n : Int) ≤ 9223372036854775807 := by unfold wrap64; omega
theorem wrap_small {n : Nat} (h : n ≤ 99999999) : wrap64 (n : Int) = (n : Int) := by unfold wrap64; omega
/-! ### plainly: the document's way -/
theorem dec_frame {s : ByteArray} (h : (Frm.gotF s).err ≠ 0) : Dec s zero 3 := .inr ⟨rfl, rfl, fun m hm _ e => h (by rw [← e, got_self hm])⟩
theorem dec_no {s : ByteArray} {x : Nat} (h : allR (Frm.gotF s).data.data.toList = .error x) : Dec s zero 3 := .inr ⟨rfl, rfl, fun m hm hk e => by
  rw [← e, got_self hm] at h
  have h2 := all_enc hm hk []
  rw [List.append_nil] at h2
  rw [show (⟨6, bts (dataL m), (code m).size, 0⟩ : Frm.Got).data.data.toList = dataL m from rfl, h2] at h
  cases h⟩
theorem dec_got {s : ByteArray} {m : M} {x : List UInt8} (h : allR (Frm.gotF s).data.data.toList = .ok (m, x)) (hk : -9223372036854775808 ≤ m.mark ∧ m.mark ≤ 9223372036854775807) : (chk m = 0 → encS m = s → Dec s m 0) ∧ (chk m ≠ 0 ∨ encS m ≠ s → Dec s zero 3) := by
  constructor
  · intro h1 h2
    rw [show encS m = code m from if_pos h1] at h2
    exact .inl ⟨rfl, chk_zero.1 h1, hk, h2⟩
  · intro h1
    refine .inr ⟨rfl, rfl, fun n hn hk2 e => ?_⟩
    have h2 := all_enc hn hk2 []
    rw [List.append_nil] at h2
    rw [← e, got_self hn, show (⟨6, bts (dataL n), (code n).size, 0⟩ : Frm.Got).data.data.toList = dataL n from rfl, h2] at h
    obtain ⟨e1, -⟩ := Prod.mk.inj (Except.ok.inj h)
    subst e1
    have h3 := chk_zero.2 hn
    rcases h1 with h1 | h1
    · exact h1 h3
    · exact h1 (by rw [show encS n = code n from if_pos h3]; exact e)
/-- What Decode tells. -/
def DecE (w : World) (s : ByteArray) (e : Ending) (w' : World) : Prop := ∃ (m : M) (x : Int) (u : Rw.Sl), e = .returned (.tuple #[mv m u, .int .i64 x]) ∧ Dec s m x ∧ NView w' (Lb.Nw w) u.v m.blocks ∧ Bnd m ∧ New0 w w'
theorem bnd_zero : Bnd zero := ⟨⟨by decide, by decide, by decide, by decide, by decide⟩, fun b hb => by cases hb⟩
theorem DecE.no {w w' : World} {s : ByteArray} (h : Dec s zero 3) (hu : New0 w w') : DecE w s (.returned (.tuple #[.agg #[.int .i64 0, .int .i64 0, .int .i64 0, .int .i64 0, .int .i64 0, .slice none 0 0], .int .i64 3])) w' :=
  ⟨zero, 3, ⟨none, 0, 0⟩, rfl, h, Rw.View.noth _ _ _, bnd_zero, hu⟩
set_option maxHeartbeats 25600000 in
theorem refdec_any (w : World) (s0 : ByteArray) (hs0 : s0.size ≤ 5000) :
    Calls Tryd.prog 13 #[.string s0] w (DecE w s0) := by
  have hlen := (Frm.gotF s0)
  have hGet := Lib.hid (fun w => Frm.refgot_any s0 (by omega) w)
  have hfr := Lib.hid (dec_frame (s := s0))
  have hno : Hid (∀ x, allR (Frm.gotF s0).data.data.toList = .error x → Dec s0 zero 3) := Lib.hid (fun x h => dec_no h)
  have hyes : Hid (∀ m x, allR (Frm.gotF s0).data.data.toList = .ok (m, x) → (-9223372036854775808 ≤ m.mark ∧ m.mark ≤ 9223372036854775807) → (chk m = 0 → encS m = s0 → Dec s0 m 0) ∧ (chk m ≠ 0 ∨ encS m ≠ s0 → Dec s0 zero 3)) := Lib.hid (fun m x h hk => dec_got h hk)
  have hdz : (Frm.gotF s0).data.size ≤ 65536 := by
    by_cases h : (Frm.gotF s0).err = 0
    · exact (Frm.gotF_ok s0 h).2.2.2
    · rw [Frm.gotF_err s0 h]; show (⟨#[]⟩ : ByteArray).size ≤ _; decide
  clear hlen
  obtain ⟨G, hG⟩ : ∃ G, Frm.gotF s0 = G := ⟨_, rfl⟩
  rw [hG] at hGet hfr hno hyes hdz
  clear hG
  obtain ⟨gk, d, gs, ge⟩ := G
  simp only at hGet hfr hno hyes hdz
  obtain ⟨KK, hKK⟩ : ∃ KK, allR d.data.toList = KK := ⟨_, rfl⟩
  have hr0 : Rc.Rest allR d 0 KK := by rw [← hKK]; exact Rc.Rest.start _ _
  rw [hKK] at hno hyes
  clear hKK
  obtain ⟨w0, hw0⟩ : ∃ w0, w.alloc (.cells #[.int .i64 0, .int .i64 0, .int .i64 0, .int .i64 0, .int .i64 0, .slice none 0 0] 24 (0, 0)) = w0 := ⟨_, rfl⟩
  have hres0 : Six 24 w.heap.size svZ w0 := by rw [← hw0]; exact six_new _ w svZ
  have u0 : New0 w w0 := by rw [← hw0]; exact (Upon.refl _ w).alloc _
  have hz0 : w0.heap.size = w.heap.size + 1 := by rw [← hw0]; simp
  replace hw0 := Lib.hid hw0
  replace hr0 := Lib.hid hr0
  replace hres0 := Lib.hid hres0
  replace u0 := Lib.hid u0
  go_enter Tryd.func13, Tryd.ntmps13
  go_wp2_with fail
  rw [hw0.out]
  refine (hGet.out w0).mono ?_
  rintro e w1 ⟨rfl, hb1⟩
  have hn1 := newOf hb1
  have hs1 := hn1.size
  have u1 := Lib.hid (u0.out.trans hn1)
  have hres1 := Lib.hid (hres0.out.new hn1)
  clear hGet hb1 hn1 hw0 u0 hres0
  have a6 : New0 w1 (w1.alloc (.cells #[.int .i64 (gk : Int), .string d] 66 (0, 0))) := (Upon.refl _ w1).alloc _
  have a7 := cell_new w1 (.cells #[.int .i64 (gk : Int), .string d] 66 (0, 0))
  have a5 : (w1.alloc (.cells #[.int .i64 (gk : Int), .string d] 66 (0, 0))).cell? ⟨w1.heap.size, 1, none⟩ = some (.string d) := by rw [Lib.cell_of_heap a7]; rfl
  have uq := Lib.hid (u1.out.trans a6)
  have hresq := Lib.hid (hres1.out.new a6)
  clear a6 a7 u1 hres1
  by_cases hge : ge = 0
  rotate_left
  · have dge : ((ge : Int) != 0) = true := by rw [bne_iff_ne]; omega
    have hD := Lib.hid (hfr.out hge)
    clear hno hyes hr0 hfr hge
    clear a5
    obtain ⟨c0, c1, c2, c3, c4, c5⟩ := hresq.out.cells
    have z0 := hresq.out.frozen 0
    obtain ⟨⟨p1, q1⟩, ⟨p2, q2⟩, ⟨p3, q3⟩, ⟨p4, q4⟩, ⟨p5, q5⟩⟩ := hresq.out.roads svZ
    have hfz := hresq.out.setAll svZ
    have huz : New0 w (setSix w.heap.size svZ _) := upon_setSix uq.out (.inr (Nat.le_refl _))
    obtain ⟨r0, r1, r2, r3, r4, r5⟩ := hfz.cells
    dsimp only [svZ, setSix] at c0 c1 c2 c3 c4 c5 p1 q1 p2 q2 p3 q3 p4 q4 p5 q5 r0 r1 r2 r3 r4 r5 huz
    have hend := Lib.hid (DecE.no hD.out huz)
    clear huz hfz hresq uq
    go_wp2_with fail
    refine bodyPost_ret (v := .tuple #[.agg #[.int .i64 0, .int .i64 0, .int .i64 0, .int .i64 0, .int .i64 0, .slice none 0 0], .int .i64 3]) (by simp [results, Tryd.results13, go_sem, r0, r1, r2, r3, r4, r5]) rfl ?_
    exact hend.out
  subst hge
  clear hfr
  obtain ⟨wq, hwq⟩ : ∃ wq, w1.alloc (.cells #[.int .i64 (gk : Int), .string d] 66 (0, 0)) = wq := ⟨_, rfl⟩
  have hzq : wq.heap.size = w1.heap.size + 1 := by rw [← hwq]; simp
  obtain ⟨w2, hw2⟩ : ∃ w2, (w1.alloc (.cells #[.int .i64 (gk : Int), .string d] 66 (0, 0))).alloc (.cells #[.string d, .int .i64 0] 75 (0, 0)) = w2 := ⟨_, rfl⟩
  have n2 : New0 wq w2 := by rw [← hw2, hwq]; exact (Upon.refl _ wq).alloc _
  have hI0 : Lb.InO (w1.heap.size + 1) d 0 w2 (fun x => x = w1.heap.size + 1) := by rw [← hw2, hwq, ← hzq]; exact ⟨cell_new wq _, fun _ => Iff.rfl⟩
  rw [hwq] at uq hresq
  have hu0 := Lib.hid (uq.out.trans n2)
  have hS0 := Lib.hid (hresq.out.new n2)
  have hsq : w.heap.size < w1.heap.size + 1 := by omega
  obtain ⟨P, hP⟩ : ∃ P, w1.heap.size + 1 = P := ⟨_, rfl⟩
  rw [hP] at hI0 hsq
  replace hP := Lib.hid hP
  replace hw2 := Lib.hid hw2
  replace hI0 := Lib.hid hI0
  have hPw : w.heap.size < P := by omega
  have hds : Hid (d.size ≤ 1000000) := Lib.hid (by omega)
  clear n2 uq hresq hwq hzq
  go_wp2_with fail
  rw [hw2.out, hP.out]
  clear a5
  refine (dNum hI0.out hds.out).mono ?_
  rintro e v1 ⟨xa, s1, e1, rfl, hb1, hz1, hx1, hI1, hU1⟩
  have hR1 := Lib.hid (hr0.out.step hx1)
  have hS1 := Lib.hid (hS0.out.upon hU1 (by omega))
  have hu1 := Lib.hid (hu0.out.trans' hU1 (fun i hi e => by omega))
  replace hI1 := Lib.hid hI1
  replace hz1 := Lib.hid hz1
  clear hx1 hU1 hI0 hr0 hS0 hu0 hds
  go_wp2_with fail
  refine (dNum hI1.out hz1.out).mono ?_
  rintro e v2 ⟨xb, s2, e2, rfl, hb2, hz2, hx2, hI2, hU2⟩
  have hR2 := Lib.hid (hR1.out.step hx2)
  have hS2 := Lib.hid (hS1.out.upon hU2 (by omega))
  have hu2 := Lib.hid (hu1.out.trans' hU2 (fun i hi e => by omega))
  replace hI2 := Lib.hid hI2
  replace hz2 := Lib.hid hz2
  clear hx2 hU2 hI1 hR1 hS1 hu1 hz1
  go_wp2_with fail
  refine (dNum hI2.out hz2.out).mono ?_
  rintro e v3 ⟨xc, s3, e3, rfl, hb3, hz3, hx3, hI3, hU3⟩
  have hR3 := Lib.hid (hR2.out.step hx3)
  have hS3 := Lib.hid (hS2.out.upon hU3 (by omega))
  have hu3 := Lib.hid (hu2.out.trans' hU3 (fun i hi e => by omega))
  replace hI3 := Lib.hid hI3
  replace hz3 := Lib.hid hz3
  clear hx3 hU3 hI2 hR2 hS2 hu2 hz2
  go_wp2_with fail
  refine (dSgn hI3.out hz3.out).mono ?_
  rintro e v4 ⟨xk, s4, e4, rfl, hb4, hz4, hx4, hI4, hU4⟩
  have hR4 := Lib.hid (hR3.out.step hx4)
  have hS4 := Lib.hid (hS3.out.upon hU4 (by omega))
  have hu4 := Lib.hid (hu3.out.trans' hU4 (fun i hi e => by omega))
  replace hI4 := Lib.hid hI4
  replace hz4 := Lib.hid hz4
  clear hx4 hU4 hI3 hR3 hS3 hu3 hz3
  go_wp2_with fail
  refine (dNum hI4.out hz4.out).mono ?_
  rintro e v5 ⟨xd, s5, e5, rfl, hb5, hz5, hx5, hI5, hU5⟩
  have hR5 := Lib.hid (hR4.out.step hx5)
  have hS5 := Lib.hid (hS4.out.upon hU5 (by omega))
  have hu5 := Lib.hid (hu4.out.trans' hU5 (fun i hi e => by omega))
  replace hI5 := Lib.hid hI5
  replace hz5 := Lib.hid hz5
  clear hx5 hU5 hI4 hR4 hS4 hu4 hz4
  go_wp2_with fail
  refine (dNum hI5.out hz5.out).mono ?_
  rintro e v6 ⟨n, s6, e6, rfl, hb6, hz6, hx6, hI6, hU6⟩
  have hR6 := Lib.hid (hR5.out.step hx6)
  have hS6 := Lib.hid (hS5.out.upon hU6 (by omega))
  have hu6 := Lib.hid (hu5.out.trans' hU6 (fun i hi e => by omega))
  replace hI6 := Lib.hid hI6
  replace hz6 := Lib.hid hz6
  clear hx6 hU6 hI5 hR5 hS5 hu5 hz5
  have hM := Lib.hid (fun b => dMust hI6.out b)
  go_upto_region 11 with fail
  go_cut [] from 42 to 61 (fun wc => ∃ e7, Hid (Rc.Rest (namesK (fun l => Rc.retR ⟨(xa : Int), (xb : Int), (xc : Int), xk, (xd : Int), l⟩) n []) s6 e7 KK) ∧ (e7 = 0 → xa ≤ 99999999 ∧ xb ≤ 99999999 ∧ xc ≤ 99999999 ∧ xd ≤ 99999999 ∧ n ≤ 16) ∧ Hid (Lb.InO P s6 e7 wc (fun x => x = P)) ∧ Hid (Upon (fun x => x = P) v6 wc))
  case first =>
    by_cases m0 : (xa : Int) ≤ 99999999
    rotate_left
    · skip
      go_wp2_with fail
      refine (hM.out false).mono ?_
      rintro e v7 ⟨e7, rfl, hx7, ht7, hI7, hU7⟩
      have hB : (decide (xa ≤ 99999999) && decide (xb ≤ 99999999) && decide (xc ≤ 99999999) && decide (xd ≤ 99999999) && decide (n ≤ 16)) = false := by simp only [Bool.and_eq_false_iff, decide_eq_false_iff_not]; omega
      rw [← hB] at hx7
      have hR7 := Lib.hid (hR6.out.step hx7)
      have h7 : e7 ≠ 0 := fun h => by have := ht7 h; cases this
      replace ht7 : e7 = 0 → xa ≤ 99999999 ∧ xb ≤ 99999999 ∧ xc ≤ 99999999 ∧ xd ≤ 99999999 ∧ n ≤ 16 := fun h => absurd h h7
      clear h7
      replace ht7 := Lib.hid ht7
      replace hI7 := Lib.hid hI7
      replace hU7 := Lib.hid hU7
      clear hx7 hB hM hR6
      go_wp2_with fail
      go_meet
      exact ⟨e7, hR7, ht7.out, hI7, hU7⟩
    by_cases m1 : (xb : Int) ≤ 99999999
    rotate_left
    · skip
      go_wp2_with fail
      refine (hM.out false).mono ?_
      rintro e v7 ⟨e7, rfl, hx7, ht7, hI7, hU7⟩
      have hB : (decide (xa ≤ 99999999) && decide (xb ≤ 99999999) && decide (xc ≤ 99999999) && decide (xd ≤ 99999999) && decide (n ≤ 16)) = false := by simp only [Bool.and_eq_false_iff, decide_eq_false_iff_not]; omega
      rw [← hB] at hx7
      have hR7 := Lib.hid (hR6.out.step hx7)
      have h7 : e7 ≠ 0 := fun h => by have := ht7 h; cases this
      replace ht7 : e7 = 0 → xa ≤ 99999999 ∧ xb ≤ 99999999 ∧ xc ≤ 99999999 ∧ xd ≤ 99999999 ∧ n ≤ 16 := fun h => absurd h h7
      clear h7
      replace ht7 := Lib.hid ht7
      replace hI7 := Lib.hid hI7
      replace hU7 := Lib.hid hU7
      clear hx7 hB hM hR6
      go_wp2_with fail
      go_meet
      exact ⟨e7, hR7, ht7.out, hI7, hU7⟩
    by_cases m2 : (xc : Int) ≤ 99999999
    rotate_left
    · skip
      go_wp2_with fail
      refine (hM.out false).mono ?_
      rintro e v7 ⟨e7, rfl, hx7, ht7, hI7, hU7⟩
      have hB : (decide (xa ≤ 99999999) && decide (xb ≤ 99999999) && decide (xc ≤ 99999999) && decide (xd ≤ 99999999) && decide (n ≤ 16)) = false := by simp only [Bool.and_eq_false_iff, decide_eq_false_iff_not]; omega
      rw [← hB] at hx7
      have hR7 := Lib.hid (hR6.out.step hx7)
      have h7 : e7 ≠ 0 := fun h => by have := ht7 h; cases this
      replace ht7 : e7 = 0 → xa ≤ 99999999 ∧ xb ≤ 99999999 ∧ xc ≤ 99999999 ∧ xd ≤ 99999999 ∧ n ≤ 16 := fun h => absurd h h7
      clear h7
      replace ht7 := Lib.hid ht7
      replace hI7 := Lib.hid hI7
      replace hU7 := Lib.hid hU7
      clear hx7 hB hM hR6
      go_wp2_with fail
      go_meet
      exact ⟨e7, hR7, ht7.out, hI7, hU7⟩
    by_cases m3 : (xd : Int) ≤ 99999999
    rotate_left
    · skip
      go_wp2_with fail
      refine (hM.out false).mono ?_
      rintro e v7 ⟨e7, rfl, hx7, ht7, hI7, hU7⟩
      have hB : (decide (xa ≤ 99999999) && decide (xb ≤ 99999999) && decide (xc ≤ 99999999) && decide (xd ≤ 99999999) && decide (n ≤ 16)) = false := by simp only [Bool.and_eq_false_iff, decide_eq_false_iff_not]; omega
      rw [← hB] at hx7
      have hR7 := Lib.hid (hR6.out.step hx7)
      have h7 : e7 ≠ 0 := fun h => by have := ht7 h; cases this
      replace ht7 : e7 = 0 → xa ≤ 99999999 ∧ xb ≤ 99999999 ∧ xc ≤ 99999999 ∧ xd ≤ 99999999 ∧ n ≤ 16 := fun h => absurd h h7
      clear h7
      replace ht7 := Lib.hid ht7
      replace hI7 := Lib.hid hI7
      replace hU7 := Lib.hid hU7
      clear hx7 hB hM hR6
      go_wp2_with fail
      go_meet
      exact ⟨e7, hR7, ht7.out, hI7, hU7⟩
    by_cases m4 : (n : Int) ≤ 16
    rotate_left
    · skip
      go_wp2_with fail
      refine (hM.out false).mono ?_
      rintro e v7 ⟨e7, rfl, hx7, ht7, hI7, hU7⟩
      have hB : (decide (xa ≤ 99999999) && decide (xb ≤ 99999999) && decide (xc ≤ 99999999) && decide (xd ≤ 99999999) && decide (n ≤ 16)) = false := by simp only [Bool.and_eq_false_iff, decide_eq_false_iff_not]; omega
      rw [← hB] at hx7
      have hR7 := Lib.hid (hR6.out.step hx7)
      have h7 : e7 ≠ 0 := fun h => by have := ht7 h; cases this
      replace ht7 : e7 = 0 → xa ≤ 99999999 ∧ xb ≤ 99999999 ∧ xc ≤ 99999999 ∧ xd ≤ 99999999 ∧ n ≤ 16 := fun h => absurd h h7
      clear h7
      replace ht7 := Lib.hid ht7
      replace hI7 := Lib.hid hI7
      replace hU7 := Lib.hid hU7
      clear hx7 hB hM hR6
      go_wp2_with fail
      go_meet
      exact ⟨e7, hR7, ht7.out, hI7, hU7⟩
    go_wp2_with fail
    refine (hM.out true).mono ?_
    rintro e v7 ⟨e7, rfl, hx7, ht7, hI7, hU7⟩
    have hB : (decide (xa ≤ 99999999) && decide (xb ≤ 99999999) && decide (xc ≤ 99999999) && decide (xd ≤ 99999999) && decide (n ≤ 16)) = true := by simp only [Bool.and_eq_true, decide_eq_true_eq]; omega
    rw [← hB] at hx7
    have hR7 := Lib.hid (hR6.out.step hx7)
    replace ht7 : e7 = 0 → xa ≤ 99999999 ∧ xb ≤ 99999999 ∧ xc ≤ 99999999 ∧ xd ≤ 99999999 ∧ n ≤ 16 := fun _ => by omega
    replace ht7 := Lib.hid ht7
    replace hI7 := Lib.hid hI7
    replace hU7 := Lib.hid hU7
    clear hx7 hB hM hR6
    go_wp2_with fail
    go_meet
    exact ⟨e7, hR7, ht7.out, hI7, hU7⟩
  case rest =>
    obtain ⟨e7, hR7, ht7, hI7, hU7⟩ := hcut
    have hS7 := Lib.hid (hS6.out.upon hU7.out (by omega))
    have hu7 := Lib.hid (hu6.out.trans' hU7.out (fun i hi e => by omega))
    clear hM
    have hxa := wrap_in xa
    have hxb := wrap_in xb
    have hxc := wrap_in xc
    have hxd := wrap_in xd
    have hsm : Hid (e7 = 0 → wrap64 (xa : Int) = (xa : Int) ∧ wrap64 (xb : Int) = (xb : Int) ∧ wrap64 (xc : Int) = (xc : Int) ∧ wrap64 (xd : Int) = (xd : Int) ∧ n ≤ 16) := Lib.hid (fun h => by
      obtain ⟨m0, m1, m2, m3, m4⟩ := ht7 h
      exact ⟨wrap_small m0, wrap_small m1, wrap_small m2, wrap_small m3, m4⟩)
    obtain ⟨XA, hXA⟩ : ∃ X, wrap64 (xa : Int) = X := ⟨_, rfl⟩
    obtain ⟨XB, hXB⟩ : ∃ X, wrap64 (xb : Int) = X := ⟨_, rfl⟩
    obtain ⟨XC, hXC⟩ : ∃ X, wrap64 (xc : Int) = X := ⟨_, rfl⟩
    obtain ⟨XD, hXD⟩ : ∃ X, wrap64 (xd : Int) = X := ⟨_, rfl⟩
    rw [hXA, hXB, hXC, hXD] at hsm
    rw [hXA] at hxa
    rw [hXB] at hxb
    rw [hXC] at hxc
    rw [hXD] at hxd
    have hR8 : Hid (Rc.Rest (namesK (fun l => Rc.retR ⟨XA, XB, XC, xk, XD, l⟩) n []) s6 e7 KK) := Lib.hid (by
      by_cases h : e7 = 0
      · obtain ⟨m0, m1, m2, m3, -⟩ := hsm.out h
        rw [m0, m1, m2, m3]; exact hR7.out
      · exact Rc.Rest.any (α := Unit) hR7.out h _)
    obtain ⟨w8, hw8⟩ : ∃ w8, wc.alloc (.cells #[.int .i64 XA, .int .i64 XB, .int .i64 XC, .int .i64 xk, .int .i64 XD, .slice none 0 0] 24 (0, 0)) = w8 := ⟨_, rfl⟩
    have n8 : New0 wc w8 := by rw [← hw8]; exact (Upon.refl _ wc).alloc _
    have hbox8 : Six 24 wc.heap.size ⟨.int .i64 XA, .int .i64 XB, .int .i64 XC, .int .i64 xk, .int .i64 XD, .slice none 0 0⟩ w8 := by rw [← hw8]; exact six_new _ wc ⟨.int .i64 XA, .int .i64 XB, .int .i64 XC, .int .i64 xk, .int .i64 XD, .slice none 0 0⟩
    have hPl : P < wc.heap.size := (Array.getElem?_eq_some_iff.1 hI7.out.1).1
    obtain ⟨g, hg⟩ : ∃ g, wc.heap.size = g := ⟨_, rfl⟩
    rw [hg] at hbox8 hPl
    have hG8 : Hid (Grw 24 75 (.string s6) (.int .i64 (e7 : Int)) w (fun x => x = P) P g w.heap.size XA XB XC xk XD (.slice none 0 0) [] w8) := Lib.hid (
      { rd := ⟨(n8.block P (by omega) (fun f => f)).trans hI7.out.1, fun _ => Iff.rfl⟩
        box := hbox8
        res := hS7.out.new n8
        row := Rw.Mine.nil _ _ _
        new := fun k hk => (by cases hk)
        up := (hu7.out.trans n8).mono fun _ _ f => f.elim
        lo := ⟨Nat.le_refl _, by omega⟩
        ne := ⟨by omega, by omega, by omega⟩ })
    have hu8 := Lib.hid (hu7.out.trans n8)
    replace hg := Lib.hid hg
    replace hw8 := Lib.hid hw8
    clear hR7 ht7 hI7 hU7 hS7 hu7 hS6 hu6 hR6 n8 hbox8
    go_upto_block 0 with fail
    rw [hw8.out, hg.out]
    clear hw8 hg
    replace hXA := Lib.hid hXA
    replace hXB := Lib.hid hXB
    replace hXC := Lib.hid hXC
    replace hXD := Lib.hid hXD
    go_cut [15] from 72 to 90 (fun ov wc => ∃ (s : ByteArray) (e : Nat) (vA : Option Addr) (vc : Nat) (l : List ByteArray), Hid (e = 0 → KK = .ok (⟨XA, XB, XC, xk, XD, l⟩, s.data.toList)) ∧ Hid (e ≠ 0 → KK = .error e) ∧ Hid (NBnd l) ∧ Hid (Grw 24 75 (.string s) (.int .i64 (e : Int)) w (fun x => x = P) P g w.heap.size XA XB XC xk XD (.slice vA l.length vc) l wc))
    case first =>
     clear hno hyes
     go_wp2_with fail
     go_loopw [15] (fun ov wr => ∃ (j : Nat) (s : ByteArray) (e : Nat) (v : Value) (l : List ByteArray), ov = .int .u64 (j : Int) ∧ j ≤ n ∧ s.size ≤ 1000000 ∧ l.length = j ∧ (e = 0 → e7 = 0) ∧ Hid (NBnd l) ∧ Hid (Rc.Rest (namesK (fun l => Rc.retR ⟨XA, XB, XC, xk, XD, l⟩) (n - j) l) s e KK) ∧ Hid (Grw 24 75 (.string s) (.int .i64 (e : Int)) w (fun x => x = P) P g w.heap.size XA XB XC xk XD v l wr)) (fun ov _ => n - (intOf ov).toNat)
     case atStart => exact ⟨0, s6, e7, _, [], rfl, Nat.zero_le _, hz6.out, rfl, fun h => h, Lib.hid (fun b hb => by cases hb), hR8, hG8⟩
     case round =>
      clear hR8 hG8 hu8
      obtain ⟨j, s, e, v, l, rfl, hj, hsz, hlj, he7, hnb, hR, hG⟩ := hrel
      obtain ⟨vA, vc, rfl, -, -⟩ := Rw.View.shape hG.out.row.view
      obtain ⟨c0, c1, f0, f1⟩ := Rw.box2See hG.out.rd
      by_cases he : e = 0
      · subst he
        obtain ⟨y0, y1, y2, y3, hn16⟩ := hsm.out (he7 rfl)
        replace y0 := Lib.hid y0
        replace y1 := Lib.hid y1
        replace y2 := Lib.hid y2
        replace y3 := Lib.hid y3
        by_cases hlt : j < n
        · have hHS := Lib.hid (fun w' hu => hG.out.held (w' := w') hu)
          have hCall := Lib.hid (fun w1 (hu : New0 wr w1) => dTxt (p := P) (s := s) (e := 0) (w := w1) ⟨(hu.block P (Array.getElem?_eq_some_iff.1 hG.out.rd.1).1 (fun f => f)).trans hG.out.rd.1, fun _ => Iff.rfl⟩ hsz)
          have hrow := Lib.hid hG.out.row
          have hpv := Lib.hid (fun k hk => (hG.out.new k hk).2.2.2)
          have hRs : Hid (Rc.Rest (Rc.bnd (Rc.txtR 32) fun t => namesK (fun l => Rc.retR ⟨XA, XB, XC, xk, XD, l⟩) (n - (j + 1)) (l ++ [t])) s 0 KK) := Lib.hid (by
            have h := hR.out
            rw [show n - j = n - (j + 1) + 1 by omega] at h
            exact h)
          have hwj : IntKind.u64.wrap ((j : Int) + 1) = ((j + 1 : Nat) : Int) := by rw [IntKind.wrap_u64]; omega
          have hll : l.length ≤ 16 := by omega
          clear hR
          replace hlj := Lib.hid hlj
          replace he7 := Lib.hid he7
          go_wp2_with fail
          refine HeldS.wp_region_S 7 (S := fun w' => w'.cell? ⟨g, 5, none⟩ = some (.slice vA l.length vc) ∧ w'.frozen? ⟨g, 5, none⟩ = false) (by kernel_rfl) (hHS.out _ (Upon.drew (Upon.refl _ _))) (fun hHeld => ?_)
          refine HeldS.wpAnyS_take (i := 0) [5, 1] (oi := _) (v := ?_) rfl (by kernel_rfl) (by kernel_rfl) (by kernel_rfl) (by kernel_rfl) (by kernel_rfl) (fun _ _ _ h => h) (Or.inl ⟨by rfl, ?_⟩) (by assumption) ?_
          rotate_left
          · (intro w hSw; (try dsimp only at hSw); go_simp; (try with_reducible rfl))
          (try simp only [Act.put, List.setIfInBounds_toArray, List.set_cons_zero, List.set_cons_succ])
          refine HeldS.wpAnyS_take (i := 1) [5] (oi := _) (v := ?_) rfl (by kernel_rfl) (by kernel_rfl) (by kernel_rfl) (by kernel_rfl) (by kernel_rfl) (fun _ _ _ h => h) (Or.inl ⟨by rfl, ?_⟩) (by assumption) ?_
          rotate_left
          · (intro w hSw; (try dsimp only at hSw); go_simp; (try with_reducible rfl))
          (try simp only [Act.put, List.setIfInBounds_toArray, List.set_cons_zero, List.set_cons_succ])
          refine HeldS.wpAnyS_take (i := 2) [5, 4, 3] (oi := _) (v := ?_) rfl (by kernel_rfl) (by kernel_rfl) (by kernel_rfl) (by kernel_rfl) (by kernel_rfl) (fun _ _ _ h => h) (Or.inl ⟨by rfl, ?_⟩) (by assumption) ?_
          rotate_left
          · (intro w hSw; (try dsimp only at hSw); go_simp; (try with_reducible rfl))
          (try simp only [Act.put, List.setIfInBounds_toArray, List.set_cons_zero, List.set_cons_succ])
          refine HeldS.wpAnyS_ready (rs := [3]) (by kernel_rfl) (by simp) ?_
          refine HeldS.AllS.cons (o := ⟨some 87, _, _, _, _, _⟩) rfl (fun K hK => ?_) HeldS.AllS.nil
          go_simp
          go_at_call 40
          refine (hCall.out _ (upon_drewN _ wr 1)).mono ?_
          rintro e wE ⟨a, s2, e2, rfl, hza, hzs, hx, hrd, hU⟩
          have uE : Upon (fun k => k = P ∨ (Value.slice vA l.length vc).ownBlock = some k) wr wE := (upon_drewN _ wr 1).trans (hU.mono fun _ _ e => .inl e)
          have hrE := Lib.hid (Rw.Mine.upon (hrow.out.new (upon_drewN _ wr 1)) hU (fun k hk e => hpv.out k hk e))
          go_simp
          refine hK.out _ _ (hHS.out _ uE) (fun hHeld => ?_)
          clear hK K
          (try simp only [Act.put, List.setIfInBounds_toArray, List.set_cons_zero, List.set_cons_succ])
          refine HeldS.wpAnyS_ready (rs := [4]) (by kernel_rfl) (by simp) ?_
          refine HeldS.AllS.cons (o := ⟨some 88, _, _, _, _, _⟩) rfl (fun K hK => ?_) HeldS.AllS.nil
          go_simp
          refine hK.out _ _ (hHS.out _ (uE.alloc _)) (fun hHeld => ?_)
          clear hK K
          (try simp only [Act.put, List.setIfInBounds_toArray, List.set_cons_zero, List.set_cons_succ])
          refine HeldS.wpAnyS_ready (rs := [5]) (by kernel_rfl) (by simp) ?_
          refine HeldS.AllS.cons (o := ⟨some 89, _, _, _, _, _⟩) rfl (fun K hK => ?_) HeldS.AllS.nil
          refine Rw.step_append typN (o := ⟨some 89, _, _, _, _, _⟩) (by rfl) _ _ (by rfl) (.slice vA l.length vc) _ l [a] All (by rfl) (by rfl) (hrE.out.new ((Upon.refl _ _).alloc _)) (nview_one wE a) (by rw [List.length_singleton]; omega) (by rw [List.length_singleton]; omega) ?_
          intro v' x hown hg hbl
          obtain ⟨A8, c8, rfl, -, -⟩ := Rw.View.shape (show NMine x v' (l ++ [a]) from hown).view
          have hSx := hHS.out x (Upon.grown (uE.alloc _) hg (fun k hk => .inl (.inr hk)))
          refine hK.out _ _ hSx (fun hHeld => ?_)
          clear hK K
          (try simp only [Act.put, List.setIfInBounds_toArray, List.set_cons_zero, List.set_cons_succ])
          refine HeldS.wpAnyS_take (i := 6) [] (oi := _) (v := ?_) rfl (by kernel_rfl) (by kernel_rfl) (by kernel_rfl) (by kernel_rfl) (by kernel_rfl) (fun _ _ _ h => h) (Or.inl ⟨by rfl, ?_⟩) (by assumption) ?_
          rotate_left
          · (intro w hSw; (try dsimp only at hSw); go_simp; (try with_reducible rfl))
          (try simp only [Act.put, List.setIfInBounds_toArray, List.set_cons_zero, List.set_cons_succ])
          refine HeldS.wpAnyS_ready (rs := [7]) (by kernel_rfl) (by simp) ?_
          refine HeldS.AllS.last (s := 7) (o := ⟨none, _, _, _, _, _⟩) rfl (fun K hK => ?_) HeldS.AllS.nil
          obtain ⟨px1, pf1⟩ := hHeld
          go_simp
          refine hK.out _ _ ?_
          clear hK K
          (try simp only [Act.put, List.setIfInBounds_toArray, List.set_cons_zero, List.set_cons_succ])
          refine HeldS.wpAnyS_done (by kernel_rfl) ?_ _
          have hG2 := hG.out.more hrd (upon_drewN _ wr 1) hU hown hg hbl
          rw [show (l ++ [a]).length = l.length + 1 from by rw [List.length_append]; rfl] at hG2
          replace hG2 := Lib.hid hG2
          have hR2 := Lib.hid (hRs.out.step hx)
          have hnb2 : Hid (NBnd (l ++ [a])) := Lib.hid (fun b hb => by
            rcases List.mem_append.1 hb with hb | hb
            · exact hnb.out b hb
            · rw [List.mem_singleton.1 hb]; omega)
          have hl2 : Hid ((l ++ [a]).length = j + 1) := Lib.hid (by rw [List.length_append, hlj.out]; rfl)
          clear hHS hCall hrow hpv hRs hrd hU uE hrE hown hg hbl hSx px1 pf1 hG hnb hx c0 c1 f0 f1
          go_wp2_with fail
          go_roundw
          case rel => exact ⟨j + 1, s2, e2, _, l ++ [a], by go_num, hlt, hzs, hl2.out, fun _ => he7.out trivial, hnb2, hR2, hG2⟩
          case measure => simp [intOf]; omega
        · have hjn : j = n := by omega
          subst hjn
          have hK : Hid (KK = .ok (⟨XA, XB, XC, xk, XD, l⟩, s.data.toList)) := Lib.hid (by
            have h := hR.out
            rw [show j - j = 0 by omega] at h
            exact (Rc.Rest.ret h).1 rfl)
          clear hR
          replace hlj := Lib.hid hlj
          go_wp2_with fail
          go_meet
          exact ⟨s, 0, vA, vc, l, Lib.hid (fun _ => hK.out), Lib.hid (fun h => absurd rfl h), hnb, hG⟩
      · have hK : Hid (KK = .error e) := Lib.hid ((show (e ≠ 0 → KK = .error e) from hR.out.2) he)
        have de : ((e : Int) == 0) = false := by rw [beq_eq_false_iff_ne]; omega
        have he2 := Lib.hid he
        clear hR he he7
        replace hlj := Lib.hid hlj
        by_cases hlt : j < n
        · go_wp2_with fail
          go_meet
          exact ⟨s, e, vA, vc, l, Lib.hid (fun h => absurd h he2.out), Lib.hid (fun _ => hK.out), hnb, hG⟩
        · go_wp2_with fail
          go_meet
          exact ⟨s, e, vA, vc, l, Lib.hid (fun h => absurd h he2.out), Lib.hid (fun _ => hK.out), hnb, hG⟩
    case rest =>
      clear hR8 hG8 hu8 hsm hXA hXB hXC hXD
      obtain ⟨s, e, vA, vc, l, hK0, hKe, hnb, hG⟩ := hcut
      have hB : Hid (Bnd ⟨XA, XB, XC, xk, XD, l⟩) := Lib.hid ⟨⟨hxa, hxb, hxc, hb4, hxd⟩, hnb.out⟩
      have hok : Hid (e = 0 → (chk ⟨XA, XB, XC, xk, XD, l⟩ = 0 → encS ⟨XA, XB, XC, xk, XD, l⟩ = s0 → Dec s0 ⟨XA, XB, XC, xk, XD, l⟩ 0) ∧ (chk ⟨XA, XB, XC, xk, XD, l⟩ ≠ 0 ∨ encS ⟨XA, XB, XC, xk, XD, l⟩ ≠ s0 → Dec s0 zero 3)) := Lib.hid (fun h => hyes.out _ _ (hK0.out h) hb4)
      have hbd : Hid (e ≠ 0 → Dec s0 zero 3) := Lib.hid (fun h => hno.out _ (hKe.out h))
      clear hK0 hKe hno hyes hnb hxa hxb hxc hxd hb4
      obtain ⟨k0, k1, k2, k3, k4, k5⟩ := hG.out.box.cells
      have hVw : Hid (MView wc All (.agg #[.int .i64 XA, .int .i64 XB, .int .i64 XC, .int .i64 xk, .int .i64 XD, .slice vA l.length vc]) ⟨XA, XB, XC, xk, XD, l⟩) := Lib.hid ⟨⟨vA, l.length, vc⟩, rfl, hG.out.row.view.all⟩
      have HE := Lib.hid (refenc_any wc _ _ _ hVw.out hB.out)
      clear hVw
      go_wp2_with fail
      refine HE.out.mono ?_
      rintro e1 v9 ⟨rfl, hn9⟩
      have hG9 := Lib.hid (hG.out.keep hn9)
      clear HE hn9 hG k0 k1 k2 k3 k4 k5
      obtain ⟨c0, c1, f0, f1⟩ := Rw.box2See hG9.out.rd
      have hres9 := Lib.hid hG9.out.res
      have hu9 := Lib.hid (hG9.out.isNew (by omega))
      obtain ⟨M, hM⟩ : ∃ M : Mf.M, (⟨XA, XB, XC, xk, XD, l⟩ : Mf.M) = M := ⟨_, rfl⟩
      rw [hM] at hok
      rw [hM]
      go_upto_region 18 with fail
      go_cut [109] from 96 to 109 (fun cv wx => ∃ c : Bool, cv = .bool c ∧ wx = v9 ∧ Hid (c = true → Dec s0 zero 3) ∧ Hid (c = false → Dec s0 M 0))
      case first =>
        clear hres9 hu9 hB hM hG9
        by_cases he : e = 0
        · subst he
          by_cases hz : chk M = 0
          · by_cases hc : encS M = s0
            · have hD := Lib.hid ((hok.out rfl).1 hz hc)
              have dz : (chk M != 0) = false := by rw [hz]; rfl
              have dc : ((encS M).toList == s0.toList) = true := by rw [hc]; exact beq_self_eq_true _
              clear hok hbd hc hz
              go_wp2_with fail
              go_meet
              exact ⟨false, rfl, rfl, Lib.hid (fun h => by cases h), Lib.hid (fun _ => hD.out)⟩
            · have hD := Lib.hid ((hok.out rfl).2 (.inr hc))
              have dz : (chk M != 0) = false := by rw [hz]; rfl
              have dc : ((encS M).toList == s0.toList) = false := Frm.neq_lists hc
              clear hok hbd hc hz
              go_wp2_with fail
              go_meet
              exact ⟨true, rfl, rfl, Lib.hid (fun _ => hD.out), Lib.hid (fun h => by cases h)⟩
          · have hD := Lib.hid ((hok.out rfl).2 (.inl hz))
            have dz : (chk M != 0) = true := by rw [bne_iff_ne]; exact hz
            clear hok hbd hz
            go_wp2_with fail
            go_meet
            exact ⟨true, rfl, rfl, Lib.hid (fun _ => hD.out), Lib.hid (fun h => by cases h)⟩
        · have hD := Lib.hid (hbd.out he)
          have de2 : ((e : Int) != 0) = true := by rw [bne_iff_ne]; omega
          clear hok hbd he
          go_wp2_with fail
          go_meet
          exact ⟨true, rfl, rfl, Lib.hid (fun _ => hD.out), Lib.hid (fun h => by cases h)⟩
      case rest =>
        clear hok hbd
        obtain ⟨c, rfl, hwx, hD1, hD2⟩ := hcut
        obtain rfl := hwx.symm
        cases c with
        | true =>
          have hD := Lib.hid (hD1.out rfl)
          clear hD1 hD2 hB hM hG9
          obtain ⟨c0, c1, c2, c3, c4, c5⟩ := hres9.out.cells
          have z0 := hres9.out.frozen 0
          obtain ⟨⟨p1, q1⟩, ⟨p2, q2⟩, ⟨p3, q3⟩, ⟨p4, q4⟩, ⟨p5, q5⟩⟩ := hres9.out.roads svZ
          have hfz := hres9.out.setAll svZ
          have huz : New0 w (setSix w.heap.size svZ _) := upon_setSix hu9.out (.inr (Nat.le_refl _))
          obtain ⟨r0, r1, r2, r3, r4, r5⟩ := hfz.cells
          dsimp only [svZ, setSix] at c0 c1 c2 c3 c4 c5 p1 q1 p2 q2 p3 q3 p4 q4 p5 q5 r0 r1 r2 r3 r4 r5 huz
          have hend := Lib.hid (DecE.no hD.out huz)
          clear huz hfz hres9 hu9
          go_wp2_with fail
          refine bodyPost_ret (v := .tuple #[.agg #[.int .i64 0, .int .i64 0, .int .i64 0, .int .i64 0, .int .i64 0, .slice none 0 0], .int .i64 3]) (by simp [results, Tryd.results13, go_sem, r0, r1, r2, r3, r4, r5]) rfl ?_
          exact hend.out
        | false =>
          have hD := Lib.hid (hD2.out rfl)
          obtain ⟨k0, k1, k2, k3, k4, k5⟩ := hG9.out.box.cells
          obtain ⟨c0, c1, c2, c3, c4, c5⟩ := hres9.out.cells
          have z0 := hres9.out.frozen 0
          obtain ⟨⟨p1, q1⟩, ⟨p2, q2⟩, ⟨p3, q3⟩, ⟨p4, q4⟩, ⟨p5, q5⟩⟩ := hres9.out.roads ⟨.int .i64 XA, .int .i64 XB, .int .i64 XC, .int .i64 xk, .int .i64 XD, .slice vA l.length vc⟩
          obtain ⟨hF, hO, hV⟩ := hG9.out.last
          have huz : New0 w (setSix w.heap.size ⟨.int .i64 XA, .int .i64 XB, .int .i64 XC, .int .i64 xk, .int .i64 XD, .slice vA l.length vc⟩ v9) := upon_setSix hu9.out (.inr (Nat.le_refl _))
          obtain ⟨r0, r1, r2, r3, r4, r5⟩ := hF.cells
          dsimp only [svZ, setSix] at c0 c1 c2 c3 c4 c5 p1 q1 p2 q2 p3 q3 p4 q4 p5 q5 r0 r1 r2 r3 r4 r5
          subst hM
          have hend : Hid (DecE w s0 (.returned (.tuple #[.agg #[.int .i64 XA, .int .i64 XB, .int .i64 XC, .int .i64 xk, .int .i64 XD, .slice vA l.length vc], .int .i64 0])) (setSix w.heap.size ⟨.int .i64 XA, .int .i64 XB, .int .i64 XC, .int .i64 xk, .int .i64 XD, .slice vA l.length vc⟩ v9)) := Lib.hid ⟨⟨XA, XB, XC, xk, XD, l⟩, 0, ⟨vA, l.length, vc⟩, rfl, hD.out, hV, hB.out, huz⟩
          dsimp only [setSix] at hend
          clear hD1 hD2 hF hO hV huz hres9 hu9 hG9 hB hD
          go_wp2_with fail
          refine bodyPost_ret (v := .tuple #[.agg #[.int .i64 XA, .int .i64 XB, .int .i64 XC, .int .i64 xk, .int .i64 XD, .slice vA l.length vc], .int .i64 0]) (by simp [results, Tryd.results13, go_sem, r0, r1, r2, r3, r4, r5]) rfl ?_
          exact hend.out
end Mf
end Go.Proofs.YtjpgglajcelllaaDoor
