/- The program's manifests (layer 17): its reader's manifest. Written by wip/tools/mfman.py. -/
import Derived.Test.YtjpgglajcelllaaDoorEMfRead
import Derived.Test.YtjpgglajcelllaaDoorEMfGrow
set_option maxRecDepth 100000
namespace Go.Proofs.YtjpgglajcelllaaDoor
open Go.RowKit
namespace Mf
open Bit Dsk Ob Dig
set_option linter.unusedVariables false
set_option linter.unusedSimpArgs false
/-- The reader's own, the manifest that grows, the result's block. -/
abbrev Rdg (w : World) (S : Nat → Prop) (p g r : Nat) (E B P K C : Int) (s : ByteArray) (b : Bool) := Grw 26 70 (.string s) (.bool b) w S p g r E B P K C
/-- What manifest tells. -/
def ManE (w : World) (S : Nat → Prop) (p : Nat) (sl : List UInt8) (e : Ending) (w' : World) : Prop := ∃ (m : M) (s' : ByteArray) (b' : Bool) (u : Rw.Sl), e = .returned (mv m u) ∧ NView w' (Lb.Nw w) u.v m.blocks ∧ Bnd m ∧ ObjStep (RdO p s' b') S w w' ∧ Rb (Rc.retR m) s' b' (allP sl)
set_option maxHeartbeats 12800000 in
theorem pman_any (w : World) (S : Nat → Prop) (p : Nat) (s : ByteArray) (hs : s.size ≤ 1000000) (h : RdO p s false w S) :
    Calls Tryd.prog 35 #[.pointer (some ⟨p, 0, none⟩)] w (ManE w S p s.data.toList) := by
  obtain ⟨KK, hKK⟩ : ∃ KK, allP s.data.toList = KK := ⟨_, rfl⟩
  have hr0 : Rb allP s false KK := by rw [← hKK]; exact Rb.start _ _
  have hpost : Hid (∀ e w', (∃ (m : M) (s' : ByteArray) (b' : Bool) (u : Rw.Sl), e = .returned (mv m u) ∧ NView w' (Lb.Nw w) u.v m.blocks ∧ Bnd m ∧ ObjStep (RdO p s' b') S w w' ∧ Rb (Rc.retR m) s' b' KK) → ManE w S p s.data.toList e w') := Lib.hid (fun e w' h => by unfold ManE; rw [hKK]; exact h)
  clear hKK
  have hSp : Hid (∀ x, S x ↔ x = p) := Lib.hid h.2
  have hpl := (Rw.thingBox2 _ _ _ _).lt _ _ h p ((h.2 p).2 rfl)
  obtain ⟨w0, hw0⟩ : ∃ w0, w.alloc (.cells #[.int .i64 0, .int .i64 0, .int .i64 0, .int .i64 0, .int .i64 0, .slice none 0 0] 26 (0, 0)) = w0 := ⟨_, rfl⟩
  have hres0 : Six 26 w.heap.size svZ w0 := by rw [← hw0]; exact six_new _ w svZ
  have u0 : New0 w w0 := by rw [← hw0]; exact (Upon.refl _ w).alloc _
  have hz0 : w0.heap.size = w.heap.size + 1 := by rw [← hw0]; simp
  have H0 : ObjStep (RdO p s false) S w w0 := (ObjStep.refl h).upon0 (thingRd _ _ _) u0
  have hN : Hid (∀ (most : Nat) (s : ByteArray) (b : Bool) w1, s.size ≤ 1000000 → most ≤ 99999999 → ObjStep (RdO p s b) S w w1 → Calls Tryd.prog 76 #[.pointer (some ⟨p, 0, none⟩), .int .u64 (most : Int)] w1 fun e w' => ∃ (a : Nat) (s' : ByteArray) (b' : Bool), e = .returned (.int .i64 (a : Int)) ∧ a ≤ most ∧ s'.size ≤ 1000000 ∧ Nb (uptoR most) s b a s' b' ∧ ObjStep (RdO p s' b') S w w' ∧ Upon (fun k => k = p) w1 w') := Lib.hid (fun most s b w1 hs hm h1 => by
    obtain ⟨T, h2, go⟩ := h1.get
    refine (number_any w1 T p s b (by omega) most hm h2).mono ?_
    rintro e w' ⟨a, s', b', rfl, k1, k2, k3, k4, k5⟩
    exact ⟨a, s', b', rfl, k1, by omega, k4, go _ _ k5, k5.upon.mono fun i _ hi => (h2.2 i).1 hi⟩)
  have hTm : Hid (∀ (s : ByteArray) (b : Bool) w1, s.size ≤ 1000000 → ObjStep (RdO p s b) S w w1 → Calls Tryd.prog 77 #[.pointer (some ⟨p, 0, none⟩)] w1 fun e w' => ∃ (a : Int) (s' : ByteArray) (b' : Bool), e = .returned (.int .i64 a) ∧ (-9223372036854775808 ≤ a ∧ a ≤ 9223372036854775807) ∧ s'.size ≤ 1000000 ∧ Nb Rc.sgnR s b a s' b' ∧ ObjStep (RdO p s' b') S w w' ∧ Upon (fun k => k = p) w1 w') := Lib.hid (fun s b w1 hs h1 => by
    obtain ⟨T, h2, go⟩ := h1.get
    refine (time_any w1 T p s b (by omega) h2).mono ?_
    rintro e w' ⟨a, s', b', rfl, k1, k3, k4, k5⟩
    exact ⟨a, s', b', rfl, k1, by omega, k4, go _ _ k5, k5.upon.mono fun i _ hi => (h2.2 i).1 hi⟩)
  have hNm : Hid (∀ (s : ByteArray) (b : Bool) w1, s.size ≤ 1000000 → RdO p s b w1 S → Calls Tryd.prog 78 #[.pointer (some ⟨p, 0, none⟩)] w1 fun e w' => ∃ (a s' : ByteArray) (b' : Bool), e = .returned (.string a) ∧ a.size ≤ 1000000 ∧ s'.size ≤ 1000000 ∧ Nb (Rc.txtR 32) s b a s' b' ∧ RdO p s' b' w' S ∧ Upon (fun k => k = p) w1 w') := Lib.hid (fun s b w1 hs h2 => by
    refine (name_any w1 S p s b (by omega) h2).mono ?_
    rintro e w' ⟨a, s', b', rfl, k1, k3, k4, k5⟩
    obtain ⟨S', q1, -, -⟩ := k5.obj
    exact ⟨a, s', b', rfl, by omega, by omega, k4, ⟨q1.1, h2.2⟩, k5.upon.mono fun i _ hi => (h2.2 i).1 hi⟩)
  replace hw0 := Lib.hid hw0
  replace H0 := Lib.hid H0
  replace hr0 := Lib.hid hr0
  replace hres0 := Lib.hid hres0
  replace u0 := Lib.hid u0
  clear h
  go_enter Tryd.func35, Tryd.ntmps35
  go_wp2_with fail
  rw [hw0.out]
  refine (hN.out 99999999 _ _ w0 hs (by decide) H0.out).mono ?_
  rintro e v1 ⟨xa, s1, b1, rfl, hb1, hz1, hx1, hO1, hU1⟩
  have hR1 := Lib.hid (hr0.out.step hx1)
  have hS1 := Lib.hid (hres0.out.upon hU1 (by have := hpl; omega))
  replace hO1 := Lib.hid hO1
  clear hx1 hU1 H0 hr0 hres0
  go_wp2_with fail
  refine (hN.out 99999999 _ _ v1 hz1 (by decide) hO1.out).mono ?_
  rintro e v2 ⟨xb, s2, b2, rfl, hb2, hz2, hx2, hO2, hU2⟩
  have hR2 := Lib.hid (hR1.out.step hx2)
  have hS2 := Lib.hid (hS1.out.upon hU2 (by have := hpl; omega))
  replace hO2 := Lib.hid hO2
  clear hx2 hU2 hO1 hR1 hS1
  go_wp2_with fail
  refine (hN.out 99999999 _ _ v2 hz2 (by decide) hO2.out).mono ?_
  rintro e v3 ⟨xc, s3, b3, rfl, hb3, hz3, hx3, hO3, hU3⟩
  have hR3 := Lib.hid (hR2.out.step hx3)
  have hS3 := Lib.hid (hS2.out.upon hU3 (by have := hpl; omega))
  replace hO3 := Lib.hid hO3
  clear hx3 hU3 hO2 hR2 hS2
  go_wp2_with fail
  refine (hTm.out _ _ v3 hz3 hO3.out).mono ?_
  rintro e v4 ⟨xk, s4, b4, rfl, hb4, hz4, hx4, hO4, hU4⟩
  have hR4 := Lib.hid (hR3.out.step hx4)
  have hS4 := Lib.hid (hS3.out.upon hU4 (by have := hpl; omega))
  replace hO4 := Lib.hid hO4
  clear hx4 hU4 hO3 hR3 hS3
  go_wp2_with fail
  refine (hN.out 99999999 _ _ v4 hz4 (by decide) hO4.out).mono ?_
  rintro e v5 ⟨xd, s5, b5, rfl, hb5, hz5, hx5, hO5, hU5⟩
  have hR5 := Lib.hid (hR4.out.step hx5)
  have hS5 := Lib.hid (hS4.out.upon hU5 (by have := hpl; omega))
  replace hO5 := Lib.hid hO5
  clear hx5 hU5 hO4 hR4 hS4
  have hsz5 := hO5.out.upon.size
  have hzl := hS5.out.lt
  obtain ⟨w6, hw6⟩ : ∃ w6, v5.alloc (.cells #[.int .i64 (xa : Int), .int .i64 (xb : Int), .int .i64 (xc : Int), .int .i64 xk, .int .i64 (xd : Int), .slice none 0 0] 26 (0, 0)) = w6 := ⟨_, rfl⟩
  have u6 : New0 v5 w6 := by rw [← hw6]; exact (Upon.refl _ v5).alloc _
  have hbox6 : Six 26 v5.heap.size ⟨.int .i64 (xa : Int), .int .i64 (xb : Int), .int .i64 (xc : Int), .int .i64 xk, .int .i64 (xd : Int), .slice none 0 0⟩ w6 := by rw [← hw6]; exact six_new _ v5 ⟨.int .i64 (xa : Int), .int .i64 (xb : Int), .int .i64 (xc : Int), .int .i64 xk, .int .i64 (xd : Int), .slice none 0 0⟩
  have hO6 := Lib.hid (hO5.out.upon0 (thingRd _ _ _) u6)
  have hS6 := Lib.hid (hS5.out.new u6)
  replace hbox6 := Lib.hid hbox6
  obtain ⟨g, hg⟩ : ∃ g, v5.heap.size = g := ⟨_, rfl⟩
  rw [hg] at hbox6 hzl
  replace hg := Lib.hid hg
  replace hw6 := Lib.hid hw6
  clear hO5 hS5 u6
  go_wp2_with fail
  rw [hw6.out, hg.out]
  refine (hN.out 16 _ _ w6 hz5 (by decide) hO6.out).mono ?_
  rintro e w7 ⟨n, s7, b7, rfl, hn, hz7, hx7, hO7, hU7⟩
  have hR7 := Lib.hid (hR5.out.step hx7)
  have hG7 : Hid (Rdg w S p g w.heap.size (xa : Int) (xb : Int) (xc : Int) xk (xd : Int) s7 b7 (.slice none 0 0) [] w7) := Lib.hid (by
    obtain ⟨T, hT, -, -⟩ := hO7.obj
    exact { rd := ⟨hT.1, hSp.out⟩
            box := hbox6.out.upon hU7 (by omega)
            res := hS6.out.upon hU7 (by omega)
            row := Rw.Mine.nil _ _ _
            new := fun k hk => (by cases hk)
            up := hO7.upon
            lo := ⟨Nat.le_refl _, by omega⟩
            ne := ⟨by omega, by omega, by omega⟩ })
  clear hx7 hO7 hU7 hR5 hO6 hS6 hbox6 hw6 hg hN hTm
  go_wp2_with fail
  go_loopw [17] (fun ov wr => ∃ (j : Nat) (s : ByteArray) (b : Bool) (v : Value) (l : List ByteArray), ov = .int .i64 (j : Int) ∧ j ≤ n ∧ s.size ≤ 1000000 ∧ l.length = j ∧ Hid (NBnd l) ∧ Hid (Rb (namesK (fun l => Rc.retR ⟨(xa : Int), (xb : Int), (xc : Int), xk, (xd : Int), l⟩) (n - j) l) s b KK) ∧ Hid (Rdg w S p g w.heap.size (xa : Int) (xb : Int) (xc : Int) xk (xd : Int) s b v l wr)) (fun ov _ => n - (intOf ov).toNat)
  case atStart => exact ⟨0, s7, b7, _, [], rfl, Nat.zero_le _, hz7, rfl, Lib.hid (fun b hb => by cases hb), hR7, hG7⟩
  case round =>
    clear hR7 hG7
    obtain ⟨j, s, b, v, l, rfl, hj, hsz, hlj, hnb, hR, hG⟩ := hrel
    obtain ⟨vA, vc, rfl, -, -⟩ := Rw.View.shape hG.out.row.view
    by_cases hlt : j < n
    · have hHS := Lib.hid (fun w' hu => hG.out.held (w' := w') hu)
      have hCall := Lib.hid (fun w1 (hu : New0 wr w1) => hNm.out s b w1 hsz ((thingRd p s b).kept wr w1 S hG.out.rd (fun x hx => hu.block x ((thingRd p s b).lt wr S hG.out.rd x hx) (fun f => f)) hu.size))
      have hrow := Lib.hid hG.out.row
      have hpv := Lib.hid (fun k hk => (hG.out.new k hk).2.2.2)
      have hRs : Hid (Rb (Rc.bnd (Rc.txtR 32) fun t => namesK (fun l => Rc.retR ⟨(xa : Int), (xb : Int), (xc : Int), xk, (xd : Int), l⟩) (n - (j + 1)) (l ++ [t])) s b KK) := Lib.hid (by
        have h := hR.out
        rw [show n - j = n - (j + 1) + 1 by omega] at h
        exact h)
      clear hR
      replace hlj := Lib.hid hlj
      have hll : l.length ≤ 16 := by have := hlj.out; omega
      go_wp2_with fail
      refine HeldS.wp_region_S 7 (S := fun w' => w'.cell? ⟨g, 5, none⟩ = some (.slice vA l.length vc) ∧ w'.frozen? ⟨g, 5, none⟩ = false) (by kernel_rfl) (hHS.out _ (Upon.drew (Upon.refl _ _))) (fun hHeld => ?_)
      refine HeldS.wpAnyS_take (i := 0) [5, 1] (oi := _) (v := ?_) rfl (by kernel_rfl) (by kernel_rfl) (by kernel_rfl) (by kernel_rfl) (by kernel_rfl) (fun _ _ _ h => h) (Or.inl ⟨by rfl, ?_⟩) (by assumption) ?_
      rotate_left
      · (intro w hSw; (try dsimp only at hSw); go_simp; (try with_reducible rfl))
      (try simp only [Act.put, List.setIfInBounds_toArray, List.set_cons_zero, List.set_cons_succ])
      refine HeldS.wpAnyS_take (i := 1) [5] (oi := _) (v := ?_) rfl (by kernel_rfl) (by kernel_rfl) (by kernel_rfl) (by kernel_rfl) (by kernel_rfl) (fun _ _ _ h => h) (Or.inl ⟨by rfl, ?_⟩) (by assumption) ?_
      rotate_left
      · (intro w hSw; (try dsimp only at hSw); go_simp; (try with_reducible rfl))
      (try simp only [Act.put, List.setIfInBounds_toArray, List.set_cons_zero, List.set_cons_succ])
      refine HeldS.wpAnyS_take (i := 2) [5, 4, 3] (oi := _) (v := ?_) rfl (by kernel_rfl) (by kernel_rfl) (by kernel_rfl) (by kernel_rfl) (by kernel_rfl) (fun _ _ _ h => h) (Or.inl ⟨by rfl, ?_⟩) (by assumption) ?_
      rotate_left
      · (intro w hSw; (try dsimp only at hSw); go_simp; (try with_reducible rfl))
      (try simp only [Act.put, List.setIfInBounds_toArray, List.set_cons_zero, List.set_cons_succ])
      refine HeldS.wpAnyS_ready (rs := [3]) (by kernel_rfl) (by simp) ?_
      refine HeldS.AllS.cons (o := ⟨some 22, _, _, _, _, _⟩) rfl (fun K hK => ?_) HeldS.AllS.nil
      go_simp
      go_at_call 78
      refine (hCall.out _ (upon_drewN _ wr 1)).mono ?_
      rintro e wE ⟨a, s2, b2, rfl, hza, hzs, hx, hrd, hU⟩
      have uE : Upon (fun k => k = p ∨ (Value.slice vA l.length vc).ownBlock = some k) wr wE := (upon_drewN _ wr 1).trans (hU.mono fun _ _ e => .inl e)
      have hrE := Lib.hid (Rw.Mine.upon (hrow.out.new (upon_drewN _ wr 1)) hU (fun k hk e => hpv.out k hk e))
      go_simp
      refine hK.out _ _ (hHS.out _ uE) (fun hHeld => ?_)
      clear hK K
      (try simp only [Act.put, List.setIfInBounds_toArray, List.set_cons_zero, List.set_cons_succ])
      refine HeldS.wpAnyS_ready (rs := [4]) (by kernel_rfl) (by simp) ?_
      refine HeldS.AllS.cons (o := ⟨some 23, _, _, _, _, _⟩) rfl (fun K hK => ?_) HeldS.AllS.nil
      go_simp
      refine hK.out _ _ (hHS.out _ (uE.alloc _)) (fun hHeld => ?_)
      clear hK K
      (try simp only [Act.put, List.setIfInBounds_toArray, List.set_cons_zero, List.set_cons_succ])
      refine HeldS.wpAnyS_ready (rs := [5]) (by kernel_rfl) (by simp) ?_
      refine HeldS.AllS.cons (o := ⟨some 24, _, _, _, _, _⟩) rfl (fun K hK => ?_) HeldS.AllS.nil
      refine Rw.step_append typN (o := ⟨some 24, _, _, _, _, _⟩) (by rfl) _ _ (by rfl) (.slice vA l.length vc) _ l [a] All (by rfl) (by rfl) (hrE.out.new ((Upon.refl _ _).alloc _)) (nview_one wE a) (by rw [List.length_singleton]; omega) (by rw [List.length_singleton]; omega) ?_
      intro v' x hown hg hbl
      obtain ⟨A8, c8, rfl, -, -⟩ := Rw.View.shape (show NMine x v' (l ++ [a]) from hown).view
      have hSx := hHS.out x (Upon.grown (uE.alloc _) hg (fun k hk => .inl (.inr hk)))
      refine hK.out _ _ hSx (fun hHeld => ?_)
      clear hK K
      (try simp only [Act.put, List.setIfInBounds_toArray, List.set_cons_zero, List.set_cons_succ])
      refine HeldS.wpAnyS_take (i := 6) [] (oi := _) (v := ?_) rfl (by kernel_rfl) (by kernel_rfl) (by kernel_rfl) (by kernel_rfl) (by kernel_rfl) (fun _ _ _ h => h) (Or.inl ⟨by rfl, ?_⟩) (by assumption) ?_
      rotate_left
      · (intro w hSw; (try dsimp only at hSw); go_simp; (try with_reducible rfl))
      (try simp only [Act.put, List.setIfInBounds_toArray, List.set_cons_zero, List.set_cons_succ])
      refine HeldS.wpAnyS_ready (rs := [7]) (by kernel_rfl) (by simp) ?_
      refine HeldS.AllS.last (s := 7) (o := ⟨none, _, _, _, _, _⟩) rfl (fun K hK => ?_) HeldS.AllS.nil
      obtain ⟨px1, pf1⟩ := hHeld
      go_simp
      refine hK.out _ _ ?_
      clear hK K
      (try simp only [Act.put, List.setIfInBounds_toArray, List.set_cons_zero, List.set_cons_succ])
      refine HeldS.wpAnyS_done (by kernel_rfl) ?_ _
      have hG2 := hG.out.more hrd (upon_drewN _ wr 1) hU hown hg hbl
      rw [show (l ++ [a]).length = l.length + 1 from by rw [List.length_append]; rfl] at hG2
      replace hG2 := Lib.hid hG2
      have hR2 := Lib.hid (hRs.out.step hx)
      have hnb2 : Hid (NBnd (l ++ [a])) := Lib.hid (fun b hb => by
        rcases List.mem_append.1 hb with hb | hb
        · exact hnb.out b hb
        · rw [List.mem_singleton.1 hb]; omega)
      have hl2 : Hid ((l ++ [a]).length = j + 1) := Lib.hid (by rw [List.length_append, hlj.out]; rfl)
      clear hHS hCall hrow hpv hRs hrd hU uE hrE hown hg hbl hSx px1 pf1 hG hnb hx
      go_wp2_with fail
      go_roundw
      case rel => exact ⟨j + 1, s2, b2, _, l ++ [a], by go_num, hlt, hzs, hl2.out, hnb2, hR2, hG2⟩
      case measure => simp [intOf]; omega
    · have hjn : j = n := by omega
      subst hjn
      have hR2 : Hid (Rb (Rc.retR ⟨(xa : Int), (xb : Int), (xc : Int), xk, (xd : Int), l⟩) s b KK) := Lib.hid (by
        have h := hR.out
        rw [show j - j = 0 by omega] at h
        exact h)
      have hB : Hid (Bnd ⟨(xa : Int), (xb : Int), (xc : Int), xk, (xd : Int), l⟩) := Lib.hid ⟨⟨by simp only; omega, by simp only; omega, by simp only; omega, hb4, by simp only; omega⟩, hnb.out⟩
      obtain ⟨k0, k1, k2, k3, k4, k5⟩ := hG.out.box.cells
      obtain ⟨c0, c1, c2, c3, c4, c5⟩ := hG.out.res.cells
      have z0 := hG.out.res.frozen 0
      obtain ⟨⟨p1, q1⟩, ⟨p2, q2⟩, ⟨p3, q3⟩, ⟨p4, q4⟩, ⟨p5, q5⟩⟩ := hG.out.res.roads ⟨.int .i64 (xa : Int), .int .i64 (xb : Int), .int .i64 (xc : Int), .int .i64 xk, .int .i64 (xd : Int), .slice vA l.length vc⟩
      have hend := Lib.hid (hG.out.last)
      replace hlj := Lib.hid hlj
      simp only [svZ] at c0 c1 c2 c3 c4 c5
      clear hR hnb hNm hG
      go_wp2_with fail
      obtain ⟨hF, hO, hV⟩ := hend.out
      obtain ⟨r0, r1, r2, r3, r4, r5⟩ := hF.cells
      unfold setSix at r0 r1 r2 r3 r4 r5 hO hV
      refine bodyPost_ret (v := .agg #[.int .i64 (xa : Int), .int .i64 (xb : Int), .int .i64 (xc : Int), .int .i64 xk, .int .i64 (xd : Int), .slice vA l.length vc]) (by simp [results, Tryd.results35, go_sem, r0, r1, r2, r3, r4, r5]) rfl ?_
      exact hpost.out _ _ ⟨_, s, b, ⟨vA, l.length, vc⟩, rfl, hV, hB.out, hO, hR2.out⟩
end Mf
end Go.Proofs.YtjpgglajcelllaaDoor
