/- Layer 13: the law HeadDoes. -/
import Derived.Test.YtfheehlfodoimaaGreatHdSame2
import Derived.Test.YtfheehlfodoimaaGreatPRc4
set_option maxRecDepth 100000
namespace Go.Proofs.YtfheehlfodoimaaGreat
open Go.RowKit Go.Sort
namespace Hd
open Bit Dsk Ob Dig
set_option linter.unusedVariables false
set_option linter.unusedSimpArgs false
/-- The program's head and the document's, since w, of the same rows. -/
structure Duo (w wr : World) (p q : Nat) (g : H) : Prop where
  obj : ∃ S S', IsPH p g wr S ∧ IsRH q g wr S' ∧ (∀ b, S b → ¬ S' b) ∧ (∀ b, S b ∨ S' b → w.heap.size ≤ b)
  new : New0 w wr
theorem Duo.step {w wr w' : World} {p q : Nat} {g : H} (h : Duo w wr p q g) (hu : New0 wr w') : Duo w w' p q g :=
  let ⟨S, S', h1, h2, h3, h4⟩ := h.obj
  ⟨⟨S, S', ph_new h1 hu, rh_new h2 hu, h3, h4⟩, h.new.trans hu⟩
theorem duo_apply {w W w8 w9 w10 : World} {p q : Nat} {g g2 : H} {S S' : Nat → Prop} (hp : IsPH p g W S) (hr : IsRH q g W S') (hdis : ∀ b, S b → ¬ S' b) (hbase : ∀ b, S b ∨ S' b → w.heap.size ≤ b) (hw : New0 w W)
    (h8 : New0 W w8) (h9 : ObjStep (IsPH p g2) S w8 w9) (h10 : ObjStep (IsRH q g2) S' w9 w10) : Duo w w10 p q g2 := by
  obtain ⟨S2, k1, k2, k3⟩ := h9.obj
  obtain ⟨S3, m1, m2, m3⟩ := h10.obj
  have q0 := hw.size
  have q1 := h8.size
  have q2 := h9.upon.size
  have hlt : ∀ b, S' b → b < w8.heap.size := fun b hb => Nat.lt_of_lt_of_le ((thingRH q g).lt W S' hr b hb) q1
  have hlt2 := fun b hb => (thingPH p g2).lt w9 S2 k1 b hb
  have hd2 : ∀ b, S2 b → ¬ S' b := fun b hb hb2 => by
    rcases k3 b hb with h | h
    · exact hdis b h hb2
    · have := hlt b hb2; omega
  refine ⟨⟨S2, S3, (thingPH p g2).kept w9 w10 S2 k1 (fun b hb => h10.upon.block b (hlt2 b hb) (hd2 b hb)) h10.upon.size, m1, fun b hb hb3 => ?_, fun b hb => ?_⟩, ((hw.trans h8).trans' h9.upon fun b k4 k5 => ?_).trans' h10.upon fun b k4 k5 => ?_⟩
  · rcases m3 b hb3 with h | h
    · exact hd2 b hb h
    · have := hlt2 b hb; omega
  · rcases hb with hb | hb
    · rcases k3 b hb with h | h
      · exact hbase b (.inl h)
      · omega
    · rcases m3 b hb with h | h
      · exact hbase b (.inr h)
      · omega
  · have := hbase b (.inl k5); omega
  · have := hbase b (.inr k5); omega
theorem five_new {w w' : World} {g b p : Nat} {x0 x1 x2 x3 x4 y0 y1 y2 y3 y4 : Value} (hu : New0 w w')
    (h : w.cell? ⟨g, 0, none⟩ = some x0 ∧ w.cell? ⟨g, 1, none⟩ = some x1 ∧ w.cell? ⟨g, 2, none⟩ = some x2 ∧ w.cell? ⟨g, 3, none⟩ = some x3 ∧ w.cell? ⟨g, 4, none⟩ = some x4 ∧ w.cell? ⟨b, p, none⟩ = some y0 ∧ w.cell? ⟨b, p + 1, none⟩ = some y1 ∧ w.cell? ⟨b, p + 2, none⟩ = some y2 ∧ w.cell? ⟨b, p + 3, none⟩ = some y3 ∧ w.cell? ⟨b, p + 4, none⟩ = some y4) :
    w'.cell? ⟨g, 0, none⟩ = some x0 ∧ w'.cell? ⟨g, 1, none⟩ = some x1 ∧ w'.cell? ⟨g, 2, none⟩ = some x2 ∧ w'.cell? ⟨g, 3, none⟩ = some x3 ∧ w'.cell? ⟨g, 4, none⟩ = some x4 ∧ w'.cell? ⟨b, p, none⟩ = some y0 ∧ w'.cell? ⟨b, p + 1, none⟩ = some y1 ∧ w'.cell? ⟨b, p + 2, none⟩ = some y2 ∧ w'.cell? ⟨b, p + 3, none⟩ = some y3 ∧ w'.cell? ⟨b, p + 4, none⟩ = some y4 := by
  obtain ⟨h0, h1, h2, h3, h4, k0, k1, k2, k3, k4⟩ := h
  exact ⟨Lb.New0.cells hu h0, Lb.New0.cells hu h1, Lb.New0.cells hu h2, Lb.New0.cells hu h3, Lb.New0.cells hu h4, Lb.New0.cells hu k0, Lb.New0.cells hu k1, Lb.New0.cells hu k2, Lb.New0.cells hu k3, Lb.New0.cells hu k4⟩
set_option maxHeartbeats 25600000 in
theorem does_true (w : World) (v av : Value) (o : IsRecs v w) (oa : IsAsks av w) : Calls Tryz.prog 3 #[v, av] w fun e w' => e = .returned (.bool true) ∧ Below w.heap.size w w' := by
  obtain ⟨l, hv, hb, hl⟩ := o
  obtain ⟨A, c, rfl, -, -⟩ := Rw.DView.shape hv
  obtain ⟨qs, hqv, hqb, hql⟩ := oa
  obtain ⟨QA, qc, rfl, -, -⟩ := Rw.DView.shape hqv
  have hll : l.length ≤ 9223372036854775807 := by omega
  have hqll : qs.length ≤ 9223372036854775807 := by omega
  have HG := Lib.hid (great_any w _ l hv hb hl)
  have hR := Lib.hid (fun w1 (hu : New0 w w1) i (hi : i < l.length) => RsView.at (Rw.DView.new (Rw.DView.mono hv fun b hb _ => hb : RsView w (fun b => b < w.heap.size) _ l) hu) hi)
  have hQ := Lib.hid (fun w1 (hu : New0 w w1) i (hi : i < qs.length) => QsView.at (Rw.DView.new hqv hu) hi)
  replace hb := Lib.hid hb
  replace hqb := Lib.hid hqb
  clear hv hqv
  go_enter Tryz.func3, Tryz.ntmps3
  go_wp2_with fail
  refine HG.out.mono ?_
  rintro e w1 ⟨bg, rfl, hu1, hsm⟩
  replace hu1 := Lib.hid hu1
  clear HG
  cases bg with
  | true =>
    clear hsm
    go_wp2_with fail
    go_ret
    exact ⟨rfl, upBel hu1.out⟩
  | false =>
    replace hsm := Lib.hid (hsm rfl).2
    go_wp2_with fail
    refine (pnew_any w1).mono ?_
    rintro e w2 ⟨p, S2, rfl, hp, hS2, hu2⟩
    obtain ⟨S3, hr3, hS3⟩ := rnew w2
    have u3 := (Upon.refl (fun _ => False) w2).alloc (.cells #[.slice none 0 0] 30 (0, 0))
    have hD0 : Hid (Duo w (w2.alloc (.cells #[.slice none 0 0] 30 (0, 0))) p w2.heap.size []) := Lib.hid (by
      have q1 := hu1.out.size
      have q2 := hu2.size
      refine ⟨⟨S2, S3, ph_new hp u3, hr3, fun b hb hb2 => ?_, fun b hb => ?_⟩, (hu1.out.trans hu2).trans u3⟩
      · have := (thingPH _ _).lt _ _ hp b hb
        have := hS3 b hb2
        omega
      · rcases hb with hb | hb
        · have := hS2 b hb; omega
        · have := hS3 b hb; omega)
    clear hp hS2 hu2 hr3 hS3 u3 hu1
    go_wp2_with fail
    obtain ⟨q, hq⟩ : ∃ q, w2.heap.size = q := ⟨_, rfl⟩
    obtain ⟨w3, hw3⟩ : ∃ w3, w2.alloc (.cells #[.slice none 0 0] 30 (0, 0)) = w3 := ⟨_, rfl⟩
    rw [hw3, hq] at hD0
    rw [hw3, hq]
    clear hw3 hq
    go_loopw [7] (fun ov wr => ∃ (j : Nat) (g : H), ov = .int .i64 (j : Int) ∧ j ≤ l.length ∧ j ≤ 50 ∧ Hid (Srt g) ∧ Hid (SaneN (1000 * (50 - j)) g) ∧ Hid (Duo w wr p q g)) (fun ov _ => l.length - (intOf ov).toNat)
    case atStart => exact ⟨0, [], rfl, Nat.zero_le _, Nat.zero_le _, Lib.hid srt_nil, Lib.hid (SaneN.nil (by decide)), hD0⟩
    case round =>
      clear hD0
      obtain ⟨j, g, rfl, hj, hj5, hs, hsn, hD⟩ := hrel
      by_cases hgo : j < l.length ∧ j < 50
      · obtain ⟨hlt, h50j⟩ := hgo
        have d1 : decide ((j : Int) < (l.length : Int)) = true := decide_eq_true (by omega)
        have d2 : decide ((j : Int) < 50) = true := decide_eq_true (by omega)
        obtain ⟨b0, off, A1, c1, A2, c2, rfl, hb0, x0, x1, x2, x3, x4, hrv, hsv⟩ := hR.out _ hD.out.new j hlt
        have hb0w : b0 < w.heap.size := by
          obtain ⟨b0', off', _, _, _, _, e, h, -⟩ := hR.out w (Upon.refl _ _) j hlt
          injection e with e; injection e with e1 e2; omega
        obtain ⟨hb1, hb2, hb3⟩ := hb.out _ (List.getElem_mem hlt)
        have hsj := hsm.out _ (List.getElem_mem hlt)
        have HO := Lib.hid (Rc.own_any wr _ _ hrv.all hb1 hb2 hb3)
        obtain ⟨hn1, hn2⟩ := room_nextC hsn.out h50j hsj
        have hs2 := hs.out.app l[j]
        obtain ⟨rj, hrj⟩ : ∃ rj, l[j] = rj := ⟨_, rfl⟩
        rw [hrj] at x0 x1 x2 x3 x4 hrv hsv hb1 hb2 hb3 hsj HO hn1 hn2 hs2
        replace hn1 := Lib.hid hn1
        replace hn2 := Lib.hid hn2
        replace hs2 := Lib.hid hs2
        replace hb1 := Lib.hid hb1
        replace hsj := Lib.hid hsj
        replace hrv := Lib.hid hrv
        replace hsv := Lib.hid hsv
        replace hrj := Lib.hid hrj
        go_wp2_with fail
        refine HO.out.mono ?_
        rintro e w5 ⟨u, rfl, hv5, hu5⟩
        obtain ⟨B1, d1', B2, d2', rfl, hvs5, hvm5⟩ := Rc.RView.shape hv5
        clear HO hvs5 hvm5
        go_wp2_with fail
        have u6 := (Upon.refl (fun _ => False) w5).alloc (.cells #[.int .i64 rj.kind, .slice B1 rj.smp.length d1', .slice B2 rj.ms.length d2', .int .i64 rj.frm, .int .i64 rj.til] 34 (0, 0))
        have hbo := cell_new w5 (.cells #[.int .i64 rj.kind, .slice B1 rj.smp.length d1', .slice B2 rj.ms.length d2', .int .i64 rj.frm, .int .i64 rj.til] 34 (0, 0))
        obtain ⟨W, hW⟩ : ∃ W, w5.alloc (.cells #[.int .i64 rj.kind, .slice B1 rj.smp.length d1', .slice B2 rj.ms.length d2', .int .i64 rj.frm, .int .i64 rj.til] 34 (0, 0)) = W := ⟨_, rfl⟩
        rw [hW] at u6 hbo
        rw [hW]
        have hWs : W.heap.size = w5.heap.size + 1 := by rw [← hW]; simp
        have n6 : New0 wr W := hu5.trans u6
        obtain ⟨S, S', hp0, hr0, hdis, hbase⟩ := hD.out.obj
        have hpl : ∀ b, S b → b < wr.heap.size := (thingPH _ _).lt _ _ hp0
        have hrl : ∀ b, S' b → b < wr.heap.size := (thingRH _ _).lt _ _ hr0
        have hp := ph_new hp0 n6
        have hr := rh_new hr0 n6
        clear hp0 hr0
        have hnW := hD.out.new.trans n6
        have hwr := hD.out.new.size
        have hw5 := hu5.size
        have hvW := hv5.new u6
        have haW := hrv.out.new n6
        obtain ⟨z, hz⟩ : ∃ z : Nat, tr g rj = z := ⟨_, rfl⟩
        obtain ⟨g2, hg2⟩ : ∃ g2, app g rj = g2 := ⟨_, rfl⟩
        rw [hg2] at hn2 hs2
        have HC : Hid (∀ w' : World, w'.heap[w5.heap.size]? = W.heap[w5.heap.size]? → w'.heap[b0]? = W.heap[b0]? → w'.cell? ⟨w5.heap.size, 0, none⟩ = some (.int .i64 rj.kind) ∧ w'.cell? ⟨w5.heap.size, 1, none⟩ = some (.slice B1 rj.smp.length d1') ∧ w'.cell? ⟨w5.heap.size, 2, none⟩ = some (.slice B2 rj.ms.length d2') ∧ w'.cell? ⟨w5.heap.size, 3, none⟩ = some (.int .i64 rj.frm) ∧ w'.cell? ⟨w5.heap.size, 4, none⟩ = some (.int .i64 rj.til) ∧ w'.cell? ⟨b0, off + j * 5, none⟩ = some (.int .i64 rj.kind) ∧ w'.cell? ⟨b0, off + j * 5 + 1, none⟩ = some (.slice A1 rj.smp.length c1) ∧ w'.cell? ⟨b0, off + j * 5 + 2, none⟩ = some (.slice A2 rj.ms.length c2) ∧ w'.cell? ⟨b0, off + j * 5 + 3, none⟩ = some (.int .i64 rj.frm) ∧ w'.cell? ⟨b0, off + j * 5 + 4, none⟩ = some (.int .i64 rj.til)) := Lib.hid (fun w' e1 e2 => by
          have k : ∀ (o : Nat) (v : Value), wr.cell? ⟨b0, o, none⟩ = some v → w'.cell? ⟨b0, o, none⟩ = some v := fun o v h => (cell_keep (e2.trans (n6.block b0 hb0 fun f => f))).trans h
          have e3 := e1.trans hbo
          exact ⟨by rw [Lib.cell_of_heap e3]; rfl, by rw [Lib.cell_of_heap e3]; rfl, by rw [Lib.cell_of_heap e3]; rfl, by rw [Lib.cell_of_heap e3]; rfl, by rw [Lib.cell_of_heap e3]; rfl, k _ _ x0, k _ _ x1, k _ _ x2, k _ _ x3, k _ _ x4⟩)
        have HCn : Hid (∀ w', New0 W w' → w'.cell? ⟨w5.heap.size, 0, none⟩ = some (.int .i64 rj.kind) ∧ w'.cell? ⟨w5.heap.size, 1, none⟩ = some (.slice B1 rj.smp.length d1') ∧ w'.cell? ⟨w5.heap.size, 2, none⟩ = some (.slice B2 rj.ms.length d2') ∧ w'.cell? ⟨w5.heap.size, 3, none⟩ = some (.int .i64 rj.frm) ∧ w'.cell? ⟨w5.heap.size, 4, none⟩ = some (.int .i64 rj.til) ∧ w'.cell? ⟨b0, off + j * 5, none⟩ = some (.int .i64 rj.kind) ∧ w'.cell? ⟨b0, off + j * 5 + 1, none⟩ = some (.slice A1 rj.smp.length c1) ∧ w'.cell? ⟨b0, off + j * 5 + 2, none⟩ = some (.slice A2 rj.ms.length c2) ∧ w'.cell? ⟨b0, off + j * 5 + 3, none⟩ = some (.int .i64 rj.frm) ∧ w'.cell? ⟨b0, off + j * 5 + 4, none⟩ = some (.int .i64 rj.til)) := Lib.hid (fun w' hu => HC.out w' (hu.block _ (by omega) fun f => f) (hu.block _ (by have := n6.size; omega) fun f => f))
        have HT1 : Hid (∀ w', New0 W w' → Calls Tryz.prog 7 #[.pointer (some ⟨p, 0, none⟩), .agg #[.int .i64 rj.kind, .slice B1 rj.smp.length d1', .slice B2 rj.ms.length d2', .int .i64 rj.frm, .int .i64 rj.til]] w' fun e w'' => e = .returned (.int .i64 (z : Int)) ∧ New0 w' w'') := Lib.hid (fun w' hu => by rw [← hz]; exact ptry_any w' (ph_new hp hu) hs.out _ _ rj (hvW.new hu) hb1.out hn1.out hsj.out.lab)
        have HT2 : Hid (∀ w', New0 W w' → Calls Tryz.prog 8 #[.pointer (some ⟨q, 0, none⟩), .agg #[.int .i64 rj.kind, .slice A1 rj.smp.length c1, .slice A2 rj.ms.length c2, .int .i64 rj.frm, .int .i64 rj.til]] w' fun e w'' => e = .returned (.int .i64 (z : Int)) ∧ New0 w' w'') := Lib.hid (fun w' hu => by rw [← hz]; exact rtry_any (rh_new hr hu) _ _ rj (haW.new hu) hb1.out hn1.out hsj.out.lab)
        have HA1 : Hid (∀ w', New0 W w' → Calls Tryz.prog 9 #[.pointer (some ⟨p, 0, none⟩), .agg #[.int .i64 rj.kind, .slice B1 rj.smp.length d1', .slice B2 rj.ms.length d2', .int .i64 rj.frm, .int .i64 rj.til]] w' fun e w'' => e = .returned (.int .i64 (z : Int)) ∧ ObjStep (IsPH p g2) S w' w'') := Lib.hid (fun w' hu => by rw [← hz, ← hg2]; exact papp_any w' (ph_new hp hu) hs.out _ _ rj (hvW.new hu) (fun b hb hb2 => by have := hpl b hb2; have h3 : wr.heap.size ≤ b := hb; omega) hb1.out hn1.out hsj.out.lab)
        have HA2 : Hid (∀ w8 w9, New0 W w8 → ObjStep (IsPH p g2) S w8 w9 → Calls Tryz.prog 10 #[.pointer (some ⟨q, 0, none⟩), .agg #[.int .i64 rj.kind, .slice A1 rj.smp.length c1, .slice A2 rj.ms.length c2, .int .i64 rj.frm, .int .i64 rj.til]] w9 fun e w'' => e = .returned (.int .i64 (z : Int)) ∧ ObjStep (IsRH q g2) S' w9 w'') := Lib.hid (fun w8 w9 h8 h9 => by
          rw [← hz, ← hg2]
          have q1 := h8.size
          have q2 := n6.size
          refine rapp_any ((thingRH q g).kept w8 w9 S' (rh_new hr h8) (fun b hb => h9.upon.block b (by have := hrl b hb; omega) (fun e => hdis b e hb)) h9.upon.size) _ _ rj (Rc.RView.upon (haW.new h8) h9.upon fun b hb hb2 => ?_) (fun b hb hb2 => ?_) hb1.out hn1.out hsj.out.lab
          · have := hbase b (.inl hb2); omega
          · have := hbase b (.inr hb2); omega)
        have HSm : Hid (∀ w8 w9 w10, New0 W w8 → ObjStep (IsPH p g2) S w8 w9 → ObjStep (IsRH q g2) S' w9 w10 → Calls Tryz.prog 11 #[.agg #[.int .i64 rj.kind, .slice B1 rj.smp.length d1', .slice B2 rj.ms.length d2', .int .i64 rj.frm, .int .i64 rj.til], .agg #[.int .i64 rj.kind, .slice A1 rj.smp.length c1, .slice A2 rj.ms.length c2, .int .i64 rj.frm, .int .i64 rj.til]] w10 fun e w'' => e = .returned (.bool true) ∧ New0 w10 w'') := Lib.hid (fun w8 w9 w10 h8 h9 h10 => by
          have k9 : ∀ b, wr.heap.size ≤ b → ¬ S b := fun b hb hb2 => by have := hpl b hb2; omega
          have k10 : ∀ b, wr.heap.size ≤ b → ¬ S' b := fun b hb hb2 => by have := hrl b hb2; omega
          refine Rc.same_any w10 _ _ _ _ rj (Rc.RView.upon (Rc.RView.upon (hvW.new h8) h9.upon fun b hb => k9 b hb) h10.upon fun b hb => k10 b hb) (Rc.RView.upon (Rc.RView.upon (haW.new h8) h9.upon fun b hb hb2 => ?_) h10.upon fun b hb hb2 => ?_) (by have := hsj.out.2.1; omega)
          · have := hbase b (.inl hb2); omega
          · have := hbase b (.inr hb2); omega)
        have HK9 : Hid (∀ w8 w9, New0 W w8 → ObjStep (IsPH p g2) S w8 w9 → w9.cell? ⟨w5.heap.size, 0, none⟩ = some (.int .i64 rj.kind) ∧ w9.cell? ⟨w5.heap.size, 1, none⟩ = some (.slice B1 rj.smp.length d1') ∧ w9.cell? ⟨w5.heap.size, 2, none⟩ = some (.slice B2 rj.ms.length d2') ∧ w9.cell? ⟨w5.heap.size, 3, none⟩ = some (.int .i64 rj.frm) ∧ w9.cell? ⟨w5.heap.size, 4, none⟩ = some (.int .i64 rj.til) ∧ w9.cell? ⟨b0, off + j * 5, none⟩ = some (.int .i64 rj.kind) ∧ w9.cell? ⟨b0, off + j * 5 + 1, none⟩ = some (.slice A1 rj.smp.length c1) ∧ w9.cell? ⟨b0, off + j * 5 + 2, none⟩ = some (.slice A2 rj.ms.length c2) ∧ w9.cell? ⟨b0, off + j * 5 + 3, none⟩ = some (.int .i64 rj.frm) ∧ w9.cell? ⟨b0, off + j * 5 + 4, none⟩ = some (.int .i64 rj.til)) := Lib.hid (fun w8 w9 h8 h9 => by
          have q1 := h8.size
          have q2 := n6.size
          refine HC.out w9 ((h9.upon.block _ (by omega) fun e => ?_).trans (h8.block _ (by omega) fun f => f)) ((h9.upon.block _ (by omega) fun e => ?_).trans (h8.block _ (by omega) fun f => f))
          · have := hpl _ e; omega
          · have := hbase _ (.inl e); omega)
        have HK10 : Hid (∀ w8 w9 w10, New0 W w8 → ObjStep (IsPH p g2) S w8 w9 → ObjStep (IsRH q g2) S' w9 w10 → w10.cell? ⟨w5.heap.size, 0, none⟩ = some (.int .i64 rj.kind) ∧ w10.cell? ⟨w5.heap.size, 1, none⟩ = some (.slice B1 rj.smp.length d1') ∧ w10.cell? ⟨w5.heap.size, 2, none⟩ = some (.slice B2 rj.ms.length d2') ∧ w10.cell? ⟨w5.heap.size, 3, none⟩ = some (.int .i64 rj.frm) ∧ w10.cell? ⟨w5.heap.size, 4, none⟩ = some (.int .i64 rj.til) ∧ w10.cell? ⟨b0, off + j * 5, none⟩ = some (.int .i64 rj.kind) ∧ w10.cell? ⟨b0, off + j * 5 + 1, none⟩ = some (.slice A1 rj.smp.length c1) ∧ w10.cell? ⟨b0, off + j * 5 + 2, none⟩ = some (.slice A2 rj.ms.length c2) ∧ w10.cell? ⟨b0, off + j * 5 + 3, none⟩ = some (.int .i64 rj.frm) ∧ w10.cell? ⟨b0, off + j * 5 + 4, none⟩ = some (.int .i64 rj.til)) := Lib.hid (fun w8 w9 w10 h8 h9 h10 => by
          have q1 := h8.size
          have q2 := n6.size
          have q3 := h9.upon.size
          refine HC.out w10 (((h10.upon.block _ (by omega) fun e => ?_).trans (h9.upon.block _ (by omega) fun e => ?_)).trans (h8.block _ (by omega) fun f => f)) (((h10.upon.block _ (by omega) fun e => ?_).trans (h9.upon.block _ (by omega) fun e => ?_)).trans (h8.block _ (by omega) fun f => f))
          · have := hrl _ e; omega
          · have := hpl _ e; omega
          · have := hbase _ (.inr e); omega
          · have := hbase _ (.inl e); omega)
        have HD10 : Hid (∀ w8 w9 w10, New0 W w8 → ObjStep (IsPH p g2) S w8 w9 → ObjStep (IsRH q g2) S' w9 w10 → Duo w w10 p q g2) := Lib.hid (fun w8 w9 w10 h8 h9 h10 => duo_apply hp hr hdis hbase hnW h8 h9 h10)
        have hS0 := HCn.out _ ((Upon.refl _ W).drew)
        clear hp hr hdis hbase hpl hrl hnW hwr hw5 hvW haW hz hg2 hbo u6 n6 hu5 hv5 x0 x1 x2 x3 x4 hW hWs HC hs hsn hD hrv hb0 hb0w
        go_wp2_with fail
        go_cut [63] from 33 to 63 (fun sv wc => sv = .bool false ∧ Hid (Duo w wc p q g2))
        case first =>
          refine HeldS.wp_region_S 30 (S := fun w' => w'.cell? ⟨w5.heap.size, 0, none⟩ = some (.int .i64 rj.kind) ∧ w'.cell? ⟨w5.heap.size, 1, none⟩ = some (.slice B1 rj.smp.length d1') ∧ w'.cell? ⟨w5.heap.size, 2, none⟩ = some (.slice B2 rj.ms.length d2') ∧ w'.cell? ⟨w5.heap.size, 3, none⟩ = some (.int .i64 rj.frm) ∧ w'.cell? ⟨w5.heap.size, 4, none⟩ = some (.int .i64 rj.til) ∧ w'.cell? ⟨b0, off + j * 5, none⟩ = some (.int .i64 rj.kind) ∧ w'.cell? ⟨b0, off + j * 5 + 1, none⟩ = some (.slice A1 rj.smp.length c1) ∧ w'.cell? ⟨b0, off + j * 5 + 2, none⟩ = some (.slice A2 rj.ms.length c2) ∧ w'.cell? ⟨b0, off + j * 5 + 3, none⟩ = some (.int .i64 rj.frm) ∧ w'.cell? ⟨b0, off + j * 5 + 4, none⟩ = some (.int .i64 rj.til)) (by kernel_rfl) hS0 (fun hHeld => ?_)
          refine HeldS.wpAnyS_take (i := 0) [22, 21, 10, 9, 2] (oi := _) (v := ?_) rfl (by kernel_rfl) (by kernel_rfl) (by kernel_rfl) (by kernel_rfl) (by kernel_rfl) (fun _ _ _ h => h) (Or.inl ⟨by rfl, ?_⟩) (by assumption) ?_
          rotate_left
          · (intro w hSw; (try dsimp only at hSw); go_simp; (try with_reducible rfl))
          (try simp only [Act.put, List.setIfInBounds_toArray, List.set_cons_zero, List.set_cons_succ])
          refine HeldS.wpAnyS_take (i := 1) [22, 21, 10, 9, 2] (oi := _) (v := ?_) rfl (by kernel_rfl) (by kernel_rfl) (by kernel_rfl) (by kernel_rfl) (by kernel_rfl) (fun _ _ _ h => h) (Or.inl ⟨by rfl, ?_⟩) (by assumption) ?_
          rotate_left
          · (intro w hSw; (try dsimp only at hSw); go_simp; (try with_reducible rfl))
          (try simp only [Act.put, List.setIfInBounds_toArray, List.set_cons_zero, List.set_cons_succ])
          refine HeldS.wpAnyS_take (i := 3) [22, 21, 10, 9, 8] (oi := _) (v := ?_) rfl (by kernel_rfl) (by kernel_rfl) (by kernel_rfl) (by kernel_rfl) (by kernel_rfl) (fun _ _ _ h => h) (Or.inl ⟨by rfl, ?_⟩) (by assumption) ?_
          rotate_left
          · (intro w hSw; (try dsimp only at hSw); go_simp; (try with_reducible rfl))
          (try simp only [Act.put, List.setIfInBounds_toArray, List.set_cons_zero, List.set_cons_succ])
          refine HeldS.wpAnyS_take (i := 4) [22, 21, 10, 9, 8, 7, 6] (oi := _) (v := ?_) rfl (by kernel_rfl) (by kernel_rfl) (by kernel_rfl) (by kernel_rfl) (by kernel_rfl) (fun _ _ _ h => h) (Or.inl ⟨by rfl, ?_⟩) (by assumption) ?_
          rotate_left
          · (intro w hSw; (try dsimp only at hSw); go_simp; (try with_reducible rfl))
          (try simp only [Act.put, List.setIfInBounds_toArray, List.set_cons_zero, List.set_cons_succ])
          refine HeldS.wpAnyS_take (i := 5) [22, 21, 10, 9, 8, 7, 6] (oi := _) (v := ?_) rfl (by kernel_rfl) (by kernel_rfl) (by kernel_rfl) (by kernel_rfl) (by kernel_rfl) (fun _ _ _ h => h) (Or.inl ⟨by rfl, ?_⟩) (by assumption) ?_
          rotate_left
          · (intro w hSw; (try dsimp only at hSw); go_simp; (try with_reducible rfl))
          (try simp only [Act.put, List.setIfInBounds_toArray, List.set_cons_zero, List.set_cons_succ])
          refine HeldS.wpAnyS_take (i := 6) [22, 21, 10, 9, 8, 7] (oi := _) (v := ?_) rfl (by kernel_rfl) (by kernel_rfl) (by kernel_rfl) (by kernel_rfl) (by kernel_rfl) (fun _ _ _ h => h) (Or.inl ⟨by rfl, ?_⟩) (by assumption) ?_
          rotate_left
          · (intro w hSw; (try dsimp only at hSw); go_simp; (try with_reducible rfl))
          (try simp only [Act.put, List.setIfInBounds_toArray, List.set_cons_zero, List.set_cons_succ])
          refine HeldS.wpAnyS_take (i := 7) [22, 21, 10, 9, 8] (oi := _) (v := ?_) rfl (by kernel_rfl) (by kernel_rfl) (by kernel_rfl) (by kernel_rfl) (by kernel_rfl) (fun _ _ _ h => h) (Or.inl ⟨by rfl, ?_⟩) (by assumption) ?_
          rotate_left
          · (intro w hSw; (try dsimp only at hSw); go_simp; (try with_reducible rfl))
          (try simp only [Act.put, List.setIfInBounds_toArray, List.set_cons_zero, List.set_cons_succ])
          refine HeldS.wpAnyS_ready (rs := [2]) (by kernel_rfl) (by simp) ?_
          refine HeldS.AllS.cons (o := ⟨some 35, _, _, _, _, _⟩) rfl (fun K hK => ?_) HeldS.AllS.nil
          go_simp
          go_at_call 7
          refine (HT1.out _ ((Upon.refl _ W).drew)).mono ?_
          rintro e w7 ⟨rfl, hu7⟩
          have n7 : New0 W w7 := ((Upon.refl _ W).drew).trans hu7
          go_simp
          refine hK.out _ _ (HCn.out _ n7) (fun hHeld => ?_)
          clear hK K
          (try simp only [Act.put, List.setIfInBounds_toArray, List.set_cons_zero, List.set_cons_succ])
          refine HeldS.wpAnyS_ready (rs := [8]) (by kernel_rfl) (by simp) ?_
          refine HeldS.AllS.cons (o := ⟨some 41, _, _, _, _, _⟩) rfl (fun K hK => ?_) HeldS.AllS.nil
          go_simp
          go_at_call 8
          refine (HT2.out _ n7).mono ?_
          rintro e w8 ⟨rfl, hu8⟩
          have n8 : New0 W w8 := n7.trans hu8
          go_simp
          refine hK.out _ _ (HCn.out _ n8) (fun hHeld => ?_)
          clear hK K
          (try simp only [Act.put, List.setIfInBounds_toArray, List.set_cons_zero, List.set_cons_succ])
          refine HeldS.wpAnyS_take (i := 9) [22, 21, 10] (oi := _) (v := ?_) rfl (by kernel_rfl) (by kernel_rfl) (by kernel_rfl) (by kernel_rfl) (by kernel_rfl) (fun _ _ _ h => h) (Or.inl ⟨by rfl, ?_⟩) (by assumption) ?_
          rotate_left
          · (intro w hSw; (try dsimp only at hSw); go_simp; (try with_reducible rfl))
          (try simp only [Act.put, List.setIfInBounds_toArray, List.set_cons_zero, List.set_cons_succ])
          refine HeldS.wpAnyS_take (i := 10) [22, 21] (oi := _) (v := ?_) rfl (by kernel_rfl) (by kernel_rfl) (by kernel_rfl) (by kernel_rfl) (by kernel_rfl) (fun _ _ _ h => h) (Or.inl ⟨by rfl, ?_⟩) (by assumption) ?_
          rotate_left
          · (intro w hSw; (try dsimp only at hSw); go_simp; (try with_reducible rfl))
          (try simp only [Act.put, List.setIfInBounds_toArray, List.set_cons_zero, List.set_cons_succ])
          refine HeldS.wpAnyS_take (i := 11) [22, 21, 20, 13] (oi := _) (v := ?_) rfl (by kernel_rfl) (by kernel_rfl) (by kernel_rfl) (by kernel_rfl) (by kernel_rfl) (fun _ _ _ h => h) (Or.inl ⟨by rfl, ?_⟩) (by assumption) ?_
          rotate_left
          · (intro w hSw; (try dsimp only at hSw); go_simp; (try with_reducible rfl))
          (try simp only [Act.put, List.setIfInBounds_toArray, List.set_cons_zero, List.set_cons_succ])
          refine HeldS.wpAnyS_take (i := 12) [22, 21, 20, 13] (oi := _) (v := ?_) rfl (by kernel_rfl) (by kernel_rfl) (by kernel_rfl) (by kernel_rfl) (by kernel_rfl) (fun _ _ _ h => h) (Or.inl ⟨by rfl, ?_⟩) (by assumption) ?_
          rotate_left
          · (intro w hSw; (try dsimp only at hSw); go_simp; (try with_reducible rfl))
          (try simp only [Act.put, List.setIfInBounds_toArray, List.set_cons_zero, List.set_cons_succ])
          refine HeldS.wpAnyS_take (i := 14) [22, 21, 20, 19] (oi := _) (v := ?_) rfl (by kernel_rfl) (by kernel_rfl) (by kernel_rfl) (by kernel_rfl) (by kernel_rfl) (fun _ _ _ h => h) (Or.inl ⟨by rfl, ?_⟩) (by assumption) ?_
          rotate_left
          · (intro w hSw; (try dsimp only at hSw); go_simp; (try with_reducible rfl))
          (try simp only [Act.put, List.setIfInBounds_toArray, List.set_cons_zero, List.set_cons_succ])
          refine HeldS.wpAnyS_take (i := 15) [22, 21, 20, 19, 18, 17] (oi := _) (v := ?_) rfl (by kernel_rfl) (by kernel_rfl) (by kernel_rfl) (by kernel_rfl) (by kernel_rfl) (fun _ _ _ h => h) (Or.inl ⟨by rfl, ?_⟩) (by assumption) ?_
          rotate_left
          · (intro w hSw; (try dsimp only at hSw); go_simp; (try with_reducible rfl))
          (try simp only [Act.put, List.setIfInBounds_toArray, List.set_cons_zero, List.set_cons_succ])
          refine HeldS.wpAnyS_take (i := 16) [22, 21, 20, 19, 18, 17] (oi := _) (v := ?_) rfl (by kernel_rfl) (by kernel_rfl) (by kernel_rfl) (by kernel_rfl) (by kernel_rfl) (fun _ _ _ h => h) (Or.inl ⟨by rfl, ?_⟩) (by assumption) ?_
          rotate_left
          · (intro w hSw; (try dsimp only at hSw); go_simp; (try with_reducible rfl))
          (try simp only [Act.put, List.setIfInBounds_toArray, List.set_cons_zero, List.set_cons_succ])
          refine HeldS.wpAnyS_take (i := 17) [22, 21, 20, 19, 18] (oi := _) (v := ?_) rfl (by kernel_rfl) (by kernel_rfl) (by kernel_rfl) (by kernel_rfl) (by kernel_rfl) (fun _ _ _ h => h) (Or.inl ⟨by rfl, ?_⟩) (by assumption) ?_
          rotate_left
          · (intro w hSw; (try dsimp only at hSw); go_simp; (try with_reducible rfl))
          (try simp only [Act.put, List.setIfInBounds_toArray, List.set_cons_zero, List.set_cons_succ])
          refine HeldS.wpAnyS_take (i := 18) [22, 21, 20, 19] (oi := _) (v := ?_) rfl (by kernel_rfl) (by kernel_rfl) (by kernel_rfl) (by kernel_rfl) (by kernel_rfl) (fun _ _ _ h => h) (Or.inl ⟨by rfl, ?_⟩) (by assumption) ?_
          rotate_left
          · (intro w hSw; (try dsimp only at hSw); go_simp; (try with_reducible rfl))
          (try simp only [Act.put, List.setIfInBounds_toArray, List.set_cons_zero, List.set_cons_succ])
          refine HeldS.wpAnyS_ready (rs := [13]) (by kernel_rfl) (by simp) ?_
          refine HeldS.AllS.cons (o := ⟨some 46, _, _, _, _, _⟩) rfl (fun K hK => ?_) HeldS.AllS.nil
          go_simp
          go_at_call 9
          refine (HA1.out _ n8).mono ?_
          rintro e w9 ⟨rfl, h9⟩
          go_simp
          refine hK.out _ _ (HK9.out _ _ n8 h9) (fun hHeld => ?_)
          clear hK K
          (try simp only [Act.put, List.setIfInBounds_toArray, List.set_cons_zero, List.set_cons_succ])
          refine HeldS.wpAnyS_ready (rs := [19]) (by kernel_rfl) (by simp) ?_
          refine HeldS.AllS.cons (o := ⟨some 52, _, _, _, _, _⟩) rfl (fun K hK => ?_) HeldS.AllS.nil
          go_simp
          go_at_call 10
          refine (HA2.out _ _ n8 h9).mono ?_
          rintro e w10 ⟨rfl, h10⟩
          go_simp
          refine hK.out _ _ (HK10.out _ _ _ n8 h9 h10) (fun hHeld => ?_)
          clear hK K
          (try simp only [Act.put, List.setIfInBounds_toArray, List.set_cons_zero, List.set_cons_succ])
          refine HeldS.wpAnyS_take (i := 20) [22, 21] (oi := _) (v := ?_) rfl (by kernel_rfl) (by kernel_rfl) (by kernel_rfl) (by kernel_rfl) (by kernel_rfl) (fun _ _ _ h => h) (Or.inl ⟨by rfl, ?_⟩) (by assumption) ?_
          rotate_left
          · (intro w hSw; (try dsimp only at hSw); go_simp; (try with_reducible rfl))
          (try simp only [Act.put, List.setIfInBounds_toArray, List.set_cons_zero, List.set_cons_succ])
          refine HeldS.wpAnyS_take (i := 21) [22] (oi := _) (v := ?_) rfl (by kernel_rfl) (by kernel_rfl) (by kernel_rfl) (by kernel_rfl) (by kernel_rfl) (fun _ _ _ h => h) (Or.inl ⟨by rfl, ?_⟩) (by assumption) ?_
          rotate_left
          · (intro w hSw; (try dsimp only at hSw); go_simp; (try with_reducible rfl))
          (try simp only [Act.put, List.setIfInBounds_toArray, List.set_cons_zero, List.set_cons_succ])
          refine HeldS.wpAnyS_take (i := 22) [] (oi := _) (v := ?_) rfl (by kernel_rfl) (by kernel_rfl) (by kernel_rfl) (by kernel_rfl) (by kernel_rfl) (fun _ _ _ h => h) (Or.inl ⟨by rfl, ?_⟩) (by assumption) ?_
          rotate_left
          · (intro w hSw; (try dsimp only at hSw); go_simp; (try with_reducible rfl))
          (try simp only [Act.put, List.setIfInBounds_toArray, List.set_cons_zero, List.set_cons_succ])
          refine HeldS.wpAnyS_take (i := 23) [29, 28] (oi := _) (v := ?_) rfl (by kernel_rfl) (by kernel_rfl) (by kernel_rfl) (by kernel_rfl) (by kernel_rfl) (fun _ _ _ h => h) (Or.inl ⟨by rfl, ?_⟩) (by assumption) ?_
          rotate_left
          · (intro w hSw; (try dsimp only at hSw); go_simp; (try with_reducible rfl))
          (try simp only [Act.put, List.setIfInBounds_toArray, List.set_cons_zero, List.set_cons_succ])
          refine HeldS.wpAnyS_take (i := 24) [29, 28, 27, 26] (oi := _) (v := ?_) rfl (by kernel_rfl) (by kernel_rfl) (by kernel_rfl) (by kernel_rfl) (by kernel_rfl) (fun _ _ _ h => h) (Or.inl ⟨by rfl, ?_⟩) (by assumption) ?_
          rotate_left
          · (intro w hSw; (try dsimp only at hSw); go_simp; (try with_reducible rfl))
          (try simp only [Act.put, List.setIfInBounds_toArray, List.set_cons_zero, List.set_cons_succ])
          refine HeldS.wpAnyS_take (i := 25) [29, 28, 27, 26] (oi := _) (v := ?_) rfl (by kernel_rfl) (by kernel_rfl) (by kernel_rfl) (by kernel_rfl) (by kernel_rfl) (fun _ _ _ h => h) (Or.inl ⟨by rfl, ?_⟩) (by assumption) ?_
          rotate_left
          · (intro w hSw; (try dsimp only at hSw); go_simp; (try with_reducible rfl))
          (try simp only [Act.put, List.setIfInBounds_toArray, List.set_cons_zero, List.set_cons_succ])
          refine HeldS.wpAnyS_take (i := 26) [29, 28, 27] (oi := _) (v := ?_) rfl (by kernel_rfl) (by kernel_rfl) (by kernel_rfl) (by kernel_rfl) (by kernel_rfl) (fun _ _ _ h => h) (Or.inl ⟨by rfl, ?_⟩) (by assumption) ?_
          rotate_left
          · (intro w hSw; (try dsimp only at hSw); go_simp; (try with_reducible rfl))
          (try simp only [Act.put, List.setIfInBounds_toArray, List.set_cons_zero, List.set_cons_succ])
          refine HeldS.wpAnyS_take (i := 27) [29, 28] (oi := _) (v := ?_) rfl (by kernel_rfl) (by kernel_rfl) (by kernel_rfl) (by kernel_rfl) (by kernel_rfl) (fun _ _ _ h => h) (Or.inl ⟨by rfl, ?_⟩) (by assumption) ?_
          rotate_left
          · (intro w hSw; (try dsimp only at hSw); go_simp; (try with_reducible rfl))
          (try simp only [Act.put, List.setIfInBounds_toArray, List.set_cons_zero, List.set_cons_succ])
          refine HeldS.wpAnyS_ready (rs := [28]) (by kernel_rfl) (by simp) ?_
          refine HeldS.AllS.cons (o := ⟨some 61, _, _, _, _, _⟩) rfl (fun K hK => ?_) HeldS.AllS.nil
          go_simp
          go_at_call 11
          refine (HSm.out _ _ _ n8 h9 h10).mono ?_
          rintro e w11 ⟨rfl, hu11⟩
          have h11 := HK10.out _ _ _ n8 h9 h10
          go_simp
          refine hK.out _ _ (five_new hu11 h11) (fun hHeld => ?_)
          clear hK K
          (try simp only [Act.put, List.setIfInBounds_toArray, List.set_cons_zero, List.set_cons_succ])
          refine HeldS.wpAnyS_take (i := 29) [] (oi := _) (v := ?_) rfl (by kernel_rfl) (by kernel_rfl) (by kernel_rfl) (by kernel_rfl) (by kernel_rfl) (fun _ _ _ h => h) (Or.inl ⟨by rfl, ?_⟩) (by assumption) ?_
          rotate_left
          · (intro w hSw; (try dsimp only at hSw); go_simp; (try with_reducible rfl))
          (try simp only [Act.put, List.setIfInBounds_toArray, List.set_cons_zero, List.set_cons_succ])
          refine HeldS.wpAnyS_ready (rs := [30]) (by kernel_rfl) (by simp) ?_
          refine HeldS.AllS.last (s := 30) (o := ⟨some 63, _, _, _, _, _⟩) rfl (fun K hK => ?_) HeldS.AllS.nil
          go_simp
          refine hK.out _ _ ?_
          clear hK K
          (try simp only [Act.put, List.setIfInBounds_toArray, List.set_cons_zero, List.set_cons_succ])
          refine HeldS.wpAnyS_done (by kernel_rfl) ?_ _
          go_wp2_with fail
          go_meet
          exact ⟨rfl, Lib.hid ((HD10.out _ _ _ n8 h9 h10).step hu11)⟩
        case rest =>
          obtain ⟨rfl, hD2⟩ := hcut
          clear HT1 HT2 HA1 HA2 HSm HK9 HK10 HD10 HCn hS0
          obtain ⟨b1, off1, A3, c3, A4, c4, e, -, y0, y1, y2, y3, y4, hrv2, hsv2⟩ := hR.out wc hD2.out.new j hlt
          injection e with e
          injection e with e1 e2
          subst e1 e2
          rw [hrj.out] at y1 hsv2
          clear y0 y2 y3 y4 hrv2
          have hb1o := hb1.out
          clear hb1
          by_cases hsp : 0 < rj.smp.length
          · have d4 : decide ((0 : Int) < (rj.smp.length : Int)) = true := decide_eq_true (by omega)
            obtain ⟨bq, offq, hA3, hbl, hcells⟩ := Rc.SView.cells hsv2 hsp
            subst hA3
            obtain ⟨⟨la, ln, lc⟩, hlv, k0, -, -⟩ := hcells 0 hsp
            obtain ⟨hsm1, hsm2, -⟩ := hb1o.smp _ (List.getElem_mem hsp)
            replace k0 : wc.cell? ⟨bq, offq, none⟩ = some (.slice la ln lc) := by simpa using k0
            clear hcells hsv2 hb1o
            obtain ⟨ls, hls⟩ : ∃ ls, rj.smp[0].1 = ls := ⟨_, rfl⟩
            rw [hls] at hlv hsm1 hsm2
            clear hls
            replace hlv := Lib.hid hlv
            replace hsm1 := Lib.hid hsm1
            replace hsm2 := Lib.hid hsm2
            have HSM : Hid (∀ (w' : World) (m : Rw.Sl) (ms : List Mt.M) (qa qb : Int) (T : Nat → Prop), New0 wc w' → Mt.View w' T m.v ms → Mt.Bnd ms → (-9223372036854775808 ≤ qa ∧ qa ≤ 9223372036854775807) → (-9223372036854775808 ≤ qb ∧ qb ≤ 9223372036854775807) →
                Calls Tryz.prog 12 #[.pointer (some ⟨p, 0, none⟩), .pointer (some ⟨q, 0, none⟩), .agg #[m.v, .int .i64 qa, .int .i64 qb], .slice la ln lc] w' fun e w'' => e = .returned (.bool true) ∧ New0 w' w'') := Lib.hid (fun w' m ms qa qb T hu h1 h2 h3 h4 => by
              obtain ⟨S, S', hp, hr, -, -⟩ := hD2.out.obj
              exact same_heads w' (ph_new hp hu) (rh_new hr hu) hs2.out hn2.out T _ m ms qa qb h1 h2 h3 h4 _ ls (Rw.View.new (hlv.out) hu) (hsm1.out) (hsm2.out))
            have uq := (Upon.refl (fun _ => False) wc).alloc (.cells #[.slice none 0 0, .int .i64 (-9223372036854775808), .int .i64 9223372036854775807] 44 (0, 0))
            have hbq : Rw.Blk3 44 wc.heap.size (.slice none 0 0) (.int .i64 (-9223372036854775808)) (.int .i64 9223372036854775807) (wc.alloc (.cells #[.slice none 0 0, .int .i64 (-9223372036854775808), .int .i64 9223372036854775807] 44 (0, 0))) := cell_new wc _
            by_cases hqj : j < qs.length
            · have d3 : decide ((j : Int) < (qs.length : Int)) = true := decide_eq_true (by omega)
              obtain ⟨b3, off3, A5, c5, rfl, -, z0, z1, z2, hmv⟩ := hQ.out wc hD2.out.new j hqj
              obtain ⟨hq1, hq2, hq3, hq4⟩ := hqb.out _ (List.getElem_mem hqj)
              obtain ⟨⟨ms, qa, qb⟩, hqq⟩ : ∃ x, qs[j] = x := ⟨_, rfl⟩
              simp only [hqq] at z0 z1 z2 hmv hq1 hq2 hq3 hq4
              clear hqq
              replace z0 := Lb.New0.cells uq z0
              replace z1 := Lb.New0.cells uq z1
              replace z2 := Lb.New0.cells uq z2
              obtain ⟨X, hX⟩ : ∃ X, wc.alloc (.cells #[.slice none 0 0, .int .i64 (-9223372036854775808), .int .i64 9223372036854775807] 44 (0, 0)) = X := ⟨_, rfl⟩
              rw [hX] at uq hbq z0 z1 z2
              obtain ⟨i0, i1, i2⟩ := hbq.cells
              have f0 := hbq.frozen 0
              have f1 := hbq.frozen 1
              have f2 := hbq.frozen 2
              have hb1' := hbq.set0 (.slice A5 ms.length c5)
              have hb2' := hb1'.set1 (.int .i64 qa)
              have hb3' := hb2'.set2 (.int .i64 qb)
              have uX : New0 wc (((X.setCell ⟨wc.heap.size, 0, none⟩ (.slice A5 ms.length c5)).setCell ⟨wc.heap.size, 1, none⟩ (.int .i64 qa)).setCell ⟨wc.heap.size, 2, none⟩ (.int .i64 qb)) := Upon.setCell (p := ⟨wc.heap.size, 2, none⟩) (Upon.setCell (p := ⟨wc.heap.size, 1, none⟩) (Upon.setCell (p := ⟨wc.heap.size, 0, none⟩) uq (.inr (Nat.le_refl _)) _) (.inr (Nat.le_refl _)) _) (.inr (Nat.le_refl _)) _
              obtain ⟨k0', k1', k2'⟩ := hb3'.cells
              by_cases h50 : 50 < ms.length
              · have d5 : decide ((50 : Int) < (ms.length : Int)) = true := decide_eq_true (by omega)
                have hend := Lib.hid (upBel (hD2.out.new.trans uX))
                clear HSM uX hmv hbq hb1' hb2' hb3' uq
                go_wp2_with fail
                go_ret
                exact ⟨rfl, hend.out⟩
              · have d5 : decide ((50 : Int) < (ms.length : Int)) = false := decide_eq_false (by omega)
                clear hbq hb1' hb2' hb3' uq
                go_wp2_with fail
                refine (HSM.out _ ⟨A5, ms.length, c5⟩ ms qa qb AllB uX (Rw.View.new hmv uX) hq1 hq2 hq3).mono ?_
                rintro e w9 ⟨rfl, hu9⟩
                have hD9 := Lib.hid ((hD2.out.step uX).step hu9)
                clear HSM hu9 hD2
                go_wp2_with fail
                go_roundw
                case rel => exact ⟨j + 1, g2, by go_num, hlt, h50j, hs2, hn2, hD9⟩
                case measure => simp [intOf]; omega
            · have d3 : decide ((j : Int) < (qs.length : Int)) = false := decide_eq_false (by omega)
              obtain ⟨i0, i1, i2⟩ := hbq.cells
              clear hbq
              go_wp2_with fail
              refine (HSM.out _ ⟨none, 0, 0⟩ [] (-9223372036854775808) 9223372036854775807 (fun _ => True) uq (Rw.View.noth _ _ _) (fun x hx => (by cases hx)) ⟨by decide, by decide⟩ ⟨by decide, by decide⟩).mono ?_
              rintro e w9 ⟨rfl, hu9⟩
              have hD9 := Lib.hid ((hD2.out.step uq).step hu9)
              clear HSM hu9 hD2
              go_wp2_with fail
              go_roundw
              case rel => exact ⟨j + 1, g2, by go_num, hlt, h50j, hs2, hn2, hD9⟩
              case measure => simp [intOf]; omega
          · have d4 : decide ((0 : Int) < (rj.smp.length : Int)) = false := decide_eq_false (by omega)
            clear hsv2 hb1o
            have HSM : Hid (∀ (w' : World) (m : Rw.Sl) (ms : List Mt.M) (qa qb : Int) (T : Nat → Prop), New0 wc w' → Mt.View w' T m.v ms → Mt.Bnd ms → (-9223372036854775808 ≤ qa ∧ qa ≤ 9223372036854775807) → (-9223372036854775808 ≤ qb ∧ qb ≤ 9223372036854775807) →
                Calls Tryz.prog 12 #[.pointer (some ⟨p, 0, none⟩), .pointer (some ⟨q, 0, none⟩), .agg #[m.v, .int .i64 qa, .int .i64 qb], .slice none 0 0] w' fun e w'' => e = .returned (.bool true) ∧ New0 w' w'') := Lib.hid (fun w' m ms qa qb T hu h1 h2 h3 h4 => by
              obtain ⟨S, S', hp, hr, -, -⟩ := hD2.out.obj
              exact same_heads w' (ph_new hp hu) (rh_new hr hu) hs2.out hn2.out T _ m ms qa qb h1 h2 h3 h4 _ [] (Rw.View.new (Rw.View.noth Lb.layPr wc (fun _ => True)) hu) (fun x hx => (by cases hx)) (by simp))
            have uq := (Upon.refl (fun _ => False) wc).alloc (.cells #[.slice none 0 0, .int .i64 (-9223372036854775808), .int .i64 9223372036854775807] 44 (0, 0))
            have hbq : Rw.Blk3 44 wc.heap.size (.slice none 0 0) (.int .i64 (-9223372036854775808)) (.int .i64 9223372036854775807) (wc.alloc (.cells #[.slice none 0 0, .int .i64 (-9223372036854775808), .int .i64 9223372036854775807] 44 (0, 0))) := cell_new wc _
            by_cases hqj : j < qs.length
            · have d3 : decide ((j : Int) < (qs.length : Int)) = true := decide_eq_true (by omega)
              obtain ⟨b3, off3, A5, c5, rfl, -, z0, z1, z2, hmv⟩ := hQ.out wc hD2.out.new j hqj
              obtain ⟨hq1, hq2, hq3, hq4⟩ := hqb.out _ (List.getElem_mem hqj)
              obtain ⟨⟨ms, qa, qb⟩, hqq⟩ : ∃ x, qs[j] = x := ⟨_, rfl⟩
              simp only [hqq] at z0 z1 z2 hmv hq1 hq2 hq3 hq4
              clear hqq
              replace z0 := Lb.New0.cells uq z0
              replace z1 := Lb.New0.cells uq z1
              replace z2 := Lb.New0.cells uq z2
              obtain ⟨X, hX⟩ : ∃ X, wc.alloc (.cells #[.slice none 0 0, .int .i64 (-9223372036854775808), .int .i64 9223372036854775807] 44 (0, 0)) = X := ⟨_, rfl⟩
              rw [hX] at uq hbq z0 z1 z2
              obtain ⟨i0, i1, i2⟩ := hbq.cells
              have f0 := hbq.frozen 0
              have f1 := hbq.frozen 1
              have f2 := hbq.frozen 2
              have hb1' := hbq.set0 (.slice A5 ms.length c5)
              have hb2' := hb1'.set1 (.int .i64 qa)
              have hb3' := hb2'.set2 (.int .i64 qb)
              have uX : New0 wc (((X.setCell ⟨wc.heap.size, 0, none⟩ (.slice A5 ms.length c5)).setCell ⟨wc.heap.size, 1, none⟩ (.int .i64 qa)).setCell ⟨wc.heap.size, 2, none⟩ (.int .i64 qb)) := Upon.setCell (p := ⟨wc.heap.size, 2, none⟩) (Upon.setCell (p := ⟨wc.heap.size, 1, none⟩) (Upon.setCell (p := ⟨wc.heap.size, 0, none⟩) uq (.inr (Nat.le_refl _)) _) (.inr (Nat.le_refl _)) _) (.inr (Nat.le_refl _)) _
              obtain ⟨k0', k1', k2'⟩ := hb3'.cells
              by_cases h50 : 50 < ms.length
              · have d5 : decide ((50 : Int) < (ms.length : Int)) = true := decide_eq_true (by omega)
                have hend := Lib.hid (upBel (hD2.out.new.trans uX))
                clear HSM uX hmv hbq hb1' hb2' hb3' uq
                go_wp2_with fail
                go_ret
                exact ⟨rfl, hend.out⟩
              · have d5 : decide ((50 : Int) < (ms.length : Int)) = false := decide_eq_false (by omega)
                clear hbq hb1' hb2' hb3' uq
                go_wp2_with fail
                refine (HSM.out _ ⟨A5, ms.length, c5⟩ ms qa qb AllB uX (Rw.View.new hmv uX) hq1 hq2 hq3).mono ?_
                rintro e w9 ⟨rfl, hu9⟩
                have hD9 := Lib.hid ((hD2.out.step uX).step hu9)
                clear HSM hu9 hD2
                go_wp2_with fail
                go_roundw
                case rel => exact ⟨j + 1, g2, by go_num, hlt, h50j, hs2, hn2, hD9⟩
                case measure => simp [intOf]; omega
            · have d3 : decide ((j : Int) < (qs.length : Int)) = false := decide_eq_false (by omega)
              obtain ⟨i0, i1, i2⟩ := hbq.cells
              clear hbq
              go_wp2_with fail
              refine (HSM.out _ ⟨none, 0, 0⟩ [] (-9223372036854775808) 9223372036854775807 (fun _ => True) uq (Rw.View.noth _ _ _) (fun x hx => (by cases hx)) ⟨by decide, by decide⟩ ⟨by decide, by decide⟩).mono ?_
              rintro e w9 ⟨rfl, hu9⟩
              have hD9 := Lib.hid ((hD2.out.step uq).step hu9)
              clear HSM hu9 hD2
              go_wp2_with fail
              go_roundw
              case rel => exact ⟨j + 1, g2, by go_num, hlt, h50j, hs2, hn2, hD9⟩
              case measure => simp [intOf]; omega
      · have hcase : (j < l.length ∧ ¬ j < 50) ∨ ¬ j < l.length := by
          by_cases h1 : j < l.length
          · exact .inl ⟨h1, fun h2 => hgo ⟨h1, h2⟩⟩
          · exact .inr h1
        clear hgo
        rcases hcase with ⟨hlt, h5⟩ | hlt
        case' inl =>
          have d1 : decide ((j : Int) < (l.length : Int)) = true := decide_eq_true (by omega)
          have d2 : decide ((j : Int) < 50) = false := decide_eq_false (by omega)
        case' inr =>
          have d1 : decide ((j : Int) < (l.length : Int)) = false := decide_eq_false (by omega)
        all_goals
          go_wp2_with fail
          go_ret
          exact ⟨rfl, upBel hD.out.new⟩
end Hd
end Go.Proofs.YtfheehlfodoimaaGreat
