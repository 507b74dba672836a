/- The program's head (layer 13): a series' remove, the head's remove. -/
import Derived.Test.YtfheehlfodoimaaGreatHdDel
import Derived.Test.YtfheehlfodoimaaGreatHdCom
import Derived.Test.YtfheehlfodoimaaGreatPMt2
set_option maxRecDepth 100000
namespace Go.Proofs.YtfheehlfodoimaaGreat
open Go.RowKit Go.Sort
namespace Hd
open Bit Dsk Ob Dig Nm
set_option linter.unusedVariables false
set_option linter.unusedSimpArgs false
theorem three {pts : List Pt} {b e : Nat} (h1 : b ≤ e) (h2 : e ≤ pts.length) : pts = pts.take b ++ ((pts.drop b).take (e - b) ++ pts.drop e) := by
  have e1 : pts.drop e = (pts.drop b).drop (e - b) := by rw [List.drop_drop]; congr 1; omega
  rw [e1, List.take_append_drop, List.take_append_drop]
theorem Spn.parts {pts : List Pt} {a c : Int} {b e : Nat} (h : Spn pts a c b e) : (∀ x ∈ pts.take b, x.1 < a) ∧ (∀ x ∈ (pts.drop b).take (e - b), a ≤ x.1 ∧ x.1 ≤ c) ∧ (∀ x ∈ pts.drop e, a ≤ x.1 ∧ c < x.1) := by
  have h1 := h.le
  have h2 := h.max
  refine ⟨fun x hx => ?_, fun x hx => ?_, fun x hx => ?_⟩
  · obtain ⟨i, hi, rfl⟩ := List.mem_iff_getElem.1 hx
    rw [List.length_take] at hi
    rw [List.getElem_take]
    have := h.lo i (by omega)
    rwa [pT_is (by omega)] at this
  · obtain ⟨i, hi, rfl⟩ := List.mem_iff_getElem.1 hx
    rw [List.length_take, List.length_drop] at hi
    rw [List.getElem_take, List.getElem_drop]
    have k1 := h.up (b + i) (by omega) (by omega)
    have k2 := h.mid (b + i) (by omega) (by omega)
    rw [pT_is (by omega)] at k1 k2
    exact ⟨k1, k2⟩
  · obtain ⟨i, hi, rfl⟩ := List.mem_iff_getElem.1 hx
    rw [List.length_drop] at hi
    rw [List.getElem_drop]
    have k1 := h.up (e + i) (by omega) (by omega)
    have k2 := h.hi (e + i) (by omega) (by omega)
    rw [pT_is (by omega)] at k1 k2
    exact ⟨k1, k2⟩
theorem Spn.without {pts : List Pt} {a c : Int} {b e : Nat} (h : Spn pts a c b e) : without pts a c = pts.take b ++ pts.drop e := by
  obtain ⟨k1, k2, k3⟩ := h.parts
  conv => lhs; rw [three h.le h.max]
  unfold Hd.without
  rw [List.filter_append, List.filter_append, List.filter_eq_self.2 (fun x hx => by have := k1 x hx; simp [this]), List.filter_eq_nil_iff.2 (fun x hx => by have := k2 x hx; simp; omega), List.filter_eq_self.2 (fun x hx => by have := k3 x hx; simp [this])]
  rfl
theorem Spn.within {pts : List Pt} {a c : Int} {b e : Nat} (h : Spn pts a c b e) : within pts a c = (pts.drop b).take (e - b) := by
  obtain ⟨k1, k2, k3⟩ := h.parts
  conv => lhs; rw [three h.le h.max]
  unfold Hd.within
  rw [List.filter_append, List.filter_append, List.filter_eq_nil_iff.2 (fun x hx => by have := k1 x hx; simp; omega), List.filter_eq_self.2 (fun x hx => by have := k2 x hx; simp [this]), List.filter_eq_nil_iff.2 (fun x hx => by have := k3 x hx; simp; omega)]
  simp
theorem Inv.cut {h : H} (hv : Inv h) {i : Nat} (hi : i < h.length) (a c : Int) : Inv (h.set i ⟨h[i].lab, Hd.without h[i].pts a c, h[i].last⟩) := by
  have k : ∀ r ∈ h.set i ⟨h[i].lab, Hd.without h[i].pts a c, h[i].last⟩, r ∈ h ∨ r = ⟨h[i].lab, Hd.without h[i].pts a c, h[i].last⟩ := fun r hr => List.mem_or_eq_of_mem_set hr
  have hm := List.getElem_mem hi
  refine ⟨fun r hr => ?_, fun r hr => ?_, fun r hr => ?_, fun r hr => ?_⟩
  · rcases k r hr with h1 | rfl
    · exact hv.ok r h1
    · exact hv.ok h[i] hm
  · rcases k r hr with h1 | rfl
    · exact hv.rise r h1
    · exact List.Pairwise.sublist List.filter_sublist (hv.rise _ hm)
  · rcases k r hr with h1 | rfl
    · exact hv.most r h1
    · intro x hx
      exact hv.most _ hm x (List.mem_filter.1 hx).1
  · rcases k r hr with h1 | rfl
    · exact hv.wf r h1
    · exact hv.wf h[i] hm
section
variable {A R : Nat → Prop} {p b : Nat} {N : Nms} {bs : List Nat} {rs : List RR} {h : H}
set_option maxHeartbeats 3200000 in
theorem sremove_any (w : World) (hh : HeadP w A R p b N bs rs h) {i : Nat} (hi : i < h.length) (hb : i < bs.length) (s : Nat) (hs : bs[i] = s) (a c : Int) (hlen : h[i].pts.length ≤ 1000000000) :
    Calls Tryz.prog 44 #[.pointer (some ⟨s, 0, none⟩), .int .i64 a, .int .i64 c] w fun e w' => e = .returned (.tuple #[]) ∧ ChgE w w' A R p b N bs (h.set i ⟨h[i].lab, without h[i].pts a c, h[i].last⟩) ∧ w'.heap[b]? = w.heap[b]? := by
  obtain ⟨hb', hr, hblk, hlv, hpm⟩ := hh.at hi
  have hfin : Hid (∀ (x : World) (t' : Rw.Sl) (m : List Pt), m = without h[i].pts a c → Upon (fun k => k = bs[i] ∨ rs[i].pts.v.ownBlock = some k) w x → Rw.Blk3 86 bs[i] rs[i].lab.v t'.v (.int .i64 h[i].last) x → PMine x t'.v m → (∀ k, t'.v.ownBlock = some k → rs[i].pts.v.ownBlock = some k ∨ w.heap.size ≤ k) →
      ChgE w x A R p b N bs (h.set i ⟨h[i].lab, without h[i].pts a c, h[i].last⟩) ∧ x.heap[b]? = w.heap[b]?) := Lib.hid (fun x t' m hm hup hblk' hmm hown => by
    subst hm
    obtain ⟨A', e1, e2, e3, e4⟩ := hh.chg hi hb hr hup hblk' hmm hown (hh.inv.cut hi a c)
    refine ⟨⟨⟨A', _, e1, e2, e3⟩, e4⟩, hup.block b hh.map.lt fun e => ?_⟩
    rcases e with e | e
    · exact hh.map.ne hblk e.symm
    · obtain ⟨cs, h2⟩ := hpm.typ e; exact hh.map.ne h2 rfl)
  have hrise := hh.inv.rise _ (List.getElem_mem hi)
  obtain ⟨⟨la, ln, lc⟩, hlab⟩ : ∃ x, rs[i].lab = x := ⟨_, rfl⟩
  obtain ⟨⟨pa, pn, pc⟩, hpts⟩ : ∃ x, rs[i].pts = x := ⟨_, rfl⟩
  obtain ⟨pts, hps⟩ : ∃ x, h[i].pts = x := ⟨_, rfl⟩
  obtain ⟨lst, hls⟩ : ∃ x, h[i].last = x := ⟨_, rfl⟩
  rw [hps] at hpm hlen hrise
  rw [hlab, hpts, hls, hs] at hblk
  rw [hpts] at hpm
  simp only at hblk hpm
  rw [hlab, hpts, hps, hs, hls] at hfin
  have hgoal : Hid (h.set i ⟨h[i].lab, without h[i].pts a c, h[i].last⟩ = h.set i ⟨h[i].lab, without pts a c, lst⟩) := Lib.hid (by rw [hps, hls])
  rw [hgoal.out]
  clear hlab hpts hls hh hlv hgoal hps
  have hpn : pn = pts.length := by obtain ⟨A2, c2, e2, -, -⟩ := Rw.View.shape hpm.view; injection e2
  subst hpn
  have hne : ∀ k, (Value.slice pa pts.length pc).ownBlock = some k → k ≠ s ∧ k < w.heap.size := fun k hk => by
    obtain ⟨cs, h1⟩ := hpm.typ hk
    exact ⟨(typ_ne ne_ZP hblk h1).symm, (Array.getElem?_eq_some_iff.1 h1).1⟩
  have HP : PtsAt w s pa pc pts := ⟨hblk.cells.2.1, hpm⟩
  have HS := Lib.hid (span_any w s pa pc pts a c HP hrise hlen)
  have HD := Lib.hid (fun w1 (hu : New0 w w1) b d h1 h2 => delete_any w1 pa pc pts (hpm.new hu) b d h1 h2 hlen)
  have HB := Lib.hid (fun w1 (hu : New0 w w1) => hblk.new hu)
  replace hne := Lib.hid hne
  replace hpm := Lib.hid hpm
  clear HP hrise hblk
  go_enter Tryz.func44, Tryz.ntmps44
  go_wp2_with fail
  refine HS.out.mono ?_
  rintro e w2 ⟨b', d, rfl, hsp, hu2⟩
  obtain ⟨-, c1, -⟩ := (HB.out w2 hu2).cells
  have HD2 := Lib.hid (HD.out w2 hu2 b' d hsp.le hsp.max)
  have hB2 := Lib.hid (HB.out w2 hu2)
  replace hsp := Lib.hid hsp
  replace hu2 := Lib.hid hu2
  clear HS HD HB
  go_wp2_with fail
  refine HD2.out.mono ?_
  rintro e w3 ⟨⟨ua, un, uc⟩, rfl, hm3, ho3, hu3⟩
  have hB3 := hB2.out.upon hu3 (fun e => (hne.out s e).1 rfl)
  have pf := hB3.frozen 1
  obtain ⟨-, pc1, -⟩ := hB3.cells
  have us : Upon (fun k => k = s) w3 (w3.setCell ⟨s, 1, none⟩ (.slice ua un uc)) := Upon.setCell (S := fun k => k = s) (p := ⟨s, 1, none⟩) (Upon.refl _ w3) (.inl rfl) _
  have hend := Lib.hid (hfin.out (w3.setCell ⟨s, 1, none⟩ (.slice ua un uc)) ⟨ua, un, uc⟩ _ hsp.out.without.symm
    (Upon.trans (Upon.trans (hu2.out.mono fun _ _ f => f.elim) (hu3.mono fun _ _ e => .inr e)) (us.mono fun _ _ e => .inl e)) (hB3.set1 _)
    (Rw.Mine.upon hm3 us (fun k hk e => (hne.out k (ho3 k hk)).1 e)) (fun k hk => .inl (ho3 k hk)))
  clear HD2 hm3 ho3 hu3 hB3 us hfin hB2 hsp hu2 c1
  go_wp2_with fail
  go_end0
  exact ⟨rfl, hend.out⟩
/-- A delete, as far as it has come. -/
def prt (left : Left) (ms : List Mt.M) (a c : Int) (h : H) : H := h.map fun r => if fin left r = true then del1 ms a c r else r
theorem prt_len (left : Left) (ms : List Mt.M) (a c : Int) (h : H) : (prt left ms a c h).length = h.length := by simp [prt]
theorem labs_prt (left : Left) (ms : List Mt.M) (a c : Int) (h : H) : labs (prt left ms a c h) = labs h := by
  unfold labs prt
  rw [List.map_map]
  apply List.map_congr_left
  intro r _
  simp only [Function.comp]
  split
  · unfold del1; split <;> rfl
  · rfl
theorem HeadP.prt_start {w : World} (hh : HeadP w A R p b N bs rs h) (ms : List Mt.M) (a c : Int) : prt (Maps.has (toD N)) ms a c h = h := by
  unfold prt
  conv => rhs; rw [← List.map_id h]
  apply List.map_congr_left
  intro r hr
  have h0 := hh.fin_start
  rw [List.filter_eq_nil_iff] at h0
  rw [if_neg (h0 r hr)]; rfl
theorem prt_end {left : Left} (hl : ∀ kl, left kl = false) (ms : List Mt.M) (a c : Int) (h : H) : prt left ms a c h = del h ms a c := by
  unfold prt del
  apply List.map_congr_left
  intro r _
  rw [if_pos (by simp [fin, hl])]
theorem HeadP.prt_step {w : World} (hh : HeadP w A R p b N bs rs h) (hs : Srt h) {left : Left} {i : Nat} (hi : i < h.length) (hl : left (.string (Lb.encB h[i].lab)) = true) (ms : List Mt.M) (a c : Int) :
    (prt left ms a c h)[i]'(by rw [prt_len]; exact hi) = h[i] ∧ prt (strike left (Lb.encB h[i].lab)) ms a c h = (prt left ms a c h).set i (del1 ms a c h[i]) := by
  have h0 : fin left h[i] = false := by simp [fin, hl]
  constructor
  · simp [prt, h0]
  · apply List.ext_getElem
    · simp [prt]
    · intro j j1 j2
      have hj : j < h.length := by simpa [prt] using j1
      by_cases e : j = i
      · subst e
        have hf : fin (strike left (Lb.encB h[j].lab)) h[j] = true := fin_strike_same
        simp [prt, hf]
      · rw [List.getElem_set_ne (fun e2 => e e2.symm)]
        have hf := fin_strike_other (left := left) (r := h[j]) (q := h[i]) (hh.keys_ne hs hj hi e)
        simp [prt, hf]
theorem prt_same {left : Left} {i : Nat} {h : H} (hi : i < h.length) (ms : List Mt.M) (a c : Int) (hat : (prt left ms a c h)[i]'(by rw [prt_len]; exact hi) = h[i]) (hn : Mt.is ms h[i].lab = false) : (prt left ms a c h).set i (del1 ms a c h[i]) = prt left ms a c h := by
  have : del1 ms a c h[i] = h[i] := by unfold del1; rw [if_neg (by rw [hn]; decide)]
  rw [this, ← hat]
  exact List.set_getElem_self _
/-- A head under way, since w0; block q turns too. -/
structure Way (w0 w : World) (A R : Nat → Prop) (p b : Nat) (N : Nms) (bs : List Nat) (q : Nat) (g : H) : Prop where
  obj : ∃ A1 rs1, HeadP w A1 R p b N bs rs1 g ∧ (∀ k, A k → A1 k) ∧ ∀ k, A1 k → A k ∨ w0.heap.size ≤ k
  upon : Upon (fun k => A k ∨ k = q) w0 w
set_option maxHeartbeats 6400000 in
theorem rem_any (w : World) (hh : HeadP w A R p b N bs rs h) (hs : Srt h) (T : Nat → Prop) (v : Value) (ms : List Mt.M) (hv : Mt.View w T v ms) (hTA : ∀ k, T k → ¬ A k) (hb : Mt.Bnd ms) (a c : Int) (hlen : ∀ r ∈ h, r.pts.length ≤ 1000000000) :
    Calls Tryz.prog 20 #[.pointer (some ⟨p, 0, none⟩), v, .int .i64 a, .int .i64 c] w fun e w' => e = .returned (.tuple #[]) ∧ CmE w w' A R p b (del h ms a c) := by
  obtain ⟨Av, cv, rfl, -, -⟩ := Rw.View.shape hv
  have b0 := hh.box0
  have HM := Lib.hid hh.map
  have HH := Lib.hid hh
  have HS := Lib.hid hs
  have hv2 : Mt.View w (fun k => T k ∧ k < w.heap.size) (.slice Av ms.length cv) ms := Rw.View.mono hv fun k hk h1 => ⟨h1, hk⟩
  have HV : Hid (∀ w1, Upon (fun k => A k ∨ k = w.heap.size) w w1 → Mt.View w1 (fun k => T k ∧ k < w.heap.size) (.slice Av ms.length cv) ms) := Lib.hid (fun w1 hu => Rw.View.upon hv2 hu (fun k hk e => by
    rcases e with e | e
    · exact hTA k hk.1 e
    · omega))
  have hqA : ¬ A w.heap.size := fun e => by have := hh.lt _ (.inl e); omega
  have hqR : ¬ R w.heap.size := fun e => by have := hh.lt _ (.inr e); omega
  replace hlen := Lib.hid hlen
  replace hb := Lib.hid hb
  clear hh hs hv hv2 hTA
  go_enter Tryz.func20, Tryz.ntmps20
  go_wp2_with (at_range; refine wpList_rangeS _ rfl _ rfl b N rfl HM.out ?_; intro w0 hrg0 hg0 hs0)
  have hu0 : New0 w w0 := (Upon.refl _ w).grown hg0 (fun k e => by cases e)
  have HW0 : Hid (Way w0 w0 A R p b N bs w.heap.size h) := Lib.hid ⟨⟨A, rs, HH.out.new hu0, fun k hk => hk, fun k hk => .inl hk⟩, Upon.refl _ _⟩
  have HU0 := Lib.hid hu0
  have HG0 := Lib.hid hrg0
  have HZ0 := Lib.hid hs0
  clear hrg0 hg0 hs0 b0 hu0
  go_frame
  go_loopw [] (fun wr => ∃ (left : Left) (cnt : Nat), Hid (RanS wr b w.heap.size N left cnt) ∧ Hid (Way w0 wr A R p b N bs w.heap.size (prt left ms a c h)))
    (fun wr => wr.rangeLeft b w.heap.size)
  case atStart => exact ⟨_, _, HG0, by rw [HH.out.prt_start]; exact HW0⟩
  case round =>
    obtain ⟨left, cnt, HRG, HWY⟩ := hrel
    go_wp2_with (at_next; refine wpList_nextS _ rfl _ rfl b w.heap.size N HH.out.nats left cnt rfl HRG.out ?_ ?_)
    · intro hl0
      have hend : Hid (CmE w wr A R p b (del h ms a c)) := Lib.hid (by
        obtain ⟨⟨A1, rs1, h1, h2, h3⟩, h4⟩ := HWY.out
        rw [prt_end hl0] at h1
        have q := HU0.out.size
        exact ⟨A1, R, N, bs, rs1, h1, h2, fun k hk => (h3 k hk).imp id (fun e => by omega), fun k hk => .inl hk, (HU0.out.mono (fun _ _ f => f.elim) : Upon A w w0).trans' h4 (fun k k1 k2 => k2.elim id (fun e => by omega))⟩)
      clear hl0
      go_wp2
      go_end0
      exact ⟨rfl, hend.out⟩
    · intro k s w1 cnt1 hksz hlk hlx hrg1 hlt hg1 hsz hen
      obtain ⟨⟨A1, rs1, h1, h2, h3⟩, h4⟩ := HWY.out
      have hz0 := HZ0.out
      have hq1 : ∀ x, A1 x → ¬ x = w.heap.size := fun x hx e => by
        rcases h3 x hx with h | h
        · exact hqA (e ▸ h)
        · omega
      have hu1 : Upon (fun x => x = w.heap.size) wr w1 := Upon.grown (Upon.refl _ wr) hg1 (fun k e => by cases e; exact .inl rfl)
      have h1' := h1.upon hu1 hq1 (fun x hx e => hqR (e ▸ hx))
      obtain ⟨i, hi, hbi, e1, e2⟩ := HH.out.look_inv hlk
      have e2' : bs[i] = s := by omega
      rw [e1] at hlx hrg1
      obtain ⟨hat, hst⟩ := HH.out.prt_step HS.out hi hlx ms a c
      have hip : i < (prt left ms a c h).length := by rw [prt_len]; exact hi
      obtain ⟨hb2, hr2, hblk, hlv, hpm⟩ := h1'.at hip
      rw [e2'] at hblk
      rw [hat] at hlv
      obtain ⟨c0, -, -⟩ := hblk.cells
      have hup1 : Upon (fun x => A x ∨ x = w.heap.size) w w1 := ((HU0.out.mono (fun _ _ f => f.elim) : Upon (fun x => A x ∨ x = w.heap.size) w w0).trans h4).trans (hu1.mono fun _ _ e => .inr e)
      have HI := Lib.hid (Mt.is_any w1 _ R _ _ ms h[i].lab (HV.out w1 hup1) hb.out hlv)
      have hle : (prt left ms a c h)[i].pts.length ≤ 1000000000 := by rw [hat]; exact hlen.out _ (List.getElem_mem hi)
      have HR : Hid (∀ w2, New0 w1 w2 → Calls Tryz.prog 44 #[.pointer (some ⟨s, 0, none⟩), .int .i64 a, .int .i64 c] w2 fun e w' => e = .returned (.tuple #[]) ∧ ChgE w2 w' A1 R p b N bs ((prt left ms a c h).set i ⟨h[i].lab, without h[i].pts a c, h[i].last⟩) ∧ w'.heap[b]? = w2.heap[b]?) := Lib.hid (fun w2 hu => by
        have := sremove_any w2 (h1'.new hu) hip hb2 s e2' a c hle
        simp only [hat] at this
        exact this)
      have HRG1 : Hid (∀ w2, w2.heap[b]? = w1.heap[b]? → w2.heap[w.heap.size]? = w1.heap[w.heap.size]? → RanS w2 b w.heap.size N (strike left (Lb.encB h[i].lab)) cnt1) := Lib.hid (fun w2 k1 k2 => RanS.kept (show RanS w1 b w.heap.size N (strike left (Lb.encB h[i].lab)) cnt1 from hrg1) k1 k2)
      have hw1 : w.heap.size < w1.heap.size := World.ranges.lt hrg1
      have hbl1 : b < w1.heap.size := h1'.map.lt
      have HW1 : Hid (∀ w2, New0 w1 w2 → Way w0 w2 A R p b N bs w.heap.size (prt left ms a c h)) := Lib.hid (fun w2 hu => ⟨⟨A1, rs1, h1'.new hu, h2, h3⟩, (h4.trans (hu1.mono fun _ _ e => .inr e)).trans (hu.mono fun _ _ f => f.elim)⟩)
      have HW2 : Hid (∀ w2 w3 g, New0 w1 w2 → ChgE w2 w3 A1 R p b N bs g → Way w0 w3 A R p b N bs w.heap.size g) := Lib.hid (by
        rintro w2 w3 g hu ⟨⟨A2, rs2, g1, g2, g3⟩, g4⟩
        have q1 := h4.size
        have q2 := hu1.size
        have q3 := hu.size
        refine ⟨⟨A2, rs2, g1, fun x hx => g2 x (h2 x hx), fun x hx => ?_⟩, ?_⟩
        · rcases g3 x hx with h | h
          · exact h3 x h
          · exact .inr (by omega)
        · refine ((h4.trans (hu1.mono fun _ _ e => .inr e)).trans (hu.mono fun _ _ f => f.elim)).trans' g4 (fun x k1 k2 => ?_)
          rcases h3 x k2 with h | h
          · exact .inl h
          · omega)
      have HLT := Lib.hid hlt
      have HQ1 := Lib.hid hq1
      obtain ⟨q, hq⟩ : ∃ q, Mt.is ms h[i].lab = q := ⟨_, rfl⟩
      rw [hq] at HI
      cases q with
      | false =>
        have hsame := prt_same hi ms a c hat hq
        rw [hsame] at hst
        have HST := Lib.hid hst
        clear h1 h2 h3 h4 h1' hu1 hblk hlv hpm hup1 hlx hrg1 hg1 hlt hq hst hsame hat hle hq1 HR HW2 e1 hlk hksz
        go_wp2_with fail
        refine HI.out.mono ?_
        rintro e w2 ⟨rfl, hu2⟩
        have HR2 := Lib.hid (HRG1.out w2 (hu2.block b hbl1 (fun f => f)) (hu2.block _ hw1 (fun f => f)))
        have HY2 : Hid (Way w0 w2 A R p b N bs w.heap.size (prt (strike left (Lb.encB h[i].lab)) ms a c h)) := Lib.hid (by rw [HST.out]; exact HW1.out w2 hu2)
        clear hu2 HI c0 HRG1 HW1
        go_wp2_with fail
        go_roundw
        case rel => exact ⟨_, cnt1, HR2, HY2⟩
        case measure => rw [HR2.out.left_eq, HRG.out.left_eq]; exact HLT.out
      | true =>
        have hd : del1 ms a c h[i] = ⟨h[i].lab, without h[i].pts a c, h[i].last⟩ := if_pos hq
        rw [hd] at hst
        rw [← hst] at HR
        clear h1 h2 h3 h4 h1' hu1 hblk hlv hpm hup1 hlx hrg1 hg1 hlt hq hst hd hat hle hq1 HW1 e1 hlk hksz
        go_wp2_with fail
        refine HI.out.mono ?_
        rintro e w2 ⟨rfl, hu2⟩
        have HR2 := Lib.hid (HR.out w2 hu2)
        replace hu2 := Lib.hid hu2
        clear HI c0 HR
        go_wp2_with fail
        refine HR2.out.mono ?_
        rintro e w3 ⟨rfl, hch, hbb⟩
        have HR3 := Lib.hid (HRG1.out w3 (hbb.trans (hu2.out.block b hbl1 (fun f => f))) ((hch.upon.block _ (Nat.lt_of_lt_of_le hw1 hu2.out.size) (fun e => HQ1.out _ e rfl)).trans (hu2.out.block _ hw1 (fun f => f))))
        have HY3 := Lib.hid (HW2.out w2 w3 _ hu2.out hch)
        clear hch hbb hu2 HR2 HRG1 HW2
        go_wp2_with fail
        go_roundw
        case rel => exact ⟨_, cnt1, HR3, HY3⟩
        case measure => rw [HR3.out.left_eq, HRG.out.left_eq]; exact HLT.out
end
end Hd
end Go.Proofs.YtfheehlfodoimaaGreat
