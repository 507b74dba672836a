/- The program's head (layer 13): a series' copy, Copy. -/
import Derived.Test.YtfheehlfodoimaaHdAcc
import Derived.Test.YtfheehlfodoimaaHdIns
import Derived.Test.YtfheehlfodoimaaPHeld
set_option maxRecDepth 100000
namespace Go.Proofs.Ytfheehlfodoimaa
open Go.RowKit Go.Sort
namespace Hd
open Bit Dsk Ob Dig Go.Proofs.Ytfheehlfodoimaa.Nm
set_option linter.unusedVariables false
set_option linter.unusedSimpArgs false
set_option maxHeartbeats 6400000 in
theorem scopy_any (w : World) (R : Nat → Prop) (s : Nat) (la pa : Option Addr) (lc pc : Nat) (lst : Int) (l : List Lb.Pr) (pts : List Pt) (hblk : Rw.Blk3 66 s (.slice la l.length lc) (.slice pa pts.length pc) (.int .i64 lst) w) (hlv : Lb.View w R (.slice la l.length lc) l) (hpm : PMine w (.slice pa pts.length pc) pts) (hll : l.length ≤ 1000000000) (hpl : pts.length ≤ 1000000000) :
    Calls Try.prog 31 #[.pointer (some ⟨s, 0, none⟩)] w fun e w' => ∃ (z : Nat) (ul up : Rw.Sl), e = .returned (.pointer (some ⟨z, 0, none⟩)) ∧ Rw.Blk3 66 z ul.v up.v (.int .i64 lst) w' ∧ w.heap.size ≤ z ∧
      Lb.Mine w' ul.v l ∧ (∀ k, ul.v.ownBlock = some k → w.heap.size ≤ k) ∧ PMine w' up.v pts ∧ (∀ k, up.v.ownBlock = some k → w.heap.size ≤ k) ∧ New0 w w' := by
  have HL := Lib.hid (fun W' (hu : New0 w W') => clonePr_any W' R (.slice la l.length lc) l (Rw.View.new hlv hu) (by omega))
  have HM := Lib.hid (fun W' (hu : New0 w W') => clonePt_any W' _ (.slice pa pts.length pc) pts (hpm.new hu).view (by omega))
  have HC := Lib.hid (fun W' (hu : New0 w W') => (hblk.new hu).cells)
  clear hblk hlv hpm
  go_enter Try.func31, Try.ntmps31
  go_wp2_with fail
  refine HeldS.wp_region_S 16 (S := fun w' => w'.cell? ⟨s, 0, none⟩ = some (.slice la l.length lc) ∧ w'.cell? ⟨s, 1, none⟩ = some (.slice pa pts.length pc) ∧ w'.cell? ⟨s, 2, none⟩ = some (.int .i64 lst)) (by kernel_rfl) (HC.out _ ((Upon.refl _ w).drew)) (fun hHeld => ?_)
  refine HeldS.wpAnyS_take (i := 0) [15, 14, 4, 3, 2, 1] (oi := _) (v := ?_) rfl (by kernel_rfl) (by kernel_rfl) (by kernel_rfl) (by kernel_rfl) (by kernel_rfl) (fun _ _ _ h => h) (Or.inl ⟨by rfl, ?_⟩) (by assumption) ?_
  rotate_left
  · (intro w hSw; (try dsimp only at hSw); go_simp; (try with_reducible rfl))
  (try simp only [Act.put, List.setIfInBounds_toArray, List.set_cons_zero, List.set_cons_succ])
  refine HeldS.wpAnyS_take (i := 1) [15, 14, 4, 3, 2] (oi := _) (v := ?_) rfl (by kernel_rfl) (by kernel_rfl) (by kernel_rfl) (by kernel_rfl) (by kernel_rfl) (fun _ _ _ h => h) (Or.inl ⟨by rfl, ?_⟩) (by assumption) ?_
  rotate_left
  · (intro w hSw; (try dsimp only at hSw); go_simp; (try with_reducible rfl))
  (try simp only [Act.put, List.setIfInBounds_toArray, List.set_cons_zero, List.set_cons_succ])
  refine HeldS.wpAnyS_take (i := 2) [15, 14, 4, 3] (oi := _) (v := ?_) rfl (by kernel_rfl) (by kernel_rfl) (by kernel_rfl) (by kernel_rfl) (by kernel_rfl) (fun _ _ _ h => h) (Or.inl ⟨by rfl, ?_⟩) (by assumption) ?_
  rotate_left
  · (intro w hSw; (try dsimp only at hSw); go_simp; (try with_reducible rfl))
  (try simp only [Act.put, List.setIfInBounds_toArray, List.set_cons_zero, List.set_cons_succ])
  refine HeldS.wpAnyS_take (i := 3) [15, 14, 4] (oi := _) (v := ?_) rfl (by kernel_rfl) (by kernel_rfl) (by kernel_rfl) (by kernel_rfl) (by kernel_rfl) (fun _ _ _ h => h) (Or.inl ⟨by rfl, ?_⟩) (by assumption) ?_
  rotate_left
  · (intro w hSw; (try dsimp only at hSw); go_simp; (try with_reducible rfl))
  (try simp only [Act.put, List.setIfInBounds_toArray, List.set_cons_zero, List.set_cons_succ])
  refine HeldS.wpAnyS_take (i := 5) [15, 14, 9, 8, 7, 6] (oi := _) (v := ?_) rfl (by kernel_rfl) (by kernel_rfl) (by kernel_rfl) (by kernel_rfl) (by kernel_rfl) (fun _ _ _ h => h) (Or.inl ⟨by rfl, ?_⟩) (by assumption) ?_
  rotate_left
  · (intro w hSw; (try dsimp only at hSw); go_simp; (try with_reducible rfl))
  (try simp only [Act.put, List.setIfInBounds_toArray, List.set_cons_zero, List.set_cons_succ])
  refine HeldS.wpAnyS_take (i := 6) [15, 14, 9, 8, 7] (oi := _) (v := ?_) rfl (by kernel_rfl) (by kernel_rfl) (by kernel_rfl) (by kernel_rfl) (by kernel_rfl) (fun _ _ _ h => h) (Or.inl ⟨by rfl, ?_⟩) (by assumption) ?_
  rotate_left
  · (intro w hSw; (try dsimp only at hSw); go_simp; (try with_reducible rfl))
  (try simp only [Act.put, List.setIfInBounds_toArray, List.set_cons_zero, List.set_cons_succ])
  refine HeldS.wpAnyS_take (i := 7) [15, 14, 9, 8] (oi := _) (v := ?_) rfl (by kernel_rfl) (by kernel_rfl) (by kernel_rfl) (by kernel_rfl) (by kernel_rfl) (fun _ _ _ h => h) (Or.inl ⟨by rfl, ?_⟩) (by assumption) ?_
  rotate_left
  · (intro w hSw; (try dsimp only at hSw); go_simp; (try with_reducible rfl))
  (try simp only [Act.put, List.setIfInBounds_toArray, List.set_cons_zero, List.set_cons_succ])
  refine HeldS.wpAnyS_take (i := 8) [15, 14, 9] (oi := _) (v := ?_) rfl (by kernel_rfl) (by kernel_rfl) (by kernel_rfl) (by kernel_rfl) (by kernel_rfl) (fun _ _ _ h => h) (Or.inl ⟨by rfl, ?_⟩) (by assumption) ?_
  rotate_left
  · (intro w hSw; (try dsimp only at hSw); go_simp; (try with_reducible rfl))
  (try simp only [Act.put, List.setIfInBounds_toArray, List.set_cons_zero, List.set_cons_succ])
  refine HeldS.wpAnyS_take (i := 10) [15, 14, 13, 12, 11] (oi := _) (v := ?_) rfl (by kernel_rfl) (by kernel_rfl) (by kernel_rfl) (by kernel_rfl) (by kernel_rfl) (fun _ _ _ h => h) (Or.inl ⟨by rfl, ?_⟩) (by assumption) ?_
  rotate_left
  · (intro w hSw; (try dsimp only at hSw); go_simp; (try with_reducible rfl))
  (try simp only [Act.put, List.setIfInBounds_toArray, List.set_cons_zero, List.set_cons_succ])
  refine HeldS.wpAnyS_take (i := 11) [15, 14, 13, 12] (oi := _) (v := ?_) rfl (by kernel_rfl) (by kernel_rfl) (by kernel_rfl) (by kernel_rfl) (by kernel_rfl) (fun _ _ _ h => h) (Or.inl ⟨by rfl, ?_⟩) (by assumption) ?_
  rotate_left
  · (intro w hSw; (try dsimp only at hSw); go_simp; (try with_reducible rfl))
  (try simp only [Act.put, List.setIfInBounds_toArray, List.set_cons_zero, List.set_cons_succ])
  refine HeldS.wpAnyS_take (i := 12) [15, 14, 13] (oi := _) (v := ?_) rfl (by kernel_rfl) (by kernel_rfl) (by kernel_rfl) (by kernel_rfl) (by kernel_rfl) (fun _ _ _ h => h) (Or.inl ⟨by rfl, ?_⟩) (by assumption) ?_
  rotate_left
  · (intro w hSw; (try dsimp only at hSw); go_simp; (try with_reducible rfl))
  (try simp only [Act.put, List.setIfInBounds_toArray, List.set_cons_zero, List.set_cons_succ])
  refine HeldS.wpAnyS_take (i := 13) [15, 14] (oi := _) (v := ?_) rfl (by kernel_rfl) (by kernel_rfl) (by kernel_rfl) (by kernel_rfl) (by kernel_rfl) (fun _ _ _ h => h) (Or.inl ⟨by rfl, ?_⟩) (by assumption) ?_
  rotate_left
  · (intro w hSw; (try dsimp only at hSw); go_simp; (try with_reducible rfl))
  (try simp only [Act.put, List.setIfInBounds_toArray, List.set_cons_zero, List.set_cons_succ])
  refine HeldS.wpAnyS_ready (rs := [4]) (by kernel_rfl) (by simp) ?_
  refine HeldS.AllS.cons (o := ⟨some 7, _, _, _, _, _⟩) rfl (fun K hK => ?_) HeldS.AllS.nil
  go_simp
  go_at_call 29
  refine (HL.out _ ((Upon.refl _ w).drew)).mono ?_
  rintro e w7 ⟨⟨A7, n7, c7⟩, rfl, hm7, hb7, hu7⟩
  have hn7 : New0 w w7 := ((Upon.refl _ w).drew).trans hu7
  go_simp
  refine hK.out _ _ (HC.out _ hn7) (fun hHeld => ?_)
  clear hK K
  (try simp only [Act.put, List.setIfInBounds_toArray, List.set_cons_zero, List.set_cons_succ])
  refine HeldS.wpAnyS_ready (rs := [9]) (by kernel_rfl) (by simp) ?_
  refine HeldS.AllS.cons (o := ⟨some 12, _, _, _, _, _⟩) rfl (fun K hK => ?_) HeldS.AllS.nil
  go_simp
  go_at_call 30
  refine (HM.out _ hn7).mono ?_
  rintro e w8 ⟨⟨A8, n8, c8⟩, rfl, hm8, hb8, hu8⟩
  have hn8 : New0 w w8 := hn7.trans hu8
  have hm7' := hm7.new hu8
  go_simp
  refine hK.out _ _ (HC.out _ hn8) (fun hHeld => ?_)
  clear hK K
  (try simp only [Act.put, List.setIfInBounds_toArray, List.set_cons_zero, List.set_cons_succ])
  refine HeldS.wpAnyS_take (i := 14) [15] (oi := _) (v := ?_) rfl (by kernel_rfl) (by kernel_rfl) (by kernel_rfl) (by kernel_rfl) (by kernel_rfl) (fun _ _ _ h => h) (Or.inl ⟨by rfl, ?_⟩) (by assumption) ?_
  rotate_left
  · (intro w hSw; (try dsimp only at hSw); go_simp; (try with_reducible rfl))
  (try simp only [Act.put, List.setIfInBounds_toArray, List.set_cons_zero, List.set_cons_succ])
  have u9 := (Upon.refl (fun _ => False) w8).alloc (.cells #[.slice A7 n7 c7, .slice A8 n8 c8, .int .i64 lst] 66 (0, 0))
  have hn9 := Lib.hid (hn8.trans u9)
  have hm79 := Lib.hid (hm7'.new u9)
  have hm89 := Lib.hid (hm8.new u9)
  have hX9 : Hid (Rw.Blk3 66 w8.heap.size (.slice A7 n7 c7) (.slice A8 n8 c8) (.int .i64 lst) (w8.alloc (.cells #[.slice A7 n7 c7, .slice A8 n8 c8, .int .i64 lst] 66 (0, 0)))) := Lib.hid (cell_new w8 _)
  have q1 := Lib.hid hn7.size
  have q2 := Lib.hid hn8.size
  refine HeldS.wpAnyS_ready (rs := [15]) (by kernel_rfl) (by simp) ?_
  refine HeldS.AllS.cons (o := ⟨some 18, _, _, _, _, _⟩) rfl (fun K hK => ?_) HeldS.AllS.nil
  go_simp
  refine hK.out _ _ (HC.out _ hn9.out) (fun hHeld => ?_)
  clear hK K
  (try simp only [Act.put, List.setIfInBounds_toArray, List.set_cons_zero, List.set_cons_succ])
  refine HeldS.wpAnyS_ready (rs := [16]) (by kernel_rfl) (by simp) ?_
  refine HeldS.AllS.last (s := 16) (o := ⟨some 2, _, _, _, _, _⟩) rfl (fun K hK => ?_) HeldS.AllS.nil
  go_simp
  refine hK.out _ _ ?_
  clear hK K
  (try simp only [Act.put, List.setIfInBounds_toArray, List.set_cons_zero, List.set_cons_succ])
  refine HeldS.wpAnyS_done (by kernel_rfl) ?_ _
  go_wp2_with fail
  go_ret
  exact ⟨_, ⟨A7, n7, c7⟩, ⟨A8, n8, c8⟩, rfl, hX9.out, q2.out, hm79.out, fun k hk => hb7 k hk, hm89.out, fun k hk => Nat.le_trans q1.out (hb8 k hk), hn9.out⟩
theorem step_putS (w : World) {ops : Array Oper} {o : Oper} {a : Act} {K : Act → World → Prop} {Q : Exit → Act → World → Prop} {E : Prop}
    (hgd : o.guard = none) (m x y : Operand) (hop : o.op = Op.mapUpdate 59 m x y) (b : Nat) (N : Nms)
    (hm : a.eval m = .map (some b)) (h : MapS w b N) (hn : N.length < maxLen) (k : ByteArray) (hx : a.eval x = .string k) (hk : k.size ≤ maxLen) (s : Nat) (hy : a.eval y = .pointer (some ⟨s, 0, none⟩))
    (hK : ∀ w', MapS w' b (putN N k.data.toList (s : Int)) → w.grownBy w' (some b) → K (a.put o.dst undef) w') :
    if Region.wanted o (yielded ops a.tmps) = true then Oper.wp Try.prog o a w K Q else E := by
  have hw : Region.wanted o (yielded ops a.tmps) = true := by simp [Region.wanted, hgd]
  rw [if_pos hw]
  obtain ⟨w', hrun, r1, r2⟩ := World.ownsMap.update h keyedS Try.underlying59 hn (WideMaps.keyOf_string_mk Try.underlying9 hk) (val := .pointer (some ⟨s, 0, none⟩)) (d := .lit (.int .i64 (s : Int))) (ps := []) rfl
  unfold Oper.wp
  simp [execOp, hop, hm, hx, hy, hrun, Result.andThen]
  exact hK w' (fit_len (by rw [← toD_put]; exact r1)) r2
/-- A head that a copy makes, since w. -/
structure Cpy (w wr : World) (q b it : Nat) (g : H) : Prop where
  obj : ∃ A R N bs rs, HeadP wr A R q b N bs rs g ∧ ∀ k, A k ∨ R k → w.heap.size ≤ k ∧ k ≠ it
  new : New0 w wr
theorem Inv.sub {h g : H} (hi : Inv h) (hs : ∀ r ∈ g, r ∈ h) : Inv g := ⟨fun r hr => hi.ok r (hs r hr), fun r hr => hi.rise r (hs r hr), fun r hr => hi.most r (hs r hr), fun r hr => hi.wf r (hs r hr)⟩
section
variable {A R : Nat → Prop} {p b : Nat} {N : Nms} {bs : List Nat} {rs : List RR} {h : H}
theorem HeadP.look_fin {w : World} {g : H} (hg : HeadP w A R p b N bs rs g) {left : Left} (hsub : ∀ r ∈ g, fin left r = true) {l : List Lb.Pr} (hl : left (.string (Lb.encB l)) = true) : lookN N (Lb.encB l) = none := by
  cases e : lookN N (Lb.encB l) with
  | none => rfl
  | some s =>
    obtain ⟨i, hi, hb, e1, -⟩ := hg.look_inv e
    have := hsub _ (List.getElem_mem hi)
    rw [e1] at hl
    rw [fin, hl] at this
    cases this
set_option maxHeartbeats 12800000 in
theorem hcopy_any (w : World) (hh : HeadP w A R p b N bs rs h) (hs : Srt h) (hsane : Sane h) :
    Calls Try.prog 17 #[.pointer (some ⟨p, 0, none⟩)] w fun e w' => ∃ (q b2 : Nat) (A2 R2 : Nat → Prop) (N2 : Nms) (bs2 : List Nat) (rs2 : List RR), e = .returned (.pointer (some ⟨q, 0, none⟩)) ∧ HeadP w' A2 R2 q b2 N2 bs2 rs2 h ∧ (∀ k, A2 k ∨ R2 k → w.heap.size ≤ k) ∧ New0 w w' := by
  have HN := Lib.hid (hnew_any w)
  have HH := Lib.hid hh
  have HS := Lib.hid hs
  replace hsane := Lib.hid hsane
  clear hh hs
  go_enter Try.func17, Try.ntmps17
  go_wp2_with fail
  refine HN.out.mono ?_
  rintro e w2 ⟨q, b2, rfl, hq, hq1, hq2, hu2⟩
  have b0 := (HH.out.new hu2).box0
  have HM := Lib.hid (HH.out.new hu2).map
  have hqlt := Lib.hid (fun k hk => hq.lt k hk)
  replace hq := Lib.hid hq
  replace hu2 := Lib.hid hu2
  clear HN
  go_wp2_with (at_range; refine wpList_rangeS _ rfl _ rfl b N rfl HM.out ?_; intro w3 hrg0 hg0 hs0)
  have hu3 : New0 w2 w3 := (Upon.refl _ w2).grown hg0 (fun k e => by cases e)
  have HC0 : Hid (Cpy w w3 q b2 w2.heap.size []) := Lib.hid ⟨⟨_, _, _, _, _, hq.out.new hu3, fun k hk => by
    have := hqlt.out k hk
    rcases hk with (hk | hk) | hk
    · exact ⟨by omega, by omega⟩
    · exact ⟨by omega, by omega⟩
    · exact hk.elim⟩, hu2.out.trans hu3⟩
  have HG0 := Lib.hid hrg0
  have hws := hu2.out.size
  clear hrg0 hg0 hs0 b0 hu3 HM hqlt hq hu2
  go_frame
  go_loopw [] (fun wr => ∃ (left : Left) (cnt : Nat), Hid (RanS wr b w2.heap.size N left cnt) ∧ Hid (Cpy w wr q b2 w2.heap.size (h.filter (fin left))))
    (fun wr => wr.rangeLeft b w2.heap.size)
  case atStart => exact ⟨_, _, HG0, by rw [HH.out.fin_start]; exact HC0⟩
  case round =>
    obtain ⟨left, cnt, HRG, HCY⟩ := hrel
    go_wp2_with (at_next; refine wpList_nextS _ rfl _ rfl b w2.heap.size N HH.out.nats left cnt rfl HRG.out ?_ ?_)
    · intro hl0
      have HE := Lib.hid (show h.filter (fin left) = h from fin_end hl0)
      clear hl0
      go_wp2
      go_ret
      obtain ⟨⟨A2, R2, N2, bs2, rs2, h1, h2⟩, h3⟩ := HCY.out
      rw [HE.out] at h1
      exact ⟨_, _, _, _, _, _, _, rfl, h1, fun k hk => (h2 k hk).1, h3⟩
    · intro k s w1 cnt1 hksz hlk hlx hrg1 hlt hg1 hsz hen
      obtain ⟨⟨A2, R2, N2, bs2, rs2, h1, h2⟩, h3⟩ := HCY.out
      have hu1 : Upon (fun x => x = w2.heap.size) wr w1 := Upon.grown (Upon.refl _ wr) hg1 (fun k e => by cases e; exact .inl rfl)
      have h1' := h1.upon hu1 (fun x hx e => (h2 x (.inl hx)).2 e) (fun x hx e => (h2 x (.inr hx)).2 e)
      have hn1 : New0 w w1 := h3.trans' hu1 (fun k k1 k2 => by omega)
      obtain ⟨i, hi, hbi, e1, e2⟩ := HH.out.look_inv hlk
      have e2' : bs[i] = s := by omega
      have hhw := HH.out.new hn1
      obtain ⟨hb2, hr2, hblk, hlv, hpm⟩ := hhw.at hi
      have hlx' := hlx
      rw [e1] at hlx hrg1
      obtain ⟨f1, f2⟩ := HH.out.fin_put HS.out hi hlx
      rw [e2'] at hblk
      obtain ⟨⟨⟨la, ln, lc⟩, ⟨pa, pn, pc⟩, lq⟩, hrr⟩ : ∃ x, rs[i] = x := ⟨_, rfl⟩
      have hlast := hhw.rows.last i hr2 hi
      simp only [hrr] at hblk hlv hpm hlast
      have hpn : pn = h[i].pts.length := by obtain ⟨A2, c2, e2, -, -⟩ := Rw.View.shape hpm.view; injection e2
      have hln : ln = h[i].lab.length := by obtain ⟨A2, c2, e2, -, -⟩ := Rw.View.shape hlv; injection e2
      subst hpn hln
      have hll := (HH.out.okAt hi).few
      have hplen := hsane.out.pts _ (List.getElem_mem hi)
      have hhl := hsane.out.len
      have HC := Lib.hid (fun w5 (hu : New0 w1 w5) => scopy_any w5 R s la pa lc pc h[i].last h[i].lab h[i].pts (hblk.new hu) (Rw.View.new hlv hu) (hpm.new hu) (by omega) hplen)
      have HX := Lib.hid (fun w5 (hu : New0 w1 w5) => h1'.new hu)
      have hglen : N2.length < maxLen := by
        have a1 := h1'.nlen
        have a2 := List.length_filter_le (fin left) h
        unfold maxLen; omega
      have hb2n : b2 ≠ w2.heap.size ∧ b2 < w1.heap.size := ⟨(h2 b2 (.inl h1.bA)).2, h1'.map.lt⟩
      have hitl : w2.heap.size < w1.heap.size := World.ranges.lt hrg1
      have hbl1 : b < w.heap.size := HH.out.map.lt
      have hb2w : w.heap.size ≤ b2 := (h2 b2 (.inl h1.bA)).1
      have hno : Hid (lookN N2 (Lb.encB h[i].lab) = none) := Lib.hid (h1'.look_fin (fun r hr => (List.mem_filter.1 hr).2) hlx)
      have hmore : Hid (∀ (X x' : World) (z : Nat) (ul up : Rw.Sl), New0 w1 X → Rw.Blk3 66 z ul.v up.v (.int .i64 h[i].last) X → w1.heap.size ≤ z → Lb.Mine X ul.v h[i].lab → (∀ k, ul.v.ownBlock = some k → w1.heap.size ≤ k) → PMine X up.v h[i].pts → (∀ k, up.v.ownBlock = some k → w1.heap.size ≤ k) →
          MapS x' b2 (putN N2 (Lb.encB h[i].lab) (z : Int)) → X.grownBy x' (some b2) → Cpy w x' q b2 w2.heap.size (h.filter (fin (strike left (Lb.encB h[i].lab)))) ∧ RanS x' b w2.heap.size N (strike left (Lb.encB h[i].lab)) cnt1) := Lib.hid (fun X x' z ul up hX g1 g2 g3 g4 g5 g6 g7 g8 => by
        have hn1s := hn1.size
        have hXs := hX.size
        have hgs : ∀ k, k < X.heap.size → k ≠ b2 → x'.heap[k]? = X.heap[k]? := fun k k1 k2 => g8.block k k1 (fun e => by injection e with e; exact k2 e)
        obtain ⟨Lf, hLf⟩ : ∃ L, (h.take i).filter (fin left) = L := ⟨_, rfl⟩
        obtain ⟨Rt, hRt⟩ : ∃ L, (h.drop (i + 1)).filter (fin left) = L := ⟨_, rfl⟩
        rw [hLf, hRt] at f1 f2
        have t1 : (h.filter (fin left)).take Lf.length = Lf := by rw [f1, List.take_left]
        have t2 : (h.filter (fin left)).drop Lf.length = Rt := by rw [f1, List.drop_left]
        have hg' : h.filter (fin (strike left (Lb.encB h[i].lab))) = (h.filter (fin left)).take Lf.length ++ [h[i]] ++ (h.filter (fin left)).drop Lf.length := by rw [t1, t2, f2]; simp
        obtain ⟨A', R', k1, k2, k3, k4, k5⟩ := h1'.insert hX (i := Lf.length) (by rw [f1]; simp) (s := z) (t := ⟨ul, up, h[i].last⟩) (r := h[i]) g1 g2 g3 g4 g5 g6 rfl hno.out g7 g8 (by rw [← hg']; exact HH.out.inv.sub fun r hr => (List.mem_filter.1 hr).1)
        rw [← hg'] at k1
        refine ⟨⟨⟨A', R', _, _, _, k1, fun k hk => ?_⟩, ?_⟩, ?_⟩
        · rcases hk with hk | hk
          · rcases k3 k hk with e | e
            · exact h2 k (.inl e)
            · exact ⟨by omega, by omega⟩
          · rcases k4 k hk with e | e
            · exact h2 k (.inr e)
            · exact ⟨by omega, by omega⟩
        · exact hn1.trans' k5 (fun k k6 k7 => by have := (h2 k (.inl k7)).1; omega)
        · refine RanS.kept (show RanS w1 b w2.heap.size N (strike left (Lb.encB h[i].lab)) cnt1 from hrg1) ?_ ?_
          · exact (hgs b (by omega) (by omega)).trans (hX.block b (by omega) (fun f => f))
          · exact (hgs _ (by omega) (by omega)).trans (hX.block _ hitl (fun f => f)))
      have hkd : Hid (k.data.toList = Lb.encB h[i].lab) := Lib.hid e1
      have hS0 := (HX.out _ ((Upon.refl _ w1).drew)).box0
      have HLT := Lib.hid hlt
      clear h1 h2 h3 hu1 h1' hn1 hhw hblk hlv hpm hlx hlx' hrg1 f1 f2 hlt hg1 e1 e2 e2' hrr hlast hlk hno hb2n hitl hbl1 hb2w
      go_wp2_with fail
      · skip
        refine HeldS.wp_region_S 7 (S := fun w' => w'.cell? ⟨q, 0, none⟩ = some (.map (some b2))) (by kernel_rfl) hS0 (fun hHeld => ?_)
        refine HeldS.wpAnyS_take (i := 0) [3, 2, 1] (oi := _) (v := ?_) rfl (by kernel_rfl) (by kernel_rfl) (by kernel_rfl) (by kernel_rfl) (by kernel_rfl) (fun _ _ _ h => h) (Or.inl ⟨by rfl, ?_⟩) (by assumption) ?_
        rotate_left
        · (intro w hSw; (try dsimp only at hSw); go_simp; (try with_reducible rfl))
        (try simp only [Act.put, List.setIfInBounds_toArray, List.set_cons_zero, List.set_cons_succ])
        refine HeldS.wpAnyS_take (i := 1) [3, 2] (oi := _) (v := ?_) rfl (by kernel_rfl) (by kernel_rfl) (by kernel_rfl) (by kernel_rfl) (by kernel_rfl) (fun _ _ _ h => h) (Or.inl ⟨by rfl, ?_⟩) (by assumption) ?_
        rotate_left
        · (intro w hSw; (try dsimp only at hSw); go_simp; (try with_reducible rfl))
        (try simp only [Act.put, List.setIfInBounds_toArray, List.set_cons_zero, List.set_cons_succ])
        refine HeldS.wpAnyS_take (i := 2) [3] (oi := _) (v := ?_) rfl (by kernel_rfl) (by kernel_rfl) (by kernel_rfl) (by kernel_rfl) (by kernel_rfl) (fun _ _ _ h => h) (Or.inl ⟨by rfl, ?_⟩) (by assumption) ?_
        rotate_left
        · (intro w hSw; (try dsimp only at hSw); go_simp; (try with_reducible rfl))
        (try simp only [Act.put, List.setIfInBounds_toArray, List.set_cons_zero, List.set_cons_succ])
        refine HeldS.wpAnyS_take (i := 3) [] (oi := _) (v := ?_) rfl (by kernel_rfl) (by kernel_rfl) (by kernel_rfl) (by kernel_rfl) (by kernel_rfl) (fun _ _ _ h => h) (Or.inl ⟨by rfl, ?_⟩) (by assumption) ?_
        rotate_left
        · (intro w hSw; (try dsimp only at hSw); go_simp; (try with_reducible rfl))
        (try simp only [Act.put, List.setIfInBounds_toArray, List.set_cons_zero, List.set_cons_succ])
        refine HeldS.wpAnyS_take (i := 4) [] (oi := _) (v := ?_) rfl (by kernel_rfl) (by kernel_rfl) (by kernel_rfl) (by kernel_rfl) (by kernel_rfl) (fun _ _ _ h => h) (Or.inl ⟨by rfl, ?_⟩) (by assumption) ?_
        rotate_left
        · (intro w hSw; (try dsimp only at hSw); go_simp; (try with_reducible rfl))
        (try simp only [Act.put, List.setIfInBounds_toArray, List.set_cons_zero, List.set_cons_succ])
        refine HeldS.wpAnyS_take (i := 5) [6] (oi := _) (v := ?_) rfl (by kernel_rfl) (by kernel_rfl) (by kernel_rfl) (by kernel_rfl) (by kernel_rfl) (fun _ _ _ h => h) (Or.inl ⟨by rfl, ?_⟩) (by assumption) ?_
        rotate_left
        · (intro w hSw; (try dsimp only at hSw); go_simp; (try with_reducible rfl))
        (try simp only [Act.put, List.setIfInBounds_toArray, List.set_cons_zero, List.set_cons_succ])
        refine HeldS.wpAnyS_ready (rs := [6]) (by kernel_rfl) (by simp) ?_
        refine HeldS.AllS.cons (o := ⟨some 23, _, _, _, _, _⟩) rfl (fun K hK => ?_) HeldS.AllS.nil
        go_simp
        go_at_call 31
        refine (HC.out _ ((Upon.refl _ w1).drew)).mono ?_
        rintro e w5 ⟨z, ul, up, rfl, g1, g2, g3, g4, g5, g6, hu5⟩
        have hn5 : New0 w1 w5 := ((Upon.refl _ w1).drew).trans hu5
        have hM5 := Lib.hid (HX.out w5 hn5).map
        have hend := Lib.hid (fun x' g7 g8 => hmore.out w5 x' z ul up hn5 g1 g2 g3 g4 g5 g6 g7 g8)
        go_simp
        refine hK.out _ _ (HX.out w5 hn5).box0 (fun hHeld => ?_)
        clear hK K hmore g1 g2 g3 g4 g5 g6 hu5
        (try simp only [Act.put, List.setIfInBounds_toArray, List.set_cons_zero, List.set_cons_succ])
        refine HeldS.wpAnyS_ready (rs := [7]) (by kernel_rfl) (by simp) ?_
        refine HeldS.AllS.last (s := 7) (o := ⟨none, _, _, _, _, _⟩) rfl (fun K hK => ?_) HeldS.AllS.nil
        refine step_putS _ (o := ⟨none, _, _, _, _, _⟩) (by rfl) _ _ _ (by rfl) b2 N2 (by rfl) hM5.out hglen k (by rfl) hksz z (by rfl) ?_
        intro x' g7 g8
        rw [hkd.out] at g7
        obtain ⟨HY, HR⟩ := hend.out x' g7 g8
        replace HY := Lib.hid HY
        replace HR := Lib.hid HR
        refine hK.out _ _ ?_
        clear hK K hend g7 g8
        (try simp only [Act.put, List.setIfInBounds_toArray, List.set_cons_zero, List.set_cons_succ])
        refine HeldS.wpAnyS_done (by kernel_rfl) ?_ _
        go_wp2_with fail
        go_roundw
        case rel => exact ⟨_, cnt1, HR, HY⟩
        case measure => rw [HR.out.left_eq, HRG.out.left_eq]; exact HLT.out
end
end Hd
end Go.Proofs.Ytfheehlfodoimaa
