/- The program's head (layer 13): a series' put. -/
import Derived.Test.YtfheehlfodoimaaGreatHdIns
import Derived.Test.YtfheehlfodoimaaGreatPHd2
import Derived.Test.YtfheehlfodoimaaGreatPHeld
set_option maxRecDepth 100000
namespace Go.Proofs.YtfheehlfodoimaaGreat
open Go.RowKit Go.Sort
namespace Hd
open Bit Dsk Ob Dig Nm
set_option linter.unusedVariables false
set_option linter.unusedSimpArgs false
/-- A series was changed: what is left of the head. -/
structure ChgE (w w' : World) (A R : Nat → Prop) (p b : Nat) (N : Nms) (bs : List Nat) (h : H) : Prop where
  obj : ∃ A' rs', HeadP w' A' R p b N bs rs' h ∧ (∀ k, A k → A' k) ∧ (∀ k, A' k → A k ∨ w.heap.size ≤ k)
  upon : Upon A w w'
section
variable {A R : Nat → Prop} {p b : Nat} {N : Nms} {bs : List Nat} {rs : List RR} {h : H}
set_option maxHeartbeats 3200000 in
theorem sput_any (w : World) (hh : HeadP w A R p b N bs rs h) {i : Nat} (hi : i < h.length) (hb : i < bs.length) (s : Nat) (hs : bs[i] = s) (t : Int) (q : Nat) (hlen : h[i].pts.length ≤ 1000000000) (hinv : Inv (h.set i ⟨h[i].lab, h[i].pts ++ [(t, q)], t⟩)) :
    Calls Tryz.prog 42 #[.pointer (some ⟨s, 0, none⟩), .agg #[.int .i64 t, .int .u64 (q : Int)]] w fun e w' => e = .returned (.tuple #[]) ∧ ChgE w w' A R p b N bs (h.set i ⟨h[i].lab, h[i].pts ++ [(t, q)], t⟩) := by
  obtain ⟨hb', hr, hblk, hlv, hpm⟩ := hh.at hi
  have hfin : Hid (∀ (x : World) (t' : Rw.Sl), Upon (fun k => k = bs[i] ∨ rs[i].pts.v.ownBlock = some k) w x → Rw.Blk3 86 bs[i] rs[i].lab.v t'.v (.int .i64 t) x → PMine x t'.v (h[i].pts ++ [(t, q)]) → (∀ k, t'.v.ownBlock = some k → rs[i].pts.v.ownBlock = some k ∨ w.heap.size ≤ k) →
      ∃ A', HeadP x A' R p b N bs (rs.set i ⟨rs[i].lab, t', t⟩) (h.set i ⟨h[i].lab, h[i].pts ++ [(t, q)], t⟩) ∧ (∀ k, A k → A' k) ∧ (∀ k, A' k → A k ∨ w.heap.size ≤ k) ∧ Upon A w x) := Lib.hid (fun x t' hup hblk' hm hown => hh.chg hi hb hr hup hblk' hm hown hinv)
  have hsi : bs[i] = s := hs
  obtain ⟨⟨la, ln, lc⟩, hlab⟩ : ∃ x, rs[i].lab = x := ⟨_, rfl⟩
  obtain ⟨⟨pa, pn, pc⟩, hpts⟩ : ∃ x, rs[i].pts = x := ⟨_, rfl⟩
  obtain ⟨pts, hps⟩ : ∃ x, h[i].pts = x := ⟨_, rfl⟩
  obtain ⟨lst, hls⟩ : ∃ x, h[i].last = x := ⟨_, rfl⟩
  rw [hps] at hpm hlen
  rw [hlab, hpts, hls, hsi] at hblk
  rw [hpts] at hpm
  simp only at hblk hpm
  rw [hlab, hpts, hps, hsi] at hfin
  replace hps := Lib.hid hps
  clear hlab hpts hls hinv hh hlv
  have hpn : pn = pts.length := by obtain ⟨A2, c2, e2, -, -⟩ := Rw.View.shape hpm.view; injection e2
  subst hpn
  have hty := fun (g : Nat) hg => hpm.typ (g := g) hg
  have hne : ∀ k, (Value.slice pa pts.length pc).ownBlock = some k → k ≠ s ∧ k < w.heap.size := fun k hk => by
    obtain ⟨cs, h1⟩ := hty k hk
    exact ⟨(typ_ne ne_ZP hblk h1).symm, (Array.getElem?_eq_some_iff.1 h1).1⟩
  have hX := cell_new w (.cells #[.int .i64 t, .int .u64 (q : Int)] 81 (0, 0))
  have ux := (Upon.refl (fun _ => False) w).alloc (.cells #[.int .i64 t, .int .u64 (q : Int)] 81 (0, 0))
  have x0 : (w.alloc (.cells #[.int .i64 t, .int .u64 (q : Int)] 81 (0, 0))).cell? ⟨w.heap.size, 0, none⟩ = some (.int .i64 t) := by rw [Lib.cell_of_heap hX]; rfl
  have x1 : (w.alloc (.cells #[.int .i64 t, .int .u64 (q : Int)] 81 (0, 0))).cell? ⟨w.heap.size, 1, none⟩ = some (.int .u64 (q : Int)) := by rw [Lib.cell_of_heap hX]; rfl
  obtain ⟨W, hW⟩ : ∃ W, w.alloc (.cells #[.int .i64 t, .int .u64 (q : Int)] 81 (0, 0)) = W := ⟨_, rfl⟩
  rw [hW] at ux x0 x1
  have hWs : W.heap.size = w.heap.size + 1 := by rw [← hW]; simp
  have hv1 : Hid (Rw.View layP (W.alloc (.cells #[.int .i64 t, .int .u64 (q : Int)] 81 (0, 0))) All (.slice (some ⟨w.heap.size + 1, 0, none⟩) 1 1) [(t, q)]) := Lib.hid (by rw [← hWs]; exact pview_one W t q)
  have hblkW := hblk.new ux
  have hpmW := Lib.hid (hpm.new ux)
  have hS : Hid (∀ w', Upon (fun k => (Value.slice pa pts.length pc).ownBlock = some k) W w' → Rw.Blk3 86 s (.slice la ln lc) (.slice pa pts.length pc) (.int .i64 lst) w' ∧ w'.cell? ⟨s, 1, none⟩ = some (.slice pa pts.length pc) ∧ w'.frozen? ⟨s, 1, none⟩ = false ∧ w'.cell? ⟨w.heap.size, 0, none⟩ = some (.int .i64 t) ∧ w'.cell? ⟨w.heap.size, 1, none⟩ = some (.int .u64 (q : Int))) := Lib.hid fun w' hu => by
    have h1 := hblkW.upon hu (fun e => (hne s e).1 rfl)
    have k : ∀ (o : Nat) (v : Value), W.cell? ⟨w.heap.size, o, none⟩ = some v → w'.cell? ⟨w.heap.size, o, none⟩ = some v := fun o v hc => by
      rw [← hc, World.cell?, World.cell?, hu.block w.heap.size (by omega) (fun e => by have := (hne _ e).2; omega)]
    exact ⟨h1, h1.cells.2.1, h1.frozen 1, k 0 _ x0, k 1 _ x1⟩
  have hne2 := Lib.hid hne
  have hltS := hblk.lt
  replace ux := Lib.hid ux
  replace hW := Lib.hid hW
  clear hblkW hpm hty hX hne hblk
  go_enter Tryz.func42, Tryz.ntmps42
  go_wp2_with fail
  rw [hW.out]
  go_cut [] from 4 to 13 (fun wc => ∃ (X x : World) (A8 : Option Addr) (c8 : Nat), wc = x.setCell ⟨s, 1, none⟩ (.slice A8 (pts.length + 1) c8) ∧ Hid (New0 W X) ∧ Hid (PMine x (.slice A8 (pts ++ [(t, q)]).length c8) (pts ++ [(t, q)])) ∧ Hid (X.grownBy x (Value.slice pa pts.length pc).ownBlock) ∧ Hid ((Value.slice A8 (pts ++ [(t, q)]).length c8).ownBlock = (Value.slice pa pts.length pc).ownBlock ∨ (Value.slice A8 (pts ++ [(t, q)]).length c8).ownBlock = some X.heap.size))
  case first =>
    refine HeldS.wp_region_S 10 (S := fun w' => w'.cell? ⟨s, 1, none⟩ = some (.slice pa pts.length pc) ∧ w'.frozen? ⟨s, 1, none⟩ = false ∧ w'.cell? ⟨w.heap.size, 0, none⟩ = some (.int .i64 t) ∧ w'.cell? ⟨w.heap.size, 1, none⟩ = some (.int .u64 (q : Int))) (by kernel_rfl) (hS.out _ ((Upon.refl _ W).drew)).2 (fun hHeld => ?_)
    refine HeldS.wpAnyS_take (i := 0) [9, 8] (oi := _) (v := ?_) rfl (by kernel_rfl) (by kernel_rfl) (by kernel_rfl) (by kernel_rfl) (by kernel_rfl) (fun _ _ _ h => h) (Or.inl ⟨by rfl, ?_⟩) (by assumption) ?_
    rotate_left
    · (intro w hSw; (try dsimp only at hSw); go_simp; (try with_reducible rfl))
    (try simp only [Act.put, List.setIfInBounds_toArray, List.set_cons_zero, List.set_cons_succ])
    refine HeldS.wpAnyS_take (i := 1) [7, 4, 3, 2] (oi := _) (v := ?_) rfl (by kernel_rfl) (by kernel_rfl) (by kernel_rfl) (by kernel_rfl) (by kernel_rfl) (fun _ _ _ h => h) (Or.inl ⟨by rfl, ?_⟩) (by assumption) ?_
    rotate_left
    · (intro w hSw; (try dsimp only at hSw); go_simp; (try with_reducible rfl))
    (try simp only [Act.put, List.setIfInBounds_toArray, List.set_cons_zero, List.set_cons_succ])
    refine HeldS.wpAnyS_take (i := 2) [7, 4, 3] (oi := _) (v := ?_) rfl (by kernel_rfl) (by kernel_rfl) (by kernel_rfl) (by kernel_rfl) (by kernel_rfl) (fun _ _ _ h => h) (Or.inl ⟨by rfl, ?_⟩) (by assumption) ?_
    rotate_left
    · (intro w hSw; (try dsimp only at hSw); go_simp; (try with_reducible rfl))
    (try simp only [Act.put, List.setIfInBounds_toArray, List.set_cons_zero, List.set_cons_succ])
    refine HeldS.wpAnyS_take (i := 3) [7, 4] (oi := _) (v := ?_) rfl (by kernel_rfl) (by kernel_rfl) (by kernel_rfl) (by kernel_rfl) (by kernel_rfl) (fun _ _ _ h => h) (Or.inl ⟨by rfl, ?_⟩) (by assumption) ?_
    rotate_left
    · (intro w hSw; (try dsimp only at hSw); go_simp; (try with_reducible rfl))
    (try simp only [Act.put, List.setIfInBounds_toArray, List.set_cons_zero, List.set_cons_succ])
    refine HeldS.wpAnyS_take (i := 4) [7] (oi := _) (v := ?_) rfl (by kernel_rfl) (by kernel_rfl) (by kernel_rfl) (by kernel_rfl) (by kernel_rfl) (fun _ _ _ h => h) (Or.inl ⟨by rfl, ?_⟩) (by assumption) ?_
    rotate_left
    · (intro w hSw; (try dsimp only at hSw); go_simp; (try with_reducible rfl))
    (try simp only [Act.put, List.setIfInBounds_toArray, List.set_cons_zero, List.set_cons_succ])
    refine HeldS.wpAnyS_take (i := 5) [7, 6] (oi := _) (v := ?_) rfl (by kernel_rfl) (by kernel_rfl) (by kernel_rfl) (by kernel_rfl) (by kernel_rfl) (fun _ _ _ h => h) (Or.inl ⟨by rfl, ?_⟩) (by assumption) ?_
    rotate_left
    · (intro w hSw; (try dsimp only at hSw); go_simp; (try with_reducible rfl))
    (try simp only [Act.put, List.setIfInBounds_toArray, List.set_cons_zero, List.set_cons_succ])
    refine HeldS.wpAnyS_ready (rs := [6]) (by kernel_rfl) (by simp) ?_
    refine HeldS.AllS.cons (o := ⟨some 10, _, _, _, _, _⟩) rfl (fun K hK => ?_) HeldS.AllS.nil
    go_simp
    refine hK.out _ _ (hS.out _ (by repeat (first | assumption | exact Upon.refl _ _ | refine Upon.drew ?_ | refine Upon.alloc ?_ _))).2 (fun hHeld => ?_)
    clear hK K
    (try simp only [Act.put, List.setIfInBounds_toArray, List.set_cons_zero, List.set_cons_succ])
    refine HeldS.wpAnyS_ready (rs := [7]) (by kernel_rfl) (by simp) ?_
    refine HeldS.AllS.cons (o := ⟨some 11, _, _, _, _, _⟩) rfl (fun K hK => ?_) HeldS.AllS.nil
    refine Rw.step_append typP (o := ⟨some 11, _, _, _, _, _⟩) (by rfl) _ _ (by rfl) (.slice pa pts.length pc) _ pts [(t, q)] All (by rfl) (by rfl) (hpmW.out.new (by repeat (first | assumption | exact Upon.refl _ _ | refine Upon.drew ?_ | refine Upon.alloc ?_ _))) (Rw.View.new hv1.out (by repeat (first | assumption | exact Upon.refl _ _ | refine Upon.drew ?_ | refine Upon.alloc ?_ _))) (by rw [List.length_singleton]; omega) (by rw [List.length_singleton]; omega) ?_
    intro v' x hown hg hbl
    have hux : Upon (fun k => (Value.slice pa pts.length pc).ownBlock = some k) W x := Upon.grown (by repeat (first | assumption | exact Upon.refl _ _ | refine Upon.drew ?_ | refine Upon.alloc ?_ _)) hg (fun k hk => .inl hk)
    obtain ⟨A8, c8, rfl, -, -⟩ := Rw.View.shape (show PMine x v' (pts ++ [(t, q)]) from hown).view
    have hSx := hS.out x hux
    refine hK.out _ _ hSx.2 (fun hHeld => ?_)
    clear hK K
    (try simp only [Act.put, List.setIfInBounds_toArray, List.set_cons_zero, List.set_cons_succ])
    refine HeldS.wpAnyS_take (i := 8) [9] (oi := _) (v := ?_) rfl (by kernel_rfl) (by kernel_rfl) (by kernel_rfl) (by kernel_rfl) (by kernel_rfl) (fun _ _ _ h => h) (Or.inl ⟨by rfl, ?_⟩) (by assumption) ?_
    rotate_left
    · (intro w hSw; (try dsimp only at hSw); go_simp; (try with_reducible rfl))
    (try simp only [Act.put, List.setIfInBounds_toArray, List.set_cons_zero, List.set_cons_succ])
    refine HeldS.wpAnyS_take (i := 9) [] (oi := _) (v := ?_) rfl (by kernel_rfl) (by kernel_rfl) (by kernel_rfl) (by kernel_rfl) (by kernel_rfl) (fun _ _ _ h => h) (Or.inl ⟨by rfl, ?_⟩) (by assumption) ?_
    rotate_left
    · (intro w hSw; (try dsimp only at hSw); go_simp; (try with_reducible rfl))
    (try simp only [Act.put, List.setIfInBounds_toArray, List.set_cons_zero, List.set_cons_succ])
    refine HeldS.wpAnyS_ready (rs := [10]) (by kernel_rfl) (by simp) ?_
    refine HeldS.AllS.last (s := 10) (o := ⟨none, _, _, _, _, _⟩) rfl (fun K hK => ?_) HeldS.AllS.nil
    obtain ⟨px1, pf1, -, -⟩ := hHeld
    go_simp
    refine hK.out _ _ ?_
    clear hK K
    (try simp only [Act.put, List.setIfInBounds_toArray, List.set_cons_zero, List.set_cons_succ])
    refine HeldS.wpAnyS_done (by kernel_rfl) ?_ _
    go_wp2_with fail
    go_meet
    exact ⟨_, _, _, _, rfl, Lib.hid (by repeat (first | assumption | exact Upon.refl _ _ | refine Upon.drew ?_ | refine Upon.alloc ?_ _)), Lib.hid hown, Lib.hid hg, Lib.hid hbl⟩
  case rest =>
    obtain ⟨X, x, A8, c8, rfl, HX, hown, hg, hbl⟩ := hcut
    have hux : Upon (fun k => (Value.slice pa pts.length pc).ownBlock = some k) W x := Upon.grown (HX.out.mono fun _ _ f => f.elim) hg.out (fun k hk => .inl hk)
    obtain ⟨hbx, -, -, y0, y1⟩ := hS.out x hux
    have hb1 := hbx.set1 (.slice A8 (pts.length + 1) c8)
    have hb2 := hb1.set2 (.int .i64 t)
    obtain ⟨-, -, z2⟩ := hb1.cells
    have zf := hb1.frozen 2
    have k0 : (x.setCell ⟨s, 1, none⟩ (.slice A8 (pts.length + 1) c8)).cell? ⟨w.heap.size, 0, none⟩ = some (.int .i64 t) := by
      rw [← y0, World.cell?, World.cell?, Below.heap_setCell _ _ _ _ (by show w.heap.size ≠ s; omega)]
    have hu1 : Upon (fun k => k = s) x (x.setCell ⟨s, 1, none⟩ (.slice A8 (pts.length + 1) c8)) := Upon.setCell (S := fun k => k = s) (p := ⟨s, 1, none⟩) (Upon.refl _ x) (.inl rfl) _
    have hu2 : Upon (fun k => k = s) x ((x.setCell ⟨s, 1, none⟩ (.slice A8 (pts.length + 1) c8)).setCell ⟨s, 2, none⟩ (.int .i64 t)) := Upon.setCell (S := fun k => k = s) (p := ⟨s, 2, none⟩) hu1 (.inl rfl) _
    have hall : Upon (fun k => k = s ∨ (Value.slice pa pts.length pc).ownBlock = some k) w ((x.setCell ⟨s, 1, none⟩ (.slice A8 (pts.length + 1) c8)).setCell ⟨s, 2, none⟩ (.int .i64 t)) :=
      Upon.trans (Upon.trans (ux.out.mono fun _ _ f => f.elim) (hux.mono fun _ _ e => .inr e)) (hu2.mono fun _ _ e => .inl e)
    have hsx : ∀ k, (Value.slice A8 (pts ++ [(t, q)]).length c8).ownBlock = some k → (Value.slice pa pts.length pc).ownBlock = some k ∨ w.heap.size ≤ k := fun k hk => by
      rcases hbl.out with h1 | h1
      · exact .inl (h1.symm.trans hk)
      · rw [h1] at hk
        injection hk with hk
        have := HX.out.size
        exact .inr (by omega)
    have hm2 : PMine ((x.setCell ⟨s, 1, none⟩ (.slice A8 (pts.length + 1) c8)).setCell ⟨s, 2, none⟩ (.int .i64 t)) (.slice A8 (pts ++ [(t, q)]).length c8) (pts ++ [(t, q)]) := Rw.Mine.upon hown.out hu2 fun k hk e => by
      subst e
      rcases hsx _ hk with h1 | h1
      · exact (hne2.out _ h1).1 rfl
      · omega
    have hl : (pts ++ [(t, q)]).length = pts.length + 1 := by simp
    rw [hl] at hm2 hsx
    have hend := Lib.hid (hfin.out _ ⟨A8, pts.length + 1, c8⟩ hall hb2 hm2 hsx)
    clear hm2 hsx hall hu1 hu2 hb1 hb2 hbx y0 y1 hown hg hbl HX hux hfin hS hpmW
    go_wp2_with fail
    go_end0
    obtain ⟨A', e1, e2, e3, e4⟩ := hend.out
    rw [hps.out]
    exact ⟨rfl, ⟨⟨A', _, e1, e2, e3⟩, e4⟩⟩
end
end Hd
end Go.Proofs.YtfheehlfodoimaaGreat
