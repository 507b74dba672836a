/- A block among the arguments, opened (layer 15). -/
import Derived.Test.YtlgjbcmloochiaaGreatDoorZaBkRow
set_option maxRecDepth 100000
namespace Go.Proofs.YtlgjbcmloochiaaGreatDoor
open Go.RowKit Go.ChangeShapes Go.WideShapes
namespace Bk
open Bit Dsk Ob Dig
set_option linter.unusedVariables false
abbrev All : Nat → Prop := fun _ => True
section
variable {H : Type} {enc : TypeId × Value → H} {W : World}
theorem open_pt {fuel : Nat} {cs : List Value} {d : DataW H} {p : List MemPlace} (hl : cs.length = 2) (h : DataW.trod enc Tryz.prog W 0 (fun _ => true) true fuel 105 cs = some (d, p)) : ∃ a : Pt, cs = Hd.layP.enc a ∧ Ck.PtIn a := by
  have c1 : Tryz.prog.cellsOf 2 = 1 := by kernel_rfl
  have c2 : Tryz.prog.cellsOf 53 = 1 := by kernel_rfl
  obtain ⟨xs, k, hk, hxy, _, hxl, hfd⟩ := DataW.trod_struct Tryz.underlying105 h
  match xs, hxl, cs, hl with
  | [y0, y1], _, [v0, v1], _ =>
    have g0 := hfd 0 _ rfl
    have g1 := hfd 1 _ rfl
    simp [c1, c2] at g0 g1
    obtain ⟨t, e1, _, w1⟩ := DataW.trod_int Tryz.underlying2 g0
    obtain ⟨u, e2, _, w2⟩ := DataW.trod_int Tryz.underlying53 g1
    obtain rfl := (List.cons.inj e1).1
    obtain rfl := (List.cons.inj e2).1
    have ht := Mt.lit64 w1
    have hu := Rc.litu64 w2
    obtain ⟨un, rfl⟩ : ∃ un : Nat, u = (un : Int) := ⟨u.toNat, by omega⟩
    exact ⟨(t, un), rfl, by unfold Tm.In; exact ⟨ht.1, ht.2⟩, by simp only; omega⟩
theorem open_pts {fuel : Nat} {cs : List Value} {d : DataW H} {p : List MemPlace} (h : DataW.trod enc Tryz.prog W 0 (fun _ => true) true fuel 64 cs = some (d, p)) (hz : ∀ n ∈ d.weights Tryz.prog 64, n ≤ 140737488351232) :
    ∃ (s : Rw.Sl) (l : List Pt), cs = [s.v] ∧ Rw.View Hd.layP W All s.v l ∧ (∀ a ∈ l, Ck.PtIn a) ∧ l.length * 16 ≤ 140737488351232 := by
  obtain ⟨A, n, c, l, h1, h2, h3, h4⟩ := Rw.open_rowC (L := Hd.layP) (G := Ck.PtIn) Tryz.underlying64 (by kernel_rfl) (by kernel_rfl) (fun _ _ _ _ hl h _ => open_pt hl h) h hz
  exact ⟨⟨A, n, c⟩, l, h1, h2, h3, h4⟩
/-- What a row's cells read as. -/
def RowG (W : World) (a : RB) : Prop := ∃ r : Row, innB.rel W All a r ∧ Lb.Sml r.lab ∧ InRow r ∧ r.lab.length * 32 ≤ 140737488351232 ∧ r.pts.length * 16 ≤ 140737488351232
theorem open_brow {fuel : Nat} {cs : List Value} {d : DataW H} {p : List MemPlace} (hl : cs.length = 3) (h : DataW.trod enc Tryz.prog W 0 (fun _ => true) true fuel 70 cs = some (d, p)) (hz : ∀ n ∈ d.weights Tryz.prog 70, n ≤ 140737488351232) : ∃ a : RB, cs = layB.enc a ∧ RowG W a := by
  have c0 : Tryz.prog.cellsOf 63 = 1 := by kernel_rfl
  have c1 : Tryz.prog.cellsOf 2 = 1 := by kernel_rfl
  have c2 : Tryz.prog.cellsOf 64 = 1 := by kernel_rfl
  obtain ⟨xs, k, hk, hxy, _, hxl, hfd⟩ := DataW.trod_struct Tryz.underlying70 h
  match xs, hxl, cs, hl with
  | [y0, y1, y2], _, [v0, v1, v2], _ =>
    have g0 := hfd 0 _ rfl
    have g1 := hfd 1 _ rfl
    have g2 := hfd 2 _ rfl
    simp [c0, c1, c2] at g0 g1 g2
    have hd := (Prod.mk.inj hxy).1
    obtain ⟨s, l, e0, hv, hsm, hlen⟩ := Rc.open_labels (d := y0.1) (p := y0.2) g0 (fun n hn => hz n (by rw [hd]; exact Rw.weights_part (j := 0) (e := 63) (d := y0.1) Tryz.underlying70 rfl rfl hn))
    obtain ⟨t, e1, _, w1⟩ := DataW.trod_int Tryz.underlying2 g1
    obtain ⟨m, ps, e2, hp, hpi, hplen⟩ := open_pts (d := y2.1) (p := y2.2) g2 (fun n hn => hz n (by rw [hd]; exact Rw.weights_part (j := 2) (e := 64) (d := y2.1) Tryz.underlying70 rfl rfl hn))
    obtain rfl := (List.cons.inj e0).1
    obtain rfl := (List.cons.inj e1).1
    obtain rfl := (List.cons.inj e2).1
    exact ⟨⟨s, t, m⟩, rfl, ⟨l, ps, t⟩, ⟨rfl, hv, hp⟩, hsm, ⟨Mt.lit64 w1, hpi⟩, hlen, hplen⟩
theorem open_brows {fuel : Nat} {cs : List Value} {d : DataW H} {p : List MemPlace} (h : DataW.trod enc Tryz.prog W 0 (fun _ => true) true fuel 22 cs = some (d, p)) (hz : ∀ n ∈ d.weights Tryz.prog 22, n ≤ 140737488351232) :
    ∃ (s : Rw.Sl) (l : List Row), cs = [s.v] ∧ BsView W All s.v l ∧ (∀ r ∈ l, Lb.Sml r.lab ∧ InRow r ∧ r.lab.length * 32 ≤ 140737488351232 ∧ r.pts.length * 16 ≤ 140737488351232) ∧ l.length * 56 ≤ 140737488351232 := by
  obtain ⟨A, n, c, rs, h1, h2, h3, h4⟩ := Rw.open_rowC (L := layB) (G := RowG W) Tryz.underlying22 (by kernel_rfl) (by kernel_rfl) (fun _ _ _ _ hl h hz => open_brow hl h hz) h hz
  obtain ⟨l, hl, hall⟩ := Rc.list_of (P := fun a x => innB.rel W All a x ∧ Lb.Sml x.lab ∧ InRow x ∧ x.lab.length * 32 ≤ 140737488351232 ∧ x.pts.length * 16 ≤ 140737488351232) h3
  refine ⟨⟨A, n, c⟩, l, h1, ⟨rs, h2, hl, fun i k1 k2 => (hall i k1 k2).1⟩, fun x hx => ?_, by rw [← hl]; exact h4⟩
  obtain ⟨i, hi, rfl⟩ := List.mem_iff_getElem.1 hx
  exact (hall i (by omega) hi).2
theorem open_brecs {fuel : Nat} {cs : List Value} {d : DataW H} {p : List MemPlace} (h : DataW.trod enc Tryz.prog W 0 (fun _ => true) true fuel 23 cs = some (d, p)) (hz : ∀ n ∈ d.weights Tryz.prog 23, n ≤ 140737488351232) :
    ∃ (s : Rw.Sl) (l : List Rc.R), cs = [s.v] ∧ Hd.RsView W All s.v l ∧ (∀ r ∈ l, Hd.RBnd r) ∧ l.length * 72 ≤ 140737488351232 := by
  obtain ⟨A, n, c, rs, h1, h2, h3, h4⟩ := Rw.open_rowC (L := Hd.layRC) (G := Hd.RCG W) Tryz.underlying23 (by kernel_rfl) (by kernel_rfl) (fun _ _ _ _ hl h hz => Hd.open_rc hl h hz) h hz
  obtain ⟨l, hl, hall⟩ := Rc.list_of (P := fun a x => Hd.innRC.rel W All a x ∧ Hd.RBnd x) h3
  refine ⟨⟨A, n, c⟩, l, h1, ⟨rs, h2, hl, fun i k1 k2 => (hall i k1 k2).1⟩, fun x hx => ?_, by rw [← hl]; exact h4⟩
  obtain ⟨i, hi, rfl⟩ := List.mem_iff_getElem.1 hx
  exact (hall i (by omega) hi).2
end
/-- A block that came in. -/
def IsBlk (v : Value) (w : World) : Prop := ∃ b, BView w All v b ∧ Bnd b
theorem open_blk {H : Type} {enc : TypeId × Value → H} {W : World} {base : Nat} {v : Value} {d : DataW H} {p : List MemPlace}
    (hv : Value.okWide Tryz.prog W .any base 25 v) (h : DataW.Trod enc Tryz.prog W 0 (fun _ => true) true 25 v d p)
    (hz : ∀ n ∈ d.weights Tryz.prog 25, n ≤ reachBytes) : IsBlk v W := by
  obtain ⟨cs, rfl, hsz⟩ := okWide_struct Tryz.underlying25 hv
  have c5 : Tryz.prog.cellsOf 25 = 4 := by kernel_rfl
  rw [c5] at hsz
  obtain ⟨fuel, hf⟩ := h
  have hf2 : DataW.trod enc Tryz.prog W 0 (fun _ => true) true fuel 25 cs.toList = some (d, p) := hf
  have ci : Tryz.prog.cellsOf 3 = 1 := by kernel_rfl
  have c0 : Tryz.prog.cellsOf 22 = 1 := by kernel_rfl
  have c1 : Tryz.prog.cellsOf 23 = 1 := by kernel_rfl
  have hr : reachBytes = 140737488351232 := rfl
  rw [hr] at hz
  obtain ⟨xs, k, hk, hxy, _, hxl, hfd⟩ := DataW.trod_struct Tryz.underlying25 hf2
  have hl5 : cs.toList.length = 4 := by simpa using hsz
  obtain ⟨L, hL⟩ : ∃ L, cs.toList = L := ⟨_, rfl⟩
  rw [hL] at hl5 hfd
  have hcs : cs = L.toArray := by rw [← hL]
  match xs, hxl, L, hl5 with
  | [y0, y1, y2, y3], _, [v0, v1, v2, v3], _ =>
    have g0 := hfd 0 _ rfl
    have g1 := hfd 1 _ rfl
    have g2 := hfd 2 _ rfl
    have g3 := hfd 3 _ rfl
    simp [ci, c0, c1] at g0 g1 g2 g3
    have hd := (Prod.mk.inj hxy).1
    obtain ⟨a, e0, _, w0⟩ := DataW.trod_int Tryz.underlying3 g0
    obtain ⟨b, e1, _, w1⟩ := DataW.trod_int Tryz.underlying3 g1
    obtain ⟨s, l, e2, hs1, hs2, hs3⟩ := open_brows (d := y2.1) (p := y2.2) g2 (fun n hn => hz n (by rw [hd]; exact Rw.weights_part (j := 2) (e := 22) (d := y2.1) Tryz.underlying25 rfl rfl hn))
    obtain ⟨m, ds, e3, hm1, hm2, hm3⟩ := open_brecs (d := y3.1) (p := y3.2) g3 (fun n hn => hz n (by rw [hd]; exact Rw.weights_part (j := 3) (e := 23) (d := y3.1) Tryz.underlying25 rfl rfl hn))
    obtain rfl := (List.cons.inj e0).1
    obtain rfl := (List.cons.inj e1).1
    obtain rfl := (List.cons.inj e2).1
    obtain rfl := (List.cons.inj e3).1
    exact ⟨⟨a, b, l, ds⟩, ⟨s, m, by rw [hcs], hs1, hm1⟩, ⟨Mt.lit64 w0, Mt.lit64 w1, fun r hr => (hs2 r hr).1, fun r hr => (hs2 r hr).2.1, fun r hr => (hs2 r hr).2.2, hm2, hs3, hm3⟩⟩
end Bk
end Go.Proofs.YtlgjbcmloochiaaGreatDoor
