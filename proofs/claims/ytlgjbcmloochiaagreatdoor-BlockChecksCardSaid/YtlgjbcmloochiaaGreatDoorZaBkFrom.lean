/- Blocks (layer 15): a local block that is filled; the law's From. -/
import Derived.Test.YtlgjbcmloochiaaGreatDoorZaBkRow
import Derived.Test.YtlgjbcmloochiaaGreatDoorZaPHd4
import Derived.Test.YtlgjbcmloochiaaGreatDoorZaPRc2
set_option maxRecDepth 100000
namespace Go.Proofs.YtlgjbcmloochiaaGreatDoor
open Go.RowKit Go.Sort
namespace Bk
open Bit Dsk Ob Dig
set_option linter.unusedVariables false

/-! ### four cells in a block -/
structure Qv where
  a : Value
  b : Value
  c : Value
  d : Value
def Quad (T : TypeId) (g : Nat) (v : Qv) (w : World) : Prop := w.heap[g]? = some (.cells #[v.a, v.b, v.c, v.d] T (0, 0))
section
variable {T : TypeId} {g : Nat} {v : Qv} {w w' : World}
theorem Quad.cells (h : Quad T g v w) : w.cell? ⟨g, 0, none⟩ = some v.a ∧ w.cell? ⟨g, 1, none⟩ = some v.b ∧ w.cell? ⟨g, 2, none⟩ = some v.c ∧ w.cell? ⟨g, 3, none⟩ = some v.d :=
  ⟨by rw [Lib.cell_of_heap h]; rfl, by rw [Lib.cell_of_heap h]; rfl, by rw [Lib.cell_of_heap h]; rfl, by rw [Lib.cell_of_heap h]; rfl⟩
theorem Quad.frozen (h : Quad T g v w) (i : Nat) : w.frozen? ⟨g, i, none⟩ = false := by
  unfold Quad at h
  simp [World.frozen?, h]
theorem Quad.lt (h : Quad T g v w) : g < w.heap.size := (Array.getElem?_eq_some_iff.1 h).1
theorem Quad.set0 (h : Quad T g v w) (x : Value) : Quad T g { v with a := x } (w.setCell ⟨g, 0, none⟩ x) := by unfold Quad at *; simp [World.setCell, Array.getElem?_modify, h]
theorem Quad.set1 (h : Quad T g v w) (x : Value) : Quad T g { v with b := x } (w.setCell ⟨g, 1, none⟩ x) := by unfold Quad at *; simp [World.setCell, Array.getElem?_modify, h]
theorem Quad.set2 (h : Quad T g v w) (x : Value) : Quad T g { v with c := x } (w.setCell ⟨g, 2, none⟩ x) := by unfold Quad at *; simp [World.setCell, Array.getElem?_modify, h]
theorem Quad.set3 (h : Quad T g v w) (x : Value) : Quad T g { v with d := x } (w.setCell ⟨g, 3, none⟩ x) := by unfold Quad at *; simp [World.setCell, Array.getElem?_modify, h]
/-- All four, written one after the other. -/
def setQuad (g : Nat) (v : Qv) (w : World) : World := (((w.setCell ⟨g, 0, none⟩ v.a).setCell ⟨g, 1, none⟩ v.b).setCell ⟨g, 2, none⟩ v.c).setCell ⟨g, 3, none⟩ v.d
theorem Quad.setAll (h : Quad T g v w) (x : Qv) : Quad T g x (setQuad g x w) := (((h.set0 x.a).set1 x.b).set2 x.c).set3 x.d
/-- What a walk that writes all four asks. -/
theorem Quad.roads (h : Quad T g v w) (x : Qv) :
    ((w.setCell ⟨g, 0, none⟩ x.a).cell? ⟨g, 1, none⟩ = some v.b ∧ (w.setCell ⟨g, 0, none⟩ x.a).frozen? ⟨g, 1, none⟩ = false) ∧
    (((w.setCell ⟨g, 0, none⟩ x.a).setCell ⟨g, 1, none⟩ x.b).cell? ⟨g, 2, none⟩ = some v.c ∧ ((w.setCell ⟨g, 0, none⟩ x.a).setCell ⟨g, 1, none⟩ x.b).frozen? ⟨g, 2, none⟩ = false) ∧
    ((((w.setCell ⟨g, 0, none⟩ x.a).setCell ⟨g, 1, none⟩ x.b).setCell ⟨g, 2, none⟩ x.c).cell? ⟨g, 3, none⟩ = some v.d ∧ (((w.setCell ⟨g, 0, none⟩ x.a).setCell ⟨g, 1, none⟩ x.b).setCell ⟨g, 2, none⟩ x.c).frozen? ⟨g, 3, none⟩ = false) := by
  have h1 := h.set0 x.a
  have h2 := h1.set1 x.b
  have h3 := h2.set2 x.c
  exact ⟨⟨h1.cells.2.1, h1.frozen 1⟩, ⟨h2.cells.2.2.1, h2.frozen 2⟩, ⟨h3.cells.2.2.2, h3.frozen 3⟩⟩
theorem Quad.upon {U : Nat → Prop} (h : Quad T g v w) (hu : Upon U w w') (hn : ¬ U g) : Quad T g v w' := (hu.block g h.lt hn).trans h
theorem Quad.new (h : Quad T g v w) (hu : New0 w w') : Quad T g v w' := h.upon hu fun f => f
theorem Quad.alloc (h : Quad T g v w) (o : Obj) : Quad T g v (w.alloc o) := h.new ((Upon.refl _ w).alloc o)
theorem Quad.beside (h : Quad T g v w) {p : Addr} (hp : g ≠ p.block) (x : Value) : Quad T g v (w.setCell p x) := by
  unfold Quad at *
  rw [Below.heap_setCell _ _ _ _ hp]; exact h
theorem Quad.grown {k : Option Nat} (h : Quad T g v w) (hg : w.grownBy w' k) (hk : some g ≠ k) : Quad T g v w' := (hg.block g h.lt hk).trans h
theorem upon_setQuad {U : Nat → Prop} (hu : Upon U w w') (hg : U g ∨ w.heap.size ≤ g) (x : Qv) : Upon U w (setQuad g x w') :=
  (((hu.setCell (p := ⟨g, 0, none⟩) hg _).setCell (p := ⟨g, 1, none⟩) hg _).setCell (p := ⟨g, 2, none⟩) hg _).setCell (p := ⟨g, 3, none⟩) hg _
end
/-! ### rows of rows -/
theorem typR : Rw.Typ layB 22 70 56 := Rw.Typ.mk' (z := .agg #[.slice none 0 0, .int .i64 0, .slice none 0 0]) Tryz.underlying22 (by kernel_rfl) rfl
theorem typW : Rw.Typ layB 27 66 56 := Rw.Typ.mk' (z := .agg #[.slice none 0 0, .int .i64 0, .slice none 0 0]) Tryz.underlying27 (by kernel_rfl) rfl
/-- One row that was laid. -/
theorem bmine_one (T : TypeId) (w : World) (x : RB) : Rw.Mine layB T (w.alloc (.cells #[x.s.v, .int .i64 x.t, x.p.v] T (0, 0))) (.slice (some ⟨w.heap.size, 0, none⟩) 1 1) [x] :=
  ⟨by simp [Rw.cells, layB], .inr ⟨w.heap.size, 1, _, rfl, Nat.zero_le _, cell_new w _, Nat.le_refl _, by unfold maxLen; decide, by simp [layB], by simp [Rw.cells, layB]⟩⟩
/-- A block that is given, its rows' cells told. -/
theorem BsView.rows {w : World} {S : Nat → Prop} {A : Option Addr} {n c : Nat} {l : List Row} (h : BsView w S (.slice A n c) l) : ∃ rs : List RB, rs.length = l.length ∧ (∀ i (h1 : i < rs.length) (h2 : i < l.length), innB.rel w S rs[i] l[i]) ∧
    (0 < l.length → ∃ b off, A = some ⟨b, off, none⟩ ∧ ∀ i (hi : i < rs.length), w.cell? ⟨b, off + i * 3, none⟩ = some rs[i].s.v ∧ w.cell? ⟨b, off + i * 3 + 1, none⟩ = some (.int .i64 rs[i].t) ∧ w.cell? ⟨b, off + i * 3 + 2, none⟩ = some rs[i].p.v) := by
  obtain ⟨rs, h1, h2, h3⟩ := h
  refine ⟨rs, h2, h3, fun hp => ?_⟩
  obtain ⟨A', c', e, k1, k2⟩ := Rw.View.shape h1
  injection e with e1 e2 e3
  obtain ⟨b, off, m1, m2, m3, m4⟩ := Rw.View.open (e2 ▸ h1) (by omega)
  exact ⟨b, off, m1, fun i hi => ⟨m4 i hi 0 _ rfl, m4 i hi 1 _ rfl, m4 i hi 2 _ rfl⟩⟩
set_option maxHeartbeats 12800000 in
theorem from_any (w : World) (v : Value) (b : B) (hv : BView w (fun _ => True) v b) (hb : Bnd b) :
    Calls Tryz.prog 15 #[v] w fun e w' => ∃ u, e = .returned u ∧ BView w' (fun _ => True) u b ∧ New0 w w' := by
  obtain ⟨A, c, A', c', rfl, hr, hd⟩ := BView.shape hv
  have hfew := hb.few
  obtain ⟨f, t, l, ds⟩ := b
  simp only at hr hd hfew ⊢
  obtain ⟨src, hsl, hrel0, hcells⟩ := BsView.rows hr
  clear hr hv hb
  obtain ⟨wa, hwa⟩ : ∃ wa, w.alloc (.cells #[.int .i64 f, .int .i64 t, .slice A l.length c, .slice A' ds.length c'] 29 (0, 0)) = wa := ⟨_, rfl⟩
  obtain ⟨wy, hwy⟩ : ∃ wy, wa.alloc (.cells #[.int .i64 0, .int .i64 0, .slice none 0 0, .slice none 0 0] 25 (0, 0)) = wy := ⟨_, rfl⟩
  obtain ⟨wb, hwb⟩ : ∃ wb, wy.alloc (.cells #[.int .i64 f, .int .i64 t, .slice none 0 0, .slice A' ds.length c'] 25 (0, 0)) = wb := ⟨_, rfl⟩
  have sa : wa.heap.size = w.heap.size + 1 := by rw [← hwa]; simp
  have sy : wy.heap.size = w.heap.size + 1 + 1 := by rw [← hwy]; simp [sa]
  have sb : wb.heap.size = w.heap.size + 3 := by rw [← hwb]; simp [sy]
  have ua : New0 w wa := by rw [← hwa]; exact (Upon.refl _ w).alloc _
  have uy : New0 wa wy := by rw [← hwy]; exact (Upon.refl _ wa).alloc _
  have ub : New0 wy wb := by rw [← hwb]; exact (Upon.refl _ wy).alloc _
  have hX0 : Quad 29 w.heap.size ⟨.int .i64 f, .int .i64 t, .slice A l.length c, .slice A' ds.length c'⟩ wa := by rw [← hwa]; exact cell_new w _
  have hX := hX0.new (uy.trans ub)
  have hY0 : Quad 25 (w.heap.size + 1) ⟨.int .i64 0, .int .i64 0, .slice none 0 0, .slice none 0 0⟩ wy := by rw [← hwy, ← sa]; exact cell_new wa _
  have hY := hY0.new ub
  have hZ : Quad 25 (w.heap.size + 1 + 1) ⟨.int .i64 f, .int .i64 t, .slice none 0 0, .slice A' ds.length c'⟩ wb := by rw [← hwb, ← sy]; exact cell_new wy _
  have hw0 : Hid (((w.alloc (.cells #[.int .i64 f, .int .i64 t, .slice A l.length c, .slice A' ds.length c'] 29 (0, 0))).alloc (.cells #[.int .i64 0, .int .i64 0, .slice none 0 0, .slice none 0 0] 25 (0, 0))) = wy) := Lib.hid (by rw [hwa, hwy])
  have hU := Lib.hid ((ua.trans uy).trans ub)
  have hXc := hX0.new uy
  obtain ⟨k0, k1, k2, k3⟩ := hXc.cells
  replace hX := Lib.hid hX
  replace hY := Lib.hid hY
  replace hZ := Lib.hid hZ
  replace hrel0 := Lib.hid hrel0
  replace hcells := Lib.hid hcells
  replace hwb := Lib.hid hwb
  replace hd := Lib.hid hd
  clear hwa hwy ua uy ub hX0 hY0 hXc
  go_enter Tryz.func15, Tryz.ntmps15
  go_wp2_with fail
  rw [hw0.out, hwb.out]
  clear k0 k1 k2 k3 hw0 hwb
  go_loopw [4] (fun ov wr => ∃ (j : Nat) (uv : Value), ov = .int .i64 (j : Int) ∧ j ≤ l.length ∧ Hid (Rw.Mine layB 70 wr uv (src.take j)) ∧ Hid (∀ g, uv.ownBlock = some g → wb.heap.size ≤ g) ∧ Hid (Quad 25 (w.heap.size + 1 + 1) ⟨.int .i64 f, .int .i64 t, uv, .slice A' ds.length c'⟩ wr) ∧ Hid (Upon (fun k => k = w.heap.size + 1 + 1) wb wr)) (fun ov _ => l.length - (intOf ov).toNat)
  case atStart => exact ⟨0, .slice none 0 0, rfl, Nat.zero_le _, Lib.hid (by rw [List.take_zero]; exact Rw.Mine.nil _ _ _), Lib.hid (fun g h => by cases h), hZ, Lib.hid (Upon.refl _ _)⟩
  case round =>
    clear hZ
    obtain ⟨j, uv, rfl, hj, hM, hbs, hZ, hu⟩ := hrel
    have hnw : Hid (New0 w wr) := Lib.hid (hU.out.trans' hu.out (fun i hi e => by omega))
    have hXr := hX.out.upon hu.out (by omega)
    have shu := hu.out.size
    obtain ⟨k0, k1, k2, k3⟩ := hXr.cells
    by_cases hlt : j < l.length
    · obtain ⟨b0, off, rfl, hcl⟩ := hcells.out (by omega)
      have hjs : j < src.length := by omega
      obtain ⟨x0, x1, x2⟩ := hcl j hjs
      have r0 := Lb.New0.cells hnw.out x0
      have r1 := Lb.New0.cells hnw.out x1
      have r2 := Lb.New0.cells hnw.out x2
      have htk := List.take_succ_eq_append_getElem hjs
      have hln : (src.take j).length ≤ 2513169434842 := by rw [List.length_take]; omega
      obtain ⟨x, hx⟩ : ∃ x, src[j] = x := ⟨_, rfl⟩
      rw [hx] at r0 r1 r2 htk
      obtain ⟨⟨sa1, sn1, sc1⟩, xt, ⟨pa1, pn1, pc1⟩⟩ := x
      simp only at r0 r1 r2
      obtain ⟨Au, cu, hu', -, -⟩ := Rw.View.shape hM.out.view
      obtain ⟨xs, hxs⟩ : ∃ xs, src.take j = xs := ⟨_, rfl⟩
      rw [hxs] at hM htk hln hu'
      subst hu'
      -- the row's own copy, the new row
      have n1 := (Upon.refl (fun _ => False) wr).alloc (.cells #[.slice sa1 sn1 sc1, .int .i64 xt, .slice pa1 pn1 pc1] 66 (0, 0))
      have n2 := n1.alloc (.cells #[.slice sa1 sn1 sc1, .int .i64 xt, .slice pa1 pn1 pc1] 70 (0, 0))
      have hM2 := Lib.hid (hM.out.new n2)
      have hV2 : Hid (Rw.Mine layB 70 ((wr.alloc (.cells #[.slice sa1 sn1 sc1, .int .i64 xt, .slice pa1 pn1 pc1] 66 (0, 0))).alloc (.cells #[.slice sa1 sn1 sc1, .int .i64 xt, .slice pa1 pn1 pc1] 70 (0, 0))) (.slice (some ⟨wr.heap.size + 1, 0, none⟩) 1 1) [⟨⟨sa1, sn1, sc1⟩, xt, ⟨pa1, pn1, pc1⟩⟩]) := Lib.hid (by
        have := bmine_one 70 (wr.alloc (.cells #[.slice sa1 sn1 sc1, .int .i64 xt, .slice pa1 pn1 pc1] 66 (0, 0))) ⟨⟨sa1, sn1, sc1⟩, xt, ⟨pa1, pn1, pc1⟩⟩
        rw [show (wr.alloc (.cells #[.slice sa1 sn1 sc1, .int .i64 xt, .slice pa1 pn1 pc1] 66 (0, 0))).heap.size = wr.heap.size + 1 by simp] at this
        exact this)
      have hZ2 := hZ.out.new n2
      have hZ1 := hZ.out.new n1
      obtain ⟨q0, q1, q2, q3⟩ := hZ1.cells
      have hXw := box3 wr (.slice sa1 sn1 sc1) xt (.slice pa1 pn1 pc1) 66
      obtain ⟨p0, p1, p2⟩ := hXw
      replace hZ2 := Lib.hid hZ2
      have hu2 := Lib.hid (hu.out.trans' n2 (fun i _ f => f.elim))
      clear hcl x0 x1 x2 hx hxs n1 n2 hZ1 hZ hM hu hXr
      go_wp2_with (at_builtin; refine Rw.wpList_append typR rfl _ _ rfl _ _ xs [(⟨⟨sa1, sn1, sc1⟩, xt, ⟨pa1, pn1, pc1⟩⟩ : RB)] _ rfl rfl hM2.out hV2.out.view (by rw [List.length_singleton]; omega) (by rw [List.length_singleton]; omega) ?_)
      intro v6 w6 hown hgr hbl
      have hq : (Value.slice Au xs.length cu).ownBlock ≠ some (w.heap.size + 1 + 1) := fun e => by have := hbs.out _ e; omega
      have hZ6 := hZ2.out.grown hgr (fun e => hq e.symm)
      have hbs6 : Hid (∀ g, v6.ownBlock = some g → wb.heap.size ≤ g) := Lib.hid (fun g hg => by
        rcases hbl with h | h
        · exact hbs.out g (h.symm.trans hg)
        · rw [h] at hg
          injection hg with hg
          first
            | omega
            | (simp at hg; omega))
      obtain ⟨Av, cv, hv', -, -⟩ := Rw.View.shape (show Rw.Mine layB 70 w6 v6 _ from hown).view
      obtain ⟨nv, hnv⟩ : ∃ n, (xs ++ [(⟨⟨sa1, sn1, sc1⟩, xt, ⟨pa1, pn1, pc1⟩⟩ : RB)]).length = n := ⟨_, rfl⟩
      rw [hnv] at hv'
      subst hv'
      obtain ⟨e0, e1, e2, e3⟩ := hZ6.cells
      have ef := hZ6.frozen 2
      have hZ7 := Lib.hid (hZ6.set2 (.slice Av nv cv))
      have us : Upon (fun k => k = w.heap.size + 1 + 1) w6 (w6.setCell ⟨w.heap.size + 1 + 1, 2, none⟩ (.slice Av nv cv)) := Upon.setCell (S := fun k => k = w.heap.size + 1 + 1) (p := ⟨w.heap.size + 1 + 1, 2, none⟩) (Upon.refl _ w6) (.inl rfl) _
      have hM7 := Lib.hid (Rw.Mine.upon (show Rw.Mine layB 70 w6 _ _ from hown) us (fun b hb e => by have := hbs6.out b hb; omega))
      have hu7 := Lib.hid ((Upon.grown hu2.out hgr (fun k hk => .inr (hbs.out k hk))).trans us)
      clear hown hgr hbl hq hZ6 us hnv hM2 hV2 hZ2 hu2 hbs
      go_wp2_with fail
      go_roundw
      case rel => exact ⟨j + 1, _, by go_num, hlt, by rw [htk]; exact hM7, hbs6, hZ7, hu7⟩
      case measure => simp [intOf]; omega
    · have hje : src.take j = src := List.take_of_length_le (by omega)
      rw [hje] at hM
      have hYr := hY.out.upon hu.out (by omega)
      have hZr := hZ.out
      obtain ⟨Av, cv, hv', -, -⟩ := Rw.View.shape hM.out.view
      rw [hsl] at hv'
      subst hv'
      obtain ⟨e0, e1, e2, e3⟩ := hZr.cells
      obtain ⟨d0, d1, d2, d3⟩ := hYr.cells
      have z0 := hYr.frozen 0
      have z1 := hYr.frozen 1
      have z2 := hYr.frozen 2
      have z3 := hYr.frozen 3
      obtain ⟨⟨p1, r1⟩, ⟨p2, r2⟩, ⟨p3, r3⟩⟩ := hYr.roads ⟨.int .i64 f, .int .i64 t, .slice Av l.length cv, .slice A' ds.length c'⟩
      obtain ⟨wz, hwz⟩ : ∃ wz, setQuad (w.heap.size + 1) ⟨.int .i64 f, .int .i64 t, .slice Av l.length cv, .slice A' ds.length c'⟩ wr = wz := ⟨_, rfl⟩
      have hFz := (hYr.setAll ⟨.int .i64 f, .int .i64 t, .slice Av l.length cv, .slice A' ds.length c'⟩).cells
      rw [hwz] at hFz
      replace hFz := Lib.hid hFz
      have hAz : Upon (fun k => k = w.heap.size + 1) wr wz := by
        rw [← hwz]
        exact upon_setQuad (U := fun k => k = w.heap.size + 1) (g := w.heap.size + 1) (Upon.refl _ wr) (Or.inl rfl) _
      have hNz : Hid (New0 w wz) := Lib.hid (hnw.out.trans' hAz (fun i hi e => by omega))
      have hMz : Rw.Mine layB 70 wz (.slice Av l.length cv) src := Rw.Mine.upon hM.out hAz (fun b hb e => by have := hbs.out b hb; omega)
      have hVz : Hid (BView wz (fun _ => True) (.agg #[.int .i64 f, .int .i64 t, .slice Av l.length cv, .slice A' ds.length c']) ⟨f, t, l, ds⟩) := Lib.hid
        ⟨⟨Av, l.length, cv⟩, ⟨A', ds.length, c'⟩, rfl, ⟨src, hMz.view.mono fun _ _ _ => trivial, hsl, fun i h1 h2 => innB.upon (hrel0.out i h1 h2) hNz.out fun _ _ f => f⟩, Rw.DView.upon hd.out hNz.out fun _ _ f => f⟩
      have hwz' : Hid ((((wr.setCell ⟨w.heap.size + 1, 0, none⟩ (.int .i64 f)).setCell ⟨w.heap.size + 1, 1, none⟩ (.int .i64 t)).setCell ⟨w.heap.size + 1, 2, none⟩ (.slice Av l.length cv)).setCell ⟨w.heap.size + 1, 3, none⟩ (.slice A' ds.length c') = wz) := Lib.hid hwz
      clear hwz hAz hMz hM hZ hYr hZr hu hbs hXr hcells hrel0 hnw
      go_wp2_with fail
      rw [hwz'.out]
      obtain ⟨s0, s1, s2, s3⟩ := hFz.out
      clear p1 r1 p2 r2 p3 r3 d0 d1 d2 d3 z0 z1 z2 z3 e0 e1 e2 e3 k0 k1 k2 k3
      refine bodyPost_ret (v := .agg #[.int .i64 f, .int .i64 t, .slice Av l.length cv, .slice A' ds.length c']) (by simp [results, Tryz.results15, go_sem, s0, s1, s2, s3]) rfl ?_
      exact ⟨_, rfl, hVz.out, hNz.out⟩
end Bk
end Go.Proofs.YtlgjbcmloochiaaGreatDoor
