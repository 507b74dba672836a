/- Parts, put together: RcLaw0, RcLaw1. -/
import Derived.Test.YtlgjbcmloochiaaGreatDoorZaPRc1

/- Layer 12: the law's own Own (a record that shares nothing). -/
section
set_option maxRecDepth 100000
namespace Go.Proofs.YtlgjbcmloochiaaGreatDoor
open Go.RowKit Go.Sort
namespace Rc
open Bit Dsk Ob Dig Lb
set_option linter.unusedVariables false

/-- Three cells in a block. -/
def Tri (T : TypeId) (g : Nat) (a b c : Value) (w : World) : Prop := w.heap[g]? = some (.cells #[a, b, c] T (0, 0))
theorem Tri.cells {T : TypeId} {g : Nat} {a b c : Value} {w : World} (h : Tri T g a b c w) : w.cell? ⟨g, 0, none⟩ = some a ∧ w.cell? ⟨g, 1, none⟩ = some b ∧ w.cell? ⟨g, 2, none⟩ = some c :=
  ⟨by rw [Lib.cell_of_heap h]; rfl, by rw [Lib.cell_of_heap h]; rfl, by rw [Lib.cell_of_heap h]; rfl⟩
theorem Tri.frozen {T : TypeId} {g : Nat} {a b c : Value} {w : World} (h : Tri T g a b c w) (i : Nat) : w.frozen? ⟨g, i, none⟩ = false := by
  unfold Tri at h
  simp [World.frozen?, h]
theorem Tri.set0 {T : TypeId} {g : Nat} {a b c : Value} {w : World} (h : Tri T g a b c w) (x : Value) : Tri T g x b c (w.setCell ⟨g, 0, none⟩ x) := by unfold Tri at *; simp [World.setCell, Array.getElem?_modify, h]
theorem Five.alloc {T : TypeId} {g : Nat} {v : Fv} {w : World} (h : Five T g v w) (o : Obj) : Five T g v (w.alloc o) := by
  unfold Five at *
  rw [Below.heap_alloc _ _ _ (Array.getElem?_eq_some_iff.1 h).1]; exact h
theorem Five.beside {T : TypeId} {g : Nat} {v : Fv} {w : World} (h : Five T g v w) {p : Addr} (hp : g ≠ p.block) (x : Value) : Five T g v (w.setCell p x) := by
  unfold Five at *
  rw [Below.heap_setCell _ _ _ _ hp]; exact h
theorem Five.grown {T : TypeId} {g : Nat} {v : Fv} {w w' : World} {k : Option Nat} (h : Five T g v w) (hg : w.grownBy w' k) (hk : some g ≠ k) : Five T g v w' := by
  unfold Five at *
  rw [hg.block g (Array.getElem?_eq_some_iff.1 h).1 hk]; exact h
theorem rowMine2 {I B : Ob.Rel} {u : Value} {rs : List RS} {l : List Smp} {w0 w : World} (H : Own (Tens I (Tens B (Tens (Rw.RowO layS 123 u rs) (LabsO rs l)))) w0 w) : Rw.Mine layS 123 w u rs := by
  obtain ⟨S, h⟩ := H.dropl.dropl.seeL
  exact h.1
theorem own0 (w : World) : Own Mt.NoO w w := Own.made (S := fun _ => False) (Below.refl _ _) (fun x hx => hx) (fun b hb => hb.elim) (Upon.refl _ w)
/-- What Own answers: a record whose row of samples is its own, and lies beside all else that it reads. -/
def OwnE (w w' : World) (u : Value) (r : R) : Prop := ∃ (A : Option Addr) (c : Nat) (rs : List RS) (m : Rw.Sl) (T : Nat → Prop),
  u = .agg #[.int .i64 r.kind, .slice A rs.length c, m.v, .int .i64 r.frm, .int .i64 r.til] ∧ Rw.Mine layS 123 w' (.slice A rs.length c) rs ∧ (∀ g, (Value.slice A rs.length c).ownBlock = some g → w.heap.size ≤ g ∧ ¬ T g) ∧
  rs.length = r.smp.length ∧ (∀ i (h1 : i < rs.length) (h2 : i < r.smp.length), innS.rel w' T rs[i] r.smp[i]) ∧ Mt.View w' T m.v r.ms ∧ ∀ x, T x → x < w'.heap.size
/-- .. and all of it in new blocks. -/
def OwnN (w w' : World) (u : Value) (r : R) : Prop := ∃ (A : Option Addr) (c : Nat) (rs : List RS) (m : Rw.Sl) (T : Nat → Prop),
  u = .agg #[.int .i64 r.kind, .slice A rs.length c, m.v, .int .i64 r.frm, .int .i64 r.til] ∧ Rw.Mine layS 123 w' (.slice A rs.length c) rs ∧ (∀ g, (Value.slice A rs.length c).ownBlock = some g → w.heap.size ≤ g ∧ ¬ T g) ∧
  rs.length = r.smp.length ∧ (∀ i (h1 : i < rs.length) (h2 : i < r.smp.length), innS.rel w' T rs[i] r.smp[i]) ∧ Mt.View w' T m.v r.ms ∧ ∀ x, T x → w.heap.size ≤ x ∧ x < w'.heap.size
theorem OwnN.more {w w' : World} {u : Value} {r : R} (h : OwnN w w' u r) : OwnE w w' u r :=
  let ⟨A, c, rs, m, T, h1, h2, h3, h4, h5, h6, h7⟩ := h
  ⟨A, c, rs, m, T, h1, h2, h3, h4, h5, h6, fun x hx => (h7 x hx).2⟩
theorem rowApart {I B : Ob.Rel} {u : Value} {rs : List RS} {l : List Smp} {w0 w : World} (H : Own (Tens I (Tens B (Tens (Rw.RowO layS 123 u rs) (LabsO rs l)))) w0 w) :
    ∃ T, LabsO rs l w T ∧ Rw.Mine layS 123 w u rs ∧ (∀ g, u.ownBlock = some g → w0.heap.size ≤ g ∧ ¬ T g) ∧ ∀ x, T x → w0.heap.size ≤ x := by
  obtain ⟨⟨S, ⟨A, B, h1, h2, h3, h4⟩, h5⟩, -⟩ := H.dropl.dropl
  exact ⟨B, h2, h1.1, fun g hg => ⟨h5 g ((h4 g).2 (.inl (h1.2.1 g hg))), h3 g (h1.2.1 g hg)⟩, fun x hx => h5 x ((h4 x).2 (.inr hx))⟩
set_option maxHeartbeats 12800000 in
theorem own_most (w : World) (v : Value) (r : R) (hv : RView w All v r) (hb : Bnd r) (hl1 : r.smp.length * 40 ≤ 140737488351232) (hl2 : r.ms.length * 40 ≤ 140737488351232) :
    Calls Tryz.prog 20 #[v] w fun e w' => ∃ u, e = .returned u ∧ RView w' (Nw w) u r ∧ New0 w w' ∧ OwnN w w' u r := by
  obtain ⟨A, c, A', c', rfl, hs, hm⟩ := RView.shape hv
  obtain ⟨k, l, ms, a, b⟩ := r
  simp only at hs hm hl1 hl2 ⊢
  obtain ⟨wa, hwa⟩ : ∃ wa, w.alloc (.cells #[.int .i64 k, .slice A l.length c, .slice A' ms.length c', .int .i64 a, .int .i64 b] 50 (0, 0)) = wa := ⟨_, rfl⟩
  obtain ⟨wb, hwb⟩ : ∃ wb, wa.alloc (.cells #[.int .i64 0, .slice none 0 0, .slice none 0 0, .int .i64 0, .int .i64 0] 50 (0, 0)) = wb := ⟨_, rfl⟩
  have sa : wa.heap.size = w.heap.size + 1 := by rw [← hwa]; simp
  have sb : wb.heap.size = w.heap.size + 2 := by rw [← hwb]; simp [sa]
  have hX0 : Five 50 w.heap.size ⟨.int .i64 k, .slice A l.length c, .slice A' ms.length c', .int .i64 a, .int .i64 b⟩ wa := by rw [← hwa]; exact cell_new w _
  have ua : New0 w wa := by rw [← hwa]; exact (Upon.refl _ w).alloc _
  have ub : New0 wa wb := by rw [← hwb]; exact (Upon.refl _ wa).alloc _
  have hY : Five 50 (w.heap.size + 1) zeroV wb := by rw [← hwb, ← sa]; exact cell_new wa _
  have hX : Five 50 w.heap.size ⟨.int .i64 k, .slice A l.length c, .slice A' ms.length c', .int .i64 a, .int .i64 b⟩ wb := by
    unfold Five at *
    rw [ub.block w.heap.size (by omega) (fun f => f)]; exact hX0
  have hw : Hid ((w.alloc (.cells #[.int .i64 k, .slice A l.length c, .slice A' ms.length c', .int .i64 a, .int .i64 b] 50 (0, 0))).alloc (.cells #[.int .i64 0, .slice none 0 0, .slice none 0 0, .int .i64 0, .int .i64 0] 50 (0, 0)) = wb) := Lib.hid (by rw [hwa, hwb])
  have hU := Lib.hid (ua.trans ub)
  have hS := Lib.hid (hs.new hU.out)
  have hM := Lib.hid (Rw.View.new (Rw.View.mono (S' := fun b => b < w.heap.size) hm fun b hb _ => hb) hU.out)
  have hbs := Lib.hid hb.smp
  have hfew : l.length ≤ 3518437208780 := by omega
  have hfew2 : ms.length ≤ 3518437208780 := by omega
  have h0 := Lib.hid (labsNone (Tens.ob (Tens.ob Mt.thingNo Mt.thingNo) (Rw.thingRow _ _ _ _)) (Rw.rowNone layS 123 (Tens.ob Mt.thingNo Mt.thingNo) (Mt.ownNo Mt.thingNo (own0 wb)))).assoc.assoc
  have hJ := Lib.hid (fun u rs l => Tens.ob Mt.thingNo (Tens.ob Mt.thingNo (Tens.ob (Rw.thingRow layS 123 u rs) (thingLabs rs l))))
  have hJ2 := Lib.hid (fun u rs l s ls => Tens.ob Mt.thingNo (Tens.ob Mt.thingNo (Tens.ob (Tens.ob (Rw.thingRow layS 123 u rs) (thingLabs rs l)) (thingLab s ls))))
  replace hX := Lib.hid hX
  replace hY := Lib.hid hY
  replace sb := Lib.hid sb
  clear hwa hwb sa hX0 ua ub hv hb hs hm hl1 hl2
  go_enter Tryz.func20, Tryz.ntmps20
  go_wp2_with fail
  rw [hw.out]
  go_loopw [3, 4] (fun u ov wr => ∃ (j : Nat) (rs : List RS), ov = .int .i64 (j : Int) ∧ j ≤ l.length ∧ Hid (Own (Tens Mt.NoO (Tens Mt.NoO (Tens (Rw.RowO layS 123 u rs) (LabsO rs (l.take j))))) wb wr)) (fun _ ov _ => l.length - (intOf ov).toNat)
  case atStart => exact ⟨0, [], rfl, Nat.zero_le _, h0⟩
  case round =>
    clear h0 hw
    obtain ⟨j, rs, rfl, hj, ho⟩ := hrel
    obtain ⟨g0, g1, g2, g3, g4⟩ := (five_keep hX.out ho.out).cells
    have hN := Lib.hid (newOf ho.out.bel)
    by_cases hlt : j < l.length
    · obtain ⟨b0, off, rfl, -, hcells⟩ := SView.cells hS.out (by omega)
      obtain ⟨⟨xa, xn, xc⟩, hxv, x0, x1, x2⟩ := hcells j hlt
      have y0 := Lb.New0.cells hN.out x0
      have y1 := Lb.New0.cells hN.out x1
      have y2 := Lb.New0.cells hN.out x2
      have hbx := hbs.out _ (List.getElem_mem hlt)
      have htk := List.take_succ_eq_append_getElem hlt
      obtain ⟨x, hx⟩ : ∃ x, l[j] = x := ⟨_, rfl⟩
      rw [hx] at y1 y2 hxv hbx htk
      obtain ⟨ls, t, q⟩ := x
      simp only at y0 y1 y2 hxv hbx
      have hbl := hbx.2.1
      simp only at hbl
      replace htk := Lib.hid htk
      obtain ⟨A9, c9, e9, -, -⟩ := Rw.View.shape hxv
      injection e9 with e91 e92 e93
      subst e91 e92 e93
      have hxv2 := Lib.hid ((hxv.new hN.out).new (((Upon.refl _ wr).alloc (.cells #[.slice xa ls.length xc, .int .i64 t, .int .u64 (q : Int)] 123 (0, 0))).alloc (.cells #[] 72 (0, 0))))
      have hme : Hid (Lb.Mine ((wr.alloc (.cells #[.slice xa ls.length xc, .int .i64 t, .int .u64 (q : Int)] 123 (0, 0))).alloc (.cells #[] 72 (0, 0))) (.slice (some ⟨wr.heap.size + 1, 0, none⟩) 0 0) []) := Lib.hid (by
        have := Rw.Mine.empty Lb.layPr (T := 72) (cell_new (wr.alloc (.cells #[.slice xa ls.length xc, .int .i64 t, .int .u64 (q : Int)] 123 (0, 0))) (.cells #[] 72 (0, 0)))
        rw [show (wr.alloc (.cells #[.slice xa ls.length xc, .int .i64 t, .int .u64 (q : Int)] 123 (0, 0))).heap.size = wr.heap.size + 1 by simp] at this
        exact this)
      clear hcells x0 x1 x2 hx hxv
      go_wp2_with (at_builtin; refine Rw.wpList_append Lb.typPr rfl _ _ rfl _ _ [] ls All rfl rfl hme.out hxv2.out (by rw [List.length_nil]; omega) (by rw [List.length_nil]; omega) ?_)
      intro v' w6 hown hgr hbl6
      replace hown : Rw.Mine Lb.layPr 72 w6 v' ls := hown
      have hg0 : (Value.slice (some ⟨wr.heap.size + 1, 0, none⟩) 0 0).ownBlock = some (wr.heap.size + 1) := rfl
      rw [hg0] at hgr hbl6
      obtain ⟨A8, c8, hv8, -, -⟩ := Rw.View.shape (show Rw.Mine Lb.layPr 72 w6 v' ls from hown).view
      subst hv8
      have hT6 : Tri 123 wr.heap.size (.slice xa ls.length xc) (.int .i64 t) (.int .u64 (q : Int)) w6 := by
        unfold Tri
        rw [hgr.block wr.heap.size (by simp; omega) (by intro e; injection e with e; omega)]
        rw [Below.heap_alloc _ _ _ (by simp)]
        exact cell_new wr _
      have hu6 : New0 wr w6 := Upon.grown (((Upon.refl _ wr).alloc _).alloc _) hgr (fun k hk => .inr (by injection hk with hk; omega))
      have hbk : ∀ b, (Value.slice A8 ls.length c8).ownBlock = some b → wr.heap.size + 1 ≤ b := fun b hb => by
        rcases hbl6 with h9 | h9 <;> rw [hb] at h9 <;> injection h9 with h9
        · omega
        · rw [h9]; simp
      obtain ⟨m0, m1, m2⟩ := hT6.cells
      have mf := hT6.frozen 0
      obtain ⟨n0, n1, n2⟩ := (hT6.set0 (.slice A8 ls.length c8)).cells
      have hM7 := Rw.Mine.upon hown (Upon.setCell (S := fun b => b = wr.heap.size) (p := ⟨wr.heap.size, 0, none⟩) (Upon.refl _ w6) (.inl rfl) (.slice A8 ls.length c8)) (fun b hb e => by have := hbk b hb; omega)
      have hu7 : New0 wr (w6.setCell ⟨wr.heap.size, 0, none⟩ (.slice A8 ls.length c8)) := Upon.setCell hu6 (.inr (Nat.le_refl _)) _
      have h7 := labIn (labMade (hJ.out _ _ _) ho.out (s := ⟨A8, ls.length, c8⟩) ((Rw.Mine.view hM7).mono fun b _ hb => by have := hbk b hb; unfold Nw; omega) hu7)
      clear hown hgr hbl6 hT6 hu6 hM7 hu7 hg0 hme hxv2
      have hMi := Lib.hid (Rw.Mine.new (rowMine h7) ((Upon.refl _ (w6.setCell ⟨wr.heap.size, 0, none⟩ (.slice A8 ls.length c8))).alloc (.cells #[(⟨A8, ls.length, c8⟩ : Rw.Sl).v, .int .i64 t, .int .u64 (q : Int)] 123 (0, 0))))
      have hXi := Lib.hid (view_smp (w6.setCell ⟨wr.heap.size, 0, none⟩ (.slice A8 ls.length c8)) (⟨A8, ls.length, c8⟩ : Rw.Sl) t q)
      rw [show (w6.setCell ⟨wr.heap.size, 0, none⟩ (.slice A8 ls.length c8)).heap.size = w6.heap.size by simp [World.setCell]] at hXi
      have hPe := Lib.hid (permOut (Own.upon0 (hJ2.out _ _ _ _ _) h7 ((Upon.refl _ (w6.setCell ⟨wr.heap.size, 0, none⟩ (.slice A8 ls.length c8))).alloc (.cells #[(⟨A8, ls.length, c8⟩ : Rw.Sl).v, .int .i64 t, .int .u64 (q : Int)] 123 (0, 0)))))
      obtain ⟨A10, c10, hu10, -, -⟩ := Rw.View.shape (rowMine h7).view
      have hrl : rs.length ≤ l.length := by
        obtain ⟨S10, hS10⟩ := h7.dropl.dropl.dropr.seeR
        have h9 := hS10.1
        rw [List.length_take] at h9
        omega
      subst hu10
      clear h7
      go_wp2_with (at_builtin; refine Rw.wpList_append typS rfl _ _ rfl _ _ rs [((⟨A8, ls.length, c8⟩ : Rw.Sl), t, q)] Rw.All rfl rfl hMi.out hXi.out (by rw [List.length_singleton]; omega) (by rw [List.length_singleton]; omega) ?_)
      intro v7 w11 hown hgr hbl
      have h11 := Rw.rowAppend (Tens.ob Mt.thingNo (Tens.ob Mt.thingNo (Tens.ob (thingLabs _ _) (thingLab _ _)))) hPe.out hown hgr (hbl.imp id fun h => h.trans (by simp))
      have h12 := Lib.hid (permIn h11 (fun w S h => labs_add (t := t) (u := q) h))
      rw [← htk.out] at h12
      clear hMi hXi hPe hown hgr hbl h11 m0 m1 m2 mf n0 n1 n2 y0 y1 y2
      go_wp2_with fail
      go_roundw
      case rel => exact ⟨j + 1, _, by go_num, hlt, h12⟩
      case measure => simp [intOf]; omega
    · have hje : j = l.length := by omega
      subst hje
      rw [List.take_length] at ho
      have hF := five_keep hX.out ho.out
      have hG := five_keep hY.out ho.out
      have hs9 := sview_own ho.out
      obtain ⟨A9, c9, hu9, -, -⟩ := Rw.View.shape (rowMine2 ho.out).view
      subst hu9
      have gf := hF.frozen 1
      obtain ⟨n0, n1, n2, n3, n4⟩ := (hF.set1 (.slice A9 rs.length c9)).cells
      have hF2 := hF.set1 (.slice A9 rs.length c9)
      have q1 := hN.out.size
      have q2 := sb.out
      have hu1 : Upon (fun b => b = w.heap.size) wr (wr.setCell ⟨w.heap.size, 1, none⟩ (.slice A9 rs.length c9)) := Upon.setCell (S := fun b => b = w.heap.size) (p := ⟨w.heap.size, 1, none⟩) (Upon.refl _ wr) (.inl rfl) _
      have hme := Rw.Mine.empty Mt.layM (T := 190) (cell_new (wr.setCell ⟨w.heap.size, 1, none⟩ (.slice A9 rs.length c9)) (.cells #[] 190 (0, 0)))
      have esz : (wr.setCell ⟨w.heap.size, 1, none⟩ (.slice A9 rs.length c9)).heap.size = wr.heap.size := by simp [World.setCell]
      rw [esz] at hme
      replace hme := Lib.hid hme
      have hxv := Lib.hid (((hM.out.new hN.out).upon hu1 (fun b hb e => by omega)).new ((Upon.refl _ (wr.setCell ⟨w.heap.size, 1, none⟩ (.slice A9 rs.length c9))).alloc (.cells #[] 190 (0, 0))))
      obtain ⟨l0, l1, l2, l3, l4⟩ := (hF2.alloc (.cells #[] 190 (0, 0))).cells
      replace hF2 := Lib.hid hF2
      replace hG := Lib.hid hG
      replace hs9 := Lib.hid hs9
      replace esz := Lib.hid esz
      have ho9 := Lib.hid ho.out
      clear hF hu1 ho hj hlt
      go_wp2_with (at_builtin; refine Rw.wpList_append Mt.typM rfl _ _ rfl _ _ [] ms (fun b => b < w.heap.size) rfl rfl hme.out hxv.out (by rw [List.length_nil]; omega) (by rw [List.length_nil]; omega) ?_)
      intro v2 w3 hown hgr hbl
      replace hown : Rw.Mine Mt.layM 190 w3 v2 ms := hown
      have hg0 : (Value.slice (some ⟨wr.heap.size, 0, none⟩) 0 0).ownBlock = some wr.heap.size := rfl
      rw [hg0] at hgr hbl
      obtain ⟨A2, c2, hv2, -, -⟩ := Rw.View.shape hown.view
      subst hv2
      have hbk : ∀ b, (Value.slice A2 ms.length c2).ownBlock = some b → wr.heap.size ≤ b := fun b hb => by
        rcases hbl with h9 | h9 <;> rw [hb] at h9 <;> injection h9 with h9
        · omega
        · rw [h9]; simp
      have hF3 := (hF2.out.alloc (.cells #[] 190 (0, 0))).grown hgr (by intro e; injection e with e; omega)
      have hG3 := ((hG.out.beside (p := ⟨w.heap.size, 1, none⟩) (by simp) (.slice A9 rs.length c9)).alloc (.cells #[] 190 (0, 0))).grown hgr (by intro e; injection e with e; omega)
      have hF4 := hF3.set2 (.slice A2 ms.length c2)
      have hG4 := hG3.beside (p := ⟨w.heap.size, 2, none⟩) (by simp) (.slice A2 ms.length c2)
      obtain ⟨h0, h1, h2, h3, h4⟩ := hF3.cells
      have hf := hF3.frozen 2
      obtain ⟨i0, i1, i2, i3, i4⟩ := hF4.cells
      obtain ⟨d0, d1, d2, d3, d4⟩ := hG4.cells
      have z0 := hG4.frozen 0
      obtain ⟨⟨p1, r1⟩, ⟨p2, r2⟩, ⟨p3, r3⟩, ⟨p4, r4⟩⟩ := hG4.roads ⟨.int .i64 k, .slice A9 rs.length c9, .slice A2 ms.length c2, .int .i64 a, .int .i64 b⟩
      obtain ⟨wz, hwz⟩ : ∃ wz, setFive (w.heap.size + 1) ⟨.int .i64 k, .slice A9 rs.length c9, .slice A2 ms.length c2, .int .i64 a, .int .i64 b⟩ (w3.setCell ⟨w.heap.size, 2, none⟩ (.slice A2 ms.length c2)) = wz := ⟨_, rfl⟩
      have hFz := (hG4.setAll ⟨.int .i64 k, .slice A9 rs.length c9, .slice A2 ms.length c2, .int .i64 a, .int .i64 b⟩).cells
      rw [hwz] at hFz
      replace hFz := Lib.hid hFz
      have hA : Upon (fun b => b = w.heap.size ∨ b = w.heap.size + 1) wr w3 := Upon.grown ((Upon.setCell (S := fun b => b = w.heap.size ∨ b = w.heap.size + 1) (p := ⟨w.heap.size, 1, none⟩) (Upon.refl _ wr) (.inl (.inl rfl)) _).alloc _) hgr (fun k hk => .inr (by injection hk with hk; omega))
      have hB : Upon (fun b => b = w.heap.size ∨ b = w.heap.size + 1) w3 wz := by
        rw [← hwz]
        exact upon_setFive (Upon.setCell (S := fun b => b = w.heap.size ∨ b = w.heap.size + 1) (p := ⟨w.heap.size, 2, none⟩) (Upon.refl _ w3) (.inl (.inl rfl)) _) (.inl (.inr rfl))
      have hN' : New0 w wr := hU.out.trans hN.out
      have hC : New0 w w3 := Upon.grown ((Upon.setCell (p := ⟨w.heap.size, 1, none⟩) hN' (.inr (Nat.le_refl _)) _).alloc _) hgr (fun k hk => .inr (by injection hk with hk; omega))
      have hNz : Hid (New0 w wz) := Lib.hid (by
        rw [← hwz]
        exact upon_setFive (Upon.setCell (p := ⟨w.heap.size, 2, none⟩) hC (.inr (Nat.le_refl _)) _) (.inr (by omega)))
      have hVz : Hid (RView wz (Nw w) (.agg #[.int .i64 k, .slice A9 rs.length c9, .slice A2 ms.length c2, .int .i64 a, .int .i64 b]) (R.mk k l ms a b)) := Lib.hid ⟨⟨A9, rs.length, c9⟩, ⟨A2, ms.length, c2⟩, rfl,
        Rw.DView.mono (Rw.DView.upon hs9.out (hA.trans hB) (fun b hb e => by unfold Nw at hb; omega)) (fun b _ hb => by unfold Nw at *; omega),
        Rw.View.mono (Rw.View.upon hown.view hB (fun b hb e => by have := hbk b hb; omega)) (fun b _ hb => by have := hbk b hb; have := hN'.size; unfold Nw; omega)⟩
      have hOz : Hid (OwnN w wz (.agg #[.int .i64 k, .slice A9 rs.length c9, .slice A2 ms.length c2, .int .i64 a, .int .i64 b]) (R.mk k l ms a b)) := Lib.hid (by
        obtain ⟨T, t1, t2, t3, t4⟩ := rowApart ho9.out
        refine ⟨A9, c9, rs, ⟨A2, ms.length, c2⟩, fun x => T x ∨ (Value.slice A2 ms.length c2).ownBlock = some x, rfl, Rw.Mine.upon t2 (hA.trans hB) (fun b hb e => by have := (t3 b hb).1; omega), fun g hg => ⟨by have := (t3 g hg).1; omega, fun e => ?_⟩, t1.1, fun i h1 h2 => ?_, ?_, fun x hx => ?_⟩
        · rcases e with e | e
          · exact (t3 g hg).2 e
          · have := hbk g e
            have := Rw.Mine.lt t2 hg
            omega
        · exact innS.mono (innS.upon (t1.2.1 i h1 h2) (hA.trans hB) (fun b hb e => by have := t4 b hb; omega)) (fun x _ hx => .inl hx)
        · exact Rw.View.mono (Rw.View.upon hown.view hB (fun b hb e => by have := hbk b hb; omega)) (fun b _ hb => .inr hb)
        · have q3 := hA.size
          have q4 := hB.size
          rcases hx with hx | hx
          · have := t1.2.2 x hx; have := t4 x hx; exact ⟨by omega, by omega⟩
          · have := Rw.Mine.lt hown hx; have := hbk x hx; have := hN'.size; exact ⟨by omega, by omega⟩)
      have hwz' : Hid ((((((w3.setCell ⟨w.heap.size, 2, none⟩ (.slice A2 ms.length c2)).setCell ⟨w.heap.size + 1, 0, none⟩ (.int .i64 k)).setCell ⟨w.heap.size + 1, 1, none⟩ (.slice A9 rs.length c9)).setCell ⟨w.heap.size + 1, 2, none⟩ (.slice A2 ms.length c2)).setCell ⟨w.heap.size + 1, 3, none⟩ (.int .i64 a)).setCell ⟨w.heap.size + 1, 4, none⟩ (.int .i64 b) = wz) := Lib.hid hwz
      clear hwz hA hB hN' hC hown hgr hbl hbk hF3 hG3 hF4 hG4 l0 l1 l2 l3 l4 n0 n1 n2 n3 n4 g0 g1 g2 g3 g4 gf hg0
      go_wp2_with fail
      rw [hwz'.out]
      obtain ⟨s0, s1, s2, s3, s4⟩ := hFz.out
      clear p1 r1 p2 r2 p3 r3 p4 r4 h0 h1 h2 h3 h4 hf i0 i1 i2 i3 i4 d0 d1 d2 d3 d4 z0
      refine bodyPost_ret (v := .agg #[.int .i64 k, .slice A9 rs.length c9, .slice A2 ms.length c2, .int .i64 a, .int .i64 b]) (by simp [results, Tryz.results20, go_sem, s0, s1, s2, s3, s4]) rfl ?_
      exact ⟨_, rfl, hVz.out, hNz.out, hOz.out⟩
theorem own_more (w : World) (v : Value) (r : R) (hv : RView w All v r) (hb : Bnd r) (hl1 : r.smp.length * 40 ≤ 140737488351232) (hl2 : r.ms.length * 40 ≤ 140737488351232) :
    Calls Tryz.prog 20 #[v] w fun e w' => ∃ u, e = .returned u ∧ RView w' (Nw w) u r ∧ New0 w w' ∧ OwnE w w' u r :=
  (own_most w v r hv hb hl1 hl2).mono fun e w' ⟨u, h1, h2, h3, h4⟩ => ⟨u, h1, h2, h3, h4.more⟩
theorem own_any (w : World) (v : Value) (r : R) (hv : RView w All v r) (hb : Bnd r) (hl1 : r.smp.length * 40 ≤ 140737488351232) (hl2 : r.ms.length * 40 ≤ 140737488351232) :
    Calls Tryz.prog 20 #[v] w fun e w' => ∃ u, e = .returned u ∧ RView w' (Nw w) u r ∧ New0 w w' :=
  (own_more w v r hv hb hl1 hl2).mono fun e w' ⟨u, h1, h2, h3, _⟩ => ⟨u, h1, h2, h3⟩
end Rc
end Go.Proofs.YtlgjbcmloochiaaGreatDoor
end

/- Layer 12: the law's own Great (is a record too much to be looked at). -/
section
set_option maxRecDepth 100000
namespace Go.Proofs.YtlgjbcmloochiaaGreatDoor
open Go.RowKit Go.Sort
namespace Rc
open Bit Dsk Ob Dig Lb
set_option linter.unusedVariables false

/-- A sample that is small. -/
def Fine (x : Smp) : Prop := x.1.length < 1000 ∧ ∀ k (h : k < x.1.length), x.1[k].1.size < 100000 ∧ x.1[k].2.size < 100000
set_option maxHeartbeats 12800000 in
theorem great_any (w : World) (v : Value) (r : R) (hv : RView w All v r) (hb : Bnd r) (hl1 : r.smp.length * 40 ≤ 140737488351232) (hl2 : r.ms.length * 40 ≤ 140737488351232) :
    Calls Tryz.prog 24 #[v] w fun e w' => ∃ b, e = .returned (.bool b) ∧ New0 w w' ∧ (b = false → r.ms.length < 1000 ∧ r.smp.length < 1000 ∧ ∀ i (h : i < r.smp.length), Fine r.smp[i]) := by
  obtain ⟨A, c, A', c', rfl, hs, hm⟩ := RView.shape hv
  obtain ⟨k, l, ms, a, b⟩ := r
  simp only at hs hm hl1 hl2 ⊢
  obtain ⟨wb, hwb⟩ : ∃ wb, w.alloc (.cells #[.int .i64 k, .slice A l.length c, .slice A' ms.length c', .int .i64 a, .int .i64 b] 50 (0, 0)) = wb := ⟨_, rfl⟩
  have hX := box5 w k (.slice A l.length c) (.slice A' ms.length c') a b
  have ub : New0 w wb := by rw [← hwb]; exact (Upon.refl _ w).alloc _
  rw [hwb] at hX
  obtain ⟨g0, g1, g2, g3, g4⟩ := hX
  have hS := Lib.hid (hs.new ub)
  have hU := Lib.hid ub
  have hbs := Lib.hid hb.smp
  have hfew : l.length ≤ 3518437208780 := by omega
  have hfew2 : ms.length ≤ 3518437208780 := by omega
  have hB := Lib.hid (fun w' (hu : New0 wb w') => And.intro (Lb.New0.cells hu g1) (Lb.New0.cells hu g2))
  replace hwb := Lib.hid hwb
  clear hv hb hs hm hl1 hl2 ub
  go_enter Tryz.func24, Tryz.ntmps24
  go_wp2_with fail
  rw [hwb.out]
  go_wp2_with fail
  go_loopw [3, 4] (fun nv ov wr => ∃ N j : Nat, nv = .int .i64 (N : Int) ∧ ov = .int .i64 (j : Int) ∧ j ≤ l.length ∧ N ≤ 9223372036854775807 ∧ Hid (N < 1000 → ms.length + j ≤ N ∧ ∀ i (h : i < l.length), i < j → Fine l[i]) ∧ Hid (New0 wb wr)) (fun _ ov _ => l.length - (intOf ov).toNat)
  case atStart => exact ⟨ms.length, 0, rfl, rfl, Nat.zero_le _, by omega, Lib.hid (fun _ => ⟨Nat.le_refl _, fun i h hi => absurd hi (by omega)⟩), Lib.hid (Upon.refl _ _)⟩
  case round =>
    clear hwb g0 g1 g2 g3 g4
    obtain ⟨N, j, rfl, rfl, hj, hN, hf, hu⟩ := hrel
    obtain ⟨c1, c2⟩ := hB.out _ hu.out
    by_cases hlt : j < l.length
    · by_cases hlN : N < 1000
      · have e1 : (N : Int) < 1000 := by omega
        have e2 : decide ((N : Int) < 1000) = true := decide_eq_true e1
        obtain ⟨b0, off, rfl, -, hcells⟩ := SView.cells hS.out (by omega)
        obtain ⟨⟨xa, xn, xc⟩, hxv, x0, -, -⟩ := hcells j hlt
        have hbx := hbs.out _ (List.getElem_mem hlt)
        have hfj := hf.out hlN
        obtain ⟨x, hx⟩ : ∃ x, l[j] = x := ⟨_, rfl⟩
        have hstep : ∀ N', N ≤ N' → N + 1 ≤ N' → Fine x → (ms.length + (j + 1) ≤ N' ∧ ∀ i (h : i < l.length), i < j + 1 → Fine l[i]) := fun N' _ h1 h2 => ⟨by omega, fun i h hi => by
          by_cases hi2 : i < j
          · exact hfj.2 i h hi2
          · obtain rfl : i = j := by omega
            rw [hx]; exact h2⟩
        rw [hx] at hxv hbx
        obtain ⟨ls, t, q⟩ := x
        simp only at hxv hbx x0
        obtain ⟨A9, c9, e9, -, -⟩ := Rw.View.shape hxv
        injection e9 with e91 e92 e93
        subst e91 e92 e93
        have hsm := Lib.hid hbx.1
        have hbl := hbx.2.1
        simp only at hbl
        replace hstep := Lib.hid hstep
        replace hxv := Lib.hid hxv
        replace x0 : wb.cell? ⟨b0, off + j * 3, none⟩ = some (.slice xa ls.length xc) := x0
        have hx0 := Lib.hid (fun w' (hu : New0 wb w') => Lb.New0.cells hu x0)
        replace x0 := hx0.out _ hu.out
        clear hcells hbx hfj hx hf
        go_wp2_with fail
        go_loopw [3, 5] (fun nv ov wr' => ∃ M i : Nat, nv = .int .i64 (M : Int) ∧ ov = .int .i64 (i : Int) ∧ i ≤ ls.length ∧ N + 1 + ls.length ≤ M ∧ M ≤ 9223372036854775807 ∧ Hid (M < 1000 → ∀ k (h : k < ls.length), k < i → ls[k].1.size < 100000 ∧ ls[k].2.size < 100000) ∧ Hid (New0 wb wr')) (fun _ ov _ => ls.length - (intOf ov).toNat)
        case atStart => exact ⟨N + 1 + ls.length, 0, by go_num, rfl, Nat.zero_le _, Nat.le_refl _, by omega, Lib.hid (fun _ k h hk => absurd hk (by omega)), hu⟩
        case round =>
          clear c1 c2 x0 hu
          obtain ⟨M, i, rfl, rfl, hi, hNM, hM, hg, hu⟩ := hrel
          obtain ⟨c1, c2⟩ := hB.out _ hu.out
          have x0 := hx0.out _ hu.out
          by_cases hli : i < ls.length
          · by_cases hlM : M < 1000
            · have e3 : (M : Int) < 1000 := by omega
              have e4 : decide ((M : Int) < 1000) = true := decide_eq_true e3
              obtain ⟨b1, of1, rfl, -, -, hpc⟩ := Lb.View.cells hxv.out (by omega)
              obtain ⟨y0, y1⟩ := hpc i hli
              replace y0 := Lb.New0.cells hu.out y0
              replace y1 := Lb.New0.cells hu.out y1
              go_wp2_with fail
              have z1 := hsm.out _ (List.getElem_mem hli)
              obtain ⟨⟨pa, pb⟩, hp⟩ : ∃ p, ls[i] = p := ⟨_, rfl⟩
              rw [hp] at y0 y1 z1
              simp only at y0 y1 z1
              go_region
              have hgo : Hid (M + pa.size / 100 + pb.size / 100 < 1000 → ∀ k (h : k < ls.length), k < i + 1 → ls[k].1.size < 100000 ∧ ls[k].2.size < 100000) := Lib.hid (fun hM' k h hk => by
                by_cases hki : k < i
                · exact hg.out hlM k h hki
                · obtain rfl : k = i := by omega
                  rw [hp]
                  exact ⟨show pa.size < 100000 by omega, show pb.size < 100000 by omega⟩)
              clear hg hp
              all_goals
                go_wp2_with fail
                go_roundw
                case rel => exact ⟨M + pa.size / 100 + pb.size / 100, i + 1, by first | rfl | go_num | (congr 1; omega), by go_num, hli, by omega, by omega, hgo, Lib.hid (Upon.drew hu.out)⟩
                case measure => simp [intOf]; omega
            · have e3 : ¬ (M : Int) < 1000 := by omega
              have e4 : decide ((M : Int) < 1000) = false := decide_eq_false e3
              go_wp2_with fail
              go_roundw
              case rel => exact ⟨M, j + 1, rfl, by go_num, hlt, hM, Lib.hid (fun h => absurd h hlM), hu⟩
              case measure => simp [intOf]; omega
          · have hil : i = ls.length := by omega
            have hst := hstep.out M (by omega) (by omega)
            go_wp2_with fail
            go_roundw
            case rel => exact ⟨M, j + 1, rfl, by go_num, hlt, hM, Lib.hid (fun h => hst ⟨(show ls.length < 1000 by omega), fun k hk => hg.out h k hk (Nat.lt_of_lt_of_eq hk hil.symm)⟩), hu⟩
            case measure => simp [intOf]; omega
      · have e1 : ¬ (N : Int) < 1000 := by omega
        have e2 : decide ((N : Int) < 1000) = false := decide_eq_false e1
        have e3 : (1000 : Int) ≤ (N : Int) := by omega
        have e4 : decide ((1000 : Int) ≤ (N : Int)) = true := decide_eq_true e3
        go_wp2_with fail
        go_ret
        exact .inr ⟨rfl, hU.out.trans hu.out⟩
    · have hjl : j = l.length := by omega
      by_cases hlN : N < 1000
      · have hfj := hf.out hlN
        have e1 : ¬ (1000 : Int) ≤ (N : Int) := by omega
        have e2 : decide ((1000 : Int) ≤ (N : Int)) = false := decide_eq_false e1
        go_wp2_with fail
        go_ret
        exact .inl ⟨rfl, hU.out.trans hu.out, by omega, by omega, fun i h => hfj.2 i h (by omega)⟩
      · have e1 : (1000 : Int) ≤ (N : Int) := by omega
        have e2 : decide ((1000 : Int) ≤ (N : Int)) = true := decide_eq_true e1
        go_wp2_with fail
        go_ret
        exact ⟨true, rfl, hU.out.trans hu.out, fun h => by cases h⟩
end Rc
end Go.Proofs.YtlgjbcmloochiaaGreatDoor
end
