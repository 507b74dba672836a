/- Blocks (layer 15): the law's To (tools/bkto.py wrote its walk). -/
import Derived.Test.YtlgjbcmloochiaaGreatDoorZaBkFrom
import Derived.Test.YtlgjbcmloochiaaGreatDoorZaPHeld
import Derived.Test.YtlgjbcmloochiaaGreatDoorZaHdPut3
set_option maxRecDepth 100000
namespace Go.Proofs.YtlgjbcmloochiaaGreatDoor
open Go.RowKit Go.Sort
namespace Rw
open Bit Dsk Ob
/-- 'append' to a row that is new since W, or in U: what is of another type stays. -/
theorem step_newU {α : Type} {L : Lay α} {sT T : TypeId} {bytes : Nat} (ty : Typ L sT T bytes) {U : Nat → Prop} {W w : World} {ops : Array Oper} {o : Oper} {a : Act} {K : Act → World → Prop} {Q : Exit → Act → World → Prop} {E : Prop} (hgd : o.guard = none) (sl x : Operand)
    (ho : o.op = .call { callee := .builtin .append, args := #[sl, x], argTypes := #[sT, sT] })
    (v xv : Value) (l m : List α) (S : Nat → Prop) (hs : a.eval sl = v) (hx : a.eval x = xv) (hown : Mine L T w v l) (hbase : ∀ b, v.ownBlock = some b → U b ∨ W.heap.size ≤ b) (hW : Upon U W w) (hxv : View L w S xv m) (hlen : (l.length + m.length) * bytes ≤ 140737488355328) (hcount : l.length + m.length ≤ 140737488355328)
    (h : ∀ A k c w', Hid (k = (l ++ m).length) → Mine L T w' (.slice A k c) (l ++ m) → (∀ b, (Value.slice A k c).ownBlock = some b → v.ownBlock = some b ∨ W.heap.size ≤ b) → Upon U W w' → (∀ {β : Type} {L' : Lay β} {T' : TypeId} {v' : Value} {l' : List β}, T' ≠ T → Mine L' T' w v' l' → Mine L' T' w' v' l') → K (a.put o.dst (.slice A k c)) w') :
    if Region.wanted o (yielded ops a.tmps) = true then Oper.wp Tryz.prog o a w K Q else E := by
  refine step_append ty hgd sl x ho v xv l m S hs hx hown hxv hlen hcount ?_
  intro v' w' hm hg hb
  obtain ⟨A, c, rfl, -, -⟩ := hm.view.shape
  refine h A _ c w' (Lib.hid rfl) hm (fun b hk => ?_) (Upon.grown hW hg (fun k hk => hbase k hk)) (fun {β L' T' v2 l'} hT h2 => ?_)
  · rcases hb with hb | hb
    · exact .inl (hb.symm.trans hk)
    · rw [hb] at hk
      injection hk with hk
      have := hW.size
      exact .inr (by omega)
  · refine h2.upon (Upon.grown (Upon.refl _ w) hg (fun k hk => .inl hk)) (fun b hb2 hk => ?_)
    obtain ⟨cs, e1⟩ := h2.typ hb2
    obtain ⟨cs2, e2⟩ := hown.typ hk
    exact Hd.typ_ne hT e1 e2 rfl
end Rw
namespace Bk
open Bit Dsk Ob Dig
set_option linter.unusedVariables false
set_option linter.unusedSimpArgs false

theorem ne_rpr : 66 ≠ 72 := by decide
theorem ne_ppr : 105 ≠ 72 := by decide
theorem ne_rp : 66 ≠ 105 := by decide
theorem ne_prp : 72 ≠ 105 := by decide
theorem ne_prr : 72 ≠ 66 := by decide
theorem ne_pr2 : 105 ≠ 66 := by decide
/-- Rows so far, made since lo; what they hold lies beside the row. -/
structure TOwn (lo : Nat) (w : World) (u : Value) (rs : List RB) (l : List Row) : Prop where
  row : Rw.Mine layB 66 w u rs
  base : ∀ g, u.ownBlock = some g → lo ≤ g
  len : rs.length = l.length
  els : ∃ S : Nat → Prop, (∀ i (h1 : i < rs.length) (h2 : i < l.length), innB.rel w S rs[i] l[i]) ∧ ∀ x, S x → x < w.heap.size ∧ lo ≤ x ∧ u.ownBlock ≠ some x
theorem TOwn.start (lo : Nat) (w : World) : TOwn lo w (.slice none 0 0) [] [] :=
  ⟨Rw.Mine.nil _ _ _, fun g hg => (by cases hg), rfl, ⟨fun _ => False, fun i h1 => absurd h1 (by simp), fun x f => f.elim⟩⟩
theorem TOwn.step {lo : Nat} {w w' : World} {u : Value} {rs : List RB} {l : List Row} {T : Nat → Prop} (h : TOwn lo w u rs l) (hu : Upon T w w') (hT : ∀ b, lo ≤ b → ¬ T b) : TOwn lo w' u rs l :=
  let ⟨S, h1, h2⟩ := h.els
  ⟨Rw.Mine.upon h.row hu fun b hb => hT b (h.base b hb), h.base, h.len, ⟨S, fun i k1 k2 => innB.upon (h1 i k1 k2) hu fun x hx => hT x (h2 x hx).2.1, fun x hx => ⟨Nat.lt_of_lt_of_le (h2 x hx).1 hu.size, (h2 x hx).2⟩⟩⟩
theorem TOwn.app {lo : Nat} {w w' : World} {u u' : Value} {rs : List RB} {l : List Row} {lab pts : Rw.Sl} {r : Row} (h : TOwn lo w u rs l) (hlo : lo ≤ w.heap.size) (hu : Upon (fun b => u.ownBlock = some b) w w') (hm : Rw.Mine layB 66 w' u' (rs ++ [(⟨lab, r.last, pts⟩ : RB)])) (hb : ∀ b, u'.ownBlock = some b → u.ownBlock = some b ∨ w.heap.size ≤ b)
    (hl : Rw.Mine Lb.layPr 72 w' lab.v r.lab) (hlb : ∀ b, lab.v.ownBlock = some b → w.heap.size ≤ b) (hp : Rw.Mine Hd.layP 105 w' pts.v r.pts) (hpb : ∀ b, pts.v.ownBlock = some b → w.heap.size ≤ b) : TOwn lo w' u' (rs ++ [(⟨lab, r.last, pts⟩ : RB)]) (l ++ [r]) := by
  obtain ⟨S, h1, h2⟩ := h.els
  have hty : ∀ {α : Type} {L : Rw.Lay α} {T : TypeId} {v : Value} {m : List α}, T ≠ 66 → Rw.Mine L T w' v m → ∀ b, v.ownBlock = some b → u'.ownBlock ≠ some b := fun {α L T v m} hT hx b hb2 e => by
    obtain ⟨cs, e1⟩ := hx.typ hb2
    obtain ⟨cs2, e2⟩ := hm.typ e
    exact Hd.typ_ne hT e1 e2 rfl
  refine ⟨hm, fun g hg => ?_, by simp [h.len], ⟨fun x => S x ∨ lab.v.ownBlock = some x ∨ pts.v.ownBlock = some x, fun i k1 k2 => ?_, fun x hx => ?_⟩⟩
  · rcases hb g hg with h3 | h3
    · exact h.base g h3
    · omega
  · by_cases hi : i < rs.length
    · rw [List.getElem_append_left hi, List.getElem_append_left (by have := h.len; omega)]
      exact innB.mono (innB.upon (h1 i hi (by have := h.len; omega)) hu fun y hy e => (h2 y hy).2.2 e) fun y _ hy => .inl hy
    · have e : i = rs.length := by rw [List.length_append, List.length_singleton] at k1; omega
      subst e
      have e1 : (rs ++ [(⟨lab, r.last, pts⟩ : RB)])[rs.length]'k1 = ⟨lab, r.last, pts⟩ := by simp
      have e2 : (l ++ [r])[rs.length]'k2 = r := by
        have : (l ++ [r])[l.length]'(by simp) = r := by simp
        simp only [h.len]; exact this
      rw [e1, e2]
      exact ⟨rfl, Rw.View.mono hl.view fun y _ hy => .inr (.inl hy), Rw.View.mono hp.view fun y _ hy => .inr (.inr hy)⟩
  · rcases hx with hx | hx | hx
    · refine ⟨Nat.lt_of_lt_of_le (h2 x hx).1 hu.size, (h2 x hx).2.1, fun e => ?_⟩
      rcases hb x e with h3 | h3
      · exact (h2 x hx).2.2 h3
      · have := (h2 x hx).1; omega
    · exact ⟨Rw.Mine.lt hl hx, by have := hlb x hx; omega, hty ne_prr hl x hx⟩
    · exact ⟨Rw.Mine.lt hp hx, by have := hpb x hx; omega, hty ne_pr2 hp x hx⟩
theorem TOwn.view {lo : Nat} {w : World} {u : Value} {rs : List RB} {l : List Row} (h : TOwn lo w u rs l) : BsView w (fun b => lo ≤ b) u l := by
  obtain ⟨S, h1, h2⟩ := h.els
  exact ⟨rs, h.row.view.mono fun b _ hb => h.base b hb, h.len, fun i k1 k2 => innB.mono (h1 i k1 k2) fun x _ hx => (h2 x hx).2.1⟩
/-! ### rows of records -/
theorem typRC : Rw.Typ Hd.layRC 23 50 72 := Rw.Typ.mk' (z := .agg #[.int .i64 0, .slice none 0 0, .slice none 0 0, .int .i64 0, .int .i64 0]) Tryz.underlying23 (by kernel_rfl) rfl
theorem rmine_one (w : World) (x : Hd.RC) : Rw.Mine Hd.layRC 50 (w.alloc (.cells #[.int .i64 x.k, x.s.v, x.m.v, .int .i64 x.a, .int .i64 x.b] 50 (0, 0))) (.slice (some ⟨w.heap.size, 0, none⟩) 1 1) [x] :=
  ⟨by simp [Rw.cells, Hd.layRC], .inr ⟨w.heap.size, 1, _, rfl, Nat.zero_le _, cell_new w _, Nat.le_refl _, by unfold maxLen; decide, by simp [Hd.layRC], by simp [Rw.cells, Hd.layRC]⟩⟩
/-- Records so far, made since lo; what they hold lies beside the row. -/
structure ROwn (lo : Nat) (w : World) (u : Value) (rs : List Hd.RC) (l : List Rc.R) : Prop where
  row : Rw.Mine Hd.layRC 50 w u rs
  base : ∀ g, u.ownBlock = some g → lo ≤ g
  len : rs.length = l.length
  els : ∃ S : Nat → Prop, (∀ i (h1 : i < rs.length) (h2 : i < l.length), Hd.innRC.rel w S rs[i] l[i]) ∧ ∀ x, S x → x < w.heap.size ∧ lo ≤ x ∧ u.ownBlock ≠ some x
theorem ROwn.start (lo : Nat) (w : World) : ROwn lo w (.slice none 0 0) [] [] :=
  ⟨Rw.Mine.nil _ _ _, fun g hg => (by cases hg), rfl, ⟨fun _ => False, fun i h1 => absurd h1 (by simp), fun x f => f.elim⟩⟩
theorem ROwn.step {lo : Nat} {w w' : World} {u : Value} {rs : List Hd.RC} {l : List Rc.R} {T : Nat → Prop} (h : ROwn lo w u rs l) (hu : Upon T w w') (hT : ∀ b, lo ≤ b → ¬ T b) : ROwn lo w' u rs l :=
  let ⟨S, h1, h2⟩ := h.els
  ⟨Rw.Mine.upon h.row hu fun b hb => hT b (h.base b hb), h.base, h.len, ⟨S, fun i k1 k2 => Hd.innRC.upon (h1 i k1 k2) hu fun x hx => hT x (h2 x hx).2.1, fun x hx => ⟨Nat.lt_of_lt_of_le (h2 x hx).1 hu.size, (h2 x hx).2⟩⟩⟩
theorem ROwn.app {lo : Nat} {w w' : World} {u u' : Value} {rs : List Hd.RC} {l : List Rc.R} {a : Hd.RC} {r : Rc.R} {S' : Nat → Prop} (h : ROwn lo w u rs l) (hlo : lo ≤ w.heap.size) (hx : Hd.innRC.rel w S' a r) (hS : ∀ x, S' x → x < w.heap.size ∧ lo ≤ x ∧ u.ownBlock ≠ some x)
    (hown : Rw.Mine Hd.layRC 50 w' u' (rs ++ [a])) (hg : w.grownBy w' u.ownBlock) (hb : u'.ownBlock = u.ownBlock ∨ u'.ownBlock = some w.heap.size) : ROwn lo w' u' (rs ++ [a]) (l ++ [r]) := by
  obtain ⟨S, h1, h2⟩ := h.els
  have hu : Upon (fun x => u.ownBlock = some x) w w' := Upon.grown (Upon.refl _ w) hg (fun k hk => .inl hk)
  have hne : ∀ x, x < w.heap.size → u.ownBlock ≠ some x → u'.ownBlock ≠ some x := fun x hx hn e => by
    rcases hb with hb | hb
    · exact hn (hb.symm.trans e)
    · rw [hb] at e
      injection e with e
      omega
  refine ⟨hown, fun g hk => ?_, by simp [h.len], ⟨fun x => S x ∨ S' x, fun i k1 k2 => ?_, fun x hx => ?_⟩⟩
  · rcases hb with hb | hb
    · exact h.base g (hb.symm.trans hk)
    · rw [hb] at hk
      injection hk with hk
      omega
  · by_cases hi : i < rs.length
    · rw [List.getElem_append_left hi, List.getElem_append_left (by have := h.len; omega)]
      exact Hd.innRC.mono (Hd.innRC.upon (h1 i hi (by have := h.len; omega)) hu fun y hy e => (h2 y hy).2.2 e) fun y _ hy => .inl hy
    · have e : i = rs.length := by rw [List.length_append, List.length_singleton] at k1; omega
      subst e
      have e1 : (rs ++ [a])[rs.length]'k1 = a := by simp
      have e2 : (l ++ [r])[rs.length]'k2 = r := by
        have : (l ++ [r])[l.length]'(by simp) = r := by simp
        simp only [h.len]; exact this
      rw [e1, e2]
      exact Hd.innRC.mono (Hd.innRC.upon hx hu fun y hy e => (hS y hy).2.2 e) fun y _ hy => .inr hy
  · rcases hx with hx | hx
    · exact ⟨Nat.lt_of_lt_of_le (h2 x hx).1 hu.size, (h2 x hx).2.1, hne x (h2 x hx).1 (h2 x hx).2.2⟩
    · exact ⟨Nat.lt_of_lt_of_le (hS x hx).1 hu.size, (hS x hx).2.1, hne x (hS x hx).1 (hS x hx).2.2⟩
theorem ROwn.view {lo : Nat} {w : World} {u : Value} {rs : List Hd.RC} {l : List Rc.R} (h : ROwn lo w u rs l) : Hd.RsView w (fun b => lo ≤ b) u l := by
  obtain ⟨S, h1, h2⟩ := h.els
  exact ⟨rs, h.row.view.mono fun b _ hb => h.base b hb, h.len, fun i k1 k2 => Hd.innRC.mono (h1 i k1 k2) fun x _ hx => (h2 x hx).2.1⟩
set_option maxHeartbeats 25600000 in
theorem to_any (w : World) (v : Value) (b : B) (hv : BView w Rw.All v b) (hb : Bnd b) :
    Calls Tryz.prog 9 #[v] w fun e w' => ∃ u, e = .returned u ∧ BView w' (fun b => w.heap.size ≤ b) u b ∧ New0 w w' := by
  obtain ⟨A, c, A', c', rfl, hr, hd⟩ := BView.shape hv
  have hfew := hb.few
  have hfew2 := hb.few2
  have hlen := Lib.hid hb.len
  have hdb := Lib.hid hb.dels
  obtain ⟨f, til, l, ds⟩ := b
  simp only at hr hd hfew hfew2 hlen hdb ⊢
  have hcells := Lib.hid (fun h => BsView.cells hr h)
  have hds := Lib.hid (fun (i : Nat) (hi : i < ds.length) => Hd.RsView.at hd hi)
  clear hr hv hb hd
  obtain ⟨wa, hwa⟩ : ∃ wa, w.alloc (.cells #[.int .i64 f, .int .i64 til, .slice A l.length c, .slice A' ds.length c'] 25 (0, 0)) = wa := ⟨_, rfl⟩
  obtain ⟨wy, hwy⟩ : ∃ wy, wa.alloc (.cells #[.int .i64 0, .int .i64 0, .slice none 0 0, .slice none 0 0] 29 (0, 0)) = wy := ⟨_, rfl⟩
  obtain ⟨wb, hwb⟩ : ∃ wb, wy.alloc (.cells #[.int .i64 f, .int .i64 til, .slice none 0 0, .slice none 0 0] 29 (0, 0)) = wb := ⟨_, rfl⟩
  have sa : wa.heap.size = w.heap.size + 1 := by rw [← hwa]; simp
  have sy : wy.heap.size = w.heap.size + 1 + 1 := by rw [← hwy]; simp [sa]
  have sb : wb.heap.size = w.heap.size + 3 := by rw [← hwb]; simp [sy]
  have ua : New0 w wa := by rw [← hwa]; exact (Upon.refl _ w).alloc _
  have uy : New0 wa wy := by rw [← hwy]; exact (Upon.refl _ wa).alloc _
  have ub : New0 wy wb := by rw [← hwb]; exact (Upon.refl _ wy).alloc _
  have hX0 : Quad 25 w.heap.size ⟨.int .i64 f, .int .i64 til, .slice A l.length c, .slice A' ds.length c'⟩ wa := by rw [← hwa]; exact cell_new w _
  have hX := hX0.new (uy.trans ub)
  have hY0 : Quad 29 (w.heap.size + 1) ⟨.int .i64 0, .int .i64 0, .slice none 0 0, .slice none 0 0⟩ wy := by rw [← hwy, ← sa]; exact cell_new wa _
  have hY := hY0.new ub
  have hZ : Quad 29 (w.heap.size + 1 + 1) ⟨.int .i64 f, .int .i64 til, .slice none 0 0, .slice none 0 0⟩ wb := by rw [← hwb, ← sy]; exact cell_new wy _
  have hw0 : Hid (((w.alloc (.cells #[.int .i64 f, .int .i64 til, .slice A l.length c, .slice A' ds.length c'] 25 (0, 0))).alloc (.cells #[.int .i64 0, .int .i64 0, .slice none 0 0, .slice none 0 0] 29 (0, 0))) = wy) := Lib.hid (by rw [hwa, hwy])
  have hU := Lib.hid ((ua.trans uy).trans ub)
  have hXc := hX0.new uy
  obtain ⟨k0, k1, k2, k3⟩ := hXc.cells
  replace hX := Lib.hid hX
  replace hY := Lib.hid hY
  replace hZ := Lib.hid hZ
  replace hwb := Lib.hid hwb
  clear hwa hwy ua uy ub hX0 hY0 hXc
  go_enter Tryz.func9, Tryz.ntmps9
  go_wp2_with fail
  rw [hw0.out, hwb.out]
  clear k0 k1 k2 k3 hw0 hwb
  go_loopw [4] (fun ov wr => ∃ (j : Nat) (uv : Value) (rs : List RB), ov = .int .i64 (j : Int) ∧ j ≤ l.length ∧ Hid (TOwn wb.heap.size wr uv rs (l.take j)) ∧ Hid (Quad 29 (w.heap.size + 1 + 1) ⟨.int .i64 f, .int .i64 til, uv, .slice none 0 0⟩ wr) ∧ Hid (Upon (fun k => k = w.heap.size + 1 + 1) wb wr)) (fun ov _ => l.length - (intOf ov).toNat)
  case atStart => exact ⟨0, .slice none 0 0, [], rfl, Nat.zero_le _, Lib.hid (by rw [List.take_zero]; exact TOwn.start _ _), hZ, Lib.hid (Upon.refl _ _)⟩
  case round =>
    clear hZ
    obtain ⟨j, u, rs, rfl, hj, hM, hZ, hu⟩ := hrel
    have hnw : Hid (New0 w wr) := Lib.hid (hU.out.trans' hu.out (fun i hi e => by omega))
    have hXr := hX.out.upon hu.out (by omega)
    have shu := hu.out.size
    obtain ⟨k0, k1, k2, k3⟩ := hXr.cells
    by_cases hlt : j < l.length
    · obtain ⟨b0, off, rfl, -, hcl⟩ := hcells.out (by omega)
      obtain ⟨A1, c1, A2, c2, x0, x1, x2, hv1, hv2⟩ := hcl j hlt
      have r0 := Lb.New0.cells hnw.out x0
      have r1 := Lb.New0.cells hnw.out x1
      have r2 := Lb.New0.cells hnw.out x2
      have htk := List.take_succ_eq_append_getElem hlt
      have hle := hlen.out _ (List.getElem_mem hlt)
      have hrl := hM.out.len
      rw [List.length_take] at hrl
      have hrs : rs.length ≤ 2513169434842 := by omega
      obtain ⟨r, hr⟩ : ∃ r, l[j] = r := ⟨_, rfl⟩
      rw [hr] at r0 r1 r2 htk hle hv1 hv2
      obtain ⟨ls, ps, t⟩ := r
      simp only at r0 r1 r2 hle hv1 hv2
      obtain ⟨hle1, hle2⟩ := hle
      have hl1 : ls.length ≤ 4398046510976 := by omega
      have hl2 : ps.length ≤ 8796093021952 := by omega
      have n1 := (Upon.refl (fun _ => False) wr).alloc (.cells #[.slice A1 ls.length c1, .int .i64 t, .slice A2 ps.length c2] 70 (0, 0))
      obtain ⟨wx, hwx⟩ : ∃ wx, wr.alloc (.cells #[.slice A1 ls.length c1, .int .i64 t, .slice A2 ps.length c2] 70 (0, 0)) = wx := ⟨_, rfl⟩
      have hXw := box3 wr (.slice A1 ls.length c1) t (.slice A2 ps.length c2) 70
      have sx : wx.heap.size = wr.heap.size + 1 := by rw [← hwx]; simp
      rw [hwx] at n1 hXw
      have hMx := hM.out.step n1 (fun _ _ f => f)
      have hM0 := hMx.row
      have hq : u.ownBlock ≠ some (w.heap.size + 1 + 1) := fun e => by have := hM.out.base _ e; omega
      have hq2 : u.ownBlock ≠ some wr.heap.size := fun e => by have := Rw.Mine.lt hM.out.row e; omega
      have hZx := hZ.out.new n1
      have hS5 : Hid (∀ w', Upon (fun b => u.ownBlock = some b) wx w' → w'.cell? ⟨w.heap.size + 1 + 1, 2, none⟩ = some u ∧ w'.frozen? ⟨w.heap.size + 1 + 1, 2, none⟩ = false ∧ w'.cell? ⟨wr.heap.size, 0, none⟩ = some (.slice A1 ls.length c1) ∧ w'.cell? ⟨wr.heap.size, 1, none⟩ = some (.int .i64 t) ∧ w'.cell? ⟨wr.heap.size, 2, none⟩ = some (.slice A2 ps.length c2)) := Lib.hid (fun w' hu => by
        have hz := hZx.upon hu (fun e => hq e)
        have hb := hu.block wr.heap.size (by omega) (fun e => hq2 e)
        exact ⟨hz.cells.2.2.1, hz.frozen 2, by rw [World.cell?, hb]; exact hXw.c0, by rw [World.cell?, hb]; exact hXw.c1, by rw [World.cell?, hb]; exact hXw.c2⟩)
      have hbase : ∀ k, wx.heap.size ≤ k → ∀ b, (Value.slice (some ⟨k, 0, none⟩) 0 0).ownBlock = some b → wx.heap.size ≤ b := fun k hk b hb => by
        have hb := Option.some.inj (show some k = some b from hb)
        omega
      have hsz : Hid (∀ x, Upon (fun b => u.ownBlock = some b) wx x → wx.heap.size ≤ x.heap.size) := Lib.hid (fun x hx => hx.size)
      have hvl : Hid (∀ x, Upon (fun b => u.ownBlock = some b) wx x → Lb.View x Rw.All (.slice A1 ls.length c1) ls) := Lib.hid (fun x hx => Rw.View.all (Rw.View.upon (Rw.View.mono (S' := fun b => b < w.heap.size) (Rw.View.new (Rw.View.mono (S' := fun b => b < w.heap.size) hv1 fun b h _ => h) (hnw.out.trans n1)) fun _ _ h => h) hx (fun b hb e => by have := hM.out.base _ e; omega)))
      have hvp : Hid (∀ x, Upon (fun b => u.ownBlock = some b) wx x → Rw.View Hd.layP x Rw.All (.slice A2 ps.length c2) ps) := Lib.hid (fun x hx => Rw.View.all (Rw.View.upon (Rw.View.mono (S' := fun b => b < w.heap.size) (Rw.View.new (Rw.View.mono (S' := fun b => b < w.heap.size) hv2 fun b h _ => h) (hnw.out.trans n1)) fun _ _ h => h) hx (fun b hb e => by have := hM.out.base _ e; omega)))
      have hux := Lib.hid (hu.out.trans' n1 (fun i _ f => f.elim))
      replace hMx := Lib.hid hMx
      replace hwx := Lib.hid hwx
      have hZx' := Lib.hid hZx
      replace htk := Lib.hid htk
      obtain ⟨z0, z1, z2, z3⟩ := hZx.cells
      obtain ⟨p0, p1, p2⟩ := hXw
      replace sx := Lib.hid sx
      clear hcl x0 x1 x2 hr hv1 hv2 n1 hM hZ hZx hXr hle1 hle2 hrl
      go_wp2_with fail
      rw [hwx.out]
      refine HeldS.wp_region_S 16 (S := fun w' => w'.cell? ⟨w.heap.size + 1 + 1, 2, none⟩ = some u ∧ w'.frozen? ⟨w.heap.size + 1 + 1, 2, none⟩ = false ∧ w'.cell? ⟨wr.heap.size, 0, none⟩ = some (.slice A1 ls.length c1) ∧ w'.cell? ⟨wr.heap.size, 1, none⟩ = some (.int .i64 t) ∧ w'.cell? ⟨wr.heap.size, 2, none⟩ = some (.slice A2 ps.length c2)) (by kernel_rfl) (hS5.out _ ((Upon.refl _ wx).drew)) (fun hHeld => ?_)
      refine HeldS.wpAnyS_take (i := 0) [] (oi := _) (v := ?_) rfl (by kernel_rfl) (by kernel_rfl) (by kernel_rfl) (by kernel_rfl) (by kernel_rfl) (fun _ _ _ h => h) (Or.inl ⟨by rfl, ?_⟩) (by assumption) ?_
      rotate_left
      · (intro w hSw; (try dsimp only at hSw); go_simp; (try with_reducible rfl))
      (try simp only [Act.put, List.setIfInBounds_toArray, List.set_cons_zero, List.set_cons_succ])
      refine HeldS.wpAnyS_take (i := 1) [] (oi := _) (v := ?_) rfl (by kernel_rfl) (by kernel_rfl) (by kernel_rfl) (by kernel_rfl) (by kernel_rfl) (fun _ _ _ h => h) (Or.inl ⟨by rfl, ?_⟩) (by assumption) ?_
      rotate_left
      · (intro w hSw; (try dsimp only at hSw); go_simp; (try with_reducible rfl))
      (try simp only [Act.put, List.setIfInBounds_toArray, List.set_cons_zero, List.set_cons_succ])
      refine HeldS.wpAnyS_take (i := 3) [] (oi := _) (v := ?_) rfl (by kernel_rfl) (by kernel_rfl) (by kernel_rfl) (by kernel_rfl) (by kernel_rfl) (fun _ _ _ h => h) (Or.inl ⟨by rfl, ?_⟩) (by assumption) ?_
      rotate_left
      · (intro w hSw; (try dsimp only at hSw); go_simp; (try with_reducible rfl))
      (try simp only [Act.put, List.setIfInBounds_toArray, List.set_cons_zero, List.set_cons_succ])
      refine HeldS.wpAnyS_take (i := 4) [] (oi := _) (v := ?_) rfl (by kernel_rfl) (by kernel_rfl) (by kernel_rfl) (by kernel_rfl) (by kernel_rfl) (fun _ _ _ h => h) (Or.inl ⟨by rfl, ?_⟩) (by assumption) ?_
      rotate_left
      · (intro w hSw; (try dsimp only at hSw); go_simp; (try with_reducible rfl))
      (try simp only [Act.put, List.setIfInBounds_toArray, List.set_cons_zero, List.set_cons_succ])
      refine HeldS.wpAnyS_take (i := 6) [] (oi := _) (v := ?_) rfl (by kernel_rfl) (by kernel_rfl) (by kernel_rfl) (by kernel_rfl) (by kernel_rfl) (fun _ _ _ h => h) (Or.inl ⟨by rfl, ?_⟩) (by assumption) ?_
      rotate_left
      · (intro w hSw; (try dsimp only at hSw); go_simp; (try with_reducible rfl))
      (try simp only [Act.put, List.setIfInBounds_toArray, List.set_cons_zero, List.set_cons_succ])
      refine HeldS.wpAnyS_take (i := 7) [] (oi := _) (v := ?_) rfl (by kernel_rfl) (by kernel_rfl) (by kernel_rfl) (by kernel_rfl) (by kernel_rfl) (fun _ _ _ h => h) (Or.inl ⟨by rfl, ?_⟩) (by assumption) ?_
      rotate_left
      · (intro w hSw; (try dsimp only at hSw); go_simp; (try with_reducible rfl))
      (try simp only [Act.put, List.setIfInBounds_toArray, List.set_cons_zero, List.set_cons_succ])
      refine HeldS.wpAnyS_take (i := 9) [] (oi := _) (v := ?_) rfl (by kernel_rfl) (by kernel_rfl) (by kernel_rfl) (by kernel_rfl) (by kernel_rfl) (fun _ _ _ h => h) (Or.inl ⟨by rfl, ?_⟩) (by assumption) ?_
      rotate_left
      · (intro w hSw; (try dsimp only at hSw); go_simp; (try with_reducible rfl))
      (try simp only [Act.put, List.setIfInBounds_toArray, List.set_cons_zero, List.set_cons_succ])
      refine HeldS.wpAnyS_take (i := 10) [] (oi := _) (v := ?_) rfl (by kernel_rfl) (by kernel_rfl) (by kernel_rfl) (by kernel_rfl) (by kernel_rfl) (fun _ _ _ h => h) (Or.inl ⟨by rfl, ?_⟩) (by assumption) ?_
      rotate_left
      · (intro w hSw; (try dsimp only at hSw); go_simp; (try with_reducible rfl))
      (try simp only [Act.put, List.setIfInBounds_toArray, List.set_cons_zero, List.set_cons_succ])
      refine HeldS.wpAnyS_ready (rs := [2, 8]) (by kernel_rfl) (by simp) ?_
      refine HeldS.AllS.cons (o := ⟨some 26, _, _, _, _, _⟩) rfl (fun K hK => ?_) ?_
      · go_simp
        refine hK.out _ _ ?_ (fun hHeld => ?_)
        · exact hS5.out _ (by repeat (first | assumption | exact Upon.refl _ _ | refine Upon.drew ?_ | refine Upon.alloc ?_ _))
        clear hK K
        (try simp only [Act.put, List.setIfInBounds_toArray, List.set_cons_zero, List.set_cons_succ])
        refine HeldS.wpAnyS_ready (rs := [5, 8]) (by kernel_rfl) (by simp) ?_
        refine HeldS.AllS.cons (o := ⟨some 29, _, _, _, _, _⟩) rfl (fun K hK => ?_) ?_
        · refine Rw.step_newU (U := fun b => u.ownBlock = some b) Lb.typPr (W := wx) (o := ⟨some 29, _, _, _, _, _⟩) (by rfl) _ _ (by rfl) (.slice (some ⟨_, 0, none⟩) 0 0) _ [] ls Rw.All (by rfl) (by rfl) (Rw.Mine.empty Lb.layPr (by first | exact (Hd.cell_two _ _ _).2 | exact (Hd.cell_two _ _ _).1 | exact cell_new _ _)) (fun b hb => .inr (hbase _ (by first | exact Nat.le_refl _ | exact Nat.le_succ _ | exact hsz.out _ (by repeat (first | assumption | exact Upon.refl _ _ | refine Upon.drew ?_ | refine Upon.alloc ?_ _))) b hb)) (by repeat (first | assumption | exact Upon.refl _ _ | refine Upon.drew ?_ | refine Upon.alloc ?_ _)) (hvl.out _ (by repeat (first | assumption | exact Upon.refl _ _ | refine Upon.drew ?_ | refine Upon.alloc ?_ _))) (by simp; omega) (by simp; omega) ?_
          intro A5 n5 c5 x5 q5 M5 b5 N5 k5
          have d5 := fun b hb => (b5 b hb).elim (hbase _ (by first | exact Nat.le_refl _ | exact Nat.le_succ _ | exact hsz.out _ (by repeat (first | assumption | exact Upon.refl _ _ | refine Upon.drew ?_ | refine Upon.alloc ?_ _))) b) id
          have R5 := k5 ne_rpr (Rw.Mine.new hM0 (by repeat (first | assumption | exact Upon.refl _ _ | refine Upon.drew ?_ | refine Upon.alloc ?_ _)))
          refine hK.out _ _ ?_ (fun hHeld => ?_)
          · exact hS5.out _ (by repeat (first | assumption | exact Upon.refl _ _ | refine Upon.drew ?_ | refine Upon.alloc ?_ _))
          clear hK K
          (try simp only [Act.put, List.setIfInBounds_toArray, List.set_cons_zero, List.set_cons_succ])
          refine HeldS.wpAnyS_ready (rs := [8]) (by kernel_rfl) (by simp) ?_
          refine HeldS.AllS.cons (o := ⟨some 32, _, _, _, _, _⟩) rfl (fun K hK => ?_) ?_
          · go_simp
            refine hK.out _ _ ?_ (fun hHeld => ?_)
            · exact hS5.out _ (by repeat (first | assumption | exact Upon.refl _ _ | refine Upon.drew ?_ | refine Upon.alloc ?_ _))
            clear hK K
            (try simp only [Act.put, List.setIfInBounds_toArray, List.set_cons_zero, List.set_cons_succ])
            refine HeldS.wpAnyS_ready (rs := [11]) (by kernel_rfl) (by simp) ?_
            refine HeldS.AllS.cons (o := ⟨some 35, _, _, _, _, _⟩) rfl (fun K hK => ?_) ?_
            · refine Rw.step_newU (U := fun b => u.ownBlock = some b) Hd.typP (W := wx) (o := ⟨some 35, _, _, _, _, _⟩) (by rfl) _ _ (by rfl) (.slice (some ⟨_, 0, none⟩) 0 0) _ [] ps Rw.All (by rfl) (by rfl) (Rw.Mine.empty Hd.layP (by first | exact (Hd.cell_two _ _ _).2 | exact (Hd.cell_two _ _ _).1 | exact cell_new _ _)) (fun b hb => .inr (hbase _ (by first | exact Nat.le_refl _ | exact Nat.le_succ _ | exact hsz.out _ (by repeat (first | assumption | exact Upon.refl _ _ | refine Upon.drew ?_ | refine Upon.alloc ?_ _))) b hb)) (by repeat (first | assumption | exact Upon.refl _ _ | refine Upon.drew ?_ | refine Upon.alloc ?_ _)) (hvp.out _ (by repeat (first | assumption | exact Upon.refl _ _ | refine Upon.drew ?_ | refine Upon.alloc ?_ _))) (by simp; omega) (by simp; omega) ?_
              intro A11 n11 c11 x11 q11 M11 b11 N11 k11
              have d11 := fun b hb => (b11 b hb).elim (hbase _ (by first | exact Nat.le_refl _ | exact Nat.le_succ _ | exact hsz.out _ (by repeat (first | assumption | exact Upon.refl _ _ | refine Upon.drew ?_ | refine Upon.alloc ?_ _))) b) id
              have R11 := k11 ne_rp (Rw.Mine.new R5 (by repeat (first | assumption | exact Upon.refl _ _ | refine Upon.drew ?_ | refine Upon.alloc ?_ _)))
              have P11 := k11 ne_prp (Rw.Mine.new M5 (by repeat (first | assumption | exact Upon.refl _ _ | refine Upon.drew ?_ | refine Upon.alloc ?_ _)))
              refine hK.out _ _ ?_ (fun hHeld => ?_)
              · exact hS5.out _ (by repeat (first | assumption | exact Upon.refl _ _ | refine Upon.drew ?_ | refine Upon.alloc ?_ _))
              clear hK K
              (try simp only [Act.put, List.setIfInBounds_toArray, List.set_cons_zero, List.set_cons_succ])
              refine HeldS.wpAnyS_take (i := 12) [] (oi := _) (v := ?_) rfl (by kernel_rfl) (by kernel_rfl) (by kernel_rfl) (by kernel_rfl) (by kernel_rfl) (fun _ _ _ h => h) (Or.inl ⟨by rfl, ?_⟩) (by assumption) ?_
              rotate_left
              · (intro w hSw; (try dsimp only at hSw); go_simp; (try with_reducible rfl))
              (try simp only [Act.put, List.setIfInBounds_toArray, List.set_cons_zero, List.set_cons_succ])
              refine HeldS.wpAnyS_ready (rs := [13]) (by kernel_rfl) (by simp) ?_
              refine HeldS.AllS.cons (o := ⟨some 37, _, _, _, _, _⟩) rfl (fun K hK => ?_) ?_
              · go_simp
                refine hK.out _ _ ?_ (fun hHeld => ?_)
                · exact hS5.out _ (by repeat (first | assumption | exact Upon.refl _ _ | refine Upon.drew ?_ | refine Upon.alloc ?_ _))
                clear hK K
                (try simp only [Act.put, List.setIfInBounds_toArray, List.set_cons_zero, List.set_cons_succ])
                refine HeldS.wpAnyS_ready (rs := [14]) (by kernel_rfl) (by simp) ?_
                refine HeldS.AllS.cons (o := ⟨some 38, _, _, _, _, _⟩) rfl (fun K hK => ?_) ?_
                · refine Rw.step_newU (U := fun b => u.ownBlock = some b) typW (W := wx) (o := ⟨some 38, _, _, _, _, _⟩) (by rfl) _ _ (by rfl) u _ rs [(⟨⟨A5, n5, c5⟩, t, ⟨A11, n11, c11⟩⟩ : RB)] Rw.All (by rfl) (by rfl) (Rw.Mine.new R11 (by repeat (first | assumption | exact Upon.refl _ _ | refine Upon.drew ?_ | refine Upon.alloc ?_ _))) (fun b hb => .inl hb) (by repeat (first | assumption | exact Upon.refl _ _ | refine Upon.drew ?_ | refine Upon.alloc ?_ _)) ((bmine_one 66 x11 ⟨⟨A5, n5, c5⟩, t, ⟨A11, n11, c11⟩⟩).view.all) (by simp; omega) (by simp; omega) ?_
                  intro A14 n14 c14 x14 q14 M14 b14 N14 k14
                  have P14 := k14 ne_prr (Rw.Mine.new P11 (by repeat (first | assumption | exact Upon.refl _ _ | refine Upon.drew ?_ | refine Upon.alloc ?_ _)))
                  have Q14 := k14 ne_pr2 (Rw.Mine.new M11 (by repeat (first | assumption | exact Upon.refl _ _ | refine Upon.drew ?_ | refine Upon.alloc ?_ _)))
                  refine hK.out _ _ ?_ (fun hHeld => ?_)
                  · exact hS5.out _ (by repeat (first | assumption | exact Upon.refl _ _ | refine Upon.drew ?_ | refine Upon.alloc ?_ _))
                  clear hK K
                  (try simp only [Act.put, List.setIfInBounds_toArray, List.set_cons_zero, List.set_cons_succ])
                  refine HeldS.wpAnyS_take (i := 15) [] (oi := _) (v := ?_) rfl (by kernel_rfl) (by kernel_rfl) (by kernel_rfl) (by kernel_rfl) (by kernel_rfl) (fun _ _ _ h => h) (Or.inl ⟨by rfl, ?_⟩) (by assumption) ?_
                  rotate_left
                  · (intro w hSw; (try dsimp only at hSw); go_simp; (try with_reducible rfl))
                  (try simp only [Act.put, List.setIfInBounds_toArray, List.set_cons_zero, List.set_cons_succ])
                  refine HeldS.wpAnyS_ready (rs := [16]) (by kernel_rfl) (by simp) ?_
                  refine HeldS.AllS.last (s := 16) (o := ⟨none, _, _, _, _, _⟩) rfl (fun K hK => ?_) ?_
                  · obtain ⟨pc5, pf5, -⟩ := hHeld
                    go_simp
                    refine hK.out _ _ ?_
                    clear hK K
                    (try simp only [Act.put, List.setIfInBounds_toArray, List.set_cons_zero, List.set_cons_succ])
                    refine HeldS.wpAnyS_done (by kernel_rfl) ?_ _
                    have T14 := hMx.out.app (lab := ⟨A5, n5, c5⟩) (pts := ⟨A11, n11, c11⟩) (r := ⟨ls, ps, t⟩) (by have := sx.out; omega) N14 M14 b14 P14 d5 Q14 d11
                    rw [← htk.out] at T14
                    have us : Upon (fun k => k = w.heap.size + 1 + 1) x14 (x14.setCell ⟨w.heap.size + 1 + 1, 2, none⟩ (.slice A14 n14 c14)) := Upon.setCell (S := fun k => k = w.heap.size + 1 + 1) (p := ⟨w.heap.size + 1 + 1, 2, none⟩) (Upon.refl _ x14) (.inl rfl) _
                    have T15 := Lib.hid (T14.step us (fun b hb e => by omega))
                    have Z15 := Lib.hid ((hZx'.out.upon N14 (fun e => hq e)).set2 (.slice A14 n14 c14))
                    have U15 := Lib.hid (Upon.trans (hux.out.trans' N14 (fun i hi e => by have := hMx.out.base i e; omega)) us)
                    clear hS5 hbase hsz hvl hvp hMx hZx' N14 M14 b14 P14 Q14 T14 us hux
                    go_wp2_with fail
                    go_roundw
                    case rel => exact ⟨j + 1, _, _, by go_num, hlt, T15, Z15, U15⟩
                    case measure => simp [intOf]; omega
                  exact HeldS.AllS.nil
                exact HeldS.AllS.nil
              exact HeldS.AllS.nil
            exact HeldS.AllS.nil
          exact HeldS.AllS.nil
        refine HeldS.AllS.cons (o := ⟨some 32, _, _, _, _, _⟩) rfl (fun K hK => ?_) ?_
        · go_simp
          refine hK.out _ _ ?_ (fun hHeld => ?_)
          · exact hS5.out _ (by repeat (first | assumption | exact Upon.refl _ _ | refine Upon.drew ?_ | refine Upon.alloc ?_ _))
          clear hK K
          (try simp only [Act.put, List.setIfInBounds_toArray, List.set_cons_zero, List.set_cons_succ])
          refine HeldS.wpAnyS_ready (rs := [5]) (by kernel_rfl) (by simp) ?_
          refine HeldS.AllS.cons (o := ⟨some 29, _, _, _, _, _⟩) rfl (fun K hK => ?_) ?_
          · refine Rw.step_newU (U := fun b => u.ownBlock = some b) Lb.typPr (W := wx) (o := ⟨some 29, _, _, _, _, _⟩) (by rfl) _ _ (by rfl) (.slice (some ⟨_, 0, none⟩) 0 0) _ [] ls Rw.All (by rfl) (by rfl) (Rw.Mine.empty Lb.layPr (by first | exact (Hd.cell_two _ _ _).2 | exact (Hd.cell_two _ _ _).1 | exact cell_new _ _)) (fun b hb => .inr (hbase _ (by first | exact Nat.le_refl _ | exact Nat.le_succ _ | exact hsz.out _ (by repeat (first | assumption | exact Upon.refl _ _ | refine Upon.drew ?_ | refine Upon.alloc ?_ _))) b hb)) (by repeat (first | assumption | exact Upon.refl _ _ | refine Upon.drew ?_ | refine Upon.alloc ?_ _)) (hvl.out _ (by repeat (first | assumption | exact Upon.refl _ _ | refine Upon.drew ?_ | refine Upon.alloc ?_ _))) (by simp; omega) (by simp; omega) ?_
            intro A5 n5 c5 x5 q5 M5 b5 N5 k5
            have d5 := fun b hb => (b5 b hb).elim (hbase _ (by first | exact Nat.le_refl _ | exact Nat.le_succ _ | exact hsz.out _ (by repeat (first | assumption | exact Upon.refl _ _ | refine Upon.drew ?_ | refine Upon.alloc ?_ _))) b) id
            have R5 := k5 ne_rpr (Rw.Mine.new hM0 (by repeat (first | assumption | exact Upon.refl _ _ | refine Upon.drew ?_ | refine Upon.alloc ?_ _)))
            have E5 : Rw.Mine Hd.layP 105 x5 (.slice (some ⟨wx.heap.size + 1, 0, none⟩) 0 0) [] := k5 ne_ppr (Rw.Mine.empty Hd.layP (by first | exact (Hd.cell_two _ _ _).2 | exact (Hd.cell_two _ _ _).1 | exact cell_new _ _))
            refine hK.out _ _ ?_ (fun hHeld => ?_)
            · exact hS5.out _ (by repeat (first | assumption | exact Upon.refl _ _ | refine Upon.drew ?_ | refine Upon.alloc ?_ _))
            clear hK K
            (try simp only [Act.put, List.setIfInBounds_toArray, List.set_cons_zero, List.set_cons_succ])
            refine HeldS.wpAnyS_ready (rs := [11]) (by kernel_rfl) (by simp) ?_
            refine HeldS.AllS.cons (o := ⟨some 35, _, _, _, _, _⟩) rfl (fun K hK => ?_) ?_
            · refine Rw.step_newU (U := fun b => u.ownBlock = some b) Hd.typP (W := wx) (o := ⟨some 35, _, _, _, _, _⟩) (by rfl) _ _ (by rfl) (.slice (some ⟨_, 0, none⟩) 0 0) _ [] ps Rw.All (by rfl) (by rfl) E5 (fun b hb => .inr (hbase _ (by first | exact Nat.le_refl _ | exact Nat.le_succ _ | exact hsz.out _ (by repeat (first | assumption | exact Upon.refl _ _ | refine Upon.drew ?_ | refine Upon.alloc ?_ _))) b hb)) (by repeat (first | assumption | exact Upon.refl _ _ | refine Upon.drew ?_ | refine Upon.alloc ?_ _)) (hvp.out _ (by repeat (first | assumption | exact Upon.refl _ _ | refine Upon.drew ?_ | refine Upon.alloc ?_ _))) (by simp; omega) (by simp; omega) ?_
              intro A11 n11 c11 x11 q11 M11 b11 N11 k11
              have d11 := fun b hb => (b11 b hb).elim (hbase _ (by first | exact Nat.le_refl _ | exact Nat.le_succ _ | exact hsz.out _ (by repeat (first | assumption | exact Upon.refl _ _ | refine Upon.drew ?_ | refine Upon.alloc ?_ _))) b) id
              have R11 := k11 ne_rp (Rw.Mine.new R5 (by repeat (first | assumption | exact Upon.refl _ _ | refine Upon.drew ?_ | refine Upon.alloc ?_ _)))
              have P11 := k11 ne_prp (Rw.Mine.new M5 (by repeat (first | assumption | exact Upon.refl _ _ | refine Upon.drew ?_ | refine Upon.alloc ?_ _)))
              refine hK.out _ _ ?_ (fun hHeld => ?_)
              · exact hS5.out _ (by repeat (first | assumption | exact Upon.refl _ _ | refine Upon.drew ?_ | refine Upon.alloc ?_ _))
              clear hK K
              (try simp only [Act.put, List.setIfInBounds_toArray, List.set_cons_zero, List.set_cons_succ])
              refine HeldS.wpAnyS_take (i := 12) [] (oi := _) (v := ?_) rfl (by kernel_rfl) (by kernel_rfl) (by kernel_rfl) (by kernel_rfl) (by kernel_rfl) (fun _ _ _ h => h) (Or.inl ⟨by rfl, ?_⟩) (by assumption) ?_
              rotate_left
              · (intro w hSw; (try dsimp only at hSw); go_simp; (try with_reducible rfl))
              (try simp only [Act.put, List.setIfInBounds_toArray, List.set_cons_zero, List.set_cons_succ])
              refine HeldS.wpAnyS_ready (rs := [13]) (by kernel_rfl) (by simp) ?_
              refine HeldS.AllS.cons (o := ⟨some 37, _, _, _, _, _⟩) rfl (fun K hK => ?_) ?_
              · go_simp
                refine hK.out _ _ ?_ (fun hHeld => ?_)
                · exact hS5.out _ (by repeat (first | assumption | exact Upon.refl _ _ | refine Upon.drew ?_ | refine Upon.alloc ?_ _))
                clear hK K
                (try simp only [Act.put, List.setIfInBounds_toArray, List.set_cons_zero, List.set_cons_succ])
                refine HeldS.wpAnyS_ready (rs := [14]) (by kernel_rfl) (by simp) ?_
                refine HeldS.AllS.cons (o := ⟨some 38, _, _, _, _, _⟩) rfl (fun K hK => ?_) ?_
                · refine Rw.step_newU (U := fun b => u.ownBlock = some b) typW (W := wx) (o := ⟨some 38, _, _, _, _, _⟩) (by rfl) _ _ (by rfl) u _ rs [(⟨⟨A5, n5, c5⟩, t, ⟨A11, n11, c11⟩⟩ : RB)] Rw.All (by rfl) (by rfl) (Rw.Mine.new R11 (by repeat (first | assumption | exact Upon.refl _ _ | refine Upon.drew ?_ | refine Upon.alloc ?_ _))) (fun b hb => .inl hb) (by repeat (first | assumption | exact Upon.refl _ _ | refine Upon.drew ?_ | refine Upon.alloc ?_ _)) ((bmine_one 66 x11 ⟨⟨A5, n5, c5⟩, t, ⟨A11, n11, c11⟩⟩).view.all) (by simp; omega) (by simp; omega) ?_
                  intro A14 n14 c14 x14 q14 M14 b14 N14 k14
                  have P14 := k14 ne_prr (Rw.Mine.new P11 (by repeat (first | assumption | exact Upon.refl _ _ | refine Upon.drew ?_ | refine Upon.alloc ?_ _)))
                  have Q14 := k14 ne_pr2 (Rw.Mine.new M11 (by repeat (first | assumption | exact Upon.refl _ _ | refine Upon.drew ?_ | refine Upon.alloc ?_ _)))
                  refine hK.out _ _ ?_ (fun hHeld => ?_)
                  · exact hS5.out _ (by repeat (first | assumption | exact Upon.refl _ _ | refine Upon.drew ?_ | refine Upon.alloc ?_ _))
                  clear hK K
                  (try simp only [Act.put, List.setIfInBounds_toArray, List.set_cons_zero, List.set_cons_succ])
                  refine HeldS.wpAnyS_take (i := 15) [] (oi := _) (v := ?_) rfl (by kernel_rfl) (by kernel_rfl) (by kernel_rfl) (by kernel_rfl) (by kernel_rfl) (fun _ _ _ h => h) (Or.inl ⟨by rfl, ?_⟩) (by assumption) ?_
                  rotate_left
                  · (intro w hSw; (try dsimp only at hSw); go_simp; (try with_reducible rfl))
                  (try simp only [Act.put, List.setIfInBounds_toArray, List.set_cons_zero, List.set_cons_succ])
                  refine HeldS.wpAnyS_ready (rs := [16]) (by kernel_rfl) (by simp) ?_
                  refine HeldS.AllS.last (s := 16) (o := ⟨none, _, _, _, _, _⟩) rfl (fun K hK => ?_) ?_
                  · obtain ⟨pc5, pf5, -⟩ := hHeld
                    go_simp
                    refine hK.out _ _ ?_
                    clear hK K
                    (try simp only [Act.put, List.setIfInBounds_toArray, List.set_cons_zero, List.set_cons_succ])
                    refine HeldS.wpAnyS_done (by kernel_rfl) ?_ _
                    have T14 := hMx.out.app (lab := ⟨A5, n5, c5⟩) (pts := ⟨A11, n11, c11⟩) (r := ⟨ls, ps, t⟩) (by have := sx.out; omega) N14 M14 b14 P14 d5 Q14 d11
                    rw [← htk.out] at T14
                    have us : Upon (fun k => k = w.heap.size + 1 + 1) x14 (x14.setCell ⟨w.heap.size + 1 + 1, 2, none⟩ (.slice A14 n14 c14)) := Upon.setCell (S := fun k => k = w.heap.size + 1 + 1) (p := ⟨w.heap.size + 1 + 1, 2, none⟩) (Upon.refl _ x14) (.inl rfl) _
                    have T15 := Lib.hid (T14.step us (fun b hb e => by omega))
                    have Z15 := Lib.hid ((hZx'.out.upon N14 (fun e => hq e)).set2 (.slice A14 n14 c14))
                    have U15 := Lib.hid (Upon.trans (hux.out.trans' N14 (fun i hi e => by have := hMx.out.base i e; omega)) us)
                    clear hS5 hbase hsz hvl hvp hMx hZx' N14 M14 b14 P14 Q14 T14 us hux
                    go_wp2_with fail
                    go_roundw
                    case rel => exact ⟨j + 1, _, _, by go_num, hlt, T15, Z15, U15⟩
                    case measure => simp [intOf]; omega
                  exact HeldS.AllS.nil
                exact HeldS.AllS.nil
              exact HeldS.AllS.nil
            exact HeldS.AllS.nil
          exact HeldS.AllS.nil
        exact HeldS.AllS.nil
      refine HeldS.AllS.cons (o := ⟨some 32, _, _, _, _, _⟩) rfl (fun K hK => ?_) ?_
      · go_simp
        refine hK.out _ _ ?_ (fun hHeld => ?_)
        · exact hS5.out _ (by repeat (first | assumption | exact Upon.refl _ _ | refine Upon.drew ?_ | refine Upon.alloc ?_ _))
        clear hK K
        (try simp only [Act.put, List.setIfInBounds_toArray, List.set_cons_zero, List.set_cons_succ])
        refine HeldS.wpAnyS_ready (rs := [2]) (by kernel_rfl) (by simp) ?_
        refine HeldS.AllS.cons (o := ⟨some 26, _, _, _, _, _⟩) rfl (fun K hK => ?_) ?_
        · go_simp
          refine hK.out _ _ ?_ (fun hHeld => ?_)
          · exact hS5.out _ (by repeat (first | assumption | exact Upon.refl _ _ | refine Upon.drew ?_ | refine Upon.alloc ?_ _))
          clear hK K
          (try simp only [Act.put, List.setIfInBounds_toArray, List.set_cons_zero, List.set_cons_succ])
          refine HeldS.wpAnyS_ready (rs := [5]) (by kernel_rfl) (by simp) ?_
          refine HeldS.AllS.cons (o := ⟨some 29, _, _, _, _, _⟩) rfl (fun K hK => ?_) ?_
          · refine Rw.step_newU (U := fun b => u.ownBlock = some b) Lb.typPr (W := wx) (o := ⟨some 29, _, _, _, _, _⟩) (by rfl) _ _ (by rfl) (.slice (some ⟨_, 0, none⟩) 0 0) _ [] ls Rw.All (by rfl) (by rfl) (Rw.Mine.empty Lb.layPr (by first | exact (Hd.cell_two _ _ _).2 | exact (Hd.cell_two _ _ _).1 | exact cell_new _ _)) (fun b hb => .inr (hbase _ (by first | exact Nat.le_refl _ | exact Nat.le_succ _ | exact hsz.out _ (by repeat (first | assumption | exact Upon.refl _ _ | refine Upon.drew ?_ | refine Upon.alloc ?_ _))) b hb)) (by repeat (first | assumption | exact Upon.refl _ _ | refine Upon.drew ?_ | refine Upon.alloc ?_ _)) (hvl.out _ (by repeat (first | assumption | exact Upon.refl _ _ | refine Upon.drew ?_ | refine Upon.alloc ?_ _))) (by simp; omega) (by simp; omega) ?_
            intro A5 n5 c5 x5 q5 M5 b5 N5 k5
            have d5 := fun b hb => (b5 b hb).elim (hbase _ (by first | exact Nat.le_refl _ | exact Nat.le_succ _ | exact hsz.out _ (by repeat (first | assumption | exact Upon.refl _ _ | refine Upon.drew ?_ | refine Upon.alloc ?_ _))) b) id
            have R5 := k5 ne_rpr (Rw.Mine.new hM0 (by repeat (first | assumption | exact Upon.refl _ _ | refine Upon.drew ?_ | refine Upon.alloc ?_ _)))
            have E5 : Rw.Mine Hd.layP 105 x5 (.slice (some ⟨wx.heap.size, 0, none⟩) 0 0) [] := k5 ne_ppr (Rw.Mine.empty Hd.layP (by first | exact (Hd.cell_two _ _ _).2 | exact (Hd.cell_two _ _ _).1 | exact cell_new _ _))
            refine hK.out _ _ ?_ (fun hHeld => ?_)
            · exact hS5.out _ (by repeat (first | assumption | exact Upon.refl _ _ | refine Upon.drew ?_ | refine Upon.alloc ?_ _))
            clear hK K
            (try simp only [Act.put, List.setIfInBounds_toArray, List.set_cons_zero, List.set_cons_succ])
            refine HeldS.wpAnyS_ready (rs := [11]) (by kernel_rfl) (by simp) ?_
            refine HeldS.AllS.cons (o := ⟨some 35, _, _, _, _, _⟩) rfl (fun K hK => ?_) ?_
            · refine Rw.step_newU (U := fun b => u.ownBlock = some b) Hd.typP (W := wx) (o := ⟨some 35, _, _, _, _, _⟩) (by rfl) _ _ (by rfl) (.slice (some ⟨_, 0, none⟩) 0 0) _ [] ps Rw.All (by rfl) (by rfl) E5 (fun b hb => .inr (hbase _ (by first | exact Nat.le_refl _ | exact Nat.le_succ _ | exact hsz.out _ (by repeat (first | assumption | exact Upon.refl _ _ | refine Upon.drew ?_ | refine Upon.alloc ?_ _))) b hb)) (by repeat (first | assumption | exact Upon.refl _ _ | refine Upon.drew ?_ | refine Upon.alloc ?_ _)) (hvp.out _ (by repeat (first | assumption | exact Upon.refl _ _ | refine Upon.drew ?_ | refine Upon.alloc ?_ _))) (by simp; omega) (by simp; omega) ?_
              intro A11 n11 c11 x11 q11 M11 b11 N11 k11
              have d11 := fun b hb => (b11 b hb).elim (hbase _ (by first | exact Nat.le_refl _ | exact Nat.le_succ _ | exact hsz.out _ (by repeat (first | assumption | exact Upon.refl _ _ | refine Upon.drew ?_ | refine Upon.alloc ?_ _))) b) id
              have R11 := k11 ne_rp (Rw.Mine.new R5 (by repeat (first | assumption | exact Upon.refl _ _ | refine Upon.drew ?_ | refine Upon.alloc ?_ _)))
              have P11 := k11 ne_prp (Rw.Mine.new M5 (by repeat (first | assumption | exact Upon.refl _ _ | refine Upon.drew ?_ | refine Upon.alloc ?_ _)))
              refine hK.out _ _ ?_ (fun hHeld => ?_)
              · exact hS5.out _ (by repeat (first | assumption | exact Upon.refl _ _ | refine Upon.drew ?_ | refine Upon.alloc ?_ _))
              clear hK K
              (try simp only [Act.put, List.setIfInBounds_toArray, List.set_cons_zero, List.set_cons_succ])
              refine HeldS.wpAnyS_take (i := 12) [] (oi := _) (v := ?_) rfl (by kernel_rfl) (by kernel_rfl) (by kernel_rfl) (by kernel_rfl) (by kernel_rfl) (fun _ _ _ h => h) (Or.inl ⟨by rfl, ?_⟩) (by assumption) ?_
              rotate_left
              · (intro w hSw; (try dsimp only at hSw); go_simp; (try with_reducible rfl))
              (try simp only [Act.put, List.setIfInBounds_toArray, List.set_cons_zero, List.set_cons_succ])
              refine HeldS.wpAnyS_ready (rs := [13]) (by kernel_rfl) (by simp) ?_
              refine HeldS.AllS.cons (o := ⟨some 37, _, _, _, _, _⟩) rfl (fun K hK => ?_) ?_
              · go_simp
                refine hK.out _ _ ?_ (fun hHeld => ?_)
                · exact hS5.out _ (by repeat (first | assumption | exact Upon.refl _ _ | refine Upon.drew ?_ | refine Upon.alloc ?_ _))
                clear hK K
                (try simp only [Act.put, List.setIfInBounds_toArray, List.set_cons_zero, List.set_cons_succ])
                refine HeldS.wpAnyS_ready (rs := [14]) (by kernel_rfl) (by simp) ?_
                refine HeldS.AllS.cons (o := ⟨some 38, _, _, _, _, _⟩) rfl (fun K hK => ?_) ?_
                · refine Rw.step_newU (U := fun b => u.ownBlock = some b) typW (W := wx) (o := ⟨some 38, _, _, _, _, _⟩) (by rfl) _ _ (by rfl) u _ rs [(⟨⟨A5, n5, c5⟩, t, ⟨A11, n11, c11⟩⟩ : RB)] Rw.All (by rfl) (by rfl) (Rw.Mine.new R11 (by repeat (first | assumption | exact Upon.refl _ _ | refine Upon.drew ?_ | refine Upon.alloc ?_ _))) (fun b hb => .inl hb) (by repeat (first | assumption | exact Upon.refl _ _ | refine Upon.drew ?_ | refine Upon.alloc ?_ _)) ((bmine_one 66 x11 ⟨⟨A5, n5, c5⟩, t, ⟨A11, n11, c11⟩⟩).view.all) (by simp; omega) (by simp; omega) ?_
                  intro A14 n14 c14 x14 q14 M14 b14 N14 k14
                  have P14 := k14 ne_prr (Rw.Mine.new P11 (by repeat (first | assumption | exact Upon.refl _ _ | refine Upon.drew ?_ | refine Upon.alloc ?_ _)))
                  have Q14 := k14 ne_pr2 (Rw.Mine.new M11 (by repeat (first | assumption | exact Upon.refl _ _ | refine Upon.drew ?_ | refine Upon.alloc ?_ _)))
                  refine hK.out _ _ ?_ (fun hHeld => ?_)
                  · exact hS5.out _ (by repeat (first | assumption | exact Upon.refl _ _ | refine Upon.drew ?_ | refine Upon.alloc ?_ _))
                  clear hK K
                  (try simp only [Act.put, List.setIfInBounds_toArray, List.set_cons_zero, List.set_cons_succ])
                  refine HeldS.wpAnyS_take (i := 15) [] (oi := _) (v := ?_) rfl (by kernel_rfl) (by kernel_rfl) (by kernel_rfl) (by kernel_rfl) (by kernel_rfl) (fun _ _ _ h => h) (Or.inl ⟨by rfl, ?_⟩) (by assumption) ?_
                  rotate_left
                  · (intro w hSw; (try dsimp only at hSw); go_simp; (try with_reducible rfl))
                  (try simp only [Act.put, List.setIfInBounds_toArray, List.set_cons_zero, List.set_cons_succ])
                  refine HeldS.wpAnyS_ready (rs := [16]) (by kernel_rfl) (by simp) ?_
                  refine HeldS.AllS.last (s := 16) (o := ⟨none, _, _, _, _, _⟩) rfl (fun K hK => ?_) ?_
                  · obtain ⟨pc5, pf5, -⟩ := hHeld
                    go_simp
                    refine hK.out _ _ ?_
                    clear hK K
                    (try simp only [Act.put, List.setIfInBounds_toArray, List.set_cons_zero, List.set_cons_succ])
                    refine HeldS.wpAnyS_done (by kernel_rfl) ?_ _
                    have T14 := hMx.out.app (lab := ⟨A5, n5, c5⟩) (pts := ⟨A11, n11, c11⟩) (r := ⟨ls, ps, t⟩) (by have := sx.out; omega) N14 M14 b14 P14 d5 Q14 d11
                    rw [← htk.out] at T14
                    have us : Upon (fun k => k = w.heap.size + 1 + 1) x14 (x14.setCell ⟨w.heap.size + 1 + 1, 2, none⟩ (.slice A14 n14 c14)) := Upon.setCell (S := fun k => k = w.heap.size + 1 + 1) (p := ⟨w.heap.size + 1 + 1, 2, none⟩) (Upon.refl _ x14) (.inl rfl) _
                    have T15 := Lib.hid (T14.step us (fun b hb e => by omega))
                    have Z15 := Lib.hid ((hZx'.out.upon N14 (fun e => hq e)).set2 (.slice A14 n14 c14))
                    have U15 := Lib.hid (Upon.trans (hux.out.trans' N14 (fun i hi e => by have := hMx.out.base i e; omega)) us)
                    clear hS5 hbase hsz hvl hvp hMx hZx' N14 M14 b14 P14 Q14 T14 us hux
                    go_wp2_with fail
                    go_roundw
                    case rel => exact ⟨j + 1, _, _, by go_num, hlt, T15, Z15, U15⟩
                    case measure => simp [intOf]; omega
                  exact HeldS.AllS.nil
                exact HeldS.AllS.nil
              exact HeldS.AllS.nil
            exact HeldS.AllS.nil
          exact HeldS.AllS.nil
        exact HeldS.AllS.nil
      exact HeldS.AllS.nil
    · have hMl : Hid (TOwn wb.heap.size wr u rs l) := Lib.hid (by
        have h1 := hM.out
        rw [List.take_of_length_le (by omega)] at h1
        exact h1)
      have hrl : rs.length = l.length := hMl.out.len
      obtain ⟨Au, cu, hu', -, -⟩ := Rw.View.shape hMl.out.row.view
      rw [hrl] at hu'
      subst hu'
      have hV0 : Hid (BsView wr (fun b => wb.heap.size ≤ b ∧ b < wr.heap.size) (.slice Au l.length cu) l) := Lib.hid (Rw.DView.mono hMl.out.view fun b h1 h2 => ⟨h2, h1⟩)
      have hR0 : Hid (ROwn wr.heap.size wr (.slice none 0 0) [] (ds.take 0)) := Lib.hid (by rw [List.take_zero]; exact ROwn.start _ _)
      obtain ⟨M, hMM⟩ : ∃ M, wr.heap.size = M := ⟨_, rfl⟩
      have hM1 : M ≤ wr.heap.size := by omega
      rw [hMM] at hV0 hR0 shu
      clear hM hcells hXr hlen hMl hMM hrl
      go_wp2_with fail
      clear k0 k1 k2 k3
      go_loopw [6] (fun ov wr => ∃ (i : Nat) (ud : Value) (qs : List Hd.RC), ov = .int .i64 (i : Int) ∧ i ≤ ds.length ∧ M ≤ wr.heap.size ∧ Hid (BsView wr (fun b => wb.heap.size ≤ b ∧ b < M) (.slice Au l.length cu) l) ∧ Hid (ROwn M wr ud qs (ds.take i)) ∧ Hid (Quad 29 (w.heap.size + 1 + 1) ⟨.int .i64 f, .int .i64 til, .slice Au l.length cu, ud⟩ wr) ∧ Hid (Upon (fun k => k = w.heap.size + 1 + 1) wb wr)) (fun ov _ => ds.length - (intOf ov).toNat)
      case atStart => exact ⟨0, .slice none 0 0, [], rfl, Nat.zero_le _, hM1, hV0, hR0, hZ, hu⟩
      case round =>
        clear hV0 hR0 hM1 hZ hu hnw
        obtain ⟨i, u, qs, rfl, hi, hMw, hV, hR, hZ, hu⟩ := hrel
        have hnw : Hid (New0 w wr) := Lib.hid (hU.out.trans' hu.out (fun i hi e => by omega))
        have hXr := hX.out.upon hu.out (by omega)
        obtain ⟨k0, k1, k2, k3⟩ := hXr.cells
        by_cases hil : i < ds.length
        · obtain ⟨db, doff, B1, e1, B2, e2, rfl, hdbl, y0, y1, y2, y3, y4, hv, -⟩ := hds.out i hil
          have g0 := Lb.New0.cells hnw.out y0
          have g1 := Lb.New0.cells hnw.out y1
          have g2 := Lb.New0.cells hnw.out y2
          have g3 := Lb.New0.cells hnw.out y3
          have g4 := Lb.New0.cells hnw.out y4
          have hbd := hdb.out _ (List.getElem_mem hil)
          have htk := List.take_succ_eq_append_getElem hil
          have hql := hR.out.len
          rw [List.length_take] at hql
          have hqs : qs.length ≤ 1954687338210 := by omega
          obtain ⟨r, hr⟩ : ∃ r, ds[i] = r := ⟨_, rfl⟩
          rw [hr] at g0 g1 g2 g3 g4 hv hbd htk
          have hOW := Lib.hid (Rc.own_any wr.drew _ r (Rc.RView.new (Rc.RView.new hv hnw.out) ((Upon.refl _ wr).drew)) hbd.1 hbd.2.1 hbd.2.2)
          have hZn := Lib.hid (fun w' (hu' : New0 wr w') => hZ.out.new hu')
          have hS5 : Hid (∀ w', New0 wr w' → w'.cell? ⟨w.heap.size + 1 + 1, 3, none⟩ = some u ∧ w'.frozen? ⟨w.heap.size + 1 + 1, 3, none⟩ = false ∧ w'.cell? ⟨w.heap.size, 3, none⟩ = some (.slice (some ⟨db, doff, none⟩) ds.length c') ∧ w'.cell? ⟨db, doff + i * 5, none⟩ = some (.int .i64 r.kind) ∧ w'.cell? ⟨db, doff + i * 5 + 1, none⟩ = some (.slice B1 r.smp.length e1) ∧ w'.cell? ⟨db, doff + i * 5 + 2, none⟩ = some (.slice B2 r.ms.length e2) ∧ w'.cell? ⟨db, doff + i * 5 + 3, none⟩ = some (.int .i64 r.frm) ∧ w'.cell? ⟨db, doff + i * 5 + 4, none⟩ = some (.int .i64 r.til)) := Lib.hid (fun w' hu' =>
            ⟨(hZn.out w' hu').cells.2.2.2, (hZn.out w' hu').frozen 3, Lb.New0.cells hu' k3, Lb.New0.cells hu' g0, Lb.New0.cells hu' g1, Lb.New0.cells hu' g2, Lb.New0.cells hu' g3, Lb.New0.cells hu' g4⟩)
          have hq : u.ownBlock ≠ some (w.heap.size + 1 + 1) := fun e => by have := hR.out.base _ e; omega
          replace htk := Lib.hid htk
          clear y0 y1 y2 y3 y4 hv hr hbd hXr hql
          go_wp2_with fail
          clear g0 g1 g2 g3 g4 k0 k1 k2 k3
          refine HeldS.wp_region_S 11 (S := fun w' => w'.cell? ⟨w.heap.size + 1 + 1, 3, none⟩ = some u ∧ w'.frozen? ⟨w.heap.size + 1 + 1, 3, none⟩ = false ∧ w'.cell? ⟨w.heap.size, 3, none⟩ = some (.slice (some ⟨db, doff, none⟩) ds.length c') ∧ w'.cell? ⟨db, doff + i * 5, none⟩ = some (.int .i64 r.kind) ∧ w'.cell? ⟨db, doff + i * 5 + 1, none⟩ = some (.slice B1 r.smp.length e1) ∧ w'.cell? ⟨db, doff + i * 5 + 2, none⟩ = some (.slice B2 r.ms.length e2) ∧ w'.cell? ⟨db, doff + i * 5 + 3, none⟩ = some (.int .i64 r.frm) ∧ w'.cell? ⟨db, doff + i * 5 + 4, none⟩ = some (.int .i64 r.til)) (by kernel_rfl) (hS5.out _ ((Upon.refl _ wr).drew)) (fun hHeld => ?_)
          refine HeldS.wpAnyS_take (i := 0) [] (oi := _) (v := ?_) rfl (by kernel_rfl) (by kernel_rfl) (by kernel_rfl) (by kernel_rfl) (by kernel_rfl) (fun _ _ _ h => h) (Or.inl ⟨by rfl, ?_⟩) (by assumption) ?_
          rotate_left
          · (intro w hSw; (try dsimp only at hSw); go_simp; (try with_reducible rfl))
          (try simp only [Act.put, List.setIfInBounds_toArray, List.set_cons_zero, List.set_cons_succ])
          refine HeldS.wpAnyS_take (i := 1) [] (oi := _) (v := ?_) rfl (by kernel_rfl) (by kernel_rfl) (by kernel_rfl) (by kernel_rfl) (by kernel_rfl) (fun _ _ _ h => h) (Or.inl ⟨by rfl, ?_⟩) (by assumption) ?_
          rotate_left
          · (intro w hSw; (try dsimp only at hSw); go_simp; (try with_reducible rfl))
          (try simp only [Act.put, List.setIfInBounds_toArray, List.set_cons_zero, List.set_cons_succ])
          refine HeldS.wpAnyS_take (i := 2) [] (oi := _) (v := ?_) rfl (by kernel_rfl) (by kernel_rfl) (by kernel_rfl) (by kernel_rfl) (by kernel_rfl) (fun _ _ _ h => h) (Or.inl ⟨by rfl, ?_⟩) (by assumption) ?_
          rotate_left
          · (intro w hSw; (try dsimp only at hSw); go_simp; (try with_reducible rfl))
          (try simp only [Act.put, List.setIfInBounds_toArray, List.set_cons_zero, List.set_cons_succ])
          refine HeldS.wpAnyS_take (i := 3) [] (oi := _) (v := ?_) rfl (by kernel_rfl) (by kernel_rfl) (by kernel_rfl) (by kernel_rfl) (by kernel_rfl) (fun _ _ _ h => h) (Or.inl ⟨by rfl, ?_⟩) (by assumption) ?_
          rotate_left
          · (intro w hSw; (try dsimp only at hSw); go_simp; (try with_reducible rfl))
          (try simp only [Act.put, List.setIfInBounds_toArray, List.set_cons_zero, List.set_cons_succ])
          refine HeldS.wpAnyS_take (i := 4) [] (oi := _) (v := ?_) rfl (by kernel_rfl) (by kernel_rfl) (by kernel_rfl) (by kernel_rfl) (by kernel_rfl) (fun _ _ _ h => h) (Or.inl ⟨by rfl, ?_⟩) (by assumption) ?_
          rotate_left
          · (intro w hSw; (try dsimp only at hSw); go_simp; (try with_reducible rfl))
          (try simp only [Act.put, List.setIfInBounds_toArray, List.set_cons_zero, List.set_cons_succ])
          refine HeldS.wpAnyS_take (i := 5) [] (oi := _) (v := ?_) rfl (by kernel_rfl) (by kernel_rfl) (by kernel_rfl) (by kernel_rfl) (by kernel_rfl) (fun _ _ _ h => h) (Or.inl ⟨by rfl, ?_⟩) (by assumption) ?_
          rotate_left
          · (intro w hSw; (try dsimp only at hSw); go_simp; (try with_reducible rfl))
          (try simp only [Act.put, List.setIfInBounds_toArray, List.set_cons_zero, List.set_cons_succ])
          refine HeldS.wpAnyS_take (i := 6) [] (oi := _) (v := ?_) rfl (by kernel_rfl) (by kernel_rfl) (by kernel_rfl) (by kernel_rfl) (by kernel_rfl) (fun _ _ _ h => h) (Or.inl ⟨by rfl, ?_⟩) (by assumption) ?_
          rotate_left
          · (intro w hSw; (try dsimp only at hSw); go_simp; (try with_reducible rfl))
          (try simp only [Act.put, List.setIfInBounds_toArray, List.set_cons_zero, List.set_cons_succ])
          refine HeldS.wpAnyS_ready (rs := [7]) (by kernel_rfl) (by simp) ?_
          refine HeldS.AllS.cons (o := ⟨some 54, _, _, _, _, _⟩) rfl (fun K hK => ?_) HeldS.AllS.nil
          go_simp
          go_at_call 20
          refine hOW.out.mono ?_
          rintro e x7 ⟨u7, rfl, V7, N7⟩
          obtain ⟨C1, d1, C2, d2, rfl, hsv, hmv⟩ := Rc.RView.shape V7
          have N8 : New0 wr x7 := ((Upon.refl (fun _ => False) wr).drew).trans N7
          go_simp
          refine hK.out _ _ (hS5.out _ N8) (fun hHeld => ?_)
          clear hK K
          (try simp only [Act.put, List.setIfInBounds_toArray, List.set_cons_zero, List.set_cons_succ])
          refine HeldS.wpAnyS_ready (rs := [8]) (by kernel_rfl) (by simp) ?_
          refine HeldS.AllS.cons (o := ⟨some 55, _, _, _, _, _⟩) rfl (fun K hK => ?_) HeldS.AllS.nil
          go_simp
          have N9 := N8.alloc (.cells #[.int .i64 r.kind, .slice C1 r.smp.length d1, .slice C2 r.ms.length d2, .int .i64 r.frm, .int .i64 r.til] 50 (0, 0))
          have R9 := hR.out.step N9 (fun _ _ f => f)
          have E9 : Hd.innRC.rel (x7.alloc (.cells #[.int .i64 r.kind, .slice C1 r.smp.length d1, .slice C2 r.ms.length d2, .int .i64 r.frm, .int .i64 r.til] 50 (0, 0))) (fun b => wr.heap.size ≤ b ∧ b < x7.heap.size) (⟨r.kind, ⟨C1, r.smp.length, d1⟩, ⟨C2, r.ms.length, d2⟩, r.frm, r.til⟩ : Hd.RC) r :=
            Hd.innRC.upon (Hd.innRC.mono (S' := fun b => wr.heap.size ≤ b ∧ b < x7.heap.size) (show Hd.innRC.rel x7 (Lb.Nw wr.drew) ⟨r.kind, ⟨C1, r.smp.length, d1⟩, ⟨C2, r.ms.length, d2⟩, r.frm, r.til⟩ r from ⟨rfl, rfl, rfl, hsv, hmv⟩) (fun b h1 h2 => ⟨h2, h1⟩)) ((Upon.refl (fun _ => False) x7).alloc _) (fun _ _ f => f)
          refine hK.out _ _ (hS5.out _ N9) (fun hHeld => ?_)
          clear hK K
          (try simp only [Act.put, List.setIfInBounds_toArray, List.set_cons_zero, List.set_cons_succ])
          refine HeldS.wpAnyS_ready (rs := [9]) (by kernel_rfl) (by simp) ?_
          refine HeldS.AllS.cons (o := ⟨some 56, _, _, _, _, _⟩) rfl (fun K hK => ?_) HeldS.AllS.nil
          refine Rw.step_append typRC (o := ⟨some 56, _, _, _, _, _⟩) (by rfl) _ _ (by rfl) u _ qs [(⟨r.kind, ⟨C1, r.smp.length, d1⟩, ⟨C2, r.ms.length, d2⟩, r.frm, r.til⟩ : Hd.RC)] Rw.All (by rfl) (by rfl) R9.row ((rmine_one x7 ⟨r.kind, ⟨C1, r.smp.length, d1⟩, ⟨C2, r.ms.length, d2⟩, r.frm, r.til⟩).view.all) (by simp; omega) (by simp; omega) ?_
          intro v10 x10 hown hgr hbl
          have s7 := N8.size
          have R10 := R9.app (by have := N9.size; omega) E9 (fun x hx => ⟨by simp; omega, by omega, fun e => by have := Rw.Mine.lt hR.out.row e; omega⟩) hown hgr hbl
          rw [← htk.out] at R10
          have U10 : Upon (fun b => u.ownBlock = some b) wr x10 := Upon.grown (N9.mono fun _ _ f => f.elim) hgr (fun k hk => .inl hk)
          obtain ⟨Av, cv, hv', -, -⟩ := Rw.View.shape R10.row.view
          obtain ⟨nv, hnv⟩ : ∃ n, (qs ++ [(⟨r.kind, ⟨C1, r.smp.length, d1⟩, ⟨C2, r.ms.length, d2⟩, r.frm, r.til⟩ : Hd.RC)]).length = n := ⟨_, rfl⟩
          rw [hnv] at hv'
          subst hv'
          have Z10 := hZ.out.upon U10 (fun e => hq e)
          have us : Upon (fun k => k = w.heap.size + 1 + 1) x10 (x10.setCell ⟨w.heap.size + 1 + 1, 3, none⟩ (.slice Av nv cv)) := Upon.setCell (S := fun k => k = w.heap.size + 1 + 1) (p := ⟨w.heap.size + 1 + 1, 3, none⟩) (Upon.refl _ x10) (.inl rfl) _
          have V11 := Lib.hid (Rw.DView.upon (Rw.DView.upon hV.out U10 (fun b hb e => by have := hR.out.base _ e; omega)) us (fun b hb e => by omega))
          have R11 := Lib.hid (R10.step us (fun b hb e => by omega))
          have Z11 := Lib.hid (Z10.set3 (.slice Av nv cv))
          have U11 := Lib.hid (Upon.trans (hu.out.trans' U10 (fun i hi e => by have := hR.out.base i e; omega)) us)
          have s11 : M ≤ (x10.setCell ⟨w.heap.size + 1 + 1, 3, none⟩ (.slice Av nv cv)).heap.size := by have := us.size; have := U10.size; omega
          obtain ⟨f0, f1, f2, f3⟩ := Z10.cells
          have ff := Z10.frozen 3
          have hS10 : x10.cell? ⟨w.heap.size + 1 + 1, 3, none⟩ = some u ∧ x10.frozen? ⟨w.heap.size + 1 + 1, 3, none⟩ = false ∧ x10.cell? ⟨w.heap.size, 3, none⟩ = some (.slice (some ⟨db, doff, none⟩) ds.length c') ∧ x10.cell? ⟨db, doff + i * 5, none⟩ = some (.int .i64 r.kind) ∧ x10.cell? ⟨db, doff + i * 5 + 1, none⟩ = some (.slice B1 r.smp.length e1) ∧ x10.cell? ⟨db, doff + i * 5 + 2, none⟩ = some (.slice B2 r.ms.length e2) ∧ x10.cell? ⟨db, doff + i * 5 + 3, none⟩ = some (.int .i64 r.frm) ∧ x10.cell? ⟨db, doff + i * 5 + 4, none⟩ = some (.int .i64 r.til) := by
            obtain ⟨h0, h1, h2, h3, h4, h5, h6, h7⟩ := hS5.out wr (Upon.refl _ _)
            have hlo : ∀ b o v, b < w.heap.size ∨ b = w.heap.size → wr.cell? ⟨b, o, none⟩ = some v → x10.cell? ⟨b, o, none⟩ = some v := fun b o v hb h => by
              rw [World.cell?, U10.block b (World.block_lt_of_cell? wr _ h) (fun e => by have := hR.out.base _ e; omega)]; exact h
            exact ⟨f3, ff, hlo _ _ _ (.inr rfl) h2, hlo _ _ _ (.inl hdbl) h3, hlo _ _ _ (.inl hdbl) h4, hlo _ _ _ (.inl hdbl) h5, hlo _ _ _ (.inl hdbl) h6, hlo _ _ _ (.inl hdbl) h7⟩
          refine hK.out _ _ hS10 (fun hHeld => ?_)
          clear hK K
          (try simp only [Act.put, List.setIfInBounds_toArray, List.set_cons_zero, List.set_cons_succ])
          refine HeldS.wpAnyS_take (i := 10) [] (oi := _) (v := ?_) rfl (by kernel_rfl) (by kernel_rfl) (by kernel_rfl) (by kernel_rfl) (by kernel_rfl) (fun _ _ _ h => h) (Or.inl ⟨by rfl, ?_⟩) (by assumption) ?_
          rotate_left
          · (intro w hSw; (try dsimp only at hSw); go_simp; (try with_reducible rfl))
          (try simp only [Act.put, List.setIfInBounds_toArray, List.set_cons_zero, List.set_cons_succ])
          refine HeldS.wpAnyS_ready (rs := [11]) (by kernel_rfl) (by simp) ?_
          refine HeldS.AllS.last (s := 11) (o := ⟨none, _, _, _, _, _⟩) rfl (fun K hK => ?_) HeldS.AllS.nil
          go_simp
          refine hK.out _ _ ?_
          clear hK K
          (try simp only [Act.put, List.setIfInBounds_toArray, List.set_cons_zero, List.set_cons_succ])
          refine HeldS.wpAnyS_done (by kernel_rfl) ?_ _
          clear hS5 hOW hZn hS10 f0 f1 f2 f3 ff hown hgr hbl R9 E9 N9 N8 N7 V7 hsv hmv R10 U10 Z10 us hnv hZ hV hR hu
          go_wp2_with fail
          go_roundw
          case rel => exact ⟨i + 1, _, _, by go_num, hil, s11, V11, R11, Z11, U11⟩
          case measure => simp [intOf]; omega
        · have hRl : Hid (ROwn M wr u qs ds) := Lib.hid (by
            have h1 := hR.out
            rw [List.take_of_length_le (by omega)] at h1
            exact h1)
          have hql : qs.length = ds.length := hRl.out.len
          have hYr := hY.out.upon hu.out (by omega)
          have hZr := hZ.out
          obtain ⟨Av, cv, hv', -, -⟩ := Rw.View.shape hRl.out.row.view
          rw [hql] at hv'
          subst hv'
          obtain ⟨e0, e1, e2, e3⟩ := hZr.cells
          obtain ⟨d0, d1, d2, d3⟩ := hYr.cells
          have z0 := hYr.frozen 0
          have z1 := hYr.frozen 1
          have z2 := hYr.frozen 2
          have z3 := hYr.frozen 3
          obtain ⟨⟨p1, r1⟩, ⟨p2, r2⟩, ⟨p3, r3⟩⟩ := hYr.roads ⟨.int .i64 f, .int .i64 til, .slice Au l.length cu, .slice Av ds.length cv⟩
          obtain ⟨wz, hwz⟩ : ∃ wz, setQuad (w.heap.size + 1) ⟨.int .i64 f, .int .i64 til, .slice Au l.length cu, .slice Av ds.length cv⟩ wr = wz := ⟨_, rfl⟩
          have hFz := (hYr.setAll ⟨.int .i64 f, .int .i64 til, .slice Au l.length cu, .slice Av ds.length cv⟩).cells
          rw [hwz] at hFz
          replace hFz := Lib.hid hFz
          have hAz : Upon (fun k => k = w.heap.size + 1) wr wz := by
            rw [← hwz]
            exact upon_setQuad (U := fun k => k = w.heap.size + 1) (g := w.heap.size + 1) (Upon.refl _ wr) (Or.inl rfl) _
          have hNz : Hid (New0 w wz) := Lib.hid (hnw.out.trans' hAz (fun i hi e => by omega))
          have hVz : Hid (BView wz (fun b => w.heap.size ≤ b) (.agg #[.int .i64 f, .int .i64 til, .slice Au l.length cu, .slice Av ds.length cv]) ⟨f, til, l, ds⟩) := Lib.hid
            ⟨⟨Au, l.length, cu⟩, ⟨Av, ds.length, cv⟩, rfl, Rw.DView.mono (Rw.DView.upon hV.out hAz (fun b hb e => by omega)) (fun b _ hb => by omega), Rw.DView.mono (Rw.DView.upon hRl.out.view hAz (fun b hb e => by omega)) (fun b _ hb => by omega)⟩
          have hwz' : Hid ((((wr.setCell ⟨w.heap.size + 1, 0, none⟩ (.int .i64 f)).setCell ⟨w.heap.size + 1, 1, none⟩ (.int .i64 til)).setCell ⟨w.heap.size + 1, 2, none⟩ (.slice Au l.length cu)).setCell ⟨w.heap.size + 1, 3, none⟩ (.slice Av ds.length cv) = wz) := Lib.hid hwz
          clear hwz hAz hR hRl hV hZ hYr hZr hu hXr hds hdb hnw hql
          go_wp2_with fail
          rw [hwz'.out]
          obtain ⟨s0, s1, s2, s3⟩ := hFz.out
          clear p1 r1 p2 r2 p3 r3 d0 d1 d2 d3 z0 z1 z2 z3 e0 e1 e2 e3 k0 k1 k2 k3
          refine bodyPost_ret (v := .agg #[.int .i64 f, .int .i64 til, .slice Au l.length cu, .slice Av ds.length cv]) (by simp [results, Tryz.results9, go_sem, s0, s1, s2, s3]) rfl ?_
          exact ⟨_, rfl, hVz.out, hNz.out⟩
end Bk
end Go.Proofs.YtlgjbcmloochiaaGreatDoor
