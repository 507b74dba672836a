/- PostingsFinds (layer 14). -/
import Derived.Test.YtklgdllllboipaaPoWorks
import Derived.Test.YtklgdllllboipaaPoOpen
set_option maxRecDepth 100000
namespace Go.Proofs.Ytklgdllllboipaa
open Go.RowKit Go.Sort
namespace Po
open Bit Dsk Ob Dig
set_option linter.unusedVariables false
set_option linter.unusedSimpArgs false
/-- A block with room for n pairs. -/
def PBlk (w : World) (g n : Nat) : Prop := ∃ cur, w.heap[g]? = some (.cells cur 28 (0, 0)) ∧ n * 2 ≤ cur.size ∧ n ≤ 1000
theorem PBlk.lt {w : World} {g n : Nat} (h : PBlk w g n) : g < w.heap.size := let ⟨cur, h1, _⟩ := h; (Array.getElem?_eq_some_iff.1 h1).1
theorem PBlk.kept {w w' : World} {g n : Nat} (h : PBlk w g n) (hk : w'.heap[g]? = w.heap[g]?) : PBlk w' g n := let ⟨cur, h1, h2⟩ := h; ⟨cur, hk.trans h1, h2⟩
theorem PBlk.set {w : World} {g n g' o : Nat} (h : PBlk w g n) (v : Value) : PBlk (w.setCell ⟨g', o, none⟩ v) g n := by
  obtain ⟨cur, h1, h2⟩ := h
  by_cases e : g' = g
  · subst e
    exact ⟨cur.setIfInBounds o v, by simp [World.setCell, Array.getElem?_modify, h1], by simpa using h2⟩
  · exact ⟨cur, by simp [World.setCell, Array.getElem?_modify, h1, e], h2⟩
theorem PBlk.cell {w : World} {g n k : Nat} (h : PBlk w g n) (hk : k < n) : (∃ a, w.cell? ⟨g, k * 2, none⟩ = some a) ∧ (∃ a, w.cell? ⟨g, k * 2 + 1, none⟩ = some a) ∧ w.frozen? ⟨g, k * 2, none⟩ = false ∧ w.frozen? ⟨g, k * 2 + 1, none⟩ = false := by
  obtain ⟨cur, h1, h2, -⟩ := h
  have a1 : k * 2 < cur.size := by omega
  have a2 : k * 2 + 1 < cur.size := by omega
  exact ⟨⟨cur[k * 2], by simp [World.cell?, h1, a1]⟩, ⟨cur[k * 2 + 1], by simp [World.cell?, h1, a2]⟩, by simp [World.frozen?, h1], by simp [World.frozen?, h1]⟩
/-- The law's own rows, as they are being copied. -/
structure OwnR (w : World) (p0 : Nat) (u : Value) (ss : List Rw.Sl) (rs : List (List Lb.Pr)) : Prop where
  rws : Rws w p0 u ss rs
  blk : ∀ s ∈ ss, ∃ g, s.a = some ⟨g, 0, none⟩ ∧ p0 < g ∧ PBlk w g s.n
theorem step_appendG {α : Type} {L : Rw.Lay α} {sT T : TypeId} {bytes : Nat} (ty : Rw.Typ L sT T bytes) {w : World} {ops : Array Oper} {o : Oper} {a : Act} {K : Act → World → Prop} {Q : Exit → Act → World → Prop} {E : Prop} (hw : Region.wanted o (yielded ops a.tmps) = true) (sl x : Operand)
    (ho : o.op = .call { callee := .builtin .append, args := #[sl, x], argTypes := #[sT, sT] })
    (v xv : Value) (l m : List α) (S : Nat → Prop) (hs : a.eval sl = v) (hx : a.eval x = xv) (hown : Rw.Mine L T w v l) (hxv : Rw.View L w S xv m) (hlen : (l.length + m.length) * bytes ≤ 140737488355328) (hcount : l.length + m.length ≤ 140737488355328)
    (h : ∀ v' w', Rw.Mine L T w' v' (l ++ m) → w.grownBy w' v.ownBlock → (v'.ownBlock = v.ownBlock ∨ v'.ownBlock = some w.heap.size) → K (a.put o.dst v') w') :
    if Region.wanted o (yielded ops a.tmps) = true then Oper.wp Try.prog o a w K Q else E := by
  rw [if_pos hw]
  obtain ⟨v', w', hr, h2, h3, h4⟩ := Rw.run_append ty hown hxv hlen hcount o.type
  unfold Oper.wp execOp
  simp only [ho, resolve, invoke, builtin, Sem.run_bind, Sem.run_pure, Result.andThen_ok, List.map_toArray, List.map_cons, List.map_nil, hs, hx, hr]
  exact h v' w' h2 h3 h4
theorem OwnR.new {w w' : World} {p0 : Nat} {u : Value} {ss : List Rw.Sl} {rs : List (List Lb.Pr)} (h : OwnR w p0 u ss rs) (hu : New0 w w') : OwnR w' p0 u ss rs :=
  ⟨h.rws.new hu, fun s hs => let ⟨g, k1, k2, k3⟩ := h.blk s hs; ⟨g, k1, k2, k3.kept (hu.block g k3.lt (fun f => f))⟩⟩
theorem row_ne {w : World} {u : Value} {ss : List Rw.Sl} {g n : Nat} (h : Rw.Mine layS 29 w u ss) (k : PBlk w g n) : u.ownBlock ≠ some g := fun e => by
  obtain ⟨cs, e1⟩ := Rw.Mine.typ h e
  obtain ⟨cur, e2, -⟩ := k
  exact type_ne (by decide) e1 e2 rfl
theorem OwnR.app {w w' : World} {p0 : Nat} {u u' : Value} {ss : List Rw.Sl} {rs : List (List Lb.Pr)} {c : Rw.Sl} {r : List Lb.Pr} (h : OwnR w p0 u ss rs) (hp : p0 < w.heap.size) (hx : Lb.View w (fun b => p0 < b ∧ u.ownBlock ≠ some b) c.v r) (hc : ∃ g, c.a = some ⟨g, 0, none⟩ ∧ p0 < g ∧ PBlk w g c.n)
    (hown : Rw.Mine layS 29 w' u' (ss ++ [c])) (hg : w.grownBy w' u.ownBlock) (hb : u'.ownBlock = u.ownBlock ∨ u'.ownBlock = some w.heap.size) : OwnR w' p0 u' (ss ++ [c]) (rs ++ [r]) := by
  have key : ∀ s : Rw.Sl, (∃ g, s.a = some ⟨g, 0, none⟩ ∧ p0 < g ∧ PBlk w g s.n) → ∃ g, s.a = some ⟨g, 0, none⟩ ∧ p0 < g ∧ PBlk w' g s.n := fun s ⟨g, k1, k2, k3⟩ => ⟨g, k1, k2, k3.kept (hg.block g k3.lt (fun e => row_ne h.rws.mine k3 e.symm))⟩
  refine ⟨h.rws.app hp hx hown hg hb, fun s hs => ?_⟩
  rcases List.mem_append.1 hs with hs | hs
  · exact key s (h.blk s hs)
  · rw [List.mem_singleton.1 hs]; exact key c hc
theorem Idx.below {w w' : World} {p : Nat} {x : Value} {rs : List (List Lb.Pr)} (h : Idx w p x rs) (hu : Upon (fun k => k < p) w w') : Idx w' p x rs := by
  obtain ⟨h1, h2⟩ := h
  refine ⟨Rw.DView.upon h1 hu (fun b k1 k2 => by omega), h2.imp (fun k => k.upon hu (by omega)) fun ⟨b, f, k1, k2, k3, k4⟩ => ⟨b, f, k1, k2.upon hu (by omega), k3.kept (hu.block b k3.lt (by omega)), fun q => ⟨(k4 q).1.upon hu (fun g hg e => by have := (k4 q).2 g hg; omega), (k4 q).2⟩⟩⟩
/-- While the law's own rows are wiped. -/
structure Wipe (w0 z w : World) (p : Nat) (x u : Value) (ss : List Rw.Sl) (rs : List (List Lb.Pr)) : Prop where
  mine : Rw.Mine layS 29 w u ss
  blk : ∀ s ∈ ss, ∃ g, s.a = some ⟨g, 0, none⟩ ∧ w0.heap.size < g ∧ g < p ∧ PBlk w g s.n
  idx : Idx w p x rs
  up : Upon (fun k => w0.heap.size < k ∧ k < p) z w
theorem Wipe.set {w0 z w : World} {p : Nat} {x u : Value} {ss : List Rw.Sl} {rs : List (List Lb.Pr)} {s : Rw.Sl} (h : Wipe w0 z w p x u ss rs) (hs : s ∈ ss) {g : Nat} (hg : s.a = some ⟨g, 0, none⟩) (o : Nat) (v : Value) : Wipe w0 z (w.setCell ⟨g, o, none⟩ v) p x u ss rs := by
  obtain ⟨g', k1, k2, k3, k4⟩ := h.blk s hs
  obtain rfl : g' = g := by rw [k1] at hg; injection hg with hg; injection hg
  have hu : Upon (fun k => k = g') w (w.setCell ⟨g', o, none⟩ v) := setP w g' o v
  exact ⟨h.mine.upon hu (fun b hb e => row_ne h.mine k4 (e ▸ hb)), fun t ht => let ⟨g2, e1, e2, e3, e4⟩ := h.blk t ht; ⟨g2, e1, e2, e3, e4.set v⟩, h.idx.below (hu.mono fun k _ e => by omega), h.up.trans (hu.mono fun k _ e => by omega)⟩
set_option maxHeartbeats 12800000 in
theorem finds_true (w : World) (rv lv qv : Value) (hr : IsRows rv w) (hl : Mt.IsMs lv w) (hq : IsPair qv w) :
    Calls Try.prog 4 #[rv, lv, qv] w fun e w' => e = .returned (.bool true) ∧ Below w.heap.size w w' := by
  obtain ⟨rs, Vr, hz⟩ := hr
  obtain ⟨l, Vl, Bl, nl⟩ := hl
  obtain ⟨⟨s1, s2⟩, rfl, hsz⟩ := hq
  obtain ⟨A, c, rfl, -, -⟩ := Rw.DView.shape Vr
  obtain ⟨A2, c2, rfl, -, -⟩ := Rw.View.shape Vl
  unfold prV
  simp only
  have hU : Hid (New0 w (w.alloc (.cells #[.string s1, .string s2] 28 (0, 0)))) := Lib.hid ((Upon.refl _ w).alloc _)
  by_cases h0 : 100 < rs.length
  · have d0 : (100 : Int) < (rs.length : Int) := by omega
    go_enter Try.func4, Try.ntmps4
    go_wp2_with fail
    go_ret
    exact ⟨rfl, belowNew hU.out⟩
  have d0 : ¬ (100 : Int) < (rs.length : Int) := by omega
  by_cases h1 : 50 < l.length
  · have d1 : (50 : Int) < (l.length : Int) := by omega
    go_enter Try.func4, Try.ntmps4
    go_wp2_with fail
    go_ret
    exact ⟨rfl, belowNew hU.out⟩
  have d1 : ¬ (50 : Int) < (l.length : Int) := by omega
  have Wr : Hid (PView (w.alloc (.cells #[.string s1, .string s2] 28 (0, 0))) (fun b => b < w.heap.size) (.slice A rs.length c) rs) := Lib.hid (Rw.DView.new (Rw.DView.mono Vr fun b h _ => h) hU.out)
  have Wl : Hid (Mt.View (w.alloc (.cells #[.string s1, .string s2] 28 (0, 0))) (fun b => b < w.heap.size) (.slice A2 l.length c2) l) := Lib.hid (Rw.View.new (Rw.View.mono Vl fun b h _ => h) hU.out)
  have hc : Hid ((w.alloc (.cells #[.string s1, .string s2] 28 (0, 0))).heap[w.heap.size]? = some (.cells #[.string s1, .string s2] 28 (0, 0))) := Lib.hid (cell_new w _)
  have hcl : (w.alloc (.cells #[.string s1, .string s2] 28 (0, 0))).heap.size = w.heap.size + 1 := by simp
  replace hz := Lib.hid hz
  clear Vr Vl
  go_enter Try.func4, Try.ntmps4
  go_wp2_with fail
  clear d0 d1
  generalize w.alloc (.cells #[.string s1, .string s2] 28 (0, 0)) = w1 at *
  go_loopw [7, 8] (fun uv ov wr => ∃ (j : Nat) (ss : List Rw.Sl), ov = .int .i64 (j : Int) ∧ j ≤ rs.length ∧ Hid (∀ r ∈ rs.take j, r.length ≤ 50) ∧ Hid (OwnR wr w.heap.size uv ss (rs.take j)) ∧ Hid (New0 w1 wr)) (fun _ ov _ => rs.length - (intOf ov).toNat)
  case atStart => exact ⟨0, [], rfl, Nat.zero_le _, Lib.hid (fun r hr => absurd hr (by simp)), Lib.hid ⟨Rws.none _ _, fun s hs => absurd hs (by simp)⟩, Lib.hid (Upon.refl _ _)⟩
  case round =>
    obtain ⟨j, ss, rfl, hj, hfew, ho, hw⟩ := hrel
    obtain ⟨Au, cu, hu1, -, -⟩ := Rw.View.shape ho.out.rws.mine.view
    subst hu1
    by_cases hlt : j < rs.length
    · obtain ⟨b, off, A', c', rfl, x0, hrow⟩ := PView.at (Rw.DView.new Wr.out hw.out) hlt
      have hnx := Lib.hid (fun (h : rs[j].length ≤ 50) => (show ∀ r ∈ rs.take (j + 1), r.length ≤ 50 from fun r hr => by
        rw [List.take_add_one, List.getElem?_eq_getElem hlt, List.mem_append] at hr
        rcases hr with hr | hr
        · exact hfew.out r hr
        · rw [show r = rs[j] by simpa using hr]; exact h))
      have hst : Hid (rs.take (j + 1) = rs.take j ++ [rs[j]]) := Lib.hid (by rw [List.take_add_one, List.getElem?_eq_getElem hlt]; rfl)
      have hssn : Hid (ss.length ≤ 100) := Lib.hid (by rw [ho.out.rws.len, List.length_take]; omega)
      obtain ⟨row, hrw⟩ : ∃ r, rs[j] = r := ⟨_, rfl⟩
      rw [hrw] at x0 hnx hrow hst
      clear hrw hfew
      by_cases h50 : 50 < row.length
      · have d5 : (50 : Int) < (row.length : Int) := by omega
        have hE := Lib.hid (belowNew (hU.out.trans hw.out))
        clear hnx hU Wr ho hrow
        go_wp2_with fail
        go_ret
        exact ⟨rfl, hE.out⟩
      · have d5 : ¬ (50 : Int) < (row.length : Int) := by omega
        have hG := Lib.hid (hnx.out (by omega))
        have hpwr : w.heap.size < wr.heap.size := by have := hw.out.size; omega
        have me := Lib.hid (Rw.Mine.empty Lb.layPr (T := 28) (cell_new wr (.cells #[] 28 (0, 0))))
        have u0 : Hid (New0 wr (wr.alloc (.cells #[] 28 (0, 0)))) := Lib.hid ((Upon.refl _ wr).alloc _)
        have hrow2 := Lib.hid (Rw.View.new hrow u0.out)
        have x1 := Lb.New0.cells u0.out x0
        clear hnx hrow
        go_wp2_with (at_builtin; refine Rw.wpList_append Lb.typPr rfl _ _ rfl _ _ [] row _ rfl rfl me.out hrow2.out (by rw [List.length_nil]; omega) (by rw [List.length_nil]; omega) ?_)
        intro v1 w2 hm1 hg1 hb1
        have hn1 : New0 wr w2 := Upon.grown u0.out hg1 (fun g hg => .inr (by have := Option.some.inj hg; simp at this; omega))
        have hf1 : ∃ g, v1.ownBlock = some g ∧ wr.heap.size ≤ g := by
          rcases hb1 with hb1 | hb1
          · exact ⟨wr.heap.size, hb1.trans rfl, Nat.le_refl _⟩
          · exact ⟨_, hb1, by omega⟩
        obtain ⟨g1, hg1o, hg1l⟩ := hf1
        rcases Rw.Mine.shape hm1 with ⟨rfl, -⟩ | ⟨g, cv, rfl, hcv, -, hglt⟩
        · cases hg1o
        obtain rfl : g = g1 := Option.some.inj hg1o
        have hblk : PBlk w2 g row.length := by
          rcases hm1.2 with ⟨h, -⟩ | ⟨g', c', cur, e1, -, e3, e4, -, e6, -⟩
          · cases h
          · injection e1 with e1 _ _
            injection e1 with e1
            injection e1 with e1
            subst e1
            exact ⟨cur, e3, by rw [e6]; show row.length * 2 ≤ c' * 2; omega, by omega⟩
        have hn3 : New0 wr (w2.alloc (.cells #[.slice (some ⟨g, 0, none⟩) row.length cv] 29 (0, 0))) := hn1.alloc _
        have ho3 := Lib.hid (ho.out.new hn3)
        have hX := Lib.hid (view_sl w2 ⟨some ⟨g, 0, none⟩, row.length, cv⟩)
        have hx3 : Hid (Lb.View (w2.alloc (.cells #[.slice (some ⟨g, 0, none⟩) row.length cv] 29 (0, 0))) (fun b => w.heap.size < b ∧ (Value.slice Au ss.length cu).ownBlock ≠ some b) (.slice (some ⟨g, 0, none⟩) row.length cv) row) := Lib.hid (Rw.View.mono (hm1.new ((Upon.refl _ w2).alloc _)).view fun b _ hb => by
          obtain rfl : g = b := Option.some.inj hb
          exact ⟨by omega, fun e => by have := ho.out.rws.mine.lt e; omega⟩)
        have hc3 : Hid (∃ g', (⟨some ⟨g, 0, none⟩, row.length, cv⟩ : Rw.Sl).a = some ⟨g', 0, none⟩ ∧ w.heap.size < g' ∧ PBlk (w2.alloc (.cells #[.slice (some ⟨g, 0, none⟩) row.length cv] 29 (0, 0))) g' row.length) := Lib.hid ⟨g, rfl, by omega, hblk.kept (((Upon.refl (fun _ => False) w2).alloc _).block g hglt (fun f => f))⟩
        have hp3 : w.heap.size < (w2.alloc (.cells #[.slice (some ⟨g, 0, none⟩) row.length cv] 29 (0, 0))).heap.size := by have := hn3.size; omega
        replace hn3 := Lib.hid (hw.out.trans hn3)
        clear hm1 hg1 hb1 hn1 hg1o hg1l hblk u0 me hrow2 ho hw x0 x1
        go_wp2_with (at_builtin; refine Rw.wpList_append typS rfl _ _ rfl _ _ ss [⟨some ⟨g, 0, none⟩, row.length, cv⟩] All rfl rfl ho3.out.rws.mine hX.out (by have := hssn.out; rw [List.length_singleton]; omega) (by have := hssn.out; rw [List.length_singleton]; omega) ?_)
        intro v4 w4 hown hgr hbl
        have hO := Lib.hid (ho3.out.app hp3 hx3.out hc3.out hown hgr (hbl.imp id fun h => h.trans (by simp)))
        have hw4 : Hid (New0 w1 w4) := Lib.hid (Upon.grown hn3.out hgr (fun k hk => .inr (by have h1 := ho3.out.rws.base k hk; omega)))
        rw [← hst.out] at hO
        clear hown hgr hbl ho3 hX hx3 hc3 hp3 hn3 hst hssn
        obtain ⟨A6, c6, hv6, -, -⟩ := Rw.View.shape hO.out.rws.mine.view
        subst hv6
        go_wp2_with fail
        go_roundw
        case rel => exact ⟨j + 1, _, by go_num, hlt, hG, hO, hw4⟩
        case measure => simp [intOf]; omega
    · have hF : Few rs := ⟨by omega, fun r hr => by have := hfew.out r (by rw [List.take_of_length_le (by omega)]; exact hr); omega, hz.out⟩
      have ho1 := ho.out
      rw [List.take_of_length_le (by omega)] at ho1
      have hssl := Lib.hid ho1.rws.len
      have HN := Lib.hid (new_any _ _ rs (Rw.DView.all ho1.rws.view) (by have := hF.rows; omega) (fun r hr => by have := hF.row r hr; omega))
      have hws := hw.out.size
      clear hfew ho
      go_wp2_with fail
      refine HN.out.mono ?_
      rintro e z1 hNE
      obtain ⟨p, x, rfl, hp, hI, hN⟩ := hNE.idx
      have hpw : w.heap.size < p := by omega
      have hW : Hid (Wipe w z1 z1 p x (.slice Au ss.length cu) ss rs) := Lib.hid ⟨ho1.rws.mine.new hN, fun s hs => by
        obtain ⟨g, k1, k2, k3⟩ := ho1.blk s hs
        exact ⟨g, k1, k2, Nat.lt_of_lt_of_le k3.lt hp, k3.kept (hN.block g k3.lt (fun f => f))⟩, hI, Upon.refl _ _⟩
      have Vr : Hid (PView z1 (fun b => b < w.heap.size) (.slice A rs.length c) rs) := Lib.hid (Rw.DView.new (Rw.DView.new Wr.out hw.out) hN)
      have Vl : Hid (Mt.View z1 (fun b => b < w.heap.size) (.slice A2 l.length c2) l) := Lib.hid (Rw.View.new (Rw.View.new Wl.out hw.out) hN)
      have hc1 : Hid (z1.heap[w.heap.size]? = some (.cells #[.string s1, .string s2] 28 (0, 0))) := Lib.hid (((hw.out.trans hN).block _ (by omega) (fun f => f)).trans hc.out)
      have hcz : w.heap.size < z1.heap.size := by have := hN.size; omega
      replace hU := Lib.hid ((hU.out.trans hw.out).trans hN)
      clear hNE HN hN hp hI ho1 Wr Wl hc hw hws hcl
      go_wp2_with fail
      go_loopw [10] (fun ov wr => ∃ i : Nat, ov = .int .i64 (i : Int) ∧ i ≤ ss.length ∧ Hid (Wipe w z1 wr p x (.slice Au ss.length cu) ss rs)) (fun ov _ => ss.length - (intOf ov).toNat)
      case atStart => exact ⟨0, rfl, Nat.zero_le _, hW⟩
      case round =>
        clear hW
        obtain ⟨i, rfl, hi, hW⟩ := hrel
        have hsn : ss.length ≤ 1000 := by have h2 := hF.rows; have h3 := hssl.out; omega
        by_cases hli : i < ss.length
        · obtain ⟨gu, ou, hAu, hcu⟩ := SView.cells hW.out.mine.view (by omega)
          have x0 := hcu i hli
          obtain ⟨g, hg1, hg2, hg3, hg4⟩ := hW.out.blk _ (List.getElem_mem hli)
          have hmem := Lib.hid (List.getElem_mem hli)
          obtain ⟨⟨sa, sn, sc⟩, hs⟩ : ∃ s, ss[i] = s := ⟨_, rfl⟩
          rw [hs] at x0 hg1 hg4 hmem
          simp only at hg1 hg4 x0
          subst hg1
          have hug : ¬ gu = g := fun e => row_ne hW.out.mine hg4 (by rw [hAu, e]; rfl)
          have hAu2 := Lib.hid hAu
          subst hAu
          clear hcu hs hg4
          obtain ⟨wo, hwo⟩ : ∃ wo, wo = wr := ⟨_, rfl⟩
          subst hwo
          have hX0 := Lib.hid x0
          go_wp2_with fail
          clear x0
          go_loopw [11] (fun ov wr => ∃ k : Nat, ov = .int .i64 (k : Int) ∧ k ≤ sn ∧ Hid (Wipe w z1 wr p x (.slice (some ⟨gu, ou, none⟩) ss.length cu) ss rs) ∧ Hid (wr.cell? ⟨gu, ou + i, none⟩ = some (.slice (some ⟨g, 0, none⟩) sn sc))) (fun ov _ => sn - (intOf ov).toNat)
          case atStart => exact ⟨0, rfl, Nat.zero_le _, hW, hX0⟩
          case round =>
            clear hW hX0
            obtain ⟨k, rfl, hk, hW, hX⟩ := hrel
            have x0 := hX.out
            by_cases hlk : k < sn
            · obtain ⟨g', e1, e2, e3, e4⟩ := hW.out.blk _ hmem.out
              obtain rfl : g = g' := by simp only at e1; injection e1 with e1; injection e1
              obtain ⟨⟨a1, y1⟩, ⟨a2, y2⟩, f1, f2⟩ := e4.cell hlk
              have hsn2 : sn ≤ 1000 := let ⟨_, _, _, h⟩ := e4; h
              have hW2 := Lib.hid ((hW.out.set hmem.out rfl (k * 2) (.string ⟨#[]⟩)).set hmem.out rfl (k * 2 + 1) (.string ⟨#[]⟩))
              have hX2 := Lib.hid (cell_upon (setP _ g (k * 2 + 1) (.string ⟨#[]⟩)) (cell_upon (setP wr g (k * 2) (.string ⟨#[]⟩)) hX.out (by show ¬ gu = g; exact hug)) (by show ¬ gu = g; exact hug))
              clear hW hX e1 e2 e3 e4
              go_wp2_with fail
              go_roundw
              case rel => exact ⟨k + 1, by go_num, hlk, hW2, hX2⟩
              case measure => simp [intOf]; omega
            · obtain rfl : k = sn := by omega
              have hG := hW
              clear hW hX
              go_wp2_with fail
              go_roundw
              case rel => exact ⟨i + 1, by go_num, hli, hG⟩
              case measure => simp [intOf]; omega
        · have hUW := hW.out.up
          have hcz2 : w.heap.size < wr.heap.size := by have := hUW.size; omega
          have hcW := (hUW.block w.heap.size hcz (by omega)).trans hc1.out
          have hSf := Lib.hid (fun W' (hu : Upon (fun k => k = p) wr W') => (show W'.cell? ⟨w.heap.size, 0, none⟩ = some (.string s1) ∧ W'.cell? ⟨w.heap.size, 1, none⟩ = some (.string s2) from
            have h1 := (hu.block w.heap.size hcz2 (fun e => by omega)).trans hcW
            ⟨by rw [World.cell?, h1]; rfl, by rw [World.cell?, h1]; rfl⟩))
          have hSn := Lib.hid (fun W' (hu : New0 wr W') => hSf.out W' (hu.mono fun _ _ f => f.elim))
          have VrW := Lib.hid (Rw.DView.upon Vr.out hUW (fun b h1 h2 => by omega))
          have VlW := Lib.hid (Rw.View.upon Vl.out hUW (fun b h1 h2 => by omega))
          have hI := hW.out.idx
          have hpl := hI.lt
          replace hI := Lib.hid hI
          have hUw := Lib.hid (hU.out.trans' hUW (fun k h1 h2 => by omega))
          have hl50 : l.length ≤ 50 := by omega
          clear hW hUW hcW Vr Vl hU hc1
          go_wp2_with fail
          refine HeldS.wp_region_S 18 (S := fun w' => w'.cell? ⟨w.heap.size, 0, none⟩ = some (.string s1) ∧ w'.cell? ⟨w.heap.size, 1, none⟩ = some (.string s2)) (by kernel_rfl) (hSn.out _ ((Upon.refl _ wr).drew)) (fun hHeld => ?_)
          refine HeldS.wpAnyS_take (i := 0) [17, 7, 6, 2] (oi := _) (v := ?_) rfl (by kernel_rfl) (by kernel_rfl) (by kernel_rfl) (by kernel_rfl) (by kernel_rfl) (fun _ _ _ h => h) (Or.inl ⟨by rfl, ?_⟩) (by assumption) ?_
          rotate_left
          · (intro w hSw; (try dsimp only at hSw); go_simp; (try with_reducible rfl))
          (try simp only [Act.put, List.setIfInBounds_toArray, List.set_cons_zero, List.set_cons_succ])
          refine HeldS.wpAnyS_take (i := 1) [17, 7, 6, 2] (oi := _) (v := ?_) rfl (by kernel_rfl) (by kernel_rfl) (by kernel_rfl) (by kernel_rfl) (by kernel_rfl) (fun _ _ _ h => h) (Or.inl ⟨by rfl, ?_⟩) (by assumption) ?_
          rotate_left
          · (intro w hSw; (try dsimp only at hSw); go_simp; (try with_reducible rfl))
          (try simp only [Act.put, List.setIfInBounds_toArray, List.set_cons_zero, List.set_cons_succ])
          refine HeldS.wpAnyS_take (i := 3) [17, 7, 6, 5] (oi := _) (v := ?_) rfl (by kernel_rfl) (by kernel_rfl) (by kernel_rfl) (by kernel_rfl) (by kernel_rfl) (fun _ _ _ h => h) (Or.inl ⟨by rfl, ?_⟩) (by assumption) ?_
          rotate_left
          · (intro w hSw; (try dsimp only at hSw); go_simp; (try with_reducible rfl))
          (try simp only [Act.put, List.setIfInBounds_toArray, List.set_cons_zero, List.set_cons_succ])
          refine HeldS.wpAnyS_take (i := 4) [17, 7, 6, 5] (oi := _) (v := ?_) rfl (by kernel_rfl) (by kernel_rfl) (by kernel_rfl) (by kernel_rfl) (by kernel_rfl) (fun _ _ _ h => h) (Or.inl ⟨by rfl, ?_⟩) (by assumption) ?_
          rotate_left
          · (intro w hSw; (try dsimp only at hSw); go_simp; (try with_reducible rfl))
          (try simp only [Act.put, List.setIfInBounds_toArray, List.set_cons_zero, List.set_cons_succ])
          refine HeldS.wpAnyS_ready (rs := [2]) (by kernel_rfl) (by simp) ?_
          refine HeldS.AllS.cons (o := ⟨some 69, _, _, _, _, _⟩) rfl (fun K hK => ?_) HeldS.AllS.nil
          have HC := of_any wr.drew p x rs (s1, s2) (hI.out.new ((Upon.refl _ wr).drew)) hF hsz
          go_simp
          go_at_call 16
          refine HC.mono ?_
          rintro e z2 ⟨v2, rfl, V2, I2, U2⟩
          clear HC
          have u2 := Lib.hid (((Upon.refl (fun k => k = p) wr).drew).trans U2)
          have R2 := Lib.hid (Rw.DView.upon VrW.out u2.out (fun b h1 h2 => by omega))
          replace V2 := Lib.hid V2
          replace I2 := Lib.hid I2
          clear U2
          go_simp
          refine hK.out _ _ (hSf.out _ u2.out) (fun hHeld => ?_)
          clear hK K
          (try simp only [Act.put, List.setIfInBounds_toArray, List.set_cons_zero, List.set_cons_succ])
          refine HeldS.wpAnyS_ready (rs := [5]) (by kernel_rfl) (by simp) ?_
          refine HeldS.AllS.cons (o := ⟨some 72, _, _, _, _, _⟩) rfl (fun K hK => ?_) HeldS.AllS.nil
          have HC := refof_any z2 _ _ rs (s1, s2) R2.out hF
          go_simp
          go_at_call 17
          refine HC.mono ?_
          rintro e z3 ⟨v3, rfl, o3⟩
          clear HC
          have u3 := Lib.hid (u2.out.trans (o3.new.mono fun _ _ f => f.elim))
          replace V2 := Lib.hid (Rw.View.new V2.out o3.new)
          have I3 := Lib.hid (I2.out.new o3.new)
          have R3 := Lib.hid (Rw.DView.new R2.out o3.new)
          have V3 := Lib.hid o3.mine.view
          clear o3 u2 R2 I2
          go_simp
          refine hK.out _ _ (hSf.out _ u3.out) (fun hHeld => ?_)
          clear hK K
          (try simp only [Act.put, List.setIfInBounds_toArray, List.set_cons_zero, List.set_cons_succ])
          refine HeldS.wpAnyS_ready (rs := [6]) (by kernel_rfl) (by simp) ?_
          refine HeldS.AllS.cons (o := ⟨some 73, _, _, _, _, _⟩) rfl (fun K hK => ?_) HeldS.AllS.nil
          have HC := same_any z3 _ _ _ _ _ _ V2.out V3.out
          go_simp
          go_at_call 8
          refine HC.mono ?_
          rintro e z4 ⟨rfl, n4⟩
          clear HC
          have u4 := Lib.hid (u3.out.trans (n4.mono fun _ _ f => f.elim))
          have I4 := Lib.hid (I3.out.new n4)
          have R4 := Lib.hid (Rw.DView.new R3.out n4)
          rw [decide_eq_true rfl]
          clear n4 u3 R3 I3 V2 V3
          go_simp
          refine hK.out _ _ (hSf.out _ u4.out) (fun hHeld => ?_)
          clear hK K
          (try simp only [Act.put, List.setIfInBounds_toArray, List.set_cons_zero, List.set_cons_succ])
          refine HeldS.wpAnyS_take (i := 7) [17] (oi := _) (v := ?_) rfl (by kernel_rfl) (by kernel_rfl) (by kernel_rfl) (by kernel_rfl) (by kernel_rfl) (fun _ _ _ h => h) (Or.inl ⟨by rfl, ?_⟩) (by assumption) ?_
          rotate_left
          · (intro w hSw; (try dsimp only at hSw); go_simp; (try with_reducible rfl))
          (try simp only [Act.put, List.setIfInBounds_toArray, List.set_cons_zero, List.set_cons_succ])
          refine HeldS.wpAnyS_take (i := 8) [17, 16, 12] (oi := _) (v := ?_) rfl (by kernel_rfl) (by kernel_rfl) (by kernel_rfl) (by kernel_rfl) (by kernel_rfl) (fun _ _ _ h => h) (Or.inl ⟨by rfl, ?_⟩) (by assumption) ?_
          rotate_left
          · (intro w hSw; (try dsimp only at hSw); go_simp; (try with_reducible rfl))
          (try simp only [Act.put, List.setIfInBounds_toArray, List.set_cons_zero, List.set_cons_succ])
          refine HeldS.wpAnyS_take (i := 10) [17, 16, 12, 11] (oi := _) (v := ?_) rfl (by kernel_rfl) (by kernel_rfl) (by kernel_rfl) (by kernel_rfl) (by kernel_rfl) (fun _ _ _ h => h) (Or.inl ⟨by rfl, ?_⟩) (by assumption) ?_
          rotate_left
          · (intro w hSw; (try dsimp only at hSw); go_simp; (try with_reducible rfl))
          (try simp only [Act.put, List.setIfInBounds_toArray, List.set_cons_zero, List.set_cons_succ])
          refine HeldS.wpAnyS_take (i := 13) [17, 16, 15] (oi := _) (v := ?_) rfl (by kernel_rfl) (by kernel_rfl) (by kernel_rfl) (by kernel_rfl) (by kernel_rfl) (fun _ _ _ h => h) (Or.inl ⟨by rfl, ?_⟩) (by assumption) ?_
          rotate_left
          · (intro w hSw; (try dsimp only at hSw); go_simp; (try with_reducible rfl))
          (try simp only [Act.put, List.setIfInBounds_toArray, List.set_cons_zero, List.set_cons_succ])
          refine HeldS.wpAnyS_take (i := 14) [17, 16, 15] (oi := _) (v := ?_) rfl (by kernel_rfl) (by kernel_rfl) (by kernel_rfl) (by kernel_rfl) (by kernel_rfl) (fun _ _ _ h => h) (Or.inl ⟨by rfl, ?_⟩) (by assumption) ?_
          rotate_left
          · (intro w hSw; (try dsimp only at hSw); go_simp; (try with_reducible rfl))
          (try simp only [Act.put, List.setIfInBounds_toArray, List.set_cons_zero, List.set_cons_succ])
          have n5 : New0 z4 (z4.alloc (.cells #[] 41 (0, 0))) := (Upon.refl _ z4).alloc _
          have me := Rw.Mine.empty Mt.layM (T := 41) (cell_new z4 (.cells #[] 41 (0, 0)))
          have l5 := Rw.View.upon VlW.out (u4.out.trans (n5.mono fun _ _ f => f.elim)) (fun b h1 h2 => by omega)
          refine HeldS.wpAnyS_ready (rs := [9]) (by kernel_rfl) (by simp) ?_
          refine HeldS.AllS.cons (o := ⟨some 76, _, _, _, _, _⟩) rfl (fun K hK => ?_) HeldS.AllS.nil
          go_simp
          refine hK.out _ _ (hSf.out _ (u4.out.trans (n5.mono fun _ _ f => f.elim))) (fun hHeld => ?_)
          clear hK K
          (try simp only [Act.put, List.setIfInBounds_toArray, List.set_cons_zero, List.set_cons_succ])
          have hp4 : p < z4.heap.size := I4.out.lt
          refine HeldS.wpAnyS_ready (rs := [11]) (by kernel_rfl) (by simp) ?_
          refine HeldS.AllS.cons (o := ⟨some 78, _, _, _, _, _⟩) rfl (fun K hK => ?_) HeldS.AllS.nil
          refine step_appendG Mt.typM (o := ⟨some 78, _, _, _, _, _⟩) (by rfl) _ _ (by rfl) (.slice (some ⟨z4.heap.size, 0, none⟩) 0 0) _ [] l _ (by rfl) (by rfl) me l5 (by rw [List.length_nil]; omega) (by rw [List.length_nil]; omega) ?_
          intro v6 z6 hown hg hbl
          have n6 : New0 z4 z6 := Upon.grown n5 hg (fun k hk => .inr (by have := Option.some.inj hk; simp at this; omega))
          have hv6 : ∀ k, v6.ownBlock = some k → z4.heap.size ≤ k := fun k hk => by
            rcases hbl with hb | hb
            · have h1 := hb.symm.trans hk
              have h2 := Option.some.inj h1
              simp at h2
              omega
            · rw [hb] at hk
              have h2 := Option.some.inj hk
              simp at h2
              omega
          have V6 : Hid (Mt.View z6 (fun b => b ≠ p) v6 l) := Lib.hid (Rw.View.mono (Rw.Mine.view (l := l) hown) fun b _ hb => by have := hv6 b hb; omega)
          have u6 := Lib.hid (u4.out.trans (n6.mono fun _ _ f => f.elim))
          have I6 := Lib.hid (I4.out.new n6)
          have R6 := Lib.hid (Rw.DView.new R4.out n6)
          obtain ⟨A6, c6, hvv, -, -⟩ := Rw.View.shape V6.out
          subst hvv
          refine hK.out _ _ (hSf.out _ u6.out) (fun hHeld => ?_)
          clear hK K hown hg hbl hv6 n6 n5 me l5 u4 I4 R4 hp4
          (try simp only [Act.put, List.setIfInBounds_toArray, List.set_cons_zero, List.set_cons_succ])
          refine HeldS.wpAnyS_ready (rs := [12]) (by kernel_rfl) (by simp) ?_
          refine HeldS.AllS.cons (o := ⟨some 79, _, _, _, _, _⟩) rfl (fun K hK => ?_) HeldS.AllS.nil
          have HC := find_any z6 p x rs _ l I6.out hF V6.out Bl
          go_simp
          go_at_call 18
          refine HC.mono ?_
          rintro e z7 ⟨v7, rfl, V7, I7, U7⟩
          clear HC
          have u7 := Lib.hid (u6.out.trans U7)
          have R7 := Lib.hid (Rw.DView.upon R6.out U7 (fun b h1 h2 => by omega))
          have L7 := Lib.hid (Rw.View.upon VlW.out u7.out (fun b h1 h2 => by omega))
          replace V7 := Lib.hid V7
          clear U7 I7 u6 I6 R6 V6
          go_simp
          refine hK.out _ _ (hSf.out _ u7.out) (fun hHeld => ?_)
          clear hK K
          (try simp only [Act.put, List.setIfInBounds_toArray, List.set_cons_zero, List.set_cons_succ])
          refine HeldS.wpAnyS_ready (rs := [15]) (by kernel_rfl) (by simp) ?_
          refine HeldS.AllS.cons (o := ⟨some 82, _, _, _, _, _⟩) rfl (fun K hK => ?_) HeldS.AllS.nil
          have HC := reffind_any z7 _ _ _ _ rs l R7.out (by have := hF.rows; omega) L7.out Bl
          go_simp
          go_at_call 19
          refine HC.mono ?_
          rintro e z8 ⟨v8, rfl, o8⟩
          clear HC
          have u8 := Lib.hid (u7.out.trans (o8.new.mono fun _ _ f => f.elim))
          replace V7 := Lib.hid (Rw.View.new V7.out o8.new)
          have V8 := Lib.hid o8.mine.view
          clear o8 u7 R7 L7
          go_simp
          refine hK.out _ _ (hSf.out _ u8.out) (fun hHeld => ?_)
          clear hK K
          (try simp only [Act.put, List.setIfInBounds_toArray, List.set_cons_zero, List.set_cons_succ])
          refine HeldS.wpAnyS_ready (rs := [16]) (by kernel_rfl) (by simp) ?_
          refine HeldS.AllS.cons (o := ⟨some 83, _, _, _, _, _⟩) rfl (fun K hK => ?_) HeldS.AllS.nil
          have HC := same_any z8 _ _ _ _ _ _ V7.out V8.out
          go_simp
          go_at_call 8
          refine HC.mono ?_
          rintro e z9 ⟨rfl, n9⟩
          clear HC
          have u9 := Lib.hid (u8.out.trans (n9.mono fun _ _ f => f.elim))
          rw [decide_eq_true rfl]
          clear n9 u8 V7 V8
          go_simp
          refine hK.out _ _ (hSf.out _ u9.out) (fun hHeld => ?_)
          clear hK K
          (try simp only [Act.put, List.setIfInBounds_toArray, List.set_cons_zero, List.set_cons_succ])
          refine HeldS.wpAnyS_take (i := 17) [] (oi := _) (v := ?_) rfl (by kernel_rfl) (by kernel_rfl) (by kernel_rfl) (by kernel_rfl) (by kernel_rfl) (fun _ _ _ h => h) (Or.inl ⟨by rfl, ?_⟩) (by assumption) ?_
          rotate_left
          · (intro w hSw; (try dsimp only at hSw); go_simp; (try with_reducible rfl))
          (try simp only [Act.put, List.setIfInBounds_toArray, List.set_cons_zero, List.set_cons_succ])
          have hE := Lib.hid (belowNew (hUw.out.trans' u9.out (fun k h1 h2 => by omega)))
          refine HeldS.wpAnyS_ready (rs := [18]) (by kernel_rfl) (by simp) ?_
          refine HeldS.AllS.last (s := 18) (o := ⟨some 6, _, _, _, _, _⟩) rfl (fun K hK => ?_) HeldS.AllS.nil
          go_simp
          refine hK.out _ _ ?_
          clear hK K hHeld u9 hUw hSf hSn VrW VlW hI
          (try simp only [Act.put, List.setIfInBounds_toArray, List.set_cons_zero, List.set_cons_succ])
          refine HeldS.wpAnyS_done (by kernel_rfl) ?_ _
          go_wp2_with fail
          go_ret
          exact ⟨rfl, hE.out⟩
end Po
end Go.Proofs.Ytklgdllllboipaa
