/- Rows of rows of pairs; slices.Clone at pairs; the program's New (layer 14). -/
import Derived.Test.YtklgdllllboipaaPoOnce
import Derived.Test.YtklgdllllboipaaPHeld
import Derived.Deep.RegionLaw
set_option maxRecDepth 100000
namespace Go.Proofs.Ytklgdllllboipaa
open Go.RowKit Go.Sort
namespace Po
open Bit Dsk Ob Dig
set_option linter.unusedVariables false
set_option linter.unusedSimpArgs false
set_option maxHeartbeats 1600000 in
theorem clonePr_any (w : World) (S : Nat → Prop) (v : Value) (l : List Lb.Pr) (hv : Rw.View Lb.layPr w S v l) (hn : l.length * 32 ≤ 140737488355328) :
    Calls Try.prog 26 #[v] w fun e w' => ∃ u : Rw.Sl, e = .returned u.v ∧ Lb.Mine w' u.v l ∧ (∀ b, u.v.ownBlock = some b → w.heap.size ≤ b) ∧ New0 w w' := by
  obtain ⟨A, c, rfl, -, -⟩ := Rw.View.shape hv
  cases A with
  | none =>
    have h0 : Hid (l = []) := Lib.hid (by
      obtain ⟨A', c', h1, h2, h3, h4⟩ := hv
      by_cases hp : 0 < l.length
      · obtain ⟨b, off, k1, -⟩ := h4 hp
        injection h1 with h1
        rw [← h1] at k1; cases k1
      · exact List.length_eq_zero_iff.1 (by omega))
    have hq := fun W => Lib.run_eql_slice_nil (P := Try.prog) W 29 28 none l.length c 0 0 Try.underlying29
    clear hv
    go_enter Try.func26, Try.ntmps26
    go_wp2_with fail
    go_ret
    exact ⟨⟨none, 0, 0⟩, rfl, (by rw [h0.out]; exact Rw.Mine.nil _ _ _), (fun b h => (by cases h)), Upon.refl _ _⟩
  | some a =>
    have hq := fun W => Lib.run_eql_slice_nil (P := Try.prog) W 29 28 (some a) l.length c 0 0 Try.underlying29
    replace hv := Lib.hid (Rw.View.new hv ((Upon.refl _ w).alloc (.cells #[] 28 (0, 0))))
    have hme := Lib.hid (Rw.Mine.empty Lb.layPr (cell_new w (.cells #[] 28 (0, 0))))
    go_enter Try.func26, Try.ntmps26
    go_wp2_with (at_builtin; refine Rw.wpList_append Lb.typPr rfl _ _ rfl _ _ [] l S rfl rfl hme.out hv.out (by rw [List.length_nil]; omega) (by rw [List.length_nil]; omega) ?_)
    intro v' w2 hown hg hb
    have hu2 : New0 w w2 := Upon.grown ((Upon.refl (fun _ => False) w).alloc _) hg (fun k hk => .inr (by
      have hk' : w.heap.size = k := by simpa [Value.ownBlock] using hk
      omega))
    have hmine : ∀ g, v'.ownBlock = some g → w.heap.size ≤ g := fun g hk => by
      rw [hk] at hb
      rcases hb with hb | hb
      · have : g = w.heap.size := by simpa [Value.ownBlock] using hb
        omega
      · have : g = w.heap.size + 1 := by simpa using hb
        omega
    replace hown : Lb.Mine w2 v' l := hown
    obtain ⟨A3, c3, rfl, -, -⟩ := Rw.View.shape hown.view
    replace hown := Lib.hid hown
    replace hu2 := Lib.hid hu2
    replace hmine := Lib.hid hmine
    clear hg hb hv
    go_wp2_with fail
    go_ret
    exact ⟨⟨A3, l.length, c3⟩, rfl, hown.out, hmine.out, hu2.out⟩
def innP : Rw.Inner Rw.Sl (List Lb.Pr) := ⟨fun w S s l => Lb.View w S s.v l, fun h hu hd => Rw.View.upon h hu hd, fun h hS => Rw.View.mono h hS⟩
abbrev PView := Rw.DView layS innP
theorem typS : Rw.Typ layS 25 29 24 := Rw.Typ.mk' (z := .slice none 0 0) Try.underlying25 (by kernel_rfl) rfl
theorem PView.at {w : World} {S : Nat → Prop} {A : Option Addr} {n c : Nat} {L : List (List Lb.Pr)} (h : PView w S (.slice A n c) L) {i : Nat} (hi : i < L.length) :
    ∃ b off A' c', A = some ⟨b, off, none⟩ ∧ w.cell? ⟨b, off + i, none⟩ = some (.slice A' L[i].length c') ∧ Lb.View w S (.slice A' L[i].length c') L[i] := by
  obtain ⟨b, off, h1, -, h3⟩ := Rw.DView.open h (by omega)
  obtain ⟨r, h4, h5⟩ := h3 i hi
  have h6 := h5 0 _ rfl
  obtain ⟨A', c', h7, -, -⟩ := Rw.View.shape h4
  have h8 : Lb.View w S r.v L[i] := h4
  rw [h7] at h8
  refine ⟨b, off, A', c', h1, ?_, h8⟩
  rw [← h7]
  simpa [layS] using h6
/-- The rows of an index at block p: a row of the call's own, and its rows', all younger than p. -/
structure Rws (w : World) (p : Nat) (u : Value) (ss : List Rw.Sl) (rs : List (List Lb.Pr)) : Prop where
  mine : Rw.Mine layS 29 w u ss
  len : ss.length = rs.length
  els : ∀ i (h1 : i < ss.length) (h2 : i < rs.length), Lb.View w (fun b => p < b ∧ u.ownBlock ≠ some b) ss[i].v rs[i]
  base : ∀ g, u.ownBlock = some g → p < g
theorem Rws.none (w : World) (p : Nat) : Rws w p (.slice none 0 0) [] [] := ⟨Rw.Mine.nil _ _ _, rfl, fun i h1 => absurd h1 (by simp), fun g h => (by cases h)⟩
theorem Rws.upon {w w' : World} {p : Nat} {u : Value} {ss : List Rw.Sl} {rs : List (List Lb.Pr)} (h : Rws w p u ss rs) (hu : Upon (fun k => k = p) w w') : Rws w' p u ss rs :=
  ⟨h.mine.upon hu (fun b hb e => by have := h.base b hb; omega), h.len, fun i h1 h2 => Rw.View.upon (h.els i h1 h2) hu (fun b hb e => by have := hb.1; omega), h.base⟩
theorem Rws.new {w w' : World} {p : Nat} {u : Value} {ss : List Rw.Sl} {rs : List (List Lb.Pr)} (h : Rws w p u ss rs) (hu : New0 w w') : Rws w' p u ss rs := h.upon (hu.mono fun _ _ f => f.elim)
theorem Rws.app {w w' : World} {p : Nat} {u u' : Value} {ss : List Rw.Sl} {rs : List (List Lb.Pr)} {c : Rw.Sl} {r : List Lb.Pr} (h : Rws w p u ss rs) (hp : p < w.heap.size) (hx : Lb.View w (fun b => p < b ∧ u.ownBlock ≠ some b) c.v r)
    (hown : Rw.Mine layS 29 w' u' (ss ++ [c])) (hg : w.grownBy w' u.ownBlock) (hb : u'.ownBlock = u.ownBlock ∨ u'.ownBlock = some w.heap.size) : Rws w' p u' (ss ++ [c]) (rs ++ [r]) := by
  have hu : Upon (fun x => u.ownBlock = some x) w w' := Upon.grown (Upon.refl _ w) hg (fun k hk => .inl hk)
  have hne : ∀ x, x < w.heap.size → u.ownBlock ≠ some x → u'.ownBlock ≠ some x := fun x hx hn e => by
    rcases hb with hb | hb
    · exact hn (hb.symm.trans e)
    · rw [hb] at e
      injection e with e
      omega
  have key : ∀ (s : Rw.Sl) (l : List Lb.Pr), Lb.View w (fun b => p < b ∧ u.ownBlock ≠ some b) s.v l → Lb.View w' (fun b => p < b ∧ u'.ownBlock ≠ some b) s.v l := fun s l hv => by
    have h1 : Lb.View w (fun b => (p < b ∧ u.ownBlock ≠ some b) ∧ u'.ownBlock ≠ some b) s.v l := Rw.View.mono hv fun b k1 k2 => ⟨k2, hne b k1 k2.2⟩
    exact Rw.View.mono (Rw.View.upon h1 hu fun b k1 e => k1.1.2 e) fun b _ k => ⟨k.1.1, k.2⟩
  refine ⟨hown, by simp [h.len], fun i k1 k2 => ?_, fun g hk => ?_⟩
  · by_cases hi : i < ss.length
    · rw [List.getElem_append_left hi, List.getElem_append_left (by have := h.len; omega)]
      exact key _ _ (h.els i hi (by have := h.len; omega))
    · have e : i = ss.length := by rw [List.length_append, List.length_singleton] at k1; omega
      subst e
      have e1 : (ss ++ [c])[ss.length]'k1 = c := by simp
      have e2 : (rs ++ [r])[ss.length]'k2 = r := by
        have : (rs ++ [r])[rs.length]'(by simp) = r := by simp
        simp only [h.len]; exact this
      rw [e1, e2]
      exact key _ _ hx
  · rcases hb with hb | hb
    · exact h.base g (hb.symm.trans hk)
    · rw [hb] at hk
      injection hk with hk
      omega
/-- It reads as the rows, out of blocks that are not p. -/
theorem Rws.view {w : World} {p : Nat} {u : Value} {ss : List Rw.Sl} {rs : List (List Lb.Pr)} (h : Rws w p u ss rs) : PView w (fun b => p < b) u rs :=
  ⟨ss, h.mine.view.mono fun b _ hb => h.base b hb, h.len, fun i k1 k2 => Rw.View.mono (h.els i k1 k2) fun b _ hb => hb.1⟩
/-- What New gives: an index in a new block, not yet asked. -/
def NewE (w : World) (rs : List (List Lb.Pr)) (e : Ending) (w' : World) : Prop := ∃ (p : Nat) (u : Value) (ss : List Rw.Sl), e = .returned (.pointer (some ⟨p, 0, none⟩)) ∧ w.heap.size ≤ p ∧ IxB p u 0 0 (.map none) w' ∧ Rws w' p u ss rs ∧ New0 w w'
theorem view_sl (w : World) (s : Rw.Sl) : Rw.View layS (w.alloc (.cells #[s.v] 29 (0, 0))) All (.slice (some ⟨w.heap.size, 0, none⟩) 1 1) [s] := by
  refine ⟨_, 1, rfl, Nat.le_refl _, by unfold maxLen; omega, fun _ => ⟨_, 0, rfl, trivial, fun i hi t u ht => ?_⟩⟩
  have hi' : i = 0 := by simp at hi; omega
  subst hi'
  have ht' : t = 0 := by have := (List.getElem?_eq_some_iff.1 ht).1; simp [layS] at this; omega
  subst ht'
  have ht2 : u = s.v := by simpa [layS] using ht.symm
  rw [ht2]
  have hc := cell_new w (.cells #[s.v] 29 (0, 0))
  have h2 : (w.alloc (.cells #[s.v] 29 (0, 0))).cell? ⟨w.heap.size, 0, none⟩ = some s.v := by unfold World.cell?; rw [hc]; rfl
  exact h2
set_option maxHeartbeats 6400000 in
theorem new_any (w : World) (v : Value) (rs : List (List Lb.Pr)) (hv : PView w All v rs) (hn : rs.length ≤ 1000) (hl : ∀ r ∈ rs, r.length ≤ 1000) :
    Calls Try.prog 15 #[v] w (NewE w rs) := by
  obtain ⟨A, c, rfl, -, -⟩ := Rw.DView.shape hv
  replace hv := Lib.hid hv
  have hx0 : Hid (IxB w.heap.size (.slice none 0 0) 0 0 (.map none) (w.alloc (.cells #[.slice none 0 0, .int .u32 0, .int .i32 0, .int .u32 0, .map none] 62 (0, 0)))) := Lib.hid (cell_new w _)
  have hu0 : Hid (New0 w (w.alloc (.cells #[.slice none 0 0, .int .u32 0, .int .i32 0, .int .u32 0, .map none] 62 (0, 0)))) := Lib.hid ((Upon.refl _ w).alloc _)
  replace hl := Lib.hid hl
  go_enter Try.func15, Try.ntmps15
  go_wp2_with fail
  obtain ⟨p, hp⟩ : ∃ p, w.heap.size = p := ⟨_, rfl⟩
  rw [hp] at hx0 ⊢
  generalize w.alloc (.cells #[.slice none 0 0, .int .u32 0, .int .i32 0, .int .u32 0, .map none] 62 (0, 0)) = w1 at *
  replace hp := Lib.hid hp
  go_loopw [10] (fun ov wr => ∃ (j : Nat) (u : Value) (ss : List Rw.Sl), ov = .int .i64 (j : Int) ∧ j ≤ rs.length ∧ Hid (IxB p u 0 0 (.map none) wr) ∧ Hid (Rws wr p u ss (rs.take j)) ∧ Hid (New0 w wr)) (fun ov _ => rs.length - (intOf ov).toNat)
  case atStart => exact ⟨0, _, [], rfl, Nat.zero_le _, hx0, Lib.hid (Rws.none _ _), hu0⟩
  case round =>
    clear hx0 hu0
    obtain ⟨j, u, ss, rfl, hj, hX, hR, hU⟩ := hrel
    by_cases hlt : j < rs.length
    · obtain ⟨b, off, A', c', rfl, x0, hrow⟩ := PView.at (Rw.DView.new hv.out hU.out) hlt
      have hrl : rs[j].length ≤ 1000 := hl.out _ (List.getElem_mem hlt)
      have HC := Lib.hid (fun W' (hu : New0 wr W') => clonePr_any W' All _ rs[j] (Rw.View.new hrow hu) (by omega))
      have hst : Hid (rs.take (j + 1) = rs.take j ++ [rs[j]]) := Lib.hid (by rw [List.take_add_one, List.getElem?_eq_getElem hlt]; rfl)
      have hssn : Hid (ss.length ≤ 1000) := Lib.hid (by rw [hR.out.len, List.length_take]; omega)
      obtain ⟨row, hrw⟩ : ∃ r, rs[j] = r := ⟨_, rfl⟩
      rw [hrw] at x0 HC hst
      clear hrow hrl hrw
      have hS := Lib.hid (fun W' (hu : New0 wr W') => (show W'.cell? ⟨p, 0, none⟩ = some u ∧ W'.frozen? ⟨p, 0, none⟩ = false from ⟨(hX.out.new hu).cells.1, (hX.out.new hu).frozen 0⟩))
      obtain ⟨Au, cu, hu1, -, -⟩ := Rw.View.shape hR.out.mine.view
      subst hu1
      go_wp2_with fail
      refine HeldS.wp_region_S 11 (S := fun w' => w'.cell? ⟨p, 0, none⟩ = some (.slice Au ss.length cu) ∧ w'.frozen? ⟨p, 0, none⟩ = false) (by kernel_rfl) (hS.out _ ((Upon.refl _ wr).drew)) (fun hHeld => ?_)
      refine HeldS.wpAnyS_take (i := 0) [10, 9] (oi := _) (v := ?_) rfl (by kernel_rfl) (by kernel_rfl) (by kernel_rfl) (by kernel_rfl) (by kernel_rfl) (fun _ _ _ h => h) (Or.inl ⟨by rfl, ?_⟩) (by assumption) ?_
      rotate_left
      · (intro w hSw; (try dsimp only at hSw); go_simp; (try with_reducible rfl))
      (try simp only [Act.put, List.setIfInBounds_toArray, List.set_cons_zero, List.set_cons_succ])
      refine HeldS.wpAnyS_take (i := 1) [8, 4, 3, 2] (oi := _) (v := ?_) rfl (by kernel_rfl) (by kernel_rfl) (by kernel_rfl) (by kernel_rfl) (by kernel_rfl) (fun _ _ _ h => h) (Or.inl ⟨by rfl, ?_⟩) (by assumption) ?_
      rotate_left
      · (intro w hSw; (try dsimp only at hSw); go_simp; (try with_reducible rfl))
      (try simp only [Act.put, List.setIfInBounds_toArray, List.set_cons_zero, List.set_cons_succ])
      refine HeldS.wpAnyS_take (i := 2) [8, 4, 3] (oi := _) (v := ?_) rfl (by kernel_rfl) (by kernel_rfl) (by kernel_rfl) (by kernel_rfl) (by kernel_rfl) (fun _ _ _ h => h) (Or.inl ⟨by rfl, ?_⟩) (by assumption) ?_
      rotate_left
      · (intro w hSw; (try dsimp only at hSw); go_simp; (try with_reducible rfl))
      (try simp only [Act.put, List.setIfInBounds_toArray, List.set_cons_zero, List.set_cons_succ])
      refine HeldS.wpAnyS_take (i := 3) [8, 4] (oi := _) (v := ?_) rfl (by kernel_rfl) (by kernel_rfl) (by kernel_rfl) (by kernel_rfl) (by kernel_rfl) (fun _ _ _ h => h) (Or.inl ⟨by rfl, ?_⟩) (by assumption) ?_
      rotate_left
      · (intro w hSw; (try dsimp only at hSw); go_simp; (try with_reducible rfl))
      (try simp only [Act.put, List.setIfInBounds_toArray, List.set_cons_zero, List.set_cons_succ])
      refine HeldS.wpAnyS_take (i := 4) [8] (oi := _) (v := ?_) rfl (by kernel_rfl) (by kernel_rfl) (by kernel_rfl) (by kernel_rfl) (by kernel_rfl) (fun _ _ _ h => h) (Or.inl ⟨by rfl, ?_⟩) (by assumption) ?_
      rotate_left
      · (intro w hSw; (try dsimp only at hSw); go_simp; (try with_reducible rfl))
      (try simp only [Act.put, List.setIfInBounds_toArray, List.set_cons_zero, List.set_cons_succ])
      refine HeldS.wpAnyS_take (i := 5) [8, 7, 6] (oi := _) (v := ?_) rfl (by kernel_rfl) (by kernel_rfl) (by kernel_rfl) (by kernel_rfl) (by kernel_rfl) (fun _ _ _ h => h) (Or.inl ⟨by rfl, ?_⟩) (by assumption) ?_
      rotate_left
      · (intro w hSw; (try dsimp only at hSw); go_simp; (try with_reducible rfl))
      (try simp only [Act.put, List.setIfInBounds_toArray, List.set_cons_zero, List.set_cons_succ])
      refine HeldS.wpAnyS_ready (rs := [6]) (by kernel_rfl) (by simp) ?_
      refine HeldS.AllS.cons (o := ⟨some 20, _, _, _, _, _⟩) rfl (fun K hK => ?_) HeldS.AllS.nil
      go_simp
      go_at_call 26
      refine (HC.out _ ((Upon.refl _ wr).drew)).mono ?_
      rintro e w7 ⟨⟨A7, n7, c7⟩, rfl, hm7, hb7, hu7⟩
      have hn7 : New0 wr w7 := ((Upon.refl _ wr).drew).trans hu7
      go_simp
      refine hK.out _ _ (hS.out _ hn7) (fun hHeld => ?_)
      clear hK K
      (try simp only [Act.put, List.setIfInBounds_toArray, List.set_cons_zero, List.set_cons_succ])
      have hn8 : New0 wr (w7.alloc (.cells #[.slice A7 n7 c7] 29 (0, 0))) := hn7.alloc _
      refine HeldS.wpAnyS_ready (rs := [7]) (by kernel_rfl) (by simp) ?_
      refine HeldS.AllS.cons (o := ⟨some 21, _, _, _, _, _⟩) rfl (fun K hK => ?_) HeldS.AllS.nil
      go_simp
      refine hK.out _ _ (hS.out _ hn8) (fun hHeld => ?_)
      clear hK K
      (try simp only [Act.put, List.setIfInBounds_toArray, List.set_cons_zero, List.set_cons_succ])
      have hR8 := hR.out.new hn8
      have hv8 := view_sl w7 ⟨A7, n7, c7⟩
      have hp8 : p < (w7.alloc (.cells #[.slice A7 n7 c7] 29 (0, 0))).heap.size := by have := hX.out.lt; have := hn8.size; omega
      have hx8 : Lb.View (w7.alloc (.cells #[.slice A7 n7 c7] 29 (0, 0))) (fun b => p < b ∧ (Value.slice Au ss.length cu).ownBlock ≠ some b) (.slice A7 n7 c7) row := Rw.View.mono ((hm7.new ((Upon.refl _ w7).alloc _)).view) fun b _ hb => by
        have h1 : wr.heap.size ≤ b := hb7 b hb
        have h2 := hX.out.lt
        exact ⟨by omega, fun e => by have h3 : b < wr.heap.size := hR.out.mine.lt e; omega⟩
      refine HeldS.wpAnyS_ready (rs := [8]) (by kernel_rfl) (by simp) ?_
      refine HeldS.AllS.cons (o := ⟨some 22, _, _, _, _, _⟩) rfl (fun K hK => ?_) HeldS.AllS.nil
      refine Rw.step_append typS (o := ⟨some 22, _, _, _, _, _⟩) (by rfl) _ _ (by rfl) (.slice Au ss.length cu) _ ss [⟨A7, n7, c7⟩] All (by rfl) (by rfl) hR8.mine hv8 (by have := hssn.out; rw [List.length_singleton]; omega) (by have := hssn.out; rw [List.length_singleton]; omega) ?_
      intro v' x hown hg hbl
      have hR9 := hR8.app hp8 hx8 hown hg hbl
      rw [← hst.out] at hR9
      have hux : New0 w x := Upon.grown (hU.out.trans hn8) hg (fun k hk => .inr (by have h1 := hR.out.base k hk; have h2 := hp.out; omega))
      have hXx : IxB p (.slice Au ss.length cu) 0 0 (.map none) x := (hX.out.new hn8).grown hg (fun e => by have := hR.out.base p e; omega)
      obtain ⟨A8, c8, hv8', -, -⟩ := Rw.View.shape hown.view
      subst hv8'
      refine hK.out _ _ ⟨hXx.cells.1, hXx.frozen 0⟩ (fun hHeld => ?_)
      clear hK K
      (try simp only [Act.put, List.setIfInBounds_toArray, List.set_cons_zero, List.set_cons_succ])
      refine HeldS.wpAnyS_take (i := 9) [10] (oi := _) (v := ?_) rfl (by kernel_rfl) (by kernel_rfl) (by kernel_rfl) (by kernel_rfl) (by kernel_rfl) (fun _ _ _ h => h) (Or.inl ⟨by rfl, ?_⟩) (by assumption) ?_
      rotate_left
      · (intro w hSw; (try dsimp only at hSw); go_simp; (try with_reducible rfl))
      (try simp only [Act.put, List.setIfInBounds_toArray, List.set_cons_zero, List.set_cons_succ])
      refine HeldS.wpAnyS_take (i := 10) [] (oi := _) (v := ?_) rfl (by kernel_rfl) (by kernel_rfl) (by kernel_rfl) (by kernel_rfl) (by kernel_rfl) (fun _ _ _ h => h) (Or.inl ⟨by rfl, ?_⟩) (by assumption) ?_
      rotate_left
      · (intro w hSw; (try dsimp only at hSw); go_simp; (try with_reducible rfl))
      (try simp only [Act.put, List.setIfInBounds_toArray, List.set_cons_zero, List.set_cons_succ])
      refine HeldS.wpAnyS_ready (rs := [11]) (by kernel_rfl) (by simp) ?_
      refine HeldS.AllS.last (s := 11) (o := ⟨none, _, _, _, _, _⟩) rfl (fun K hK => ?_) HeldS.AllS.nil
      obtain ⟨px1, pf1⟩ := hHeld
      have hXf := Lib.hid (hXx.set0 (.slice A8 (ss ++ [(⟨A7, n7, c7⟩ : Rw.Sl)]).length c8))
      have hRf := Lib.hid (hR9.upon (setP x p 0 (.slice A8 (ss ++ [(⟨A7, n7, c7⟩ : Rw.Sl)]).length c8)))
      have hUf := Lib.hid (hux.trans' (setP x p 0 (.slice A8 (ss ++ [(⟨A7, n7, c7⟩ : Rw.Sl)]).length c8)) (fun k h1 h2 => by have := hp.out; omega))
      have hl9 : (ss ++ [(⟨A7, n7, c7⟩ : Rw.Sl)]).length = ss.length + 1 := by simp
      rw [hl9] at hXf hRf hUf
      clear hR9 hux hXx hown hg hbl hx8 hp8 hv8 hR8 hn8 hn7 hm7 hb7 hu7 hS HC hX hR hU
      go_simp
      refine hK.out _ _ ?_
      clear hK K
      (try simp only [Act.put, List.setIfInBounds_toArray, List.set_cons_zero, List.set_cons_succ])
      refine HeldS.wpAnyS_done (by kernel_rfl) ?_ _
      go_wp2_with fail
      go_roundw
      case rel => exact ⟨j + 1, _, _, by go_num, hlt, hXf, hRf, hUf⟩
      case measure => simp [intOf]; omega
    · have hE : Hid (NewE w rs (.returned (.pointer (some ⟨p, 0, none⟩))) wr) := Lib.hid ⟨p, u, ss, rfl, by have := hp.out; omega, hX.out, by have := hR.out; rw [List.take_of_length_le (by omega)] at this; exact this, hU.out⟩
      clear hX hR hU hv hl
      go_wp2_with fail
      go_ret
      exact hE.out
end Po
end Go.Proofs.Ytklgdllllboipaa
