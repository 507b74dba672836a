/- The program's head (layer 13): a series' span. -/
import Derived.Test.YtfheehlfodoimaaGreatHdSearch
import Derived.Test.YtfheehlfodoimaaGreatPHeld
set_option maxRecDepth 100000
namespace Go.Proofs.YtfheehlfodoimaaGreat
open Go.RowKit Go.Sort
namespace Hd
open Bit Dsk Ob Dig Nm
set_option linter.unusedVariables false
set_option linter.unusedSimpArgs false
/-- A point's time. -/
def pT (pts : List Pt) (i : Nat) : Int := (pts[i]?.map (·.1)).getD 0
theorem pT_is {pts : List Pt} {i : Nat} (hi : i < pts.length) : pT pts i = pts[i].1 := by simp [pT, hi]
theorem pT_le {pts : List Pt} (hr : pts.Pairwise fun a b => a.1 < b.1) {i j : Nat} (hj : j < pts.length) (hij : i ≤ j) : pT pts i ≤ pT pts j := by
  rw [pT_is (by omega), pT_is hj]
  rcases Nat.lt_or_ge i j with h | h
  · exact Int.le_of_lt (List.pairwise_iff_getElem.1 hr i j (by omega) hj h)
  · have : i = j := by omega
    subst this; exact Int.le_refl _
/-- What a walk reads of a series' points. -/
structure PtsAt (W : World) (s : Nat) (pa : Option Addr) (pc : Nat) (pts : List Pt) : Prop where
  cell : W.cell? ⟨s, 1, none⟩ = some (.slice pa pts.length pc)
  mine : PMine W (.slice pa pts.length pc) pts
theorem PtsAt.new {W W' : World} {s : Nat} {pa : Option Addr} {pc : Nat} {pts : List Pt} (h : PtsAt W s pa pc pts) (hu : New0 W W') : PtsAt W' s pa pc pts := ⟨Lb.New0.cells hu h.cell, h.mine.new hu⟩
theorem PtsAt.time {W : World} {s : Nat} {pa : Option Addr} {pc : Nat} {pts : List Pt} (h : PtsAt W s pa pc pts) {i : Nat} (hi : i < pts.length) : ∃ g, pa = some ⟨g, 0, none⟩ ∧ W.cell? ⟨g, i * 2, none⟩ = some (.int .i64 (pT pts i)) := by
  rcases h.mine.shape with ⟨-, h2⟩ | ⟨g, c, h1, -⟩
  · rw [h2] at hi; exact absurd hi (by simp)
  · injection h1 with h1 h2 h3
    subst h1 h3
    refine ⟨g, rfl, ?_⟩
    rw [pT_is hi]
    exact Rw.Mine.cells h.mine hi (t := 0) rfl
theorem go64 (args : Array Value) (W : World) : (callFunc 82 args).run Tryz.prog W = .ok (.enter 82 args) W := by kernel_rfl
theorem go65 (args : Array Value) (W : World) : (callFunc 83 args).run Tryz.prog W = .ok (.enter 83 args) W := by kernel_rfl
set_option maxHeartbeats 1600000 in
theorem span1_any (W : World) (s B1 B2 : Nat) (pa : Option Addr) (pc : Nat) (pts : List Pt) (frm : Int) (h : PtsAt W s pa pc pts) (h1 : W.cell? ⟨B1, 0, none⟩ = some (.pointer (some ⟨s, 0, none⟩))) (h2 : W.cell? ⟨B2, 0, none⟩ = some (.int .i64 frm)) (i : Nat) (hi : i < pts.length) (hn : pts.length ≤ 1000000000) :
    Calls Tryz.prog 82 (#[.int .i64 (i : Int)] ++ #[.pointer (some ⟨B1, 0, none⟩), .pointer (some ⟨B2, 0, none⟩)]) W fun e w' => e = .returned (.bool (decide (frm ≤ pT pts i))) ∧ New0 W w' := by
  obtain ⟨g, rfl, c1⟩ := h.time hi
  have c2 := h.cell
  clear h
  generalize pT pts i = x at *
  go_enter Tryz.func82, Tryz.ntmps82
  go_wp2_with fail
  go_quiet (fail)
  go_wp2_with fail
  go_ret
  exact ⟨rfl, upon_drewN _ _ _⟩
set_option maxHeartbeats 1600000 in
theorem span2_any (W : World) (s B1 B2 B3 : Nat) (pa : Option Addr) (pc : Nat) (pts : List Pt) (bg : Nat) (til : Int) (h : PtsAt W s pa pc pts) (h1 : W.cell? ⟨B1, 0, none⟩ = some (.pointer (some ⟨s, 0, none⟩))) (h2 : W.cell? ⟨B2, 0, none⟩ = some (.int .i64 (bg : Int))) (h3 : W.cell? ⟨B3, 0, none⟩ = some (.int .i64 til)) (i : Nat) (hi : bg + i < pts.length) (hn : pts.length ≤ 1000000000) :
    Calls Tryz.prog 83 (#[.int .i64 (i : Int)] ++ #[.pointer (some ⟨B1, 0, none⟩), .pointer (some ⟨B2, 0, none⟩), .pointer (some ⟨B3, 0, none⟩)]) W fun e w' => e = .returned (.bool (decide (til < pT pts (bg + i)))) ∧ New0 W w' := by
  obtain ⟨g, rfl, c1⟩ := h.time hi
  have c2 := h.cell
  have c3 : W.cell? ⟨g, (bg + i) * 2, none⟩ = some (.int .i64 (pT pts (bg + i))) := c1
  have d1 : wrap64 ((bg : Int) + (i : Int)) = ((bg + i : Nat) : Int) := by unfold wrap64; omega
  clear h c1
  generalize pT pts (bg + i) = x at *
  go_enter Tryz.func83, Tryz.ntmps83
  go_wp2_with fail
  go_quiet (fail)
  go_wp2_with fail
  go_ret
  exact ⟨rfl, upon_drewN _ _ _⟩
/-- Where the points from one time to another one stand. -/
structure Spn (pts : List Pt) (a c : Int) (b e : Nat) : Prop where
  le : b ≤ e
  max : e ≤ pts.length
  lo : ∀ i, i < b → pT pts i < a
  up : ∀ i, b ≤ i → i < pts.length → a ≤ pT pts i
  mid : ∀ i, b ≤ i → i < e → pT pts i ≤ c
  hi : ∀ i, e ≤ i → i < pts.length → c < pT pts i
theorem Spn.of {pts : List Pt} {a c : Int} {b d : Nat} (h1 : Turn (fun i => decide (a ≤ pT pts i)) pts.length b) (h2 : Turn (fun i => decide (c < pT pts (b + i))) (pts.length - b) d) : Spn pts a c b (b + d) := by
  have q1 := h1.le
  have q2 := h2.le
  refine ⟨by omega, by omega, fun i hi => ?_, fun i k1 k2 => of_decide_eq_true (h1.yes i k1 k2), fun i k1 k2 => ?_, fun i k1 k2 => ?_⟩
  · have := of_decide_eq_false (h1.no i hi); omega
  · have := of_decide_eq_false (h2.no (i - b) (by omega))
    rw [show b + (i - b) = i by omega] at this
    omega
  · have := of_decide_eq_true (h2.yes (i - b) (by omega) (by omega))
    rw [show b + (i - b) = i by omega] at this
    exact this
set_option maxHeartbeats 3200000 in
theorem span_any (w : World) (s : Nat) (pa : Option Addr) (pc : Nat) (pts : List Pt) (a c : Int) (h : PtsAt w s pa pc pts) (hr : pts.Pairwise fun x y => x.1 < y.1) (hn : pts.length ≤ 1000000000) :
    Calls Tryz.prog 63 #[.pointer (some ⟨s, 0, none⟩), .int .i64 a, .int .i64 c] w fun e w' => ∃ b d : Nat, e = .returned (.tuple #[.int .i64 (b : Int), .int .i64 (d : Int)]) ∧ Spn pts a c b d ∧ New0 w w' := by
  obtain ⟨W, hW⟩ : ∃ W, ((w.alloc (.cells #[.pointer (some ⟨s, 0, none⟩)] 82 (0, 0))).alloc (.cells #[.int .i64 a] 2 (0, 0))).alloc (.cells #[.int .i64 c] 2 (0, 0)) = W := ⟨_, rfl⟩
  have u1 := (Upon.refl (fun _ => False) w).alloc (.cells #[.pointer (some ⟨s, 0, none⟩)] 82 (0, 0))
  have u2 := (Upon.refl (fun _ => False) (w.alloc (.cells #[.pointer (some ⟨s, 0, none⟩)] 82 (0, 0)))).alloc (.cells #[.int .i64 a] 2 (0, 0))
  have u3 := (Upon.refl (fun _ => False) ((w.alloc (.cells #[.pointer (some ⟨s, 0, none⟩)] 82 (0, 0))).alloc (.cells #[.int .i64 a] 2 (0, 0)))).alloc (.cells #[.int .i64 c] 2 (0, 0))
  have hn0 : New0 w W := by rw [← hW]; exact (u1.trans u2).trans u3
  have x1 : W.cell? ⟨w.heap.size, 0, none⟩ = some (.pointer (some ⟨s, 0, none⟩)) := by
    rw [← hW]; exact Lb.New0.cells (u2.trans u3) (by rw [Lib.cell_of_heap (cell_new w _)]; rfl)
  have x2 : W.cell? ⟨w.heap.size + 1, 0, none⟩ = some (.int .i64 a) := by
    rw [← hW]; exact Lb.New0.cells u3 (by have := cell_new (w.alloc (.cells #[.pointer (some ⟨s, 0, none⟩)] 82 (0, 0))) (.cells #[.int .i64 a] 2 (0, 0)); simp only [World.size_alloc] at this; rw [Lib.cell_of_heap this]; rfl)
  have x3 : W.cell? ⟨w.heap.size + 1 + 1, 0, none⟩ = some (.int .i64 c) := by
    rw [← hW]; have := cell_new ((w.alloc (.cells #[.pointer (some ⟨s, 0, none⟩)] 82 (0, 0))).alloc (.cells #[.int .i64 a] 2 (0, 0))) (.cells #[.int .i64 c] 2 (0, 0)); simp only [World.size_alloc] at this; rw [Lib.cell_of_heap this]; rfl
  have HP := Lib.hid (fun w1 (hu : New0 W w1) => h.new (hn0.trans hu))
  have hX := Lib.hid (fun w1 (hu : New0 W w1) => And.intro (Lb.New0.cells hu x1) (And.intro (Lb.New0.cells hu x2) (Lb.New0.cells hu x3)))
  have c1 := (HP.out W (Upon.refl _ _)).cell
  have HS1 := Lib.hid (search_any 82 #[.pointer (some ⟨w.heap.size, 0, none⟩), .pointer (some ⟨w.heap.size + 1, 0, none⟩)] pts.length (fun i => decide (a ≤ pT pts i)) W go64 hn
    (fun w1 hu i hi => span1_any w1 s _ _ pa pc pts a (HP.out w1 hu) (hX.out w1 hu).1 (hX.out w1 hu).2.1 i hi hn)
    (fun i j hij hj hp => by
      have k1 : a ≤ pT pts i := of_decide_eq_true hp
      have k2 := pT_le hr hj hij
      exact decide_eq_true (by omega)))
  have x1' : (((w.alloc (.cells #[.pointer (some ⟨s, 0, none⟩)] 82 (0, 0))).alloc (.cells #[.int .i64 a] 2 (0, 0))).alloc (.cells #[.int .i64 c] 2 (0, 0))).cell? ⟨w.heap.size, 0, none⟩ = some (.pointer (some ⟨s, 0, none⟩)) := by rw [hW]; exact x1
  have c1' : (((w.alloc (.cells #[.pointer (some ⟨s, 0, none⟩)] 82 (0, 0))).alloc (.cells #[.int .i64 a] 2 (0, 0))).alloc (.cells #[.int .i64 c] 2 (0, 0))).cell? ⟨s, 1, none⟩ = some (.slice pa pts.length pc) := by rw [hW]; exact c1
  replace hW := Lib.hid hW
  replace hr := Lib.hid hr
  replace hn0 := Lib.hid hn0
  clear h u1 u2 u3 x1 x2 x3 c1
  go_enter Tryz.func63, Tryz.ntmps63
  go_wp2_with fail
  rw [hW.out]
  refine HS1.out.mono ?_
  rintro e w2 ⟨b, rfl, hb, hu2⟩
  have hble := hb.le
  have ub := (Upon.refl (fun _ => False) w2).alloc (.cells #[.int .i64 (b : Int)] 3 (0, 0))
  have hn2 := hu2.trans ub
  have y0 : (w2.alloc (.cells #[.int .i64 (b : Int)] 3 (0, 0))).cell? ⟨w2.heap.size, 0, none⟩ = some (.int .i64 (b : Int)) := by rw [Lib.cell_of_heap (cell_new w2 _)]; rfl
  obtain ⟨V, hV⟩ : ∃ V, w2.alloc (.cells #[.int .i64 (b : Int)] 3 (0, 0)) = V := ⟨_, rfl⟩
  rw [hV] at hn2 y0
  have hY := Lib.hid (fun w1 (hu : New0 V w1) => And.intro (hX.out w1 (hn2.trans hu)).1 (And.intro (HP.out w1 (hn2.trans hu)).cell (Lb.New0.cells hu y0)))
  have HS2 : Hid (∀ w1, New0 V w1 → Calls Tryz.prog 81 #[.int .i64 ((pts.length - b : Nat) : Int), .func (.func 83) #[] #[.pointer (some ⟨w.heap.size, 0, none⟩), .pointer (some ⟨w2.heap.size, 0, none⟩), .pointer (some ⟨w.heap.size + 1 + 1, 0, none⟩)]] w1 fun e w' => ∃ r : Nat, e = .returned (.int .i64 (r : Int)) ∧ Turn (fun i => decide (c < pT pts (b + i))) (pts.length - b) r ∧ New0 w1 w') := Lib.hid (fun w1 hu =>
    search_any 83 _ (pts.length - b) (fun i => decide (c < pT pts (b + i))) w1 go65 (by omega)
      (fun w3 hu3 i hi => span2_any w3 s _ _ _ pa pc pts b c (HP.out w3 (hn2.trans (hu.trans hu3))) (hX.out w3 (hn2.trans (hu.trans hu3))).1 (Lb.New0.cells (hu.trans hu3) y0) (hX.out w3 (hn2.trans (hu.trans hu3))).2.2 i (by omega) hn)
      (fun i j hij hj hp => by
        have k1 : c < pT pts (b + i) := of_decide_eq_true hp
        have k2 := pT_le hr.out (i := b + i) (j := b + j) (by omega) (by omega)
        exact decide_eq_true (by omega)))
  have hsub0 : wrap64 ((pts.length : Int) - (b : Int)) = ((pts.length - b : Nat) : Int) := by unfold wrap64; omega
  have hsub : IntKind.i64.wrap ((pts.length : Int) - (b : Int)) = ((pts.length - b : Nat) : Int) := (IntWalk.i64_left _).trans hsub0
  have hnV := Lib.hid (hn0.out.trans hn2)
  replace hb := Lib.hid hb
  replace hV := Lib.hid hV
  clear HS1 HP hX x1' c1' hu2 ub hn2 hn0 y0
  go_wp2_with fail
  rw [hV.out]
  go_cut [9] from 17 to 25 (fun sv wc => ∃ d : Nat, sv = .int .i64 (d : Int) ∧ Hid (Turn (fun i => decide (c < pT pts (b + i))) (pts.length - b) d) ∧ Hid (New0 V wc))
  case first =>
    refine HeldS.wp_region_S 9 (S := fun w' => w'.cell? ⟨w.heap.size, 0, none⟩ = some (.pointer (some ⟨s, 0, none⟩)) ∧ w'.cell? ⟨s, 1, none⟩ = some (.slice pa pts.length pc) ∧ w'.cell? ⟨w2.heap.size, 0, none⟩ = some (.int .i64 (b : Int))) (by kernel_rfl) (hY.out _ ((Upon.refl _ V).drew)) (fun hHeld => ?_)
    refine HeldS.wpAnyS_take (i := 0) [8, 6, 4, 3, 2, 1] (oi := _) (v := ?_) rfl (by kernel_rfl) (by kernel_rfl) (by kernel_rfl) (by kernel_rfl) (by kernel_rfl) (fun _ _ _ h => h) (Or.inl ⟨by rfl, ?_⟩) (by assumption) ?_
    rotate_left
    · (intro w hSw; (try dsimp only at hSw); go_simp; (try with_reducible rfl))
    (try simp only [Act.put, List.setIfInBounds_toArray, List.set_cons_zero, List.set_cons_succ])
    refine HeldS.wpAnyS_take (i := 1) [8, 6, 4, 3, 2] (oi := _) (v := ?_) rfl (by kernel_rfl) (by kernel_rfl) (by kernel_rfl) (by kernel_rfl) (by kernel_rfl) (fun _ _ _ h => h) (Or.inl ⟨by rfl, ?_⟩) (by assumption) ?_
    rotate_left
    · (intro w hSw; (try dsimp only at hSw); go_simp; (try with_reducible rfl))
    (try simp only [Act.put, List.setIfInBounds_toArray, List.set_cons_zero, List.set_cons_succ])
    refine HeldS.wpAnyS_take (i := 2) [8, 6, 4, 3] (oi := _) (v := ?_) rfl (by kernel_rfl) (by kernel_rfl) (by kernel_rfl) (by kernel_rfl) (by kernel_rfl) (fun _ _ _ h => h) (Or.inl ⟨by rfl, ?_⟩) (by assumption) ?_
    rotate_left
    · (intro w hSw; (try dsimp only at hSw); go_simp; (try with_reducible rfl))
    (try simp only [Act.put, List.setIfInBounds_toArray, List.set_cons_zero, List.set_cons_succ])
    refine HeldS.wpAnyS_take (i := 3) [8, 6, 4] (oi := _) (v := ?_) rfl (by kernel_rfl) (by kernel_rfl) (by kernel_rfl) (by kernel_rfl) (by kernel_rfl) (fun _ _ _ h => h) (Or.inl ⟨by rfl, ?_⟩) (by assumption) ?_
    rotate_left
    · (intro w hSw; (try dsimp only at hSw); go_simp; (try with_reducible rfl))
    (try simp only [Act.put, List.setIfInBounds_toArray, List.set_cons_zero, List.set_cons_succ])
    refine HeldS.wpAnyS_take (i := 4) [8, 6] (oi := _) (v := ?_) rfl (by kernel_rfl) (by kernel_rfl) (by kernel_rfl) (by kernel_rfl) (by kernel_rfl) (fun _ _ _ h => h) (Or.inl ⟨by rfl, ?_⟩) (by assumption) ?_
    rotate_left
    · (intro w hSw; (try dsimp only at hSw); go_simp; (try with_reducible rfl))
    (try simp only [Act.put, List.setIfInBounds_toArray, List.set_cons_zero, List.set_cons_succ])
    refine HeldS.wpAnyS_take (i := 5) [8, 6] (oi := _) (v := ?_) rfl (by kernel_rfl) (by kernel_rfl) (by kernel_rfl) (by kernel_rfl) (by kernel_rfl) (fun _ _ _ h => h) (Or.inl ⟨by rfl, ?_⟩) (by assumption) ?_
    rotate_left
    · (intro w hSw; (try dsimp only at hSw); go_simp; (try with_reducible rfl))
    (try simp only [Act.put, List.setIfInBounds_toArray, List.set_cons_zero, List.set_cons_succ])
    refine HeldS.wpAnyS_take (i := 6) [8] (oi := _) (v := ?_) rfl (by kernel_rfl) (by kernel_rfl) (by kernel_rfl) (by kernel_rfl) (by kernel_rfl) (fun _ _ _ h => h) (Or.inl ⟨by rfl, ?_⟩) (by assumption) ?_
    rotate_left
    · (intro w hSw; (try dsimp only at hSw); go_simp; (try with_reducible rfl))
    (try simp only [Act.put, List.setIfInBounds_toArray, List.set_cons_zero, List.set_cons_succ])
    refine HeldS.wpAnyS_take (i := 7) [8] (oi := _) (v := ?_) rfl (by kernel_rfl) (by kernel_rfl) (by kernel_rfl) (by kernel_rfl) (by kernel_rfl) (fun _ _ _ h => h) (Or.inl ⟨by rfl, ?_⟩) (by assumption) ?_
    rotate_left
    · (intro w hSw; (try dsimp only at hSw); go_simp; (try with_reducible rfl))
    (try simp only [Act.put, List.setIfInBounds_toArray, List.set_cons_zero, List.set_cons_succ])
    refine HeldS.wpAnyS_ready (rs := [8]) (by kernel_rfl) (by simp) ?_
    refine HeldS.AllS.cons (o := ⟨some 25, _, _, _, _, _⟩) rfl (fun K hK => ?_) HeldS.AllS.nil
    go_simp
    try rw [hsub]
    go_at_call 81
    refine (HS2.out _ (by repeat (first | assumption | exact Upon.refl _ _ | refine Upon.drew ?_ | refine Upon.alloc ?_ _))).mono ?_
    rintro e w5 ⟨d, rfl, hd, hu5⟩
    have hn5 : New0 V w5 := ((Upon.refl _ V).drew).trans hu5
    go_simp
    refine hK.out _ _ (hY.out _ hn5) (fun hHeld => ?_)
    clear hK K
    (try simp only [Act.put, List.setIfInBounds_toArray, List.set_cons_zero, List.set_cons_succ])
    refine HeldS.wpAnyS_ready (rs := [9]) (by kernel_rfl) (by simp) ?_
    refine HeldS.AllS.last (s := 9) (o := ⟨some 9, _, _, _, _, _⟩) rfl (fun K hK => ?_) HeldS.AllS.nil
    go_simp
    refine hK.out _ _ ?_
    clear hK K
    (try simp only [Act.put, List.setIfInBounds_toArray, List.set_cons_zero, List.set_cons_succ])
    refine HeldS.wpAnyS_done (by kernel_rfl) ?_ _
    go_wp2_with fail
    go_meet
    exact ⟨d, rfl, Lib.hid hd, Lib.hid hn5⟩
  case rest =>
    obtain ⟨d, rfl, hd, hnc⟩ := hcut
    obtain ⟨z1, z2, z3⟩ := hY.out _ hnc.out
    have hdle := hd.out.le
    have hsum : wrap64 ((b : Int) + (d : Int)) = ((b + d : Nat) : Int) := by unfold wrap64; omega
    have hsp := Lib.hid (Spn.of hb.out hd.out)
    have hnf := Lib.hid (hnV.out.trans hnc.out)
    clear HS2 hb hd hnc hnV hY
    go_wp2_with fail
    go_quiet (fail)
    go_wp2_with fail
    go_ret2
    exact ⟨b, b + d, rfl, hsp.out, hnf.out.trans (upon_drewN _ _ _)⟩
end Hd
end Go.Proofs.YtfheehlfodoimaaGreat
