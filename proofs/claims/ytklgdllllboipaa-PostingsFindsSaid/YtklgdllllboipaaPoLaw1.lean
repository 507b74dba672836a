/- Lists of numbers among the arguments; PostingsSets (layer 14). -/
import Derived.Test.YtklgdllllboipaaPoCat
set_option maxRecDepth 100000
namespace Go.Proofs.Ytklgdllllboipaa
open Go.RowKit Go.Sort
namespace Po
open Bit Dsk Ob Dig
set_option linter.unusedVariables false
def IsInts (v : Value) (w : World) : Prop := ∃ l, IView w All v l
theorem open_is {H : Type} {enc : TypeId × Value → H} {W : World} {base : Nat} {v : Value} {d : DataW H} {p : List MemPlace}
    (hv : Value.okWide Try.prog W .any base 22 v) (h : DataW.Trod enc Try.prog W 0 (fun _ => true) true 22 v d p) : IsInts v W := by
  obtain ⟨l, h1, -, -⟩ := Rw.open_row (L := layI) (sT := 22) (T := 3) (bytes := 8) (G := fun _ => True) (N := match d with | .slice e s => (e.length + s.length) * Try.prog.bytesOf 3 | _ => 0) Try.underlying22 (by kernel_rfl) (by kernel_rfl)
    (fun fuel cs x hl ht => by
      obtain ⟨c, rfl⟩ : ∃ c, cs = [c] := by
        match cs, hl with
        | [c], _ => exact ⟨c, rfl⟩
      cases fuel with
      | zero => simp [DataW.trod] at ht
      | succ n =>
        unfold DataW.trod at ht
        rw [Try.underlying3] at ht
        cases c <;> simp at ht
        obtain ⟨⟨rfl, -⟩, -⟩ := ht
        exact ⟨_, rfl, trivial⟩) hv h (fun e s hd => by subst hd; exact Nat.le_refl _)
  exact ⟨l, h1⟩
theorem belowNew {w w' : World} (h : New0 w w') : Below w.heap.size w w' := h.below (Nat.le_refl _) (fun _ f => f.elim)
theorem ext_of {r r' : List Int} {P : Int → Prop} (h : Up r) (h' : Up r') (m : ∀ x, x ∈ r ↔ P x) (m' : ∀ x, x ∈ r' ↔ P x) : r = r' := up_ext h h' fun x => (m x).trans (m' x).symm
set_option maxHeartbeats 6400000 in
theorem sets_true (w : World) (v u : Value) (hv : IsInts v w) (hu : IsInts u w) :
    Calls Try.prog 3 #[v, u] w fun e w' => e = .returned (.bool true) ∧ Below w.heap.size w w' := by
  obtain ⟨l, Va⟩ := hv
  obtain ⟨m, Vb⟩ := hu
  obtain ⟨A, c, rfl, -, -⟩ := Rw.View.shape Va
  obtain ⟨A', c', rfl, -, -⟩ := Rw.View.shape Vb
  replace Va := Lib.hid Va
  replace Vb := Lib.hid Vb
  by_cases h1 : 200 < l.length
  · have d1 : (200 : Int) < (l.length : Int) := by omega
    go_enter Try.func3, Try.ntmps3
    go_wp2_with fail
    go_ret
    exact ⟨rfl, Below.refl _ _⟩
  have d1 : ¬ (200 : Int) < (l.length : Int) := by omega
  by_cases h2 : 200 < m.length
  · have d2 : (200 : Int) < (m.length : Int) := by omega
    go_enter Try.func3, Try.ntmps3
    go_wp2_with fail
    go_ret
    exact ⟨rfl, Below.refl _ _⟩
  have d2 : ¬ (200 : Int) < (m.length : Int) := by omega
  have me := Lib.hid (fun W' : World => Rw.Mine.empty layI (T := 3) (cell_new W' (.cells #[] 3 (0, 0))))
  go_enter Try.func3, Try.ntmps3
  have u0 : Hid (New0 w (w.alloc (.cells #[] 3 (0, 0)))) := Lib.hid ((Upon.refl _ w).alloc _)
  go_wp2_with (at_builtin; refine Rw.wpList_append typI rfl _ _ rfl _ _ [] l All rfl rfl (me.out w) (Rw.View.new Va.out u0.out) (by rw [List.length_nil]; omega) (by rw [List.length_nil]; omega) ?_)
  intro vx w1 hm1 hg1 hb1
  have hU := Lib.hid (Upon.grown u0.out hg1 (fun g hg => .inr (by have := Option.some.inj hg; simp at this; omega)))
  have Vx := Lib.hid (Rw.View.all (Rw.Mine.view hm1))
  have hxb : Hid (∀ g, vx.ownBlock = some g → w.heap.size ≤ g ∧ g < w1.heap.size) := Lib.hid fun g hg => ⟨by
    rcases hb1 with hb1 | hb1
    · rw [hg] at hb1; have := Option.some.inj hb1; simp at this; omega
    · rw [hg] at hb1; have := Option.some.inj hb1; omega, hm1.lt hg⟩
  replace Va := Lib.hid (Rw.View.new Va.out hU.out)
  replace Vb := Lib.hid (Rw.View.new Vb.out hU.out)
  replace hm1 := Lib.hid hm1
  clear hg1 hb1 u0
  have u1 : Hid (New0 w1 (w1.alloc (.cells #[] 3 (0, 0)))) := Lib.hid ((Upon.refl _ w1).alloc _)
  go_wp2_with (at_builtin; refine Rw.wpList_append typI rfl _ _ rfl _ _ [] m All rfl rfl (me.out w1) (Rw.View.new Vb.out u1.out) (by rw [List.length_nil]; omega) (by rw [List.length_nil]; omega) ?_)
  intro vy w2 hm2 hg2 hb2
  have hN : New0 w1 w2 := Upon.grown u1.out hg2 (fun g hg => .inr (by have := Option.some.inj hg; simp at this; omega))
  replace Va := Lib.hid (Rw.View.new Va.out hN)
  replace Vb := Lib.hid (Rw.View.new Vb.out hN)
  replace Vx := Lib.hid (Rw.View.new Vx.out hN)
  have Vy := Lib.hid (Rw.View.all (Rw.Mine.view hm2))
  replace hU := Lib.hid (hU.out.trans hN)
  clear hm2 hg2 hb2 u1 hN hm1 hxb me
  obtain ⟨Ax, cx, hvx, -, -⟩ := Rw.View.shape Vx.out
  subst hvx
  obtain ⟨Ay, cy, hvy, -, -⟩ := Rw.View.shape Vy.out
  subst hvy
  have HC := Lib.hid (and_any _ _ _ _ _ _ _ Vx.out Vy.out (by omega) (by omega))
  go_wp2_with fail
  refine HC.out.mono ?_
  rintro e z1 ⟨vp, rp, rfl, Vp, Up, Mp, Lp, hN⟩
  replace Va := Lib.hid (Rw.View.new Va.out hN)
  replace Vb := Lib.hid (Rw.View.new Vb.out hN)
  replace Vx := Lib.hid (Rw.View.new Vx.out hN)
  replace Vy := Lib.hid (Rw.View.new Vy.out hN)
  replace hU := Lib.hid (hU.out.trans hN)
  clear hN HC
  replace Vp := Lib.hid Vp
  replace Up := Lib.hid Up
  replace Mp := Lib.hid Mp
  have HC := Lib.hid (refand_any _ _ _ _ _ Va.out Vb.out (by omega))
  go_wp2_with fail
  refine HC.out.mono ?_
  rintro e z2 ⟨vq, rq, rfl, Vq, Uq, Mq, Lq, hN⟩
  replace Va := Lib.hid (Rw.View.new Va.out hN)
  replace Vb := Lib.hid (Rw.View.new Vb.out hN)
  replace Vx := Lib.hid (Rw.View.new Vx.out hN)
  replace Vy := Lib.hid (Rw.View.new Vy.out hN)
  replace Vp := Lib.hid (Rw.View.new Vp.out hN)
  replace hU := Lib.hid (hU.out.trans hN)
  clear hN HC
  replace Vq := Lib.hid Vq
  replace Uq := Lib.hid Uq
  replace Mq := Lib.hid Mq
  have HC := same_any _ _ _ _ _ _ _ Vp.out Vq.out
  rw [show decide (rp = rq) = true from decide_eq_true (ext_of Up.out Uq.out Mp.out Mq.out)] at HC
  replace HC := Lib.hid HC
  go_wp2_with fail
  refine HC.out.mono ?_
  rintro e z3 ⟨rfl, hN⟩
  replace Va := Lib.hid (Rw.View.new Va.out hN)
  replace Vb := Lib.hid (Rw.View.new Vb.out hN)
  replace Vx := Lib.hid (Rw.View.new Vx.out hN)
  replace Vy := Lib.hid (Rw.View.new Vy.out hN)
  replace Vp := Lib.hid (Rw.View.new Vp.out hN)
  replace Vq := Lib.hid (Rw.View.new Vq.out hN)
  replace hU := Lib.hid (hU.out.trans hN)
  clear hN HC
  clear Vp Up Mp
  clear Vq Uq Mq
  have HC := Lib.hid (or_any _ _ _ _ _ _ _ Vx.out Vy.out (by omega) (by omega))
  go_wp2_with fail
  refine HC.out.mono ?_
  rintro e z4 ⟨vp, rp, rfl, Vp, Up, Mp, Lp, hN⟩
  replace Va := Lib.hid (Rw.View.new Va.out hN)
  replace Vb := Lib.hid (Rw.View.new Vb.out hN)
  replace Vx := Lib.hid (Rw.View.new Vx.out hN)
  replace Vy := Lib.hid (Rw.View.new Vy.out hN)
  replace hU := Lib.hid (hU.out.trans hN)
  clear hN HC
  replace Vp := Lib.hid Vp
  replace Up := Lib.hid Up
  replace Mp := Lib.hid Mp
  have HC := Lib.hid (refor_any _ _ _ _ _ Va.out Vb.out (by omega) (by omega))
  go_wp2_with fail
  refine HC.out.mono ?_
  rintro e z5 ⟨vq, rq, rfl, Vq, Uq, Mq, Lq, hN⟩
  replace Va := Lib.hid (Rw.View.new Va.out hN)
  replace Vb := Lib.hid (Rw.View.new Vb.out hN)
  replace Vx := Lib.hid (Rw.View.new Vx.out hN)
  replace Vy := Lib.hid (Rw.View.new Vy.out hN)
  replace Vp := Lib.hid (Rw.View.new Vp.out hN)
  replace hU := Lib.hid (hU.out.trans hN)
  clear hN HC
  replace Vq := Lib.hid Vq
  replace Uq := Lib.hid Uq
  replace Mq := Lib.hid Mq
  have HC := same_any _ _ _ _ _ _ _ Vp.out Vq.out
  rw [show decide (rp = rq) = true from decide_eq_true (ext_of Up.out Uq.out Mp.out Mq.out)] at HC
  replace HC := Lib.hid HC
  go_wp2_with fail
  refine HC.out.mono ?_
  rintro e z6 ⟨rfl, hN⟩
  replace Va := Lib.hid (Rw.View.new Va.out hN)
  replace Vb := Lib.hid (Rw.View.new Vb.out hN)
  replace Vx := Lib.hid (Rw.View.new Vx.out hN)
  replace Vy := Lib.hid (Rw.View.new Vy.out hN)
  replace Vp := Lib.hid (Rw.View.new Vp.out hN)
  replace Vq := Lib.hid (Rw.View.new Vq.out hN)
  replace hU := Lib.hid (hU.out.trans hN)
  clear hN HC
  clear Vp Up Mp
  clear Vq Uq Mq
  have HC := Lib.hid (less_any _ _ _ _ _ _ _ Vx.out Vy.out (by omega) (by omega))
  go_wp2_with fail
  refine HC.out.mono ?_
  rintro e z7 ⟨vp, rp, rfl, Vp, Up, Mp, Lp, hN⟩
  replace Va := Lib.hid (Rw.View.new Va.out hN)
  replace Vb := Lib.hid (Rw.View.new Vb.out hN)
  replace Vx := Lib.hid (Rw.View.new Vx.out hN)
  replace Vy := Lib.hid (Rw.View.new Vy.out hN)
  replace hU := Lib.hid (hU.out.trans hN)
  clear hN HC
  replace Vp := Lib.hid Vp
  replace Up := Lib.hid Up
  replace Mp := Lib.hid Mp
  have HC := Lib.hid (refless_any _ _ _ _ _ Va.out Vb.out (by omega))
  go_wp2_with fail
  refine HC.out.mono ?_
  rintro e z8 ⟨vq, rq, rfl, Vq, Uq, Mq, Lq, hN⟩
  replace Va := Lib.hid (Rw.View.new Va.out hN)
  replace Vb := Lib.hid (Rw.View.new Vb.out hN)
  replace Vx := Lib.hid (Rw.View.new Vx.out hN)
  replace Vy := Lib.hid (Rw.View.new Vy.out hN)
  replace Vp := Lib.hid (Rw.View.new Vp.out hN)
  replace hU := Lib.hid (hU.out.trans hN)
  clear hN HC
  replace Vq := Lib.hid Vq
  replace Uq := Lib.hid Uq
  replace Mq := Lib.hid Mq
  have HC := same_any _ _ _ _ _ _ _ Vp.out Vq.out
  rw [show decide (rp = rq) = true from decide_eq_true (ext_of Up.out Uq.out Mp.out Mq.out)] at HC
  replace HC := Lib.hid HC
  go_wp2_with fail
  refine HC.out.mono ?_
  rintro e z9 ⟨rfl, hN⟩
  replace Va := Lib.hid (Rw.View.new Va.out hN)
  replace Vb := Lib.hid (Rw.View.new Vb.out hN)
  replace Vx := Lib.hid (Rw.View.new Vx.out hN)
  replace Vy := Lib.hid (Rw.View.new Vy.out hN)
  replace Vp := Lib.hid (Rw.View.new Vp.out hN)
  replace Vq := Lib.hid (Rw.View.new Vq.out hN)
  replace hU := Lib.hid (hU.out.trans hN)
  clear hN HC
  clear Vp Up Mp
  clear Vq Uq Mq
  have HC := same_any _ _ _ _ _ _ _ Vx.out Va.out
  rw [show decide (l = l) = true from decide_eq_true (rfl)] at HC
  replace HC := Lib.hid HC
  go_wp2_with fail
  refine HC.out.mono ?_
  rintro e z10 ⟨rfl, hN⟩
  replace Va := Lib.hid (Rw.View.new Va.out hN)
  replace Vb := Lib.hid (Rw.View.new Vb.out hN)
  replace Vx := Lib.hid (Rw.View.new Vx.out hN)
  replace Vy := Lib.hid (Rw.View.new Vy.out hN)
  replace hU := Lib.hid (hU.out.trans hN)
  clear hN HC
  have HC := same_any _ _ _ _ _ _ _ Vy.out Vb.out
  rw [show decide (m = m) = true from decide_eq_true (rfl)] at HC
  replace HC := Lib.hid HC
  go_wp2_with fail
  refine HC.out.mono ?_
  rintro e z11 ⟨rfl, hN⟩
  replace Va := Lib.hid (Rw.View.new Va.out hN)
  replace Vb := Lib.hid (Rw.View.new Vb.out hN)
  replace Vx := Lib.hid (Rw.View.new Vx.out hN)
  replace Vy := Lib.hid (Rw.View.new Vy.out hN)
  replace hU := Lib.hid (hU.out.trans hN)
  clear hN HC
  go_wp2_with fail
  go_ret
  exact ⟨rfl, belowNew hU.out⟩
end Po
end Go.Proofs.Ytklgdllllboipaa
