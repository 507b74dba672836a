/- Parts: BkChk. -/
import Derived.Test.YtgmnhodajngchaaGreatDoorSBkRefE
import Derived.Test.YtgmnhodajngchaaGreatDoorSPLb2
import Derived.Test.YtgmnhodajngchaaGreatDoorSPRc3
set_option maxRecDepth 100000
set_option linter.unusedVariables false
namespace Go.Proofs.YtgmnhodajngchaaGreatDoor
section
open Go.RowKit Go.Sort
namespace Bk
open Bit Dsk Ob Dig
def numE (f t : Int) : Nat := if f < 1 \/ 99999999 < t \/ t < f then 2 else 0
theorem cnum_any (f t : Int) (w : World) : Calls Tryz.prog 36 #[.int .i64 f, .int .i64 t] w fun e w' => e = .returned (.int .i64 (numE f t : Int)) /\ w = w' := by
 by_cases h1 : f < 1
 ·have hR : Hid ((2 : Int) = (numE f t : Int)) := Lib.hid (by unfold numE; rw [if_pos (.inl h1)]; rfl)
  have d1 : decide (f < 1) = true := decide_eq_true h1
  go_enter Tryz.func36, Tryz.ntmps36
  go_wp2_with fail
  go_ret
  exact ⟨Lb.ret_i hR.out, rfl⟩
 ·have d1 : decide (f < 1) = false := decide_eq_false h1
  by_cases h2 : 99999999 < t
  ·have hR : Hid ((2 : Int) = (numE f t : Int)) := Lib.hid (by unfold numE; rw [if_pos (.inr (.inl h2))]; rfl)
   have d2 : decide (99999999 < t) = true := decide_eq_true h2
   go_enter Tryz.func36, Tryz.ntmps36
   go_wp2_with fail
   go_ret
   exact ⟨Lb.ret_i hR.out, rfl⟩
  ·have d2 : decide (99999999 < t) = false := decide_eq_false h2
   by_cases h3 : t < f
   ·have hR : Hid ((2 : Int) = (numE f t : Int)) := Lib.hid (by unfold numE; rw [if_pos (.inr (.inr h3))]; rfl)
    have d3 : decide (t < f) = true := decide_eq_true h3
    go_enter Tryz.func36, Tryz.ntmps36
    go_wp2_with fail
    go_ret
    exact ⟨Lb.ret_i hR.out, rfl⟩
   ·have hR : Hid ((0 : Int) = (numE f t : Int)) := Lib.hid (by unfold numE; rw [if_neg (by omega)]; rfl)
    have d3 : decide (t < f) = false := decide_eq_false h3
    go_enter Tryz.func36, Tryz.ntmps36
    go_wp2_with fail
    go_ret
    exact ⟨Lb.ret_i hR.out, rfl⟩
open Classical in
noncomputable def rowE (a : List Lb.Pr) (r : Row) : Nat := if ¬ Lb.Ok r.lab then 16 else if 0 <= Lb.cmp a r.lab then 9 else if ¬ PtsOk r then 9 else 0
theorem rowE_lab {a : List Lb.Pr} {r : Row} (h : ¬ Lb.Ok r.lab) : rowE a r = 16 := if_pos h
theorem rowE_ord {a : List Lb.Pr} {r : Row} (h : Lb.Ok r.lab) (h2 : 0 <= Lb.cmp a r.lab) : rowE a r = 9 := by unfold rowE; rw [if_neg (by simpa using h), if_pos h2]
theorem rowE_pts {a : List Lb.Pr} {r : Row} (h : Lb.Ok r.lab) (h2 : ¬ 0 <= Lb.cmp a r.lab) (h3 : ¬ PtsOk r) : rowE a r = 9 := by unfold rowE; rw [if_neg (by simpa using h), if_neg h2, if_pos h3]
theorem rowE_ok {a : List Lb.Pr} {r : Row} (h : Lb.Ok r.lab) (h2 : ¬ 0 <= Lb.cmp a r.lab) (h3 : PtsOk r) : rowE a r = 0 := by unfold rowE; rw [if_neg (by simpa using h), if_neg h2, if_neg (by simpa using h3)]
set_option maxHeartbeats 12800000 in
theorem crow_any (w : World) (S S' : Nat -> Prop) (av : Value) (a : List Lb.Pr) (A1 : Option Addr) (c1 : Nat) (A2 : Option Addr) (c2 : Nat) (r : Row) (ha : Lb.View w S' av a) (hl : Lb.View w S (.slice A1 r.lab.length c1) r.lab) (hp : Rw.View Hd.layP w S (.slice A2 r.pts.length c2) r.pts) (hsm : Lb.Sml r.lab) :
  Calls Tryz.prog 45 #[av, .agg #[.slice A1 r.lab.length c1, .int .i64 r.last, .slice A2 r.pts.length c2]] w fun e w' => e = .returned (.int .i64 (rowE a r : Int)) /\ New0 w w' := by
 obtain ⟨q, hq⟩ : ∃ q, rowE a r = q := ⟨_, rfl⟩
 have hE1 : Hid (¬ Lb.Ok r.lab -> (16 : Int) = (q : Int)) := Lib.hid (fun h => by rw [<- hq, rowE_lab h]; rfl)
 have hE2 : Hid (Lb.Ok r.lab -> 0 <= Lb.cmp a r.lab -> (9 : Int) = (q : Int)) := Lib.hid (fun h h2 => by rw [<- hq, rowE_ord h h2]; rfl)
 have hE3 : Hid (Lb.Ok r.lab -> ¬ 0 <= Lb.cmp a r.lab -> ¬ PtsOk r -> (9 : Int) = (q : Int)) := Lib.hid (fun h h2 h3 => by rw [<- hq, rowE_pts h h2 h3]; rfl)
 have hE4 : Hid (Lb.Ok r.lab -> ¬ 0 <= Lb.cmp a r.lab -> PtsOk r -> (0 : Int) = (q : Int)) := Lib.hid (fun h h2 h3 => by rw [<- hq, rowE_ok h h2 h3]; rfl)
 rw [hq]
 obtain ⟨aA, ac, rfl, -, -⟩ := Rw.View.shape ha
 have hpm : r.pts.length <= 9223372036854775807 := by
  obtain ⟨_, _, _, a1, a2⟩ := Rw.View.shape hp
  have : maxLen = 9223372036854775807 := rfl
  omega
 obtain ⟨wx, hwx⟩ : ∃ wx, w.alloc (.cells #[.slice A1 r.lab.length c1, .int .i64 r.last, .slice A2 r.pts.length c2] 63 (0, 0)) = wx := ⟨_, rfl⟩
 have hX := Lib.hid (box3 w (.slice A1 r.lab.length c1) r.last (.slice A2 r.pts.length c2) 63)
 have hUX := Lib.hid ((Upon.refl (fun _ => False) w).alloc (.cells #[.slice A1 r.lab.length c1, .int .i64 r.last, .slice A2 r.pts.length c2] 63 (0, 0)))
 rw [hwx] at hX hUX
 replace hwx := Lib.hid hwx
 have HL := Lib.hid (Lb.check_any wx S _ _ (Rw.View.new hl hUX.out) hsm)
 have HC := Lib.hid (fun w' (hu : New0 wx w') => Lb.compare_any w' S' S _ _ a r.lab (Rw.View.new ha (hUX.out.trans hu)) (Rw.View.new hl (hUX.out.trans hu)))
 have hvp := Lib.hid (Rw.View.new hp hUX.out)
 obtain ⟨z0, z1, z2⟩ := hX.out
 clear hq ha hl hp hsm
 by_cases hok : ¬ Lb.Ok r.lab
 ·have hR := Lib.hid (hE1.out hok)
  have HL1 := HL.out
  rw [Lb.chk_no hok] at HL1
  replace HL1 := Lib.hid HL1
  clear hE1 hE2 hE3 hE4 HC HL hvp hok
  go_enter Tryz.func45, Tryz.ntmps45
  go_wp2_with fail
  rw [hwx.out]
  refine HL1.out.mono ?_
  rintro e w2 ⟨rfl, hu2⟩
  have hu3 := Lib.hid (hUX.out.trans hu2)
  clear HL1 hu2 z0 z1 z2 hX hUX
  go_wp2_with fail
  go_ret
  exact ⟨Lb.ret_i hR.out, hu3.out⟩
 replace hok := Classical.not_not.1 hok
 have HL1 := HL.out
 rw [Lb.chk_ok hok] at HL1
 replace HL1 := Lib.hid HL1
 replace hE2 := Lib.hid (hE2.out hok)
 replace hE3 := Lib.hid (hE3.out hok)
 replace hE4 := Lib.hid (hE4.out hok)
 obtain ⟨cc, hcc⟩ : ∃ cc, Lb.cmp a r.lab = cc := ⟨_, rfl⟩
 simp only [hcc] at HC hE2 hE3 hE4
 clear hE1 HL hok hcc
 by_cases hc : 0 <= cc
 ·have hR := Lib.hid (hE2.out hc)
  have dc : decide (0 <= cc) = true := decide_eq_true hc
  clear hE2 hE3 hE4 hvp
  go_enter Tryz.func45, Tryz.ntmps45
  go_wp2_with fail
  rw [hwx.out]
  refine HL1.out.mono ?_
  rintro e w2 ⟨rfl, hu2⟩
  have HC2 := Lib.hid (HC.out _ hu2)
  clear HL1 z0 z1 z2 hwx HC
  obtain ⟨z0, z1, z2⟩ := hX.out.new hu2
  have hu3 := Lib.hid (hUX.out.trans hu2)
  clear hu2
  go_wp2_with fail
  refine HC2.out.mono ?_
  rintro e w4 ⟨rfl, hu4⟩
  have hu5 := Lib.hid (hu3.out.trans hu4)
  clear HC2 hu4 z0 z1 z2 hX hUX hu3
  go_wp2_with fail
  go_ret
  exact ⟨Lb.ret_i hR.out, hu5.out⟩
 have dc : decide (0 <= cc) = false := decide_eq_false hc
 replace hE3 := Lib.hid (hE3.out hc)
 replace hE4 := Lib.hid (hE4.out hc)
 clear hE2
 go_enter Tryz.func45, Tryz.ntmps45
 go_wp2_with fail
 rw [hwx.out]
 refine HL1.out.mono ?_
 rintro e w2 ⟨rfl, hu2⟩
 have HC2 := Lib.hid (HC.out _ hu2)
 clear HL1 z0 z1 z2 hwx HC
 obtain ⟨z0, z1, z2⟩ := hX.out.new hu2
 replace hu2 := Lib.hid hu2
 go_wp2_with fail
 refine HC2.out.mono ?_
 rintro e w4 ⟨rfl, hu4⟩
 have hu5 := Lib.hid (hu2.out.trans hu4)
 clear HC2 hu4 z0 z1 z2 hu2
 obtain ⟨z0, z1, z2⟩ := hX.out.new hu5.out
 go_wp2_with fail
 clear z0 z1 z2 dc hc
 go_loopw [19] (fun kv wr => ∃ k : Nat, kv = .int .i64 (k : Int) /\ k <= r.pts.length /\ Hid (PtsTo r k) /\ Hid (New0 wx wr)) (fun kv _ => r.pts.length - (intOf kv).toNat)
 case atStart => exact ⟨0, rfl, Nat.zero_le _, Lib.hid (PtsTo.start r), hu5⟩
 case round =>
  clear hu5
  obtain ⟨k, rfl, hk, hpt, hu⟩ := hrel
  by_cases hkl : k < r.pts.length
  ·obtain ⟨pb, po, rfl, -, hpc⟩ := pts_cells hvp.out (by omega)
   obtain ⟨p0, p1⟩ := hpc k hkl
   have q0 := Lb.New0.cells hu.out p0
   have q1 := Lb.New0.cells hu.out p1
   have hps := Lib.hid (hpt.out.step hkl)
   have hpa := Lib.hid (pts_above (r := r) hkl)
   have hpf := Lib.hid (fun i (hi : i < r.pts.length) => pts_fall (r := r) hi hkl)
   obtain ⟨P, hP⟩ : ∃ P, r.pts[k] = P := ⟨_, rfl⟩
   rw [hP] at q0 q1 hps hpa
   replace hpf : Hid (∀ i (hi : i < r.pts.length), k = i + 1 -> P.1 <= r.pts[i].1 -> ¬ PtsOk r) := Lib.hid (fun i hi e h => hpf.out i hi e (by rw [hP]; exact h))
   obtain ⟨T, V⟩ := P
   simp only at q0 q1 hps hpa hpf
   obtain ⟨wp, hwp⟩ : ∃ wp, wr.alloc (.cells #[.int .i64 T, .int .u64 (V : Int)] 153 (0, 0)) = wp := ⟨_, rfl⟩
   have hq := cell_new wr (.cells #[.int .i64 T, .int .u64 (V : Int)] 153 (0, 0))
   have hup := Lib.hid (hu.out.alloc (.cells #[.int .i64 T, .int .u64 (V : Int)] 153 (0, 0)))
   rw [hwp] at hq hup
   have m0 : wp.cell? ⟨wr.heap.size, 0, none⟩ = some (.int .i64 T) := by rw [Lib.cell_of_heap hq]; rfl
   have m1 : wp.cell? ⟨wr.heap.size, 1, none⟩ = some (.int .u64 (V : Int)) := by rw [Lib.cell_of_heap hq]; rfl
   obtain ⟨z0, z1, z2⟩ := hX.out.new hup.out
   replace hwp := Lib.hid hwp
   have hpc2 := Lib.hid (fun i (hi : i < r.pts.length) => Lb.New0.cells hup.out (hpc i hi).1)
   clear p0 p1 hP hpt hq hpc hu
   by_cases h0 : k = 0
   ·have hk0 : decide (0 < k) = false := decide_eq_false (by omega)
    have hk1 : decide ((0 : Int) < (k : Int)) = false := decide_eq_false (by omega)
    by_cases ha : r.last < T
    ·have hR := Lib.hid (hE3.out (hpa.out ha))
     have d1 : decide (r.last < T) = true := decide_eq_true ha
     have hu2 := Lib.hid (hUX.out.trans hup.out)
     clear hps hpa hpf ha h0 hE3 hE4 hvp hX hUX hup hpc2
     go_wp2_with fail
     rw [hwp.out]
     go_quiet (fail)
     go_wp2_with fail
     go_ret
     exact ⟨Lb.ret_i hR.out, hu2.out.trans (upon_drewN _ _ _)⟩
    ·have d1 : decide (r.last < T) = false := decide_eq_false ha
     have hG := Lib.hid (hps.out (by omega) (fun i _ e => by omega))
     clear hps hpa hpf ha h0 hpc2
     go_wp2_with fail
     rw [hwp.out]
     go_quiet (fail)
     go_wp2_with fail
     go_roundw
     case rel => exact ⟨k + 1, by go_num, hkl, hG, Lib.hid (hup.out.trans (upon_drewN _ _ _))⟩
     case measure => simp [intOf]; omega
   ·obtain ⟨i, hi⟩ : ∃ i, k = i + 1 := ⟨k - 1, by omega⟩
    have hil : i < r.pts.length := by omega
    have q2 := hpc2.out i hil
    have hidx : IntKind.i64.wrap ((k : Int) - 1) = (i : Int) := by rw [IntKind.wrap_i64]; omega
    have hk0 : decide (0 < k) = true := decide_eq_true (by omega)
    have hk1 : decide ((0 : Int) < (k : Int)) = true := decide_eq_true (by omega)
    replace hpf := Lib.hid (hpf.out i hil hi)
    replace hps : Hid (T <= r.last -> r.pts[i].1 < T -> PtsTo r (k + 1)) := Lib.hid (fun h1 h => hps.out h1 (fun i' hi' e => by
     obtain rfl : i' = i := by omega
     exact h))
    obtain ⟨U, hU⟩ : ∃ U, r.pts[i].1 = U := ⟨_, rfl⟩
    rw [hU] at q2 hpf hps
    clear hU hpc2 h0 hi
    by_cases hf : T <= U
    ·have hR := Lib.hid (hE3.out (hpf.out hf))
     have d2 : decide (T <= U) = true := decide_eq_true hf
     have hu2 := Lib.hid (hUX.out.trans hup.out)
     clear hps hpf hpa hf hE3 hE4 hvp hX hUX hup
     go_wp2_with fail
     rw [hwp.out]
     go_quiet (fail)
     go_wp2_with fail
     go_ret
     exact ⟨Lb.ret_i hR.out, hu2.out.trans (upon_drewN _ _ _)⟩
    ·have d2 : decide (T <= U) = false := decide_eq_false hf
     by_cases ha : r.last < T
     ·have hR := Lib.hid (hE3.out (hpa.out ha))
      have d1 : decide (r.last < T) = true := decide_eq_true ha
      have hu2 := Lib.hid (hUX.out.trans hup.out)
      clear hps hpa hpf ha hf hE3 hE4 hvp hX hUX hup
      go_wp2_with fail
      rw [hwp.out]
      go_quiet (fail)
      go_wp2_with fail
      go_ret
      exact ⟨Lb.ret_i hR.out, hu2.out.trans (upon_drewN _ _ _)⟩
     ·have d1 : decide (r.last < T) = false := decide_eq_false ha
      have hG := Lib.hid (hps.out (by omega) (by omega))
      clear hps hpa hpf ha hf
      go_wp2_with fail
      rw [hwp.out]
      go_quiet (fail)
      go_wp2_with fail
      go_roundw
      case rel => exact ⟨k + 1, by go_num, hkl, hG, Lib.hid (hup.out.trans (upon_drewN _ _ _))⟩
      case measure => simp [intOf]; omega
  ·have hR := Lib.hid (hE4.out (hpt.out.last hkl hk))
   have hu2 := Lib.hid (hUX.out.trans hu.out)
   clear hpt hu hE3 hE4 hvp hX hUX
   go_wp2_with fail
   go_ret
   exact ⟨Lb.ret_i hR.out, hu2.out⟩
def aheadL (l : List Row) : Nat -> List Lb.Pr
 | 0 => []
 | i + 1 => match l[i]? with
  | some r => r.lab
  | none => []
theorem aheadL_at {l : List Row} {i : Nat} (h : i < l.length) : aheadL l (i + 1) = l[i].lab := by simp [aheadL, h]
theorem behind_ahead {l : List Row} {i : Nat} (h : i < l.length) (hok : Lb.Ok l[i].lab) : Behind l i ↔ ¬ 0 <= Lb.cmp (aheadL l i) l[i].lab := by
 cases i with
 | zero =>
  have h1 : Lb.cmp (aheadL l 0) l[0].lab = -1 := by
   show Lb.cmp [] l[0].lab = -1
   cases hl : l[0].lab with
   | nil => have := hok.one; rw [hl] at this; simp at this
   | cons p q => rfl
  rw [h1]
  exact ⟨fun _ => by omega, fun _ => behind_zero l⟩
 | succ k =>
  rw [aheadL_at (by omega)]
  constructor
  ·intro hb
   have := hb k h rfl (by omega)
   omega
  ·intro hb
   exact behind_yes (by omega) h rfl (by omega)
theorem rowErr_is {l : List Row} {i : Nat} (h : i < l.length) : rowErr l i = rowE (aheadL l i) l[i] := by
 by_cases h1 : Lb.Ok l[i].lab
 ·have hb := behind_ahead h h1
  by_cases h2 : Behind l i
  ·by_cases h3 : PtsOk l[i]
   ·rw [rowErr_ok h h1 h2 h3, rowE_ok h1 (hb.1 h2) h3]
   ·rw [rowErr_pts h h1 h3, rowE_pts h1 (hb.1 h2) h3]
  ·rw [rowErr_ord h h1 h2, rowE_ord h1 (by
    by_cases h4 : 0 <= Lb.cmp (aheadL l i) l[i].lab
    ·exact h4
    ·exact absurd (hb.2 h4) h2)]
 ·rw [rowErr_lab h h1, rowE_lab h1]
set_option maxHeartbeats 12800000 in
theorem pcheck_any (w : World) (S : Nat -> Prop) (v : Value) (b : B) (hv : BView w S v b) (hb : Bnd b) :
  Calls Tryz.prog 20 #[v] w fun e w' => e = .returned (.int .i64 (chk b : Int)) /\ New0 w w' := by
 obtain ⟨A, c, A', c', rfl, hr, hd⟩ := BView.shape hv
 have hsml := Lib.hid hb.sml
 have hdb := Lib.hid hb.dels
 have hfew := Lib.hid hb.few
 have hfew2 := Lib.hid hb.few2
 obtain ⟨q, hq⟩ : ∃ q, chk b = q := ⟨_, rfl⟩
 have hS1 : Hid (badSpan b -> (2 : Int) = (q : Int)) := Lib.hid (fun h => by rw [<- hq, chk_span h]; rfl)
 have hE1 : Hid (¬ badSpan b -> ∀ (j : Nat) (hj : j < b.rows.length), GoodR b.rows j -> rowErr b.rows j ≠ 0 -> (rowErr b.rows j : Int) = (q : Int)) := Lib.hid (fun hs j hj hg he => by rw [<- hq, chk_row hs hj hg he])
 have hE2 : Hid (¬ badSpan b -> GoodR b.rows b.rows.length -> ∀ r ∈ b.dels, ¬ DelOk r -> (5 : Int) = (q : Int)) := Lib.hid (fun hs hg r hr hn => by rw [<- hq, chk_del hs hg hr hn]; rfl)
 have hE3 : Hid (¬ badSpan b -> GoodR b.rows b.rows.length -> (∀ r ∈ b.dels, DelOk r) -> (0 : Int) = (q : Int)) := Lib.hid (fun hs hg hd => by rw [<- hq, chk_ok hs hg hd]; rfl)
 have hbs1 : Hid (badSpan b -> numE b.first b.til = 2) := Lib.hid (fun h => if_pos h)
 have hbs0 : Hid (¬ badSpan b -> numE b.first b.til = 0) := Lib.hid (fun h => if_neg h)
 rw [hq]
 clear hq hb hv
 obtain ⟨nE, hnE⟩ : ∃ nE, numE b.first b.til = nE := ⟨_, rfl⟩
 have HN := Lib.hid (fun w => by have := cnum_any b.first b.til w; rw [hnE] at this; exact this)
 obtain ⟨f, t, l, ds⟩ := b
 simp only at hr hd hsml hdb hfew hfew2 hS1 hE1 hE2 hE3 hbs1 hbs0 hnE HN ⊢
 have hB := Lib.hid (box4 w f t (.slice A l.length c) (.slice A' ds.length c') 25)
 have hU := Lib.hid ((Upon.refl (fun _ => False) w).alloc (.cells #[.int .i64 f, .int .i64 t, .slice A l.length c, .slice A' ds.length c'] 25 (0, 0)))
 obtain ⟨wb, hwb⟩ : ∃ wb, w.alloc (.cells #[.int .i64 f, .int .i64 t, .slice A l.length c, .slice A' ds.length c'] 25 (0, 0)) = wb := ⟨_, rfl⟩
 rw [hwb] at hB hU
 replace hwb := Lib.hid hwb
 obtain ⟨k0, k1, k2, k3⟩ := hB.out
 by_cases hbad : badSpan ⟨f, t, l, ds⟩
 ·have hR := Lib.hid (hS1.out hbad)
  have e2 := hbs1.out hbad
  rw [hnE] at e2
  subst e2
  clear hr hd hsml hdb hfew hfew2 hS1 hE1 hE2 hE3 hbs1 hbs0 hB hnE hbad
  go_enter Tryz.func20, Tryz.ntmps20
  go_wp2_with fail
  rw [hwb.out]
  refine (HN.out _).mono ?_
  rintro e w2 ⟨rfl, rfl⟩
  clear HN k0 k1 k2 k3
  go_wp2_with fail
  go_ret
  exact ⟨Lb.ret_i hR.out, hU.out⟩
 have e2 := hbs0.out hbad
 rw [hnE] at e2
 subst e2
 replace hE1 := Lib.hid (hE1.out hbad)
 replace hE2 := Lib.hid (hE2.out hbad)
 replace hE3 := Lib.hid (hE3.out hbad)
 have hcells := Lib.hid (fun h => BsView.cells hr h)
 have hds := Lib.hid (fun (i : Nat) (hi : i < ds.length) => Hd.RsView.at hd hi)
 have hlm : l.length < 9223372036854775807 := by have := hfew.out; omega
 have hdm : ds.length < 9223372036854775807 := by have := hfew2.out; omega
 clear hS1 hbs1 hbs0 hr hd hbad hnE hfew hfew2
 go_enter Tryz.func20, Tryz.ntmps20
 go_wp2_with fail
 rw [hwb.out]
 refine (HN.out _).mono ?_
 rintro e w2 ⟨rfl, rfl⟩
 clear HN
 go_wp2_with fail
 clear hwb
 go_loopw [4, 21] (fun av ov wr => ∃ j : Nat, ov = .int .i64 (j : Int) /\ j <= l.length /\ Hid (GoodR l j) /\ Hid (Lb.View wr (fun _ => True) av (aheadL l j)) /\ Hid (New0 wb wr)) (fun _ ov _ => l.length - (intOf ov).toNat)
 case atStart => exact ⟨0, rfl, Nat.zero_le _, Lib.hid (GoodR.start l), Lib.hid (Rw.View.noth _ _ _), Lib.hid (Upon.refl _ _)⟩
 case round =>
  clear k0 k1 k2 k3
  obtain ⟨j, rfl, hj, hg, hav, hu⟩ := hrel
  obtain ⟨k0, k1, k2, k3⟩ := hB.out.new hu.out
  by_cases hlt : j < l.length
  ·obtain ⟨b0, off, rfl, -, hcl⟩ := hcells.out (by omega)
   obtain ⟨A1, c1, A2, c2, x0, x1, x2, hv1, hv2⟩ := hcl j hlt
   have hall := hU.out.trans hu.out
   have r0 := Lb.New0.cells hall x0
   have r1 := Lb.New0.cells hall x1
   have r2 := Lb.New0.cells hall x2
   have hsm := hsml.out _ (List.getElem_mem hlt)
   have hfl := Lib.hid (hE1.out j hlt hg.out)
   have hst : Hid (rowErr l j = 0 -> GoodR l (j + 1)) := Lib.hid (fun h i hi => by
    rcases Nat.lt_succ_iff_lt_or_eq.1 hi with hi | rfl
    ·exact hg.out i hi
    ·exact h)
   have hre := rowErr_is hlt
   have hah := aheadL_at hlt
   obtain ⟨r, hr⟩ : ∃ r, l[j] = r := ⟨_, rfl⟩
   rw [hr] at r0 r1 r2 hv1 hv2 hsm hre hah
   clear hcl x0 x1 x2 hr hg
   obtain ⟨wx, hwx⟩ : ∃ wx, wr.alloc (.cells #[.slice A1 r.lab.length c1, .int .i64 r.last, .slice A2 r.pts.length c2] 63 (0, 0)) = wx := ⟨_, rfl⟩
   have hX := Lib.hid (box3 wr (.slice A1 r.lab.length c1) r.last (.slice A2 r.pts.length c2) 63)
   have hUX := Lib.hid ((Upon.refl (fun _ => False) wr).alloc (.cells #[.slice A1 r.lab.length c1, .int .i64 r.last, .slice A2 r.pts.length c2] 63 (0, 0)))
   rw [hwx] at hX hUX
   replace hwx := Lib.hid hwx
   have hux := Lib.hid (hall.trans hUX.out)
   have hubx := Lib.hid (hu.out.trans hUX.out)
   have HR := crow_any wx S (fun _ => True) u4 (aheadL l j) A1 c1 A2 c2 r (Rw.View.new hav.out hUX.out) (Rw.View.new hv1 hux.out) (Rw.View.new hv2 hux.out) hsm
   rw [<- hre] at HR
   have hv1' := Lib.hid (fun w' (hu' : New0 wx w') => Rw.View.all (Rw.View.new hv1 (hux.out.trans hu')))
   replace HR := Lib.hid HR
   replace hah := Lib.hid hah
   clear hre hv1 hv2 hsm hall hu hav
   obtain ⟨z0, z1, z2⟩ := hX.out
   by_cases hz : rowErr l j = 0
   ·have HR1 := HR.out
    rw [hz] at HR1
    have hgn := Lib.hid (hst.out hz)
    replace HR1 := Lib.hid HR1
    clear HR hst hfl hz
    go_wp2_with fail
    rw [hwx.out]
    refine HR1.out.mono ?_
    rintro e w4 ⟨rfl, hu4⟩
    have hu5 := Lib.hid (hubx.out.trans hu4)
    have hvn := Lib.hid (hv1'.out w4 hu4)
    clear HR1 hwx z0 z1 z2 r0 r1 r2
    obtain ⟨z0, z1, z2⟩ := hX.out.new hu4
    clear hu4 hubx
    go_wp2_with fail
    go_roundw
    case rel => exact ⟨j + 1, by go_num, hlt, hgn, Lib.hid (by rw [hah.out]; exact hvn.out), hu5⟩
    case measure => simp [intOf]; omega
   ·have hR := Lib.hid (hfl.out hz)
    obtain ⟨x, hx⟩ : ∃ x, rowErr l j = x := ⟨_, rfl⟩
    rw [hx] at HR hR hz
    have dz : ((x : Int) != 0) = true := by rw [bne_iff_ne]; omega
    clear hst hfl hz hx
    go_wp2_with fail
    rw [hwx.out]
    refine HR.out.mono ?_
    rintro e w4 ⟨rfl, hu4⟩
    have hu5 := Lib.hid (hux.out.trans hu4)
    clear HR hwx z0 z1 z2 r0 r1 r2 hu4 hubx
    go_wp2_with fail
    go_ret
    exact ⟨Lb.ret_i hR.out, hu5.out⟩
  ·have hgn : Hid (GoodR l l.length) := Lib.hid (by
    have : j = l.length := by omega
    rw [<- this]; exact hg.out)
   replace hE2 := Lib.hid (hE2.out hgn.out)
   replace hE3 := Lib.hid (hE3.out hgn.out)
   clear hE1 hg hgn hav hcells hsml
   go_wp2_with fail
   clear k0 k1 k2 k3
   go_loopw [37] (fun ov wr => ∃ i : Nat, ov = .int .i64 (i : Int) /\ i <= ds.length /\ Hid (∀ x (hx : x < ds.length), x < i -> DelOk ds[x]) /\ Hid (New0 wb wr)) (fun ov _ => ds.length - (intOf ov).toNat)
   case atStart => exact ⟨0, rfl, Nat.zero_le _, Lib.hid (fun x h k => absurd k (Nat.not_lt_zero x)), hu⟩
   case round =>
    clear hu
    obtain ⟨i, rfl, hi, hgd, hu⟩ := hrel
    have hall := Lib.hid (hU.out.trans hu.out)
    by_cases hil : i < ds.length
    ·obtain ⟨db, doff, B1, e1, B2, e2, rfl, -, y0, y1, y2, y3, y4, hv, -⟩ := hds.out i hil
     have g0 := Lb.New0.cells hall.out y0
     have g1 := Lb.New0.cells hall.out y1
     have g2 := Lb.New0.cells hall.out y2
     have g3 := Lb.New0.cells hall.out y3
     have g4 := Lb.New0.cells hall.out y4
     have hm := List.getElem_mem hil
     have hbd := hdb.out _ hm
     have hno := Lib.hid (hE2.out _ hm)
     have hnx : Hid (DelOk ds[i] -> ∀ x (hx : x < ds.length), x < i + 1 -> DelOk ds[x]) := Lib.hid (fun h x hx hxi => by
      rcases Nat.lt_succ_iff_lt_or_eq.1 hxi with h2 | rfl
      ·exact hgd.out x hx h2
      ·exact h)
     obtain ⟨r, hr⟩ : ∃ r, ds[i] = r := ⟨_, rfl⟩
     rw [hr] at g0 g1 g2 g3 g4 hv hbd hno hnx
     obtain ⟨wd, hwd⟩ : ∃ wd, wr.alloc (.cells #[.int .i64 r.kind, .slice B1 r.smp.length e1, .slice B2 r.ms.length e2, .int .i64 r.frm, .int .i64 r.til] 47 (0, 0)) = wd := ⟨_, rfl⟩
     have hD := Rc.box5 wr r.kind (.slice B1 r.smp.length e1) (.slice B2 r.ms.length e2) r.frm r.til
     have hUD := Lib.hid ((Upon.refl (fun _ => False) wr).alloc (.cells #[.int .i64 r.kind, .slice B1 r.smp.length e1, .slice B2 r.ms.length e2, .int .i64 r.frm, .int .i64 r.til] 47 (0, 0)))
     rw [hwd] at hD hUD
     have HC := Lib.hid (Rc.check_any wd _ _ _ (Rc.RView.new hv (hall.out.trans hUD.out)) hbd.1)
     obtain ⟨d0, d1, d2, d3, d4⟩ := hD
     have hud := Lib.hid (hu.out.trans hUD.out)
     have hax := Lib.hid (hall.out.trans hUD.out)
     replace hwd := Lib.hid hwd
     clear y0 y1 y2 y3 y4 hv hr hbd hm hgd hu hUD
     by_cases hk : r.kind = 2
     ·have dk : (r.kind != 2) = false := by rw [hk]; rfl
      replace hk := Lib.hid hk
      obtain ⟨z, hz⟩ : ∃ z, Rc.chk r = z := ⟨_, rfl⟩
      rw [hz] at HC
      by_cases hz0 : z = 0
      ·subst hz0
       have hG := Lib.hid (hnx.out ⟨hk.out, hz⟩)
       clear hnx hno hz
       go_wp2_with fail
       rw [hwd.out]
       refine HC.out.mono ?_
       rintro e w4 ⟨rfl, hu4⟩
       have hu5 := Lib.hid (hud.out.trans hu4)
       clear HC hwd hu4 hud d0 d1 d2 d3 d4 g0 g1 g2 g3 g4
       go_wp2_with fail
       go_roundw
       case rel => exact ⟨i + 1, by go_num, hil, hG, hu5⟩
       case measure => simp [intOf]; omega
      ·have hR := Lib.hid (hno.out (fun h => hz0 (hz.symm.trans h.2)))
       have dz : ((z : Int) != 0) = true := by rw [bne_iff_ne]; omega
       clear hnx hno hz hz0
       go_wp2_with fail
       rw [hwd.out]
       refine HC.out.mono ?_
       rintro e w4 ⟨rfl, hu4⟩
       have hu5 := Lib.hid (hax.out.trans hu4)
       clear HC hwd hu4 hud d0 d1 d2 d3 d4 g0 g1 g2 g3 g4
       go_wp2_with fail
       go_ret
       exact ⟨Lb.ret_i hR.out, hu5.out⟩
     ·have dk : (r.kind != 2) = true := by rw [bne_iff_ne]; exact hk
      have hR := Lib.hid (hno.out (fun h => hk h.1))
      clear hnx hno HC hk
      go_wp2_with fail
      rw [hwd.out]
      go_wp2_with fail
      go_ret
      exact ⟨Lb.ret_i hR.out, hax.out⟩
    ·have hR := Lib.hid (hE3.out (GoodD.last hgd.out hil))
     clear hgd hE2 hE3 hds hdb hu
     go_wp2_with fail
     go_ret
     exact ⟨Lb.ret_i hR.out, hall.out⟩
end Bk
end
end Go.Proofs.YtgmnhodajngchaaGreatDoor
