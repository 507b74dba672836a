/- PostingsLaws (layer 14). -/
import Derived.Test.YtklgdllllboipaaPoWorks
set_option maxRecDepth 100000
namespace Go.Proofs.Ytklgdllllboipaa
open Go.RowKit Go.Sort
namespace Po
open Bit Dsk Ob Dig
set_option linter.unusedVariables false
set_option maxHeartbeats 12800000 in
theorem laws_true (w : World) (v u s : Value) (hv : IsInts v w) (hu : IsInts u w) (hs : IsInts s w) :
    Calls Try.prog 5 #[v, u, s] w fun e w' => e = .returned (.bool true) ∧ Below w.heap.size w w' := by
  obtain ⟨l, Va⟩ := hv
  obtain ⟨m, Vb⟩ := hu
  obtain ⟨n, Vc⟩ := hs
  obtain ⟨A, c, rfl, -, -⟩ := Rw.View.shape Va
  obtain ⟨A', c', rfl, -, -⟩ := Rw.View.shape Vb
  obtain ⟨A3, c3, rfl, -, -⟩ := Rw.View.shape Vc
  have HW := Lib.hid (works_any w)
  replace Va := Lib.hid Va
  replace Vb := Lib.hid Vb
  replace Vc := Lib.hid Vc
  by_cases h0 : 100 < l.length
  · have d0 : (100 : Int) < (l.length : Int) := by omega
    go_enter Try.func5, Try.ntmps5
    go_wp2_with fail
    refine HW.out.mono ?_
    rintro e z0 ⟨rfl, hN⟩
    have hE := Lib.hid (belowNew hN)
    clear HW hN Va Vb Vc
    go_wp2_with fail
    go_ret
    exact ⟨rfl, hE.out⟩
  have d0 : ¬ (100 : Int) < (l.length : Int) := by omega
  by_cases h1 : 100 < m.length
  · have d1 : (100 : Int) < (m.length : Int) := by omega
    go_enter Try.func5, Try.ntmps5
    go_wp2_with fail
    refine HW.out.mono ?_
    rintro e z0 ⟨rfl, hN⟩
    have hE := Lib.hid (belowNew hN)
    clear HW hN Va Vb Vc
    go_wp2_with fail
    go_ret
    exact ⟨rfl, hE.out⟩
  have d1 : ¬ (100 : Int) < (m.length : Int) := by omega
  by_cases h2 : 100 < n.length
  · have d2 : (100 : Int) < (n.length : Int) := by omega
    go_enter Try.func5, Try.ntmps5
    go_wp2_with fail
    refine HW.out.mono ?_
    rintro e z0 ⟨rfl, hN⟩
    have hE := Lib.hid (belowNew hN)
    clear HW hN Va Vb Vc
    go_wp2_with fail
    go_ret
    exact ⟨rfl, hE.out⟩
  have d2 : ¬ (100 : Int) < (n.length : Int) := by omega
  go_enter Try.func5, Try.ntmps5
  go_wp2_with fail
  refine HW.out.mono ?_
  rintro e z0 ⟨rfl, hN⟩
  replace Va := Lib.hid (Rw.View.new Va.out hN)
  replace Vb := Lib.hid (Rw.View.new Vb.out hN)
  replace Vc := Lib.hid (Rw.View.new Vc.out hN)
  have hU := Lib.hid hN
  clear HW hN
  have HC := Lib.hid (and_any _ _ _ _ _ _ _ Va.out Vb.out (by first | omega | decide) (by first | omega | decide))
  go_wp2_with fail
  refine HC.out.mono ?_
  rintro e z1 ⟨vp, rp, rfl, Vp, Up, Mp, Lp, hN⟩
  replace Va := Lib.hid (Rw.View.new Va.out hN)
  replace Vb := Lib.hid (Rw.View.new Vb.out hN)
  replace Vc := Lib.hid (Rw.View.new Vc.out hN)
  replace hU := Lib.hid (hU.out.trans hN)
  clear hN HC
  (try dsimp only at Mp)
  replace Vp := Lib.hid Vp
  replace Up := Lib.hid Up
  replace Mp := Lib.hid Mp
  have HC := Lib.hid (or_any _ _ _ _ _ _ _ Va.out Vb.out (by first | omega | decide) (by first | omega | decide))
  go_wp2_with fail
  refine HC.out.mono ?_
  rintro e z2 ⟨vq, rq, rfl, Vq, Uq, Mq, Lq, hN⟩
  replace Va := Lib.hid (Rw.View.new Va.out hN)
  replace Vb := Lib.hid (Rw.View.new Vb.out hN)
  replace Vc := Lib.hid (Rw.View.new Vc.out hN)
  replace Vp := Lib.hid (Rw.View.new Vp.out hN)
  replace hU := Lib.hid (hU.out.trans hN)
  clear hN HC
  (try dsimp only at Mq)
  replace Vq := Lib.hid Vq
  replace Uq := Lib.hid Uq
  replace Mq := Lib.hid Mq
  have HC := Lib.hid (less_any _ _ _ _ _ _ _ Va.out Vb.out (by first | omega | decide) (by first | omega | decide))
  go_wp2_with fail
  refine HC.out.mono ?_
  rintro e z3 ⟨vs, rs, rfl, Vs, Us, Ms, Ls, hN⟩
  replace Va := Lib.hid (Rw.View.new Va.out hN)
  replace Vb := Lib.hid (Rw.View.new Vb.out hN)
  replace Vc := Lib.hid (Rw.View.new Vc.out hN)
  replace Vp := Lib.hid (Rw.View.new Vp.out hN)
  replace Vq := Lib.hid (Rw.View.new Vq.out hN)
  replace hU := Lib.hid (hU.out.trans hN)
  clear hN HC
  (try dsimp only at Ms)
  replace Vs := Lib.hid Vs
  replace Us := Lib.hid Us
  replace Ms := Lib.hid Ms
  have HC := Lib.hid (and_any _ _ _ _ _ _ _ Vb.out Va.out (by first | omega | decide) (by first | omega | decide))
  go_wp2_with fail
  refine HC.out.mono ?_
  rintro e z4 ⟨vt, rt, rfl, Vt, Ut, Mt, Lt, hN⟩
  replace Va := Lib.hid (Rw.View.new Va.out hN)
  replace Vb := Lib.hid (Rw.View.new Vb.out hN)
  replace Vc := Lib.hid (Rw.View.new Vc.out hN)
  replace Vp := Lib.hid (Rw.View.new Vp.out hN)
  replace Vq := Lib.hid (Rw.View.new Vq.out hN)
  replace Vs := Lib.hid (Rw.View.new Vs.out hN)
  replace hU := Lib.hid (hU.out.trans hN)
  clear hN HC
  (try dsimp only at Mt)
  replace Vt := Lib.hid Vt
  replace Ut := Lib.hid Ut
  replace Mt := Lib.hid Mt
  have HC := same_any _ _ _ _ _ _ _ Vp.out Vt.out
  rw [show decide (rp = rt) = true from decide_eq_true (up_ext Up.out Ut.out fun x => by rw [Mp.out x, Mt.out x]; exact and_comm)] at HC
  replace HC := Lib.hid HC
  go_wp2_with fail
  refine HC.out.mono ?_
  rintro e z5 ⟨rfl, hN⟩
  replace Va := Lib.hid (Rw.View.new Va.out hN)
  replace Vb := Lib.hid (Rw.View.new Vb.out hN)
  replace Vc := Lib.hid (Rw.View.new Vc.out hN)
  replace Vp := Lib.hid (Rw.View.new Vp.out hN)
  replace Vq := Lib.hid (Rw.View.new Vq.out hN)
  replace Vs := Lib.hid (Rw.View.new Vs.out hN)
  replace Vt := Lib.hid (Rw.View.new Vt.out hN)
  replace hU := Lib.hid (hU.out.trans hN)
  clear hN HC
  clear Vt Ut Mt
  have HC := Lib.hid (or_any _ _ _ _ _ _ _ Vb.out Va.out (by first | omega | decide) (by first | omega | decide))
  go_wp2_with fail
  refine HC.out.mono ?_
  rintro e z6 ⟨vt, rt, rfl, Vt, Ut, Mt, Lt, hN⟩
  replace Va := Lib.hid (Rw.View.new Va.out hN)
  replace Vb := Lib.hid (Rw.View.new Vb.out hN)
  replace Vc := Lib.hid (Rw.View.new Vc.out hN)
  replace Vp := Lib.hid (Rw.View.new Vp.out hN)
  replace Vq := Lib.hid (Rw.View.new Vq.out hN)
  replace Vs := Lib.hid (Rw.View.new Vs.out hN)
  replace hU := Lib.hid (hU.out.trans hN)
  clear hN HC
  (try dsimp only at Mt)
  replace Vt := Lib.hid Vt
  replace Ut := Lib.hid Ut
  replace Mt := Lib.hid Mt
  have HC := same_any _ _ _ _ _ _ _ Vq.out Vt.out
  rw [show decide (rq = rt) = true from decide_eq_true (up_ext Uq.out Ut.out fun x => by rw [Mq.out x, Mt.out x]; exact or_comm)] at HC
  replace HC := Lib.hid HC
  go_wp2_with fail
  refine HC.out.mono ?_
  rintro e z7 ⟨rfl, hN⟩
  replace Va := Lib.hid (Rw.View.new Va.out hN)
  replace Vb := Lib.hid (Rw.View.new Vb.out hN)
  replace Vc := Lib.hid (Rw.View.new Vc.out hN)
  replace Vp := Lib.hid (Rw.View.new Vp.out hN)
  replace Vq := Lib.hid (Rw.View.new Vq.out hN)
  replace Vs := Lib.hid (Rw.View.new Vs.out hN)
  replace Vt := Lib.hid (Rw.View.new Vt.out hN)
  replace hU := Lib.hid (hU.out.trans hN)
  clear hN HC
  clear Vt Ut Mt
  have HC := Lib.hid (or_any _ _ _ _ _ _ _ Vp.out Vs.out (by first | omega | decide) (by first | omega | decide))
  go_wp2_with fail
  refine HC.out.mono ?_
  rintro e z8 ⟨vt, rt, rfl, Vt, Ut, Mt, Lt, hN⟩
  replace Va := Lib.hid (Rw.View.new Va.out hN)
  replace Vb := Lib.hid (Rw.View.new Vb.out hN)
  replace Vc := Lib.hid (Rw.View.new Vc.out hN)
  replace Vp := Lib.hid (Rw.View.new Vp.out hN)
  replace Vq := Lib.hid (Rw.View.new Vq.out hN)
  replace Vs := Lib.hid (Rw.View.new Vs.out hN)
  replace hU := Lib.hid (hU.out.trans hN)
  clear hN HC
  (try dsimp only at Mt)
  replace Vt := Lib.hid Vt
  replace Ut := Lib.hid Ut
  replace Mt := Lib.hid Mt
  have Vo : Hid (IView z8 All (.slice none 0 0) []) := Lib.hid (Rw.View.noth layI _ _)
  have HC := Lib.hid (or_any _ _ _ _ _ _ _ Va.out Vo.out (by first | omega | decide) (by first | omega | decide))
  go_wp2_with fail
  refine HC.out.mono ?_
  rintro e z9 ⟨vx, rx, rfl, Vx, Ux, Mx, Lx, hN⟩
  replace Va := Lib.hid (Rw.View.new Va.out hN)
  replace Vb := Lib.hid (Rw.View.new Vb.out hN)
  replace Vc := Lib.hid (Rw.View.new Vc.out hN)
  replace Vp := Lib.hid (Rw.View.new Vp.out hN)
  replace Vq := Lib.hid (Rw.View.new Vq.out hN)
  replace Vs := Lib.hid (Rw.View.new Vs.out hN)
  replace Vt := Lib.hid (Rw.View.new Vt.out hN)
  replace Vo := Lib.hid (Rw.View.new Vo.out hN)
  replace hU := Lib.hid (hU.out.trans hN)
  clear hN HC
  (try dsimp only at Mx)
  replace Vx := Lib.hid Vx
  replace Ux := Lib.hid Ux
  replace Mx := Lib.hid Mx
  have HC := same_any _ _ _ _ _ _ _ Vt.out Vx.out
  rw [show decide (rt = rx) = true from decide_eq_true (up_ext Ut.out Ux.out fun y => by rw [Mt.out y, Mx.out y, Mp.out y, Ms.out y]; by_cases hy : y ∈ m <;> simp [hy])] at HC
  replace HC := Lib.hid HC
  go_wp2_with fail
  refine HC.out.mono ?_
  rintro e z10 ⟨rfl, hN⟩
  replace Va := Lib.hid (Rw.View.new Va.out hN)
  replace Vb := Lib.hid (Rw.View.new Vb.out hN)
  replace Vc := Lib.hid (Rw.View.new Vc.out hN)
  replace Vp := Lib.hid (Rw.View.new Vp.out hN)
  replace Vq := Lib.hid (Rw.View.new Vq.out hN)
  replace Vs := Lib.hid (Rw.View.new Vs.out hN)
  replace Vt := Lib.hid (Rw.View.new Vt.out hN)
  replace Vo := Lib.hid (Rw.View.new Vo.out hN)
  replace Vx := Lib.hid (Rw.View.new Vx.out hN)
  replace hU := Lib.hid (hU.out.trans hN)
  clear hN HC
  clear Vt Ut Mt
  clear Vx Ux Mx
  clear Vo
  have HC := Lib.hid (and_any _ _ _ _ _ _ _ Vp.out Vs.out (by first | omega | decide) (by first | omega | decide))
  go_wp2_with fail
  refine HC.out.mono ?_
  rintro e z11 ⟨vt, rt, rfl, Vt, Ut, Mt, Lt, hN⟩
  replace Va := Lib.hid (Rw.View.new Va.out hN)
  replace Vb := Lib.hid (Rw.View.new Vb.out hN)
  replace Vc := Lib.hid (Rw.View.new Vc.out hN)
  replace Vp := Lib.hid (Rw.View.new Vp.out hN)
  replace Vq := Lib.hid (Rw.View.new Vq.out hN)
  replace Vs := Lib.hid (Rw.View.new Vs.out hN)
  replace hU := Lib.hid (hU.out.trans hN)
  clear hN HC
  (try dsimp only at Mt)
  replace Vt := Lib.hid Vt
  replace Ut := Lib.hid Ut
  replace Mt := Lib.hid Mt
  have ht0 : rt = [] := List.eq_nil_iff_forall_not_mem.2 fun y hy => by have h1 : y ∈ rp ∧ y ∈ rs := (Mt.out y).1 hy; rw [Mp.out y, Ms.out y] at h1; exact h1.2.2 h1.1.2
  subst ht0
  obtain ⟨At, ct, hvt, -, -⟩ := Rw.View.shape Vt.out
  subst hvt
  clear Vt Ut Mt
  have HC := Lib.hid (and_any _ _ _ _ _ _ _ Vc.out Vq.out (by first | omega | decide) (by first | omega | decide))
  go_wp2_with fail
  refine HC.out.mono ?_
  rintro e z12 ⟨vt, rt, rfl, Vt, Ut, Mt, Lt, hN⟩
  replace Va := Lib.hid (Rw.View.new Va.out hN)
  replace Vb := Lib.hid (Rw.View.new Vb.out hN)
  replace Vc := Lib.hid (Rw.View.new Vc.out hN)
  replace Vp := Lib.hid (Rw.View.new Vp.out hN)
  replace Vq := Lib.hid (Rw.View.new Vq.out hN)
  replace Vs := Lib.hid (Rw.View.new Vs.out hN)
  replace hU := Lib.hid (hU.out.trans hN)
  clear hN HC
  (try dsimp only at Mt)
  replace Vt := Lib.hid Vt
  replace Ut := Lib.hid Ut
  replace Mt := Lib.hid Mt
  have HC := Lib.hid (and_any _ _ _ _ _ _ _ Vc.out Va.out (by first | omega | decide) (by first | omega | decide))
  go_wp2_with fail
  refine HC.out.mono ?_
  rintro e z13 ⟨vx, rx, rfl, Vx, Ux, Mx, Lx, hN⟩
  replace Va := Lib.hid (Rw.View.new Va.out hN)
  replace Vb := Lib.hid (Rw.View.new Vb.out hN)
  replace Vc := Lib.hid (Rw.View.new Vc.out hN)
  replace Vp := Lib.hid (Rw.View.new Vp.out hN)
  replace Vq := Lib.hid (Rw.View.new Vq.out hN)
  replace Vs := Lib.hid (Rw.View.new Vs.out hN)
  replace Vt := Lib.hid (Rw.View.new Vt.out hN)
  replace hU := Lib.hid (hU.out.trans hN)
  clear hN HC
  (try dsimp only at Mx)
  replace Vx := Lib.hid Vx
  replace Ux := Lib.hid Ux
  replace Mx := Lib.hid Mx
  have HC := Lib.hid (and_any _ _ _ _ _ _ _ Vc.out Vb.out (by first | omega | decide) (by first | omega | decide))
  go_wp2_with fail
  refine HC.out.mono ?_
  rintro e z14 ⟨vy, ry, rfl, Vy, Uy, My, Ly, hN⟩
  replace Va := Lib.hid (Rw.View.new Va.out hN)
  replace Vb := Lib.hid (Rw.View.new Vb.out hN)
  replace Vc := Lib.hid (Rw.View.new Vc.out hN)
  replace Vp := Lib.hid (Rw.View.new Vp.out hN)
  replace Vq := Lib.hid (Rw.View.new Vq.out hN)
  replace Vs := Lib.hid (Rw.View.new Vs.out hN)
  replace Vt := Lib.hid (Rw.View.new Vt.out hN)
  replace Vx := Lib.hid (Rw.View.new Vx.out hN)
  replace hU := Lib.hid (hU.out.trans hN)
  clear hN HC
  (try dsimp only at My)
  replace Vy := Lib.hid Vy
  replace Uy := Lib.hid Uy
  replace My := Lib.hid My
  have HC := Lib.hid (or_any _ _ _ _ _ _ _ Vx.out Vy.out (by first | omega | decide) (by first | omega | decide))
  go_wp2_with fail
  refine HC.out.mono ?_
  rintro e z15 ⟨vk, rk, rfl, Vk, Uk, Mk, Lk, hN⟩
  replace Va := Lib.hid (Rw.View.new Va.out hN)
  replace Vb := Lib.hid (Rw.View.new Vb.out hN)
  replace Vc := Lib.hid (Rw.View.new Vc.out hN)
  replace Vp := Lib.hid (Rw.View.new Vp.out hN)
  replace Vq := Lib.hid (Rw.View.new Vq.out hN)
  replace Vs := Lib.hid (Rw.View.new Vs.out hN)
  replace Vt := Lib.hid (Rw.View.new Vt.out hN)
  replace Vx := Lib.hid (Rw.View.new Vx.out hN)
  replace Vy := Lib.hid (Rw.View.new Vy.out hN)
  replace hU := Lib.hid (hU.out.trans hN)
  clear hN HC
  (try dsimp only at Mk)
  replace Vk := Lib.hid Vk
  replace Uk := Lib.hid Uk
  replace Mk := Lib.hid Mk
  have HC := same_any _ _ _ _ _ _ _ Vt.out Vk.out
  rw [show decide (rt = rk) = true from decide_eq_true (up_ext Ut.out Uk.out fun y => by rw [Mt.out y, Mk.out y, Mx.out y, My.out y, Mq.out y]; exact and_or_left)] at HC
  replace HC := Lib.hid HC
  go_wp2_with fail
  refine HC.out.mono ?_
  rintro e z16 ⟨rfl, hN⟩
  replace Va := Lib.hid (Rw.View.new Va.out hN)
  replace Vb := Lib.hid (Rw.View.new Vb.out hN)
  replace Vc := Lib.hid (Rw.View.new Vc.out hN)
  replace Vp := Lib.hid (Rw.View.new Vp.out hN)
  replace Vq := Lib.hid (Rw.View.new Vq.out hN)
  replace Vs := Lib.hid (Rw.View.new Vs.out hN)
  replace Vt := Lib.hid (Rw.View.new Vt.out hN)
  replace Vx := Lib.hid (Rw.View.new Vx.out hN)
  replace Vy := Lib.hid (Rw.View.new Vy.out hN)
  replace Vk := Lib.hid (Rw.View.new Vk.out hN)
  replace hU := Lib.hid (hU.out.trans hN)
  clear hN HC
  clear Vt Ut Mt
  clear Vx Ux Mx
  clear Vy Uy My
  clear Vk Uk Mk
  have HC := Lib.hid (less_any _ _ _ _ _ _ _ Vc.out Vq.out (by first | omega | decide) (by first | omega | decide))
  go_wp2_with fail
  refine HC.out.mono ?_
  rintro e z17 ⟨vt, rt, rfl, Vt, Ut, Mt, Lt, hN⟩
  replace Va := Lib.hid (Rw.View.new Va.out hN)
  replace Vb := Lib.hid (Rw.View.new Vb.out hN)
  replace Vc := Lib.hid (Rw.View.new Vc.out hN)
  replace Vp := Lib.hid (Rw.View.new Vp.out hN)
  replace Vq := Lib.hid (Rw.View.new Vq.out hN)
  replace Vs := Lib.hid (Rw.View.new Vs.out hN)
  replace hU := Lib.hid (hU.out.trans hN)
  clear hN HC
  (try dsimp only at Mt)
  replace Vt := Lib.hid Vt
  replace Ut := Lib.hid Ut
  replace Mt := Lib.hid Mt
  have HC := Lib.hid (less_any _ _ _ _ _ _ _ Vc.out Va.out (by first | omega | decide) (by first | omega | decide))
  go_wp2_with fail
  refine HC.out.mono ?_
  rintro e z18 ⟨vx, rx, rfl, Vx, Ux, Mx, Lx, hN⟩
  replace Va := Lib.hid (Rw.View.new Va.out hN)
  replace Vb := Lib.hid (Rw.View.new Vb.out hN)
  replace Vc := Lib.hid (Rw.View.new Vc.out hN)
  replace Vp := Lib.hid (Rw.View.new Vp.out hN)
  replace Vq := Lib.hid (Rw.View.new Vq.out hN)
  replace Vs := Lib.hid (Rw.View.new Vs.out hN)
  replace Vt := Lib.hid (Rw.View.new Vt.out hN)
  replace hU := Lib.hid (hU.out.trans hN)
  clear hN HC
  (try dsimp only at Mx)
  replace Vx := Lib.hid Vx
  replace Ux := Lib.hid Ux
  replace Mx := Lib.hid Mx
  have HC := Lib.hid (less_any _ _ _ _ _ _ _ Vx.out Vb.out (by first | omega | decide) (by first | omega | decide))
  go_wp2_with fail
  refine HC.out.mono ?_
  rintro e z19 ⟨vy, ry, rfl, Vy, Uy, My, Ly, hN⟩
  replace Va := Lib.hid (Rw.View.new Va.out hN)
  replace Vb := Lib.hid (Rw.View.new Vb.out hN)
  replace Vc := Lib.hid (Rw.View.new Vc.out hN)
  replace Vp := Lib.hid (Rw.View.new Vp.out hN)
  replace Vq := Lib.hid (Rw.View.new Vq.out hN)
  replace Vs := Lib.hid (Rw.View.new Vs.out hN)
  replace Vt := Lib.hid (Rw.View.new Vt.out hN)
  replace Vx := Lib.hid (Rw.View.new Vx.out hN)
  replace hU := Lib.hid (hU.out.trans hN)
  clear hN HC
  (try dsimp only at My)
  replace Vy := Lib.hid Vy
  replace Uy := Lib.hid Uy
  replace My := Lib.hid My
  have HC := same_any _ _ _ _ _ _ _ Vt.out Vy.out
  rw [show decide (rt = ry) = true from decide_eq_true (up_ext Ut.out Uy.out fun z => by rw [Mt.out z, My.out z, Mx.out z, Mq.out z, not_or]; exact and_assoc.symm)] at HC
  replace HC := Lib.hid HC
  go_wp2_with fail
  refine HC.out.mono ?_
  rintro e z20 ⟨rfl, hN⟩
  replace Va := Lib.hid (Rw.View.new Va.out hN)
  replace Vb := Lib.hid (Rw.View.new Vb.out hN)
  replace Vc := Lib.hid (Rw.View.new Vc.out hN)
  replace Vp := Lib.hid (Rw.View.new Vp.out hN)
  replace Vq := Lib.hid (Rw.View.new Vq.out hN)
  replace Vs := Lib.hid (Rw.View.new Vs.out hN)
  replace Vt := Lib.hid (Rw.View.new Vt.out hN)
  replace Vx := Lib.hid (Rw.View.new Vx.out hN)
  replace Vy := Lib.hid (Rw.View.new Vy.out hN)
  replace hU := Lib.hid (hU.out.trans hN)
  clear hN HC
  go_wp2_with fail
  go_ret
  exact ⟨rfl, belowNew hU.out⟩
end Po
end Go.Proofs.Ytklgdllllboipaa
