/- Parts, put together: HdApp2, HdArg, HdObj. -/
import Derived.Test.YtfheehlfodoimaaGreatPHd3
import Derived.Test.YtfheehlfodoimaaGreatPRc1
import Derived.Test.YtfheehlfodoimaaGreatPRow
import Derived.Test.YtfheehlfodoimaaGreatPHd1

/- The document's head (layer 13): Apply. -/
section
set_option maxRecDepth 100000
namespace Go.Proofs.YtfheehlfodoimaaGreat
open Go.RowKit Go.Sort
open Bit Dsk Ob Dig
namespace Hd
set_option linter.unusedVariables false
set_option linter.unusedSimpArgs false

/-- What Apply leaves. -/
def AppE (w : World) (A R : Nat → Prop) (p : Nat) (h : H) (r : Rc.R) (e : Ending) (w' : World) : Prop := e = .returned (.int .i64 (tr h r : Int)) ∧ PutE w w' A R p (app h r)
theorem app_no {h : H} {r : Rc.R} (ht : tr h r ≠ 0) : app h r = h := by rw [app, if_pos ht]
theorem app_del {h : H} {r : Rc.R} (ht : tr h r = 0) (hk : r.kind = 2) : app h r = del h r.ms r.frm r.til := by rw [app, if_neg (by simp [ht]), if_pos hk]
theorem app_com {h g : H} {r : Rc.R} (ht : tr h r = 0) (hk : r.kind ≠ 2) (hp : puts h r.smp = some g) : app h r = g := by rw [app, if_neg (by simp [ht]), if_neg hk, hp]; rfl
theorem tr_zero {h : H} {r : Rc.R} (ht : tr h r = 0) : Rc.chk r = 0 ∧ ∃ g, puts h r.smp = some g ∧ g.length ≤ 256 := by
  unfold tr at ht
  by_cases hc : Rc.chk r = 0
  · rw [if_neg (by simp [hc])] at ht
    cases hp : puts h r.smp with
    | none => rw [hp] at ht; cases ht
    | some g =>
      rw [hp] at ht
      refine ⟨hc, g, rfl, ?_⟩
      by_cases h256 : 256 < g.length
      · simp only [if_pos h256] at ht; cases ht
      · omega
  · rw [if_pos hc] at ht; exact absurd ht hc
/-- One of the samples is not too old, where all of them may be put. -/
theorem puts_one {h g gf : H} {l : List Rc.Smp} {j : Nat} (hj : j < l.length) (hp : puts h (l.take j) = some g) (hf : puts h l = some gf) : old g l[j] = false ∧ puts h (l.take (j + 1)) = some (add g l[j]) := by
  have h1 : puts h (l.take (j + 1)) = if old g l[j] = true then none else some (add g l[j]) := by rw [List.take_succ_eq_append_getElem hj, puts_snoc, hp]
  cases ho : old g l[j] with
  | true =>
    rw [ho, if_pos rfl] at h1
    have h2 := puts_none h _ (l.drop (j + 1)) h1
    rw [List.take_append_drop, hf] at h2
    cases h2
  | false => rw [ho, if_neg (by decide)] at h1; exact ⟨rfl, h1⟩
/-- What the rounds keep: the head, and that only its blocks have changed. -/
structure Kp (wx w : World) (A R : Nat → Prop) (p : Nat) (g : H) : Prop where
  obj : ∃ A' R' u' rs', HeadR w A' R' p u' rs' g ∧ (∀ b, A b → A' b) ∧ (∀ b, A' b → A b ∨ wx.heap.size ≤ b) ∧ ∀ b, R' b → R b ∨ wx.heap.size ≤ b
  upon : Upon A wx w
theorem Kp.start {wx : World} {A R : Nat → Prop} {p : Nat} {u : Rw.Sl} {rs : List RR} {h : H} (hh : HeadR wx A R p u rs h) : Kp wx wx A R p h := ⟨⟨A, R, u, rs, hh, fun _ k => k, fun _ k => .inl k, fun _ k => .inl k⟩, Upon.refl _ _⟩
theorem Kp.new {wx w w' : World} {A R : Nat → Prop} {p : Nat} {g : H} (k : Kp wx w A R p g) (hu : New0 w w') : Kp wx w' A R p g := by
  obtain ⟨A', R', u', rs', h1, h2, h3, h4⟩ := k.obj
  exact ⟨⟨A', R', u', rs', h1.new hu, h2, h3, h4⟩, k.upon.trans (hu.mono fun _ _ f => f.elim)⟩
theorem Kp.put {wx w w' : World} {A R A1 R1 : Nat → Prop} {p : Nat} {g : H} (hu : Upon A wx w) (h2 : ∀ b, A b → A1 b) (h3 : ∀ b, A1 b → A b ∨ wx.heap.size ≤ b) (h4 : ∀ b, R1 b → R b ∨ wx.heap.size ≤ b) (k : PutE w w' A1 R1 p g) : Kp wx w' A R p g := by
  obtain ⟨A', R', u', rs', e1, e2, e3, e4⟩ := k.obj
  have hs := hu.size
  refine ⟨⟨A', R', u', rs', e1, fun b hb => e2 b (h2 b hb), fun b hb => ?_, fun b hb => ?_⟩, hu.trans' k.upon fun b hb hA => ?_⟩
  · rcases e3 b hb with h | h
    · exact h3 b h
    · exact .inr (by omega)
  · rcases e4 b hb with h | h
    · exact h4 b h
    · exact .inr (by omega)
  · rcases h3 b hA with h | h
    · exact h
    · omega
theorem Kp.putE {w wx w' : World} {A R : Nat → Prop} {p : Nat} {g : H} (hx : New0 w wx) (k : Kp wx w' A R p g) : PutE w w' A R p g := by
  obtain ⟨A', R', u', rs', e1, e2, e3, e4⟩ := k.obj
  have hs := hx.size
  exact ⟨⟨A', R', u', rs', e1, e2, fun b hb => (e3 b hb).imp id (fun h => by omega), fun b hb => (e4 b hb).imp id (fun h => by omega)⟩, (hx.mono fun _ _ f => f.elim).trans k.upon⟩
set_option maxHeartbeats 12800000 in
theorem app_any (w : World) {A R : Nat → Prop} {p : Nat} {u : Rw.Sl} {rs : List RR} {h : H} (hh : HeadR w A R p u rs h) (S : Nat → Prop) (v : Value) (r : Rc.R) (hv : Rc.RView w S v r) (hSA : ∀ b, S b → ¬ A b) (hb : Rc.Bnd r) (hsane : SaneN r.smp.length h) (hsl : ∀ x ∈ r.smp, x.1.length ≤ 1000000000) :
    Calls Tryz.prog 10 #[.pointer (some ⟨p, 0, none⟩), v] w (AppE w A R p h r) := by
  have hT := fun w1 (hu : New0 w w1) => try_any w1 (hh.new hu) S v r (hv.new hu) hb hsane hsl
  obtain ⟨As, cs, Am, cm, rfl, hs, hm⟩ := Rc.RView.shape hv
  obtain ⟨wx, hwx⟩ : ∃ wx, w.alloc (.cells #[.int .i64 r.kind, .slice As r.smp.length cs, .slice Am r.ms.length cm, .int .i64 r.frm, .int .i64 r.til] 34 (0, 0)) = wx := ⟨_, rfl⟩
  have ux := (Upon.refl (fun _ => False) w).alloc (.cells #[.int .i64 r.kind, .slice As r.smp.length cs, .slice Am r.ms.length cm, .int .i64 r.frm, .int .i64 r.til] 34 (0, 0))
  have hX := Rc.box5 w r.kind (.slice As r.smp.length cs) (.slice Am r.ms.length cm) r.frm r.til
  have hlx : (w.alloc (.cells #[.int .i64 r.kind, .slice As r.smp.length cs, .slice Am r.ms.length cm, .int .i64 r.frm, .int .i64 r.til] 34 (0, 0))).heap.size = w.heap.size + 1 := by simp
  rw [hwx] at ux hX hlx
  have HT := Lib.hid (hT wx ux)
  have hh0 := hh.new ux
  have hAl : ∀ b, A b → b < w.heap.size := fun b hb => hh.lt b (.inl hb)
  -- the box while the head's blocks turn
  have hB : Hid (∀ w1, Upon A wx w1 → Rc.Box5 w.heap.size r.kind (.slice As r.smp.length cs) (.slice Am r.ms.length cm) r.frm r.til w1) := Lib.hid (fun w1 hu => by
    have e : ∀ o, w1.cell? ⟨w.heap.size, o, none⟩ = wx.cell? ⟨w.heap.size, o, none⟩ := fun o => by
      rw [World.cell?, World.cell?, hu.block w.heap.size (by omega) (fun hb => by have := hAl _ hb; omega)]
    obtain ⟨k0, k1, k2, k3, k4⟩ := hX
    exact ⟨(e 0).trans k0, (e 1).trans k1, (e 2).trans k2, (e 3).trans k3, (e 4).trans k4⟩)
  have hS := Lib.hid (fun w1 (hu : Upon A wx w1) => (Rw.DView.upon (Rw.DView.upon hs ux (fun _ _ f => f)) hu hSA : Rc.SView w1 S (.slice As r.smp.length cs) r.smp))
  have hM := Lib.hid (fun w1 (hu : Upon A wx w1) => (Rw.View.upon (Rw.View.upon hm ux (fun _ _ f => f)) hu hSA : Mt.View w1 S (.slice Am r.ms.length cm) r.ms))
  have hux := Lib.hid ux
  have hmb := Lib.hid hb.ms
  obtain ⟨k0, k1, k2, k3, k4⟩ := hX
  replace hwx := Lib.hid hwx
  clear hT hv hs hm hAl hlx ux
  by_cases ht : tr h r = 0
  · obtain ⟨hc, gf, hpf, hgl⟩ := tr_zero ht
    rw [ht] at HT
    have ht' := Lib.hid ht
    replace hsane := Lib.hid hsane
    replace hsl := Lib.hid hsl
    replace hpf := Lib.hid hpf
    replace hh0 := Lib.hid hh0
    rcases Rc.chk_zero.1 hc with hco | hde
    · have hk := hco.kind
      have hk2 : ((1 : Int) == 2) = false := rfl
      have happ : Hid (app h r = gf) := Lib.hid (app_com ht (by rw [hk]; decide) hpf.out)
      have hlr : r.smp.length ≤ 32 := hco.few
      rw [hk] at hB hwx k0 ⊢
      clear hc hco ht hh hb hM hmb
      go_enter Tryz.func10, Tryz.ntmps10
      go_wp2_with fail
      rw [hwx.out]
      refine (hk ▸ HT.out).mono ?_
      rintro e w2 ⟨rfl, hu2⟩
      have hkp := Lib.hid ((Kp.start hh0.out).new hu2)
      clear HT k0 k1 k2 k3 k4 hwx hu2
      go_wp2_with fail
      go_loopw [6] (fun iv wr => ∃ (j : Nat) (g : H), iv = .int .i64 (j : Int) ∧ j ≤ r.smp.length ∧ Hid (puts h (r.smp.take j) = some g) ∧ Hid (SaneN (r.smp.length - j) g) ∧ Hid (Kp wx wr A R p g)) (fun iv _ => r.smp.length - (intOf iv).toNat)
      case atStart => exact ⟨0, h, rfl, Nat.zero_le _, Lib.hid rfl, Lib.hid hsane.out, hkp⟩
      case round =>
        obtain ⟨j, g, rfl, hj, hputs, hsn, hkq⟩ := hrel
        obtain ⟨k0, k1, k2, k3, k4⟩ := hB.out wr hkq.out.upon
        by_cases hlt : j < r.smp.length
        · obtain ⟨bs, off, hAs, hbl, hcells⟩ := Rc.SView.cells (hS.out wr hkq.out.upon) (by omega)
          obtain ⟨⟨la, ln, lc⟩, hlv, d0, d1, d2⟩ := hcells j hlt
          subst hAs
          obtain ⟨ho, hp2⟩ := puts_one hlt hputs.out hpf.out
          have hx := hsl.out _ (List.getElem_mem hlt)
          obtain ⟨⟨l, t, qq⟩, hs⟩ : ∃ s, r.smp[j] = s := ⟨_, rfl⟩
          rw [hs] at hlv d1 d2 hx ho hp2
          simp only at hlv d1 d2 hx
          replace d0 : wr.cell? ⟨bs, off + j * 3, none⟩ = some (.slice la ln lc) := d0
          have hln : ln = l.length := by
            obtain ⟨A2, c2, e2, -, -⟩ := Rw.View.shape hlv
            injection e2
          subst hln
          obtain ⟨A1, R1, u1, rs1, hg, e2, e3, e4⟩ := hkq.out.obj
          have hsn2 : SaneN (r.smp.length - (j + 1) + 1) g := by have := hsn.out; rwa [show r.smp.length - (j + 1) + 1 = r.smp.length - j by omega]
          have HPut := Lib.hid (put_any wr hg hsn2.sane S la lc l t qq hlv hx)
          have hsa := Lib.hid (hsn2.add (s := (l, t, qq)) hx)
          have hnx := Lib.hid (fun w' (k : PutE wr w' A1 R1 p (add g (l, t, qq))) => Kp.put hkq.out.upon e2 e3 e4 k)
          replace hp2 := Lib.hid hp2
          replace ho := Lib.hid ho
          clear hlv hcells hs hsn2 hx hg e2 e3 e4 hkq hsn hputs
          go_wp2_with fail
          refine HPut.out.mono ?_
          rintro e w5 ⟨rfl, -, ho2⟩
          have hk5 := Lib.hid (hnx.out _ (ho2 ho.out))
          clear HPut ho2 hnx k0 k1 k2 k3 k4 d0 d1 d2 ho
          go_wp2_with fail
          go_roundw
          case rel => exact ⟨j + 1, _, by go_num, hlt, hp2, hsa, hk5⟩
          case measure => simp [intOf]; omega
        · have hje : j = r.smp.length := by omega
          have hge : g = gf := by
            have h1 := hputs.out
            rw [hje, List.take_length, hpf.out] at h1
            exact (Option.some.inj h1).symm
          subst hge
          have hend : Hid (AppE w A R p h r (.returned (.int .i64 0)) wr) := Lib.hid ⟨by rw [ht'.out]; rfl, by rw [happ.out]; exact hkq.out.putE hux.out⟩
          obtain ⟨A1, R1, u1, rs1, hg, e2, e3, e4⟩ := hkq.out.obj
          have b0 := hg.box0
          have hun := hg.len
          obtain ⟨ua, un, uc⟩ := u1
          simp only at hun b0
          subst hun
          clear hje hg e2 e3 e4 hkq hsn hputs hpf
          go_wp2_with fail
          go_loopw [7] (fun iv wq => iv = .int .i64 0 ∧ wq = wr) (fun _ _ => 0)
          case atStart => exact ⟨rfl, rfl⟩
          case round =>
            obtain ⟨rfl, rfl⟩ := hrel
            by_cases hz : 0 < g.length
            · go_wp2_with fail
              go_ret
              exact hend.out
            · go_wp2_with fail
              go_ret
              exact hend.out
    · have hk := hde.kind
      have hsm := hde.smp
      have happ : Hid (app h r = del h r.ms r.frm r.til) := Lib.hid (app_del ht hk)
      have hsz : ∀ x ∈ h, x.pts.length ≤ 1000000000 := fun x hx => by have := hsane.out.pts x hx; omega
      obtain ⟨kk, l, ms, a, b⟩ := r
      simp only at hk hsm hB hwx k0 k1 k2 k3 k4 happ hM hmb HT ⊢
      subst hk hsm
      simp only [List.length_nil] at hB hwx k0 k1 k2 k3 k4 HT ⊢
      have hhl := hh.few
      have hsz' := Lib.hid hsz
      clear hc hde ht hh hb hS hpf hsane hsl hsz
      go_enter Tryz.func10, Tryz.ntmps10
      go_wp2_with fail
      rw [hwx.out]
      refine HT.out.mono ?_
      rintro e w2 ⟨rfl, hu2⟩
      have hkp : Hid (Kp wx w2 A R p (dl ms a b h 0)) := Lib.hid (by rw [dl_zero]; exact (Kp.start hh0.out).new hu2)
      clear HT k0 k1 k2 k3 k4 hwx hu2 hh0
      go_wp2_with fail
      go_loopw [6] (fun iv wq => iv = .int .i64 0 ∧ wq = w2) (fun _ _ => 0)
      case atStart => exact ⟨rfl, rfl⟩
      case round =>
        obtain ⟨rfl, rfl⟩ := hrel
        obtain ⟨k0, k1, k2, k3, k4⟩ := hB.out _ hkp.out.upon
        go_wp2_with fail
        clear k0 k1 k2 k3 k4
        go_loopw [7] (fun iv wr => ∃ (j : Nat), iv = .int .i64 (j : Int) ∧ j ≤ h.length ∧ Hid (Kp wx wr A R p (dl ms a b h j))) (fun iv _ => h.length - (intOf iv).toNat)
        case atStart => exact ⟨0, rfl, Nat.zero_le _, hkp⟩
        case round =>
          clear hkp
          obtain ⟨j, rfl, hj, hkq⟩ := hrel
          obtain ⟨k0, k1, k2, k3, k4⟩ := hB.out _ hkq.out.upon
          obtain ⟨A1, R1, u1, rs1, hg, e2, e3, e4⟩ := hkq.out.obj
          have hdl := dl_len ms a b h hj
          have b0 := hg.box0
          have hun := hg.len
          rw [hdl] at hun
          by_cases hlt : j < h.length
          · have hlt2 : j < (dl ms a b h j).length := by omega
            obtain ⟨g, c, r1, hu1, -, hr1, x0, x1, x2, hlv, hpm, hfr⟩ := hg.at hlt2
            rw [hdl] at hu1
            subst hu1
            simp only at b0 hun
            rw [dl_at ms a b h hlt hlt2] at hlv hpm x2
            have hx1f := hfr (j * 3 + 1)
            have hmv := hM.out _ hkq.out.upon
            have HI := Lib.hid (fun w1 (hu : New0 wr w1) => Mt.refis_any w1 S R1 _ _ ms _ (Rw.View.new hmv hu) hmb.out (Rw.View.new hlv hu))
            have HW := Lib.hid (fun w1 (hu : New0 wr w1) => without_any w1 _ _ _ a b (hpm.new hu).view (hsz'.out _ (List.getElem_mem hlt)))
            obtain ⟨isv, his⟩ : ∃ isv, Mt.is ms h[j].lab = isv := ⟨_, rfl⟩
            rw [his] at HI
            obtain ⟨rl, rp, rt⟩ := r1
            obtain ⟨la, ln, lc⟩ := rl
            obtain ⟨pa, pn, pc⟩ := rp
            simp only at x0 x1 hlv hpm HI HW
            have hS1 := Lib.hid (fun w' (hu : New0 wr w') => And.intro (Lb.New0.cells hu b0) (And.intro (Lb.New0.cells hu k2) (Lb.New0.cells hu x0)))
            have hS2 : Hid (∀ wq, New0 wr wq → ∀ w', New0 wq w' → w'.cell? ⟨p, 0, none⟩ = some (.slice (some ⟨g, 0, none⟩) h.length c) ∧ w'.cell? ⟨w.heap.size, 3, none⟩ = some (.int .i64 a) ∧ w'.cell? ⟨w.heap.size, 4, none⟩ = some (.int .i64 b) ∧ w'.cell? ⟨g, j * 3 + 1, none⟩ = some (.slice pa pn pc) ∧ w'.frozen? ⟨g, j * 3 + 1, none⟩ = false) := Lib.hid (fun wq hq w' hu => by
              have hu := hq.trans hu
              have hh' := (hg.new hu).row
              exact ⟨Lb.New0.cells hu b0, Lb.New0.cells hu k3, Lb.New0.cells hu k4, Lb.New0.cells hu x1, Rw.Mine.frozen hh' _⟩)
            have hnx : Hid (∀ w1, New0 wr w1 → ∀ (t' : Rw.Sl), OwnP wr w1 t'.v (without h[j].pts a b) → isv = true → Kp wx (w1.setCell ⟨g, j * 3 + 1, none⟩ t'.v) A R p (dl ms a b h (j + 1))) := Lib.hid (fun w1 hu t' ho hi => by
              have hrr := hg.rows.len
              obtain ⟨A', rs', q1, q2, q3, q4⟩ := hg.trade hu hlt2 (gb := g) (c := c) (by rw [hdl]) (by omega) (t' := t') ho.1 ho.2.1
              have hst : dl ms a b h (j + 1) = (dl ms a b h j).set j ⟨(dl ms a b h j)[j].lab, without h[j].pts a b, (dl ms a b h j)[j].last⟩ := by
                rw [dl_step ms a b h hlt, dl_at ms a b h hlt hlt2, del1, if_pos (by rw [his]; exact hi)]
              rw [hst]
              exact Kp.put hkq.out.upon e2 e3 e4 ⟨⟨A', R1, _, rs', q1, q2, q3, fun b hb => .inl hb⟩, q4⟩)
            have hno : Hid (∀ w1, New0 wr w1 → isv = false → Kp wx w1 A R p (dl ms a b h (j + 1))) := Lib.hid (fun w1 hu hi => by
              rw [dl_same ms a b h hlt (by rw [his]; exact hi)]
              exact hkq.out.new hu)
            clear hg e2 e3 e4 hkq hmv hlv hpm hfr hr1 hdl hlt2 his hx1f
            go_wp2_with fail
            go_cut [52] from 28 to 72 (fun bv wc => bv = .bool isv ∧ Hid (New0 wr wc))
            case first =>
              refine HeldS.wp_region_S 10 (S := fun w' => w'.cell? ⟨p, 0, none⟩ = some (.slice (some ⟨g, 0, none⟩) h.length c) ∧ w'.cell? ⟨w.heap.size, 2, none⟩ = some (.slice Am ms.length cm) ∧ w'.cell? ⟨g, j * 3, none⟩ = some (.slice la ln lc)) (by kernel_rfl) (hS1.out _ ((Upon.refl _ wr).drew)) (fun hHeld => ?_)
              refine HeldS.wpAnyS_take (i := 0) [1] (oi := _) (v := ?_) rfl (by kernel_rfl) (by kernel_rfl) (by kernel_rfl) (by kernel_rfl) (by kernel_rfl) (fun _ _ _ h => h) (Or.inl ⟨by rfl, ?_⟩) (by assumption) ?_
              rotate_left
              · (intro w hSw; (try dsimp only at hSw); go_simp; (try with_reducible rfl))
              (try simp only [Act.put, List.setIfInBounds_toArray, List.set_cons_zero, List.set_cons_succ])
              refine HeldS.wpAnyS_take (i := 1) [] (oi := _) (v := ?_) rfl (by kernel_rfl) (by kernel_rfl) (by kernel_rfl) (by kernel_rfl) (by kernel_rfl) (fun _ _ _ h => h) (Or.inl ⟨by rfl, ?_⟩) (by assumption) ?_
              rotate_left
              · (intro w hSw; (try dsimp only at hSw); go_simp; (try with_reducible rfl))
              (try simp only [Act.put, List.setIfInBounds_toArray, List.set_cons_zero, List.set_cons_succ])
              refine HeldS.wpAnyS_take (i := 2) [9, 8, 7, 5, 4, 3] (oi := _) (v := ?_) rfl (by kernel_rfl) (by kernel_rfl) (by kernel_rfl) (by kernel_rfl) (by kernel_rfl) (fun _ _ _ h => h) (Or.inl ⟨by rfl, ?_⟩) (by assumption) ?_
              rotate_left
              · (intro w hSw; (try dsimp only at hSw); go_simp; (try with_reducible rfl))
              (try simp only [Act.put, List.setIfInBounds_toArray, List.set_cons_zero, List.set_cons_succ])
              refine HeldS.wpAnyS_take (i := 3) [9, 8, 7, 5, 4] (oi := _) (v := ?_) rfl (by kernel_rfl) (by kernel_rfl) (by kernel_rfl) (by kernel_rfl) (by kernel_rfl) (fun _ _ _ h => h) (Or.inl ⟨by rfl, ?_⟩) (by assumption) ?_
              rotate_left
              · (intro w hSw; (try dsimp only at hSw); go_simp; (try with_reducible rfl))
              (try simp only [Act.put, List.setIfInBounds_toArray, List.set_cons_zero, List.set_cons_succ])
              refine HeldS.wpAnyS_take (i := 4) [9, 8, 7, 5] (oi := _) (v := ?_) rfl (by kernel_rfl) (by kernel_rfl) (by kernel_rfl) (by kernel_rfl) (by kernel_rfl) (fun _ _ _ h => h) (Or.inl ⟨by rfl, ?_⟩) (by assumption) ?_
              rotate_left
              · (intro w hSw; (try dsimp only at hSw); go_simp; (try with_reducible rfl))
              (try simp only [Act.put, List.setIfInBounds_toArray, List.set_cons_zero, List.set_cons_succ])
              refine HeldS.wpAnyS_take (i := 5) [9, 8, 7] (oi := _) (v := ?_) rfl (by kernel_rfl) (by kernel_rfl) (by kernel_rfl) (by kernel_rfl) (by kernel_rfl) (fun _ _ _ h => h) (Or.inl ⟨by rfl, ?_⟩) (by assumption) ?_
              rotate_left
              · (intro w hSw; (try dsimp only at hSw); go_simp; (try with_reducible rfl))
              (try simp only [Act.put, List.setIfInBounds_toArray, List.set_cons_zero, List.set_cons_succ])
              refine HeldS.wpAnyS_take (i := 6) [9, 8, 7] (oi := _) (v := ?_) rfl (by kernel_rfl) (by kernel_rfl) (by kernel_rfl) (by kernel_rfl) (by kernel_rfl) (fun _ _ _ h => h) (Or.inl ⟨by rfl, ?_⟩) (by assumption) ?_
              rotate_left
              · (intro w hSw; (try dsimp only at hSw); go_simp; (try with_reducible rfl))
              (try simp only [Act.put, List.setIfInBounds_toArray, List.set_cons_zero, List.set_cons_succ])
              refine HeldS.wpAnyS_take (i := 7) [9, 8] (oi := _) (v := ?_) rfl (by kernel_rfl) (by kernel_rfl) (by kernel_rfl) (by kernel_rfl) (by kernel_rfl) (fun _ _ _ h => h) (Or.inl ⟨by rfl, ?_⟩) (by assumption) ?_
              rotate_left
              · (intro w hSw; (try dsimp only at hSw); go_simp; (try with_reducible rfl))
              (try simp only [Act.put, List.setIfInBounds_toArray, List.set_cons_zero, List.set_cons_succ])
              refine HeldS.wpAnyS_take (i := 8) [9] (oi := _) (v := ?_) rfl (by kernel_rfl) (by kernel_rfl) (by kernel_rfl) (by kernel_rfl) (by kernel_rfl) (fun _ _ _ h => h) (Or.inl ⟨by rfl, ?_⟩) (by assumption) ?_
              rotate_left
              · (intro w hSw; (try dsimp only at hSw); go_simp; (try with_reducible rfl))
              (try simp only [Act.put, List.setIfInBounds_toArray, List.set_cons_zero, List.set_cons_succ])
              refine HeldS.wpAnyS_take (i := 9) [] (oi := _) (v := ?_) rfl (by kernel_rfl) (by kernel_rfl) (by kernel_rfl) (by kernel_rfl) (by kernel_rfl) (fun _ _ _ h => h) (Or.inl ⟨by rfl, ?_⟩) (by assumption) ?_
              rotate_left
              · (intro w hSw; (try dsimp only at hSw); go_simp; (try with_reducible rfl))
              (try simp only [Act.put, List.setIfInBounds_toArray, List.set_cons_zero, List.set_cons_succ])
              refine HeldS.wpAnyS_ready (rs := [10]) (by kernel_rfl) (by simp) ?_
              refine HeldS.AllS.last (s := 10) (o := ⟨some 52, _, _, _, _, _⟩) rfl (fun K hK => ?_) HeldS.AllS.nil
              · go_simp
                refine (HI.out _ (by repeat (first | assumption | exact Upon.refl _ _ | refine Upon.drew ?_))).mono ?_
                rintro e w1 ⟨rfl, hu1⟩
                refine hK.out _ _ ?_
                clear hK K
                (try simp only [Act.put, List.setIfInBounds_toArray, List.set_cons_zero, List.set_cons_succ])
                refine HeldS.wpAnyS_done (by kernel_rfl) ?_ _
                go_wp2_with fail
                go_meet
                exact ⟨rfl, Lib.hid (((Upon.refl _ wr).drew).trans hu1)⟩
            case rest =>
              obtain ⟨rfl, hu1⟩ := hcut
              clear HI hS1 x0 x2
              cases isv with
              | false =>
                have hk2 := Lib.hid (hno.out _ hu1.out rfl)
                clear hno hnx HW hS2 x1 b0 k0 k1 k2 k3 k4
                go_wp2_with fail
                go_roundw
                case rel => exact ⟨j + 1, by go_num, hlt, hk2⟩
                case measure => simp [intOf]; omega
              | true =>
                have hS3 := Lib.hid (hS2.out _ hu1.out)
                have HW3 := Lib.hid (fun w1 (hu : New0 wc w1) => HW.out w1 (hu1.out.trans hu))
                have hn3 : Hid (∀ W, New0 wc W → ∀ w1 (t' : Rw.Sl), OwnP W w1 t'.v (without h[j].pts a b) → Kp wx (w1.setCell ⟨g, j * 3 + 1, none⟩ t'.v) A R p (dl ms a b h (j + 1))) := Lib.hid (fun W hu w1 t' ho => hnx.out w1 (hu1.out.trans (hu.trans ho.2.2)) t' ⟨ho.1, fun k hk => Nat.le_trans (hu1.out.trans hu).size (ho.2.1 k hk), hu1.out.trans (hu.trans ho.2.2)⟩ rfl)
                obtain ⟨wq, hwq⟩ : ∃ wq, wc = wq := ⟨_, rfl⟩
                subst hwq
                clear hno hnx HW hS2 x1 b0 k0 k1 k2 k3 k4 hu1
                go_wp2_with fail
                refine HeldS.wp_region_S 20 (S := fun w' => w'.cell? ⟨p, 0, none⟩ = some (.slice (some ⟨g, 0, none⟩) h.length c) ∧ w'.cell? ⟨w.heap.size, 3, none⟩ = some (.int .i64 a) ∧ w'.cell? ⟨w.heap.size, 4, none⟩ = some (.int .i64 b) ∧ w'.cell? ⟨g, j * 3 + 1, none⟩ = some (.slice pa pn pc) ∧ w'.frozen? ⟨g, j * 3 + 1, none⟩ = false) (by kernel_rfl) (hS3.out _ ((Upon.refl _ wc).drew)) (fun hHeld => ?_)
                refine HeldS.wpAnyS_take (i := 0) [] (oi := _) (v := ?_) rfl (by kernel_rfl) (by kernel_rfl) (by kernel_rfl) (by kernel_rfl) (by kernel_rfl) (fun _ _ _ h => h) (Or.inl ⟨by rfl, ?_⟩) (by assumption) ?_
                rotate_left
                · (intro w hSw; (try dsimp only at hSw); go_simp; (try with_reducible rfl))
                (try simp only [Act.put, List.setIfInBounds_toArray, List.set_cons_zero, List.set_cons_succ])
                refine HeldS.wpAnyS_take (i := 1) [] (oi := _) (v := ?_) rfl (by kernel_rfl) (by kernel_rfl) (by kernel_rfl) (by kernel_rfl) (by kernel_rfl) (fun _ _ _ h => h) (Or.inl ⟨by rfl, ?_⟩) (by assumption) ?_
                rotate_left
                · (intro w hSw; (try dsimp only at hSw); go_simp; (try with_reducible rfl))
                (try simp only [Act.put, List.setIfInBounds_toArray, List.set_cons_zero, List.set_cons_succ])
                refine HeldS.wpAnyS_take (i := 2) [] (oi := _) (v := ?_) rfl (by kernel_rfl) (by kernel_rfl) (by kernel_rfl) (by kernel_rfl) (by kernel_rfl) (fun _ _ _ h => h) (Or.inl ⟨by rfl, ?_⟩) (by assumption) ?_
                rotate_left
                · (intro w hSw; (try dsimp only at hSw); go_simp; (try with_reducible rfl))
                (try simp only [Act.put, List.setIfInBounds_toArray, List.set_cons_zero, List.set_cons_succ])
                refine HeldS.wpAnyS_take (i := 3) [] (oi := _) (v := ?_) rfl (by kernel_rfl) (by kernel_rfl) (by kernel_rfl) (by kernel_rfl) (by kernel_rfl) (fun _ _ _ h => h) (Or.inl ⟨by rfl, ?_⟩) (by assumption) ?_
                rotate_left
                · (intro w hSw; (try dsimp only at hSw); go_simp; (try with_reducible rfl))
                (try simp only [Act.put, List.setIfInBounds_toArray, List.set_cons_zero, List.set_cons_succ])
                refine HeldS.wpAnyS_take (i := 4) [] (oi := _) (v := ?_) rfl (by kernel_rfl) (by kernel_rfl) (by kernel_rfl) (by kernel_rfl) (by kernel_rfl) (fun _ _ _ h => h) (Or.inl ⟨by rfl, ?_⟩) (by assumption) ?_
                rotate_left
                · (intro w hSw; (try dsimp only at hSw); go_simp; (try with_reducible rfl))
                (try simp only [Act.put, List.setIfInBounds_toArray, List.set_cons_zero, List.set_cons_succ])
                refine HeldS.wpAnyS_take (i := 5) [] (oi := _) (v := ?_) rfl (by kernel_rfl) (by kernel_rfl) (by kernel_rfl) (by kernel_rfl) (by kernel_rfl) (fun _ _ _ h => h) (Or.inl ⟨by rfl, ?_⟩) (by assumption) ?_
                rotate_left
                · (intro w hSw; (try dsimp only at hSw); go_simp; (try with_reducible rfl))
                (try simp only [Act.put, List.setIfInBounds_toArray, List.set_cons_zero, List.set_cons_succ])
                refine HeldS.wpAnyS_take (i := 6) [] (oi := _) (v := ?_) rfl (by kernel_rfl) (by kernel_rfl) (by kernel_rfl) (by kernel_rfl) (by kernel_rfl) (fun _ _ _ h => h) (Or.inl ⟨by rfl, ?_⟩) (by assumption) ?_
                rotate_left
                · (intro w hSw; (try dsimp only at hSw); go_simp; (try with_reducible rfl))
                (try simp only [Act.put, List.setIfInBounds_toArray, List.set_cons_zero, List.set_cons_succ])
                refine HeldS.wpAnyS_take (i := 7) [] (oi := _) (v := ?_) rfl (by kernel_rfl) (by kernel_rfl) (by kernel_rfl) (by kernel_rfl) (by kernel_rfl) (fun _ _ _ h => h) (Or.inl ⟨by rfl, ?_⟩) (by assumption) ?_
                rotate_left
                · (intro w hSw; (try dsimp only at hSw); go_simp; (try with_reducible rfl))
                (try simp only [Act.put, List.setIfInBounds_toArray, List.set_cons_zero, List.set_cons_succ])
                refine HeldS.wpAnyS_take (i := 8) [] (oi := _) (v := ?_) rfl (by kernel_rfl) (by kernel_rfl) (by kernel_rfl) (by kernel_rfl) (by kernel_rfl) (fun _ _ _ h => h) (Or.inl ⟨by rfl, ?_⟩) (by assumption) ?_
                rotate_left
                · (intro w hSw; (try dsimp only at hSw); go_simp; (try with_reducible rfl))
                (try simp only [Act.put, List.setIfInBounds_toArray, List.set_cons_zero, List.set_cons_succ])
                refine HeldS.wpAnyS_take (i := 9) [] (oi := _) (v := ?_) rfl (by kernel_rfl) (by kernel_rfl) (by kernel_rfl) (by kernel_rfl) (by kernel_rfl) (fun _ _ _ h => h) (Or.inl ⟨by rfl, ?_⟩) (by assumption) ?_
                rotate_left
                · (intro w hSw; (try dsimp only at hSw); go_simp; (try with_reducible rfl))
                (try simp only [Act.put, List.setIfInBounds_toArray, List.set_cons_zero, List.set_cons_succ])
                refine HeldS.wpAnyS_take (i := 10) [] (oi := _) (v := ?_) rfl (by kernel_rfl) (by kernel_rfl) (by kernel_rfl) (by kernel_rfl) (by kernel_rfl) (fun _ _ _ h => h) (Or.inl ⟨by rfl, ?_⟩) (by assumption) ?_
                rotate_left
                · (intro w hSw; (try dsimp only at hSw); go_simp; (try with_reducible rfl))
                (try simp only [Act.put, List.setIfInBounds_toArray, List.set_cons_zero, List.set_cons_succ])
                refine HeldS.wpAnyS_take (i := 11) [] (oi := _) (v := ?_) rfl (by kernel_rfl) (by kernel_rfl) (by kernel_rfl) (by kernel_rfl) (by kernel_rfl) (fun _ _ _ h => h) (Or.inl ⟨by rfl, ?_⟩) (by assumption) ?_
                rotate_left
                · (intro w hSw; (try dsimp only at hSw); go_simp; (try with_reducible rfl))
                (try simp only [Act.put, List.setIfInBounds_toArray, List.set_cons_zero, List.set_cons_succ])
                refine HeldS.wpAnyS_take (i := 12) [] (oi := _) (v := ?_) rfl (by kernel_rfl) (by kernel_rfl) (by kernel_rfl) (by kernel_rfl) (by kernel_rfl) (fun _ _ _ h => h) (Or.inl ⟨by rfl, ?_⟩) (by assumption) ?_
                rotate_left
                · (intro w hSw; (try dsimp only at hSw); go_simp; (try with_reducible rfl))
                (try simp only [Act.put, List.setIfInBounds_toArray, List.set_cons_zero, List.set_cons_succ])
                refine HeldS.wpAnyS_take (i := 13) [] (oi := _) (v := ?_) rfl (by kernel_rfl) (by kernel_rfl) (by kernel_rfl) (by kernel_rfl) (by kernel_rfl) (fun _ _ _ h => h) (Or.inl ⟨by rfl, ?_⟩) (by assumption) ?_
                rotate_left
                · (intro w hSw; (try dsimp only at hSw); go_simp; (try with_reducible rfl))
                (try simp only [Act.put, List.setIfInBounds_toArray, List.set_cons_zero, List.set_cons_succ])
                refine HeldS.wpAnyS_take (i := 14) [] (oi := _) (v := ?_) rfl (by kernel_rfl) (by kernel_rfl) (by kernel_rfl) (by kernel_rfl) (by kernel_rfl) (fun _ _ _ h => h) (Or.inl ⟨by rfl, ?_⟩) (by assumption) ?_
                rotate_left
                · (intro w hSw; (try dsimp only at hSw); go_simp; (try with_reducible rfl))
                (try simp only [Act.put, List.setIfInBounds_toArray, List.set_cons_zero, List.set_cons_succ])
                refine HeldS.wpAnyS_take (i := 15) [] (oi := _) (v := ?_) rfl (by kernel_rfl) (by kernel_rfl) (by kernel_rfl) (by kernel_rfl) (by kernel_rfl) (fun _ _ _ h => h) (Or.inl ⟨by rfl, ?_⟩) (by assumption) ?_
                rotate_left
                · (intro w hSw; (try dsimp only at hSw); go_simp; (try with_reducible rfl))
                (try simp only [Act.put, List.setIfInBounds_toArray, List.set_cons_zero, List.set_cons_succ])
                refine HeldS.wpAnyS_take (i := 16) [] (oi := _) (v := ?_) rfl (by kernel_rfl) (by kernel_rfl) (by kernel_rfl) (by kernel_rfl) (by kernel_rfl) (fun _ _ _ h => h) (Or.inl ⟨by rfl, ?_⟩) (by assumption) ?_
                rotate_left
                · (intro w hSw; (try dsimp only at hSw); go_simp; (try with_reducible rfl))
                (try simp only [Act.put, List.setIfInBounds_toArray, List.set_cons_zero, List.set_cons_succ])
                refine HeldS.wpAnyS_ready (rs := [17]) (by kernel_rfl) (by simp) ?_
                refine HeldS.AllS.cons (o := ⟨some 70, _, _, _, _, _⟩) rfl (fun K hK => ?_) HeldS.AllS.nil
                go_simp
                refine (HW3.out _ (by repeat (first | assumption | exact Upon.refl _ _ | refine Upon.drew ?_))).mono ?_
                rintro e w5 ⟨u5, rfl, ho5⟩
                obtain ⟨A5, c5, hu5, -, -⟩ := Rw.View.shape ho5.1.view
                subst hu5
                have hfin := Lib.hid (hn3.out _ (by repeat (first | assumption | exact Upon.refl _ _ | refine Upon.drew ?_)) w5 ⟨A5, _, c5⟩ ho5)
                have hS5 := hS3.out w5 (((Upon.refl _ wc).drew).trans ho5.2.2)
                refine hK.out _ _ hS5 (fun hHeld => ?_)
                clear hK K
                (try simp only [Act.put, List.setIfInBounds_toArray, List.set_cons_zero, List.set_cons_succ])
                refine HeldS.wpAnyS_take (i := 18) [19] (oi := _) (v := ?_) rfl (by kernel_rfl) (by kernel_rfl) (by kernel_rfl) (by kernel_rfl) (by kernel_rfl) (fun _ _ _ h => h) (Or.inl ⟨by rfl, ?_⟩) (by assumption) ?_
                rotate_left
                · (intro w hSw; (try dsimp only at hSw); go_simp; (try with_reducible rfl))
                (try simp only [Act.put, List.setIfInBounds_toArray, List.set_cons_zero, List.set_cons_succ])
                refine HeldS.wpAnyS_take (i := 19) [] (oi := _) (v := ?_) rfl (by kernel_rfl) (by kernel_rfl) (by kernel_rfl) (by kernel_rfl) (by kernel_rfl) (fun _ _ _ h => h) (Or.inl ⟨by rfl, ?_⟩) (by assumption) ?_
                rotate_left
                · (intro w hSw; (try dsimp only at hSw); go_simp; (try with_reducible rfl))
                (try simp only [Act.put, List.setIfInBounds_toArray, List.set_cons_zero, List.set_cons_succ])
                refine HeldS.wpAnyS_ready (rs := [20]) (by kernel_rfl) (by simp) ?_
                refine HeldS.AllS.last (s := 20) (o := ⟨none, _, _, _, _, _⟩) rfl (fun K hK => ?_) HeldS.AllS.nil
                obtain ⟨-, -, -, pc5, pf5⟩ := hHeld
                go_simp
                refine hK.out _ _ ?_
                clear hK K
                (try simp only [Act.put, List.setIfInBounds_toArray, List.set_cons_zero, List.set_cons_succ])
                refine HeldS.wpAnyS_done (by kernel_rfl) ?_ _
                clear ho5 hS5 pc5 pf5 hS3 HW3 hn3
                go_wp2_with fail
                go_roundw
                case rel => exact ⟨j + 1, by go_num, hlt, hfin⟩
                case measure => simp [intOf]; omega
          · have hje : j = h.length := by omega
            have hend : Hid (AppE w A R p h ⟨2, [], ms, a, b⟩ (.returned (.int .i64 0)) wr) := Lib.hid ⟨by rw [ht'.out]; rfl, by
              rw [happ.out, ← dl_end, ← hje]
              exact hkq.out.putE hux.out⟩
            obtain ⟨ua, un, uc⟩ := u1
            simp only at hun b0
            subst hun
            clear hje hg e2 e3 e4 hkq
            go_wp2_with fail
            go_ret
            exact hend.out
  · have hh1 := Lib.hid (fun w' (hu : New0 wx w') => (Kp.start hh0).new hu)
    have hna := Lib.hid (app_no ht)
    have dt : ((tr h r : Int) != 0) = true := by rw [bne_iff_ne]; omega
    obtain ⟨z, hz⟩ : ∃ z : Nat, tr h r = z := ⟨_, rfl⟩
    have hz' := Lib.hid hz
    rw [hz] at HT dt
    clear hh0 hh hb hB hS hM hmb ht hsane hsl hSA hz
    go_enter Tryz.func10, Tryz.ntmps10
    go_wp2_with fail
    rw [hwx.out]
    refine HT.out.mono ?_
    rintro e w2 ⟨rfl, hu2⟩
    have hend : Hid (AppE w A R p h r (.returned (.int .i64 (z : Int))) w2) := Lib.hid ⟨by rw [hz'.out], by rw [hna.out]; exact (hh1.out _ hu2).putE hux.out⟩
    clear HT k0 k1 k2 k3 k4 hwx hu2
    go_wp2_with fail
    go_ret
    exact hend.out
end Hd
end Go.Proofs.YtfheehlfodoimaaGreat
end

/- Rows of records, of queries among the arguments (layer 13), opened. -/
section
set_option maxRecDepth 100000
namespace Go.Proofs.YtfheehlfodoimaaGreat
open Go.RowKit Go.ChangeShapes Go.WideShapes
namespace Hd
open Bit Dsk Ob Dig
set_option linter.unusedVariables false

abbrev AllB : Nat → Prop := fun _ => True
/-- A record's cells. -/
structure RC where
  k : Int
  s : Rw.Sl
  m : Rw.Sl
  a : Int
  b : Int
def layRC : Rw.Lay RC := ⟨5, by decide, fun x => [.int .i64 x.k, x.s.v, x.m.v, .int .i64 x.a, .int .i64 x.b], fun _ => rfl, fun x u hu => by
  simp only [List.mem_cons, List.not_mem_nil, or_false] at hu
  rcases hu with rfl | rfl | rfl | rfl | rfl <;> rfl⟩
def innRC : Rw.Inner RC Rc.R where
  rel w S x r := x.k = r.kind ∧ x.a = r.frm ∧ x.b = r.til ∧ Rc.SView w S x.s.v r.smp ∧ Mt.View w S x.m.v r.ms
  upon h hu hd := ⟨h.1, h.2.1, h.2.2.1, Rw.DView.upon h.2.2.2.1 hu hd, Rw.View.upon h.2.2.2.2 hu hd⟩
  mono h hS := ⟨h.1, h.2.1, h.2.2.1, Rw.DView.mono h.2.2.2.1 hS, Rw.View.mono h.2.2.2.2 hS⟩
/-- v reads as the records l. -/
abbrev RsView := Rw.DView layRC innRC
/-- What is known of a record that came in. -/
def RBnd (r : Rc.R) : Prop := Rc.Bnd r ∧ r.smp.length * 40 ≤ 140737488351232 ∧ r.ms.length * 40 ≤ 140737488351232
/-- Record i, as a walk reads it. -/
theorem RsView.at {w : World} {S : Nat → Prop} {A : Option Addr} {n c : Nat} {l : List Rc.R} (h : RsView w S (.slice A n c) l) {i : Nat} (hi : i < l.length) : ∃ (b off : Nat) (A1 : Option Addr) (c1 : Nat) (A2 : Option Addr) (c2 : Nat), A = some ⟨b, off, none⟩ ∧ b < w.heap.size ∧
    w.cell? ⟨b, off + i * 5, none⟩ = some (.int .i64 l[i].kind) ∧ w.cell? ⟨b, off + i * 5 + 1, none⟩ = some (.slice A1 l[i].smp.length c1) ∧ w.cell? ⟨b, off + i * 5 + 2, none⟩ = some (.slice A2 l[i].ms.length c2) ∧ w.cell? ⟨b, off + i * 5 + 3, none⟩ = some (.int .i64 l[i].frm) ∧ w.cell? ⟨b, off + i * 5 + 4, none⟩ = some (.int .i64 l[i].til) ∧
    Rc.RView w S (.agg #[.int .i64 l[i].kind, .slice A1 l[i].smp.length c1, .slice A2 l[i].ms.length c2, .int .i64 l[i].frm, .int .i64 l[i].til]) l[i] ∧ Rc.SView w S (.slice A1 l[i].smp.length c1) l[i].smp := by
  obtain ⟨b, off, h1, h2, h3⟩ := Rw.DView.open h (show 0 < l.length by omega)
  obtain ⟨⟨k, ⟨sa, sn, sc⟩, ⟨ma, mn, mc⟩, a, b2⟩, ⟨k1, k2, k3, k4, k5⟩, k6⟩ := h3 i hi
  simp only at k1 k2 k3 k4 k5
  subst k1 k2 k3
  obtain ⟨A1, c1, e1, -, -⟩ := Rw.DView.shape k4
  obtain ⟨A2, c2, e2, -, -⟩ := Rw.View.shape k5
  injection e1 with f1 f2 f3
  injection e2 with g1 g2 g3
  subst f1 f2 f3 g1 g2 g3
  exact ⟨b, off, _, _, _, _, h1, h2, k6 0 _ rfl, k6 1 _ rfl, k6 2 _ rfl, k6 3 _ rfl, k6 4 _ rfl, ⟨⟨_, _, _⟩, ⟨_, _, _⟩, rfl, k4, k5⟩, k4⟩
/-- A query: matchers, from, to. -/
structure Q where
  ms : List Mt.M
  frm : Int
  til : Int
structure QC where
  m : Rw.Sl
  a : Int
  b : Int
def layQC : Rw.Lay QC := ⟨3, by decide, fun x => [x.m.v, .int .i64 x.a, .int .i64 x.b], fun _ => rfl, fun x u hu => by
  simp only [List.mem_cons, List.not_mem_nil, or_false] at hu
  rcases hu with rfl | rfl | rfl <;> rfl⟩
def innQC : Rw.Inner QC Q where
  rel w S x q := x.a = q.frm ∧ x.b = q.til ∧ Mt.View w S x.m.v q.ms
  upon h hu hd := ⟨h.1, h.2.1, Rw.View.upon h.2.2 hu hd⟩
  mono h hS := ⟨h.1, h.2.1, Rw.View.mono h.2.2 hS⟩
abbrev QsView := Rw.DView layQC innQC
def QBnd (q : Q) : Prop := Mt.Bnd q.ms ∧ (-9223372036854775808 ≤ q.frm ∧ q.frm ≤ 9223372036854775807) ∧ (-9223372036854775808 ≤ q.til ∧ q.til ≤ 9223372036854775807) ∧ q.ms.length * 40 ≤ 140737488351232
theorem QsView.at {w : World} {S : Nat → Prop} {A : Option Addr} {n c : Nat} {l : List Q} (h : QsView w S (.slice A n c) l) {i : Nat} (hi : i < l.length) : ∃ (b off : Nat) (A1 : Option Addr) (c1 : Nat), A = some ⟨b, off, none⟩ ∧ b < w.heap.size ∧
    w.cell? ⟨b, off + i * 3, none⟩ = some (.slice A1 l[i].ms.length c1) ∧ w.cell? ⟨b, off + i * 3 + 1, none⟩ = some (.int .i64 l[i].frm) ∧ w.cell? ⟨b, off + i * 3 + 2, none⟩ = some (.int .i64 l[i].til) ∧ Mt.View w S (.slice A1 l[i].ms.length c1) l[i].ms := by
  obtain ⟨b, off, h1, h2, h3⟩ := Rw.DView.open h (show 0 < l.length by omega)
  obtain ⟨⟨⟨ma, mn, mc⟩, a, b2⟩, ⟨k1, k2, k5⟩, k6⟩ := h3 i hi
  simp only at k1 k2 k5
  subst k1 k2
  obtain ⟨A2, c2, e2, -, -⟩ := Rw.View.shape k5
  injection e2 with g1 g2 g3
  subst g1 g2 g3
  exact ⟨b, off, _, _, h1, h2, k6 0 _ rfl, k6 1 _ rfl, k6 2 _ rfl, k5⟩
section
variable {H : Type} {enc : TypeId × Value → H} {W : World}
def RCG (W : World) (x : RC) : Prop := ∃ r : Rc.R, innRC.rel W AllB x r ∧ RBnd r
theorem open_rc {fuel : Nat} {cs : List Value} {d : DataW H} {p : List MemPlace} (hl : cs.length = 5) (h : DataW.trod enc Tryz.prog W 0 (fun _ => true) true fuel 34 cs = some (d, p)) (hz : ∀ n ∈ d.weights Tryz.prog 34, n ≤ 140737488351232) : ∃ x : RC, cs = layRC.enc x ∧ RCG W x := by
  have ci : Tryz.prog.cellsOf 3 = 1 := by kernel_rfl
  have c0 : Tryz.prog.cellsOf 31 = 1 := by kernel_rfl
  have c1 : Tryz.prog.cellsOf 32 = 1 := by kernel_rfl
  have c2 : Tryz.prog.cellsOf 2 = 1 := by kernel_rfl
  obtain ⟨xs, k, hk, hxy, _, hxl, hfd⟩ := DataW.trod_struct Tryz.underlying34 h
  match xs, hxl, cs, hl with
  | [y0, y1, y2, y3, y4], _, [v0, v1, v2, v3, v4], _ =>
    have g0 := hfd 0 _ rfl
    have g1 := hfd 1 _ rfl
    have g2 := hfd 2 _ rfl
    have g3 := hfd 3 _ rfl
    have g4 := hfd 4 _ rfl
    simp [ci, c0, c1, c2] at g0 g1 g2 g3 g4
    have hd := (Prod.mk.inj hxy).1
    obtain ⟨k0, e0, _, w0⟩ := DataW.trod_int Tryz.underlying3 g0
    obtain ⟨s, l, e1, hs1, hs2, hs3⟩ := Rc.open_smps (d := y1.1) (p := y1.2) g1 (fun n hn => hz n (by rw [hd]; exact Rw.weights_part (j := 1) (e := 31) (d := y1.1) Tryz.underlying34 rfl rfl hn))
    obtain ⟨m, ms, e2, hm1, hm2, hm3⟩ := Rc.open_mss (d := y2.1) (p := y2.2) g2 (fun n hn => hz n (by rw [hd]; exact Rw.weights_part (j := 2) (e := 32) (d := y2.1) Tryz.underlying34 rfl rfl hn))
    obtain ⟨a, e3, _, w3⟩ := DataW.trod_int Tryz.underlying2 g3
    obtain ⟨b, e4, _, w4⟩ := DataW.trod_int Tryz.underlying2 g4
    obtain rfl := (List.cons.inj e0).1
    obtain rfl := (List.cons.inj e1).1
    obtain rfl := (List.cons.inj e2).1
    obtain rfl := (List.cons.inj e3).1
    obtain rfl := (List.cons.inj e4).1
    exact ⟨⟨k0, s, m, a, b⟩, rfl, ⟨k0, l, ms, a, b⟩, ⟨rfl, rfl, rfl, hs1, hm1⟩, ⟨Mt.lit64 w0, hs2, hm2, Mt.lit64 w3, Mt.lit64 w4⟩, hs3, hm3⟩
def QCG (W : World) (x : QC) : Prop := ∃ q : Q, innQC.rel W AllB x q ∧ QBnd q
theorem open_qc {fuel : Nat} {cs : List Value} {d : DataW H} {p : List MemPlace} (hl : cs.length = 3) (h : DataW.trod enc Tryz.prog W 0 (fun _ => true) true fuel 44 cs = some (d, p)) (hz : ∀ n ∈ d.weights Tryz.prog 44, n ≤ 140737488351232) : ∃ x : QC, cs = layQC.enc x ∧ QCG W x := by
  have c1 : Tryz.prog.cellsOf 32 = 1 := by kernel_rfl
  have c2 : Tryz.prog.cellsOf 2 = 1 := by kernel_rfl
  obtain ⟨xs, k, hk, hxy, _, hxl, hfd⟩ := DataW.trod_struct Tryz.underlying44 h
  match xs, hxl, cs, hl with
  | [y0, y1, y2], _, [v0, v1, v2], _ =>
    have g0 := hfd 0 _ rfl
    have g1 := hfd 1 _ rfl
    have g2 := hfd 2 _ rfl
    simp [c1, c2] at g0 g1 g2
    have hd := (Prod.mk.inj hxy).1
    obtain ⟨m, ms, e0, hm1, hm2, hm3⟩ := Rc.open_mss (d := y0.1) (p := y0.2) g0 (fun n hn => hz n (by rw [hd]; exact Rw.weights_part (j := 0) (e := 32) (d := y0.1) Tryz.underlying44 rfl rfl hn))
    obtain ⟨a, e1, _, w1⟩ := DataW.trod_int Tryz.underlying2 g1
    obtain ⟨b, e2, _, w2⟩ := DataW.trod_int Tryz.underlying2 g2
    obtain rfl := (List.cons.inj e0).1
    obtain rfl := (List.cons.inj e1).1
    obtain rfl := (List.cons.inj e2).1
    exact ⟨⟨m, a, b⟩, rfl, ⟨ms, a, b⟩, ⟨rfl, rfl, hm1⟩, hm2, Mt.lit64 w1, Mt.lit64 w2, hm3⟩
end
/-- Records that came in. -/
def IsRecs (v : Value) (w : World) : Prop := ∃ l, RsView w AllB v l ∧ (∀ r ∈ l, RBnd r) ∧ l.length * 72 ≤ 140737488351232
theorem open_recs {H : Type} {enc : TypeId × Value → H} {W : World} {base : Nat} {v : Value} {d : DataW H} {p : List MemPlace}
    (hv : Value.okWide Tryz.prog W .any base 22 v) (h : DataW.Trod enc Tryz.prog W 0 (fun _ => true) true 22 v d p)
    (hz : ∀ n ∈ d.weights Tryz.prog 22, n ≤ reachBytes) : IsRecs v W := by
  have hr : reachBytes = 140737488351232 := rfl
  rw [hr] at hz
  obtain ⟨a0, len0, cap0, rfl⟩ := okWide_slice Tryz.underlying22 hv
  obtain ⟨fuel, hf⟩ := h
  have hf2 : DataW.trod enc Tryz.prog W 0 (fun _ => true) true fuel 22 [.slice a0 len0 cap0] = some (d, p) := hf
  obtain ⟨A, n, c, rs, h1, h2, h3, h4⟩ := Rw.open_rowC (L := layRC) (G := RCG W) Tryz.underlying22 (by kernel_rfl) (by kernel_rfl) (fun _ _ _ _ hl h hz => open_rc hl h hz) hf2 hz
  obtain ⟨l, hl, hall⟩ := Rc.list_of (P := fun a x => innRC.rel W AllB a x ∧ RBnd x) h3
  have hv := (List.cons.inj h1).1
  refine ⟨l, by rw [hv]; exact ⟨rs, h2, hl, fun i k1 k2 => (hall i k1 k2).1⟩, fun x hx => ?_, by rw [← hl]; exact h4⟩
  obtain ⟨i, hi, rfl⟩ := List.mem_iff_getElem.1 hx
  exact (hall i (by omega) hi).2
/-- Queries that came in. -/
def IsAsks (v : Value) (w : World) : Prop := ∃ l, QsView w AllB v l ∧ (∀ q ∈ l, QBnd q) ∧ l.length * 40 ≤ 140737488351232
theorem open_asks {H : Type} {enc : TypeId × Value → H} {W : World} {base : Nat} {v : Value} {d : DataW H} {p : List MemPlace}
    (hv : Value.okWide Tryz.prog W .any base 23 v) (h : DataW.Trod enc Tryz.prog W 0 (fun _ => true) true 23 v d p)
    (hz : ∀ n ∈ d.weights Tryz.prog 23, n ≤ reachBytes) : IsAsks v W := by
  have hr : reachBytes = 140737488351232 := rfl
  rw [hr] at hz
  obtain ⟨a0, len0, cap0, rfl⟩ := okWide_slice Tryz.underlying23 hv
  obtain ⟨fuel, hf⟩ := h
  have hf2 : DataW.trod enc Tryz.prog W 0 (fun _ => true) true fuel 23 [.slice a0 len0 cap0] = some (d, p) := hf
  obtain ⟨A, n, c, rs, h1, h2, h3, h4⟩ := Rw.open_rowC (L := layQC) (G := QCG W) Tryz.underlying23 (by kernel_rfl) (by kernel_rfl) (fun _ _ _ _ hl h hz => open_qc hl h hz) hf2 hz
  obtain ⟨l, hl, hall⟩ := Rc.list_of (P := fun a x => innQC.rel W AllB a x ∧ QBnd x) h3
  have hv := (List.cons.inj h1).1
  refine ⟨l, by rw [hv]; exact ⟨rs, h2, hl, fun i k1 k2 => (hall i k1 k2).1⟩, fun x hx => ?_, by rw [← hl]; exact h4⟩
  obtain ⟨i, hi, rfl⟩ := List.mem_iff_getElem.1 hx
  exact (hall i (by omega) hi).2
/-- A query that came in alone. -/
def IsAsk (v : Value) (w : World) : Prop := ∃ (m : Rw.Sl) (q : Q), v = .agg #[m.v, .int .i64 q.frm, .int .i64 q.til] ∧ Mt.View w AllB m.v q.ms ∧ QBnd q
theorem open_ask {H : Type} {enc : TypeId × Value → H} {W : World} {base : Nat} {v : Value} {d : DataW H} {p : List MemPlace}
    (hv : Value.okWide Tryz.prog W .any base 44 v) (h : DataW.Trod enc Tryz.prog W 0 (fun _ => true) true 44 v d p)
    (hz : ∀ n ∈ d.weights Tryz.prog 44, n ≤ reachBytes) : IsAsk v W := by
  obtain ⟨cs, rfl, hsz⟩ := okWide_struct Tryz.underlying44 hv
  have c3 : Tryz.prog.cellsOf 44 = 3 := by kernel_rfl
  rw [c3] at hsz
  obtain ⟨fuel, hf⟩ := h
  have hf2 : DataW.trod enc Tryz.prog W 0 (fun _ => true) true fuel 44 cs.toList = some (d, p) := hf
  obtain ⟨⟨m, a, b⟩, h1, q, ⟨h2, h3, h4⟩, h5⟩ := open_qc (by simpa using hsz) hf2 hz
  simp only at h2 h3
  subst h2 h3
  refine ⟨m, q, ?_, h4, h5⟩
  have : cs = (layQC.enc (⟨m, q.frm, q.til⟩ : QC)).toArray := by rw [← h1]
  rw [this]; rfl
end Hd
end Go.Proofs.YtfheehlfodoimaaGreat
end

/- Layer 13: the document's head as an object. -/
section
set_option maxRecDepth 100000
namespace Go.Proofs.YtfheehlfodoimaaGreat
open Go.RowKit Go.Sort
namespace Hd
open Bit Dsk Ob Dig
set_option linter.unusedVariables false

theorem mine_keep {α : Type} {L : Rw.Lay α} {T : TypeId} {w w' : World} {S : Nat → Prop} (hk : ∀ b, S b → w'.heap[b]? = w.heap[b]?) {v : Value} {l : List α} (h : Rw.Mine L T w v l) (hS : ∀ b, v.ownBlock = some b → S b) : Rw.Mine L T w' v l := h.kept fun b hb => hk b (hS b hb)
theorem row_keep {α : Type} {L : Rw.Lay α} {w w' : World} {S : Nat → Prop} (hk : ∀ b, S b → w'.heap[b]? = w.heap[b]?) {u : Value} {l : List α} (h : Rw.View L w S u l) : Rw.View L w' S u l :=
  let ⟨A, c, h1, h2, h3, h4⟩ := h
  ⟨A, c, h1, h2, h3, fun hp => let ⟨b, off, k1, k2, k3⟩ := h4 hp
    ⟨b, off, k1, k2, fun i hi t u ht => by rw [← k3 i hi t u ht, World.cell?, World.cell?, hk b k2]⟩⟩
theorem HeadR.keep {w w' : World} {A R : Nat → Prop} {p : Nat} {u : Rw.Sl} {rs : List RR} {h : H} (hh : HeadR w A R p u rs h) (hk : ∀ b, A b ∨ R b → w'.heap[b]? = w.heap[b]?) (hs : w.heap.size ≤ w'.heap.size) : HeadR w' A R p u rs h :=
  ⟨(hk p (.inl hh.pA)).trans hh.box, mine_keep (S := A) (fun b hb => hk b (.inl hb)) hh.row hh.uA,
    ⟨hh.rows.len, fun i k1 k2 => row_keep (fun b hb => hk b (.inr hb)) (hh.rows.lab i k1 k2), fun i k1 k2 => mine_keep (S := A) (fun b hb => hk b (.inl hb)) (hh.rows.pts i k1 k2) (hh.rows.own i k1), hh.rows.last, hh.rows.own, hh.rows.apart⟩,
    hh.pA, hh.uA, hh.dis, fun b hb => Nat.lt_of_lt_of_le (hh.lt b hb) hs⟩
/-- The document's head, as an object. -/
def IsRH (q : Nat) (h : H) : Ob.Rel := fun w S => (∃ A R u rs, HeadR w A R q u rs h ∧ ∀ b, A b ∨ R b → S b) ∧ ∀ b, S b → b < w.heap.size
theorem thingRH (q : Nat) (h : H) : Thing (IsRH q h) := ⟨fun w w' S ⟨⟨A, R, u, rs, h1, h2⟩, h3⟩ hk hs => ⟨⟨A, R, u, rs, h1.keep (fun b hb => hk b (h2 b hb)) hs, h2⟩, fun b hb => Nat.lt_of_lt_of_le (h3 b hb) hs⟩, fun w S h b hb => h.2 b hb⟩
section
variable {w : World} {S : Nat → Prop} {q : Nat} {h : H}
theorem rtry_any (hh : IsRH q h w S) (T : Nat → Prop) (v : Value) (r : Rc.R) (hv : Rc.RView w T v r) (hb : Rc.Bnd r) (hsane : SaneN r.smp.length h) (hsl : ∀ x ∈ r.smp, x.1.length ≤ 1000000000) :
    Calls Tryz.prog 8 #[.pointer (some ⟨q, 0, none⟩), v] w fun e w' => e = .returned (.int .i64 (tr h r : Int)) ∧ New0 w w' :=
  let ⟨⟨_, _, _, _, h1, _⟩, _⟩ := hh
  try_any w h1 T v r hv hb hsane hsl
theorem rapp_any (hh : IsRH q h w S) (T : Nat → Prop) (v : Value) (r : Rc.R) (hv : Rc.RView w T v r) (hTS : ∀ b, T b → ¬ S b) (hb : Rc.Bnd r) (hsane : SaneN r.smp.length h) (hsl : ∀ x ∈ r.smp, x.1.length ≤ 1000000000) :
    Calls Tryz.prog 10 #[.pointer (some ⟨q, 0, none⟩), v] w fun e w' => e = .returned (.int .i64 (tr h r : Int)) ∧ ObjStep (IsRH q (app h r)) S w w' := by
  obtain ⟨⟨A, R, u, rs, h1, h2⟩, h3⟩ := hh
  refine (app_any w h1 T v r hv (fun b hb hA => hTS b hb (h2 b (.inl hA))) hb hsane hsl).mono ?_
  rintro e w' ⟨he, ⟨A', R', u', rs', k1, k2, k3, k4⟩, hup⟩
  refine ⟨he, ⟨fun b => S b ∨ (w.heap.size ≤ b ∧ b < w'.heap.size), ⟨⟨A', R', u', rs', k1, fun b hb => ?_⟩, fun b hb => ?_⟩, fun b hb => .inl hb, fun b hb => hb.imp id fun k => k.1⟩, hup.mono fun b _ hb => h2 b (.inl hb)⟩
  · have hlt := k1.lt b hb
    rcases hb with hb | hb
    · exact (k3 b hb).imp (fun k => h2 b (.inl k)) fun k => ⟨k, hlt⟩
    · exact (k4 b hb).imp (fun k => h2 b (.inr k)) fun k => ⟨k, hlt⟩
  · rcases hb with hb | hb
    · exact Nat.lt_of_lt_of_le (h3 b hb) hup.size
    · exact hb.2
theorem rquery_any (hh : IsRH q h w S) (hsane : Sane h) (T : Nat → Prop) (v : Value) (ms : List Mt.M) (hv : Mt.View w T v ms) (hb : Mt.Bnd ms) (a b : Int) :
    Calls Tryz.prog 33 #[.pointer (some ⟨q, 0, none⟩), v, .int .i64 a, .int .i64 b] w fun e w' => ∃ u, e = .returned u ∧ QView w' All u (query h ms a b) ∧ New0 w w' := by
  obtain ⟨⟨A, R, u, rs, h1, h2⟩, h3⟩ := hh
  exact (query_any w h1 hsane T v ms hv hb a b).mono fun e w' ⟨u, rs, k1, k2⟩ => ⟨u, k1, k2.view.mono (fun _ _ _ => trivial), k2.new⟩
theorem rlast_any (hh : IsRH q h w S) (T : Nat → Prop) (v : Value) (l : List Lb.Pr) (hv : Lb.View w T v l) :
    Calls Tryz.prog 30 #[.pointer (some ⟨q, 0, none⟩), v] w fun e w' => e = .returned (.tuple #[.int .i64 (last h l).1, .bool (last h l).2]) ∧ New0 w w' :=
  let ⟨⟨_, _, _, _, h1, _⟩, _⟩ := hh
  last_any w h1 T v l hv
theorem rtop_any (hh : IsRH q h w S) : Calls Tryz.prog 28 #[.pointer (some ⟨q, 0, none⟩)] w fun e w' => e = .returned (.tuple #[.int .i64 (top h).1, .bool (top h).2]) ∧ New0 w w' :=
  let ⟨⟨_, _, _, _, h1, _⟩, _⟩ := hh
  top_any w h1
theorem rcounts_any (hh : IsRH q h w S) (hp : points h ≤ 4611686018427387904) : Calls Tryz.prog 26 #[.pointer (some ⟨q, 0, none⟩)] w fun e w' => e = .returned (.tuple #[.int .i64 (h.length : Int), .int .i64 (points h : Int)]) ∧ New0 w w' :=
  let ⟨⟨_, _, _, _, h1, _⟩, _⟩ := hh
  counts_any w h1 hp
end
/-- A new head of the document's: no rows. -/
theorem rnew (w : World) : ∃ S, IsRH w.heap.size [] (w.alloc (.cells #[.slice none 0 0] 30 (0, 0))) S ∧ ∀ b, S b → w.heap.size ≤ b := by
  refine ⟨fun b => b = w.heap.size, ⟨⟨fun b => b = w.heap.size, fun _ => False, ⟨none, 0, 0⟩, [], ⟨cell_new w _, Rw.Mine.nil _ _ _, ⟨rfl, fun i k1 => absurd k1 (by simp), fun i k1 => absurd k1 (by simp), fun i k1 => absurd k1 (by simp), fun i k1 => absurd k1 (by simp), fun i j k1 => absurd k1 (by simp)⟩, rfl, fun b hb => (by cases hb), fun b _ f => f, fun b hb => ?_⟩, fun b hb => ?_⟩, fun b hb => ?_⟩, fun b hb => by rw [hb]; exact Nat.le_refl _⟩
  · rcases hb with hb | hb
    · rw [hb]; simp
    · exact hb.elim
  · rcases hb with hb | hb
    · exact hb
    · exact hb.elim
  · rw [hb]; simp
end Hd
end Go.Proofs.YtfheehlfodoimaaGreat
end
