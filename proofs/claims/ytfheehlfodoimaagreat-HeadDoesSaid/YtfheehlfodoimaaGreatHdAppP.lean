/- The program's head (layer 13): Apply. -/
import Derived.Test.YtfheehlfodoimaaGreatHdRem
import Derived.Test.YtfheehlfodoimaaGreatHdTryP
import Derived.Test.YtfheehlfodoimaaGreatPHd4
set_option maxRecDepth 100000
namespace Go.Proofs.YtfheehlfodoimaaGreat
open Go.RowKit Go.Sort
namespace Hd
open Bit Dsk Ob Dig Nm
set_option linter.unusedVariables false
theorem CmE.new {w w1 w2 : World} {A R : Nat → Prop} {p b : Nat} {g : H} (hu : New0 w w1) (h : CmE w1 w2 A R p b g) : CmE w w2 A R p b g := by
  obtain ⟨A', R', N', bs', rs', h1, h2, h3, h4, h5⟩ := h
  have q := hu.size
  exact ⟨A', R', N', bs', rs', h1, h2, fun k hk => (h3 k hk).imp id (fun e => by omega), fun k hk => (h4 k hk).imp id (fun e => by omega), (hu.mono (fun _ _ f => f.elim) : Upon A w w1).trans' h5 fun k _ e => e⟩
section
variable {A R : Nat → Prop} {p b : Nat} {N : Nms} {bs : List Nat} {rs : List RR} {h : H}
set_option maxHeartbeats 3200000 in
theorem happ_any (w : World) (hh : HeadP w A R p b N bs rs h) (hs : Srt h) (hfew : h.length ≤ 256) (T : Nat → Prop) (v : Value) (r : Rc.R) (hv : Rc.RView w T v r) (hTA : ∀ k, T k → ¬ A k) (hb : Rc.Bnd r) (hsane : SaneN r.smp.length h) :
    Calls Tryz.prog 9 #[.pointer (some ⟨p, 0, none⟩), v] w fun e w' => e = .returned (.int .i64 (tr h r : Int)) ∧ CmE w w' A R p b (app h r) := by
  obtain ⟨As, cs, Am, cm, rfl, hvs, hvm⟩ := Rc.RView.shape hv
  obtain ⟨k0, k1, k2, k3, k4⟩ := rec5 w (.int .i64 r.kind) (.slice As r.smp.length cs) (.slice Am r.ms.length cm) (.int .i64 r.frm) (.int .i64 r.til)
  have ux := (Upon.refl (fun _ => False) w).alloc (.cells #[.int .i64 r.kind, .slice As r.smp.length cs, .slice Am r.ms.length cm, .int .i64 r.frm, .int .i64 r.til] 34 (0, 0))
  have HT := Lib.hid (htry_any _ (hh.new ux) hs hfew T _ r (Rc.RView.new hv ux) hb (by have := hsane.len; omega))
  have HK := Lib.hid (fun w1 (hu : New0 (w.alloc (.cells #[.int .i64 r.kind, .slice As r.smp.length cs, .slice Am r.ms.length cm, .int .i64 r.frm, .int .i64 r.til] 34 (0, 0))) w1) => And.intro (Lb.New0.cells hu k0) (And.intro (Lb.New0.cells hu k1) (And.intro (Lb.New0.cells hu k2) (And.intro (Lb.New0.cells hu k3) (Lb.New0.cells hu k4)))))
  have HH := Lib.hid (fun w1 (hu : New0 w w1) => hh.new hu)
  replace ux := Lib.hid ux
  by_cases ht : tr h r = 0
  · obtain ⟨hc, g, hg, hgl⟩ := tr_zero ht
    rw [ht] at HT ⊢
    rcases Rc.chk_zero.1 hc with hcm | hdl
    · have hk1 : r.kind = 1 := hcm.kind
      have happ : Hid (app h r = g) := Lib.hid (app_com ht (by omega) hg)
      have HC := Lib.hid (fun w1 (hu : New0 w w1) => commit_any w1 (hh.new hu) hs T (.slice As r.smp.length cs) r.smp (Rw.DView.upon hvs hu (fun _ _ f => f)) hTA hb.smp hcm.ok hg hsane)
      rw [hk1] at k0 k1 k2 k3 k4 HT HK ux ⊢
      clear hv hvs hvm hh hs hcm hc hg k0 k1 k2 k3 k4 hk1 HH
      go_enter Tryz.func9, Tryz.ntmps9
      obtain ⟨k0, k1, k2, k3, k4⟩ := rec5 w (.int .i64 1) (.slice As r.smp.length cs) (.slice Am r.ms.length cm) (.int .i64 r.frm) (.int .i64 r.til)
      go_wp2_with fail
      refine HT.out.mono ?_
      rintro e w2 ⟨rfl, hu2⟩
      obtain ⟨c0, c1, -, -, -⟩ := HK.out w2 hu2
      have hn2 := Lib.hid (ux.out.trans hu2)
      have HC2 := Lib.hid (HC.out w2 hn2.out)
      clear k0 k1 k2 k3 k4 HT HK hu2 HC
      go_wp2_with fail
      refine HC2.out.mono ?_
      rintro e w3 ⟨rfl, hcm⟩
      have hend := Lib.hid (CmE.new hn2.out hcm)
      clear HC2 hcm hn2 c0 c1
      go_wp2
      go_ret
      exact ⟨rfl, by rw [happ.out]; exact hend.out⟩
    · have hk1 : r.kind = 2 := hdl.kind
      have happ : Hid (app h r = del h r.ms r.frm r.til) := Lib.hid (app_del ht hk1)
      have HC := Lib.hid (fun w1 (hu : New0 w w1) => rem_any w1 (hh.new hu) hs T (.slice Am r.ms.length cm) r.ms (Rw.View.new hvm hu) hTA hb.ms r.frm r.til (fun x hx => by have := hsane.pts x hx; omega))
      rw [hk1] at k0 k1 k2 k3 k4 HT HK ux ⊢
      clear hv hvs hvm hh hs hdl hc hg k0 k1 k2 k3 k4 hk1 HH
      go_enter Tryz.func9, Tryz.ntmps9
      obtain ⟨k0, k1, k2, k3, k4⟩ := rec5 w (.int .i64 2) (.slice As r.smp.length cs) (.slice Am r.ms.length cm) (.int .i64 r.frm) (.int .i64 r.til)
      go_wp2_with fail
      refine HT.out.mono ?_
      rintro e w2 ⟨rfl, hu2⟩
      obtain ⟨c0, c1, c2, c3, c4⟩ := HK.out w2 hu2
      have hn2 := Lib.hid (ux.out.trans hu2)
      have HC2 := Lib.hid (HC.out w2 hn2.out)
      clear k0 k1 k2 k3 k4 HT HK hu2 HC
      go_wp2_with fail
      refine HC2.out.mono ?_
      rintro e w3 ⟨rfl, hcm⟩
      have hend := Lib.hid (CmE.new hn2.out hcm)
      clear HC2 hcm hn2 c0 c1 c2 c3 c4
      go_wp2
      go_ret
      exact ⟨rfl, by rw [happ.out]; exact hend.out⟩
  · have hna := app_no ht
    have hC0 : Hid (∀ w1, New0 w w1 → CmE w w1 A R p b (app h r)) := Lib.hid (fun w1 hu => by
      rw [hna]
      exact ⟨A, R, N, bs, rs, hh.new hu, fun _ k => k, fun _ k => .inl k, fun _ k => .inl k, hu.mono fun _ _ f => f.elim⟩)
    obtain ⟨z, hz⟩ : ∃ z, tr h r = z := ⟨_, rfl⟩
    rw [hz] at HT ht ⊢
    have hcz : ¬ ((z : Nat) : Int) = 0 := by omega
    clear hv hvs hvm hh hs hz hna HH HK
    go_enter Tryz.func9, Tryz.ntmps9
    go_wp2_with fail
    refine HT.out.mono ?_
    rintro e w2 ⟨rfl, hu2⟩
    have hend := Lib.hid (hC0.out w2 (ux.out.trans hu2))
    clear k0 k1 k2 k3 k4 HT hu2
    go_wp2
    go_ret
    exact ⟨rfl, hend.out⟩
end
end Hd
end Go.Proofs.YtfheehlfodoimaaGreat
