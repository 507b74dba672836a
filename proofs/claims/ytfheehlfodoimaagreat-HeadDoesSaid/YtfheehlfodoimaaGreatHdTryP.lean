/- The program's head (layer 13): Try. -/
import Derived.Test.YtfheehlfodoimaaGreatHdTryC
import Derived.Test.YtfheehlfodoimaaGreatPRc3
set_option maxRecDepth 100000
namespace Go.Proofs.YtfheehlfodoimaaGreat
open Go.RowKit Go.Sort
namespace Hd
open Bit Dsk Ob Dig Nm
set_option linter.unusedVariables false
theorem rec5 (w : World) (a b c d e : Value) : (w.alloc (.cells #[a, b, c, d, e] 34 (0, 0))).cell? ⟨w.heap.size, 0, none⟩ = some a ∧ (w.alloc (.cells #[a, b, c, d, e] 34 (0, 0))).cell? ⟨w.heap.size, 1, none⟩ = some b ∧
    (w.alloc (.cells #[a, b, c, d, e] 34 (0, 0))).cell? ⟨w.heap.size, 2, none⟩ = some c ∧ (w.alloc (.cells #[a, b, c, d, e] 34 (0, 0))).cell? ⟨w.heap.size, 3, none⟩ = some d ∧ (w.alloc (.cells #[a, b, c, d, e] 34 (0, 0))).cell? ⟨w.heap.size, 4, none⟩ = some e := by
  have hX := cell_new w (.cells #[a, b, c, d, e] 34 (0, 0))
  refine ⟨?_, ?_, ?_, ?_, ?_⟩ <;> (rw [Lib.cell_of_heap hX]; rfl)
section
variable {A R : Nat → Prop} {p b : Nat} {N : Nms} {bs : List Nat} {rs : List RR} {h : H}
set_option maxHeartbeats 3200000 in
theorem htry_any (w : World) (hh : HeadP w A R p b N bs rs h) (hs : Srt h) (hfew : h.length ≤ 256) (T : Nat → Prop) (v : Value) (r : Rc.R) (hv : Rc.RView w T v r) (hb : Rc.Bnd r) (hsl : h.length + r.smp.length ≤ 1000000000) :
    Calls Tryz.prog 7 #[.pointer (some ⟨p, 0, none⟩), v] w fun e w' => e = .returned (.int .i64 (tr h r : Int)) ∧ New0 w w' := by
  obtain ⟨As, cs, Am, cm, rfl, hvs, hvm⟩ := Rc.RView.shape hv
  obtain ⟨k0, k1, k2, k3, k4⟩ := rec5 w (.int .i64 r.kind) (.slice As r.smp.length cs) (.slice Am r.ms.length cm) (.int .i64 r.frm) (.int .i64 r.til)
  have ux := (Upon.refl (fun _ => False) w).alloc (.cells #[.int .i64 r.kind, .slice As r.smp.length cs, .slice Am r.ms.length cm, .int .i64 r.frm, .int .i64 r.til] 34 (0, 0))
  have HC := Lib.hid (Rc.check_any _ T _ r (Rc.RView.new hv ux) hb)
  have HT := Lib.hid (fun w1 (hu : New0 w w1) (hok : ∀ x ∈ r.smp, Lb.Ok x.1) => tryc_any w1 (hh.new hu) hs T (.slice As r.smp.length cs) r.smp (Rw.DView.upon hvs hu (fun _ _ f => f)) hb.smp hok hsl)
  have HK := Lib.hid (fun w1 (hu : New0 (w.alloc (.cells #[.int .i64 r.kind, .slice As r.smp.length cs, .slice Am r.ms.length cm, .int .i64 r.frm, .int .i64 r.til] 34 (0, 0))) w1) => And.intro (Lb.New0.cells hu k0) (Lb.New0.cells hu k1))
  replace ux := Lib.hid ux
  clear hv hvs hvm hh
  by_cases hc : Rc.chk r = 0
  · rcases Rc.chk_zero.1 hc with hcm | hdl
    · have hk := Lib.hid hcm.kind
      have htr : Hid (tr h r = trc h r.smp) := Lib.hid (by rw [tr, if_neg (by simp [hc])]; rfl)
      have hok := Lib.hid hcm.ok
      rw [hc] at HC
      have hk1 : r.kind = 1 := hcm.kind
      rw [hk1] at k0 k1 k2 k3 k4 HC HK ux ⊢
      clear hcm hc k0 k1 k2 k3 k4 hk1
      go_enter Tryz.func7, Tryz.ntmps7
      obtain ⟨k0, k1, k2, k3, k4⟩ := rec5 w (.int .i64 1) (.slice As r.smp.length cs) (.slice Am r.ms.length cm) (.int .i64 r.frm) (.int .i64 r.til)
      go_wp2_with fail
      refine HC.out.mono ?_
      rintro e w2 ⟨rfl, hu2⟩
      obtain ⟨c0, c1⟩ := HK.out w2 hu2
      have hn2 := Lib.hid (ux.out.trans hu2)
      have HT2 := Lib.hid (HT.out w2 hn2.out hok.out)
      clear k0 k1 k2 k3 k4 HC HK hu2 HT
      go_wp2_with fail
      refine HT2.out.mono ?_
      rintro e w3 ⟨rfl, hu3⟩
      have hn3 := Lib.hid (hn2.out.trans hu3)
      clear HT2 hu3
      go_wp2
      go_ret
      exact ⟨by rw [htr.out]; rfl, hn3.out⟩
    · have htr : Hid (tr h r = 0) := Lib.hid (by rw [tr, if_neg (by simp [hc]), hdl.smp]; show (if 256 < h.length then 4 else 0) = 0; rw [if_neg (by omega)])
      rw [hc] at HC
      have hk1 : r.kind = 2 := hdl.kind
      rw [hk1] at k0 k1 k2 k3 k4 HC HK ux ⊢
      clear hdl hc k0 k1 k2 k3 k4 hk1 HT
      go_enter Tryz.func7, Tryz.ntmps7
      obtain ⟨k0, k1, k2, k3, k4⟩ := rec5 w (.int .i64 2) (.slice As r.smp.length cs) (.slice Am r.ms.length cm) (.int .i64 r.frm) (.int .i64 r.til)
      go_wp2_with fail
      refine HC.out.mono ?_
      rintro e w2 ⟨rfl, hu2⟩
      obtain ⟨c0, c1⟩ := HK.out w2 hu2
      have hn2 := Lib.hid (ux.out.trans hu2)
      clear k0 k1 k2 k3 k4 HC HK hu2
      go_wp2
      go_ret
      exact ⟨by rw [htr.out]; rfl, hn2.out⟩
  · have htr : Hid (tr h r = Rc.chk r) := Lib.hid (by rw [tr, if_pos hc])
    obtain ⟨ck, hck⟩ : ∃ ck, Rc.chk r = ck := ⟨_, rfl⟩
    rw [hck] at HC htr hc
    clear HT HK hck
    go_enter Tryz.func7, Tryz.ntmps7
    go_wp2_with fail
    refine HC.out.mono ?_
    rintro e w2 ⟨rfl, hu2⟩
    have hn2 := Lib.hid (ux.out.trans hu2)
    clear k0 k1 k2 k3 k4 HC hu2
    have hcz : ¬ ((ck : Nat) : Int) = 0 := by omega
    go_wp2
    go_ret
    exact ⟨by rw [htr.out]; rfl, hn2.out⟩
end
end Hd
end Go.Proofs.YtfheehlfodoimaaGreat
