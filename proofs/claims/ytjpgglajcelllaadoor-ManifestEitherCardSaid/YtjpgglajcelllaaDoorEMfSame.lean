/- The document's Same, of two manifests that are one (layer 17). Written by wip/tools/mfsame.py. -/
import Derived.Test.YtjpgglajcelllaaDoorEMfSix
import Derived.BigQuiet
set_option maxRecDepth 100000
namespace Go.Proofs.YtjpgglajcelllaaDoor
open Go.RowKit
namespace Mf
open Bit Dsk Ob Dig
set_option linter.unusedVariables false
set_option maxHeartbeats 3200000 in
theorem same_one (w : World) (S S' : Nat → Prop) (v v' : Value) (m : M) (hv : MView w S v m) (hv' : MView w S' v' m) :
    Calls Tryd.prog 16 #[v, v'] w fun e w' => e = .returned (.bool true) ∧ New0 w w' := by
  obtain ⟨A, c, rfl, hn⟩ := hv.shape
  obtain ⟨A', c', rfl, hn'⟩ := hv'.shape
  clear hv hv'
  have hbig := NView.big hn
  obtain ⟨wa, hwa⟩ : ∃ wa, w.alloc (.cells #[.int .i64 m.epoch, .int .i64 m.base, .int .i64 m.promise, .int .i64 m.mark, .int .i64 m.check, .slice A m.blocks.length c] 24 (0, 0)) = wa := ⟨_, rfl⟩
  obtain ⟨wb, hwb⟩ : ∃ wb, wa.alloc (.cells #[.int .i64 m.epoch, .int .i64 m.base, .int .i64 m.promise, .int .i64 m.mark, .int .i64 m.check, .slice A' m.blocks.length c'] 24 (0, 0)) = wb := ⟨_, rfl⟩
  have sa : wa.heap.size = w.heap.size + 1 := by rw [← hwa]; simp
  have ua : New0 w wa := by rw [← hwa]; exact (Upon.refl _ w).alloc _
  have ub : New0 wa wb := by rw [← hwb]; exact (Upon.refl _ wa).alloc _
  have hX : Six 24 w.heap.size ⟨.int .i64 m.epoch, .int .i64 m.base, .int .i64 m.promise, .int .i64 m.mark, .int .i64 m.check, .slice A m.blocks.length c⟩ wb := Six.new (by rw [← hwa]; exact six_new _ w ⟨.int .i64 m.epoch, .int .i64 m.base, .int .i64 m.promise, .int .i64 m.mark, .int .i64 m.check, .slice A m.blocks.length c⟩) ub
  have hY : Six 24 (w.heap.size + 1) ⟨.int .i64 m.epoch, .int .i64 m.base, .int .i64 m.promise, .int .i64 m.mark, .int .i64 m.check, .slice A' m.blocks.length c'⟩ wb := by rw [← hwb, ← sa]; exact six_new _ wa ⟨.int .i64 m.epoch, .int .i64 m.base, .int .i64 m.promise, .int .i64 m.mark, .int .i64 m.check, .slice A' m.blocks.length c'⟩
  obtain ⟨k0, k1, k2, k3, k4, k5⟩ := hX.cells
  obtain ⟨l0, l1, l2, l3, l4, l5⟩ := hY.cells
  have hU := Lib.hid (ua.trans ub)
  have h1 := Lib.hid (Rw.View.new hn (ua.trans ub))
  have h2 := Lib.hid (Rw.View.new hn' (ua.trans ub))
  rw [← hwa] at hwb
  replace hwb := Lib.hid hwb
  clear hwa sa ua ub hX hY hn hn'
  obtain ⟨l, hl⟩ : ∃ l, m.blocks = l := ⟨_, rfl⟩
  rw [hl] at hwb hbig k5 l5 h1 h2 ⊢
  clear hl
  dsimp only at k0 k1 k2 k3 k4 k5 l0 l1 l2 l3 l4 l5
  go_enter Tryd.func16, Tryd.ntmps16
  go_wp2_with fail
  rw [hwb.out]
  go_wp2_with fail
  go_loopw [5] (fun ov wr => ∃ j n : Nat, ov = .int .i64 (j : Int) ∧ j ≤ l.length ∧ wr = wb.drewN n) (fun ov _ => l.length - (intOf ov).toNat)
  case atStart => exact ⟨0, 0, rfl, Nat.zero_le _, rfl⟩
  case round =>
    obtain ⟨j, n, rfl, hj, rfl⟩ := hrel
    by_cases hlt : j < l.length
    · obtain ⟨b0, off, rfl, -, -, hcells⟩ := NView.cells h1.out (by omega)
      obtain ⟨b1, off1, rfl, -, -, hcells1⟩ := NView.cells h2.out (by omega)
      have x0 := hcells j hlt
      have y0 := hcells1 j hlt
      obtain ⟨t, ht⟩ : ∃ t, l[j] = t := ⟨_, rfl⟩
      rw [ht] at x0 y0
      clear hcells hcells1 ht
      go_wp2_with fail
      go_quiet (fail)
      go_wp2
      refine ⟨⟨j + 1, n + nq, by push_cast; rfl, by omega, rfl⟩, ?_⟩
      simp only [intOf]; omega
    · have hend := Lib.hid (hU.out.trans (upon_drewN _ wb n))
      go_wp2_with fail
      go_ret
      exact ⟨rfl, hend.out⟩
end Mf
end Go.Proofs.YtjpgglajcelllaaDoor
