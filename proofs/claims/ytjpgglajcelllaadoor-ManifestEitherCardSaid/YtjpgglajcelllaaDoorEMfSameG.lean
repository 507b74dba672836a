/- Manifests (layer 17): the document's Same of any two. Written by wip/tools/mfsameg.py. -/
import Derived.Test.YtjpgglajcelllaaDoorEMfSame
set_option maxRecDepth 100000
namespace Go.Proofs.YtjpgglajcelllaaDoor
open Go.RowKit
namespace Mf
open Bit Dsk Ob Dig
set_option linter.unusedVariables false
/-- Of two that differ. -/
theorem same_diff (w : World) (S S' : Nat → Prop) (v v' : Value) (m n : M) (hv : MView w S v m) (hv' : MView w S' v' n) (hmn : m ≠ n) :
    Calls Tryd.prog 16 #[v, v'] w fun e w' => e = .returned (.bool false) ∧ New0 w w' := by
  obtain ⟨A, c, rfl, hn⟩ := hv.shape
  obtain ⟨A', c', rfl, hn'⟩ := hv'.shape
  clear hv hv'
  have hbig := NView.big hn
  have hbig' := NView.big hn'
  obtain ⟨wa, hwa⟩ : ∃ wa, w.alloc (.cells #[.int .i64 m.epoch, .int .i64 m.base, .int .i64 m.promise, .int .i64 m.mark, .int .i64 m.check, .slice A m.blocks.length c] 24 (0, 0)) = wa := ⟨_, rfl⟩
  obtain ⟨wb, hwb⟩ : ∃ wb, wa.alloc (.cells #[.int .i64 n.epoch, .int .i64 n.base, .int .i64 n.promise, .int .i64 n.mark, .int .i64 n.check, .slice A' n.blocks.length c'] 24 (0, 0)) = wb := ⟨_, rfl⟩
  have sa : wa.heap.size = w.heap.size + 1 := by rw [← hwa]; simp
  have ua : New0 w wa := by rw [← hwa]; exact (Upon.refl _ w).alloc _
  have ub : New0 wa wb := by rw [← hwb]; exact (Upon.refl _ wa).alloc _
  have hX : Six 24 w.heap.size ⟨.int .i64 m.epoch, .int .i64 m.base, .int .i64 m.promise, .int .i64 m.mark, .int .i64 m.check, .slice A m.blocks.length c⟩ wb := Six.new (by rw [← hwa]; exact six_new _ w ⟨.int .i64 m.epoch, .int .i64 m.base, .int .i64 m.promise, .int .i64 m.mark, .int .i64 m.check, .slice A m.blocks.length c⟩) ub
  have hY : Six 24 (w.heap.size + 1) ⟨.int .i64 n.epoch, .int .i64 n.base, .int .i64 n.promise, .int .i64 n.mark, .int .i64 n.check, .slice A' n.blocks.length c'⟩ wb := by rw [← hwb, ← sa]; exact six_new _ wa ⟨.int .i64 n.epoch, .int .i64 n.base, .int .i64 n.promise, .int .i64 n.mark, .int .i64 n.check, .slice A' n.blocks.length c'⟩
  obtain ⟨k0, k1, k2, k3, k4, k5⟩ := hX.cells
  obtain ⟨l0, l1, l2, l3, l4, l5⟩ := hY.cells
  have hU := Lib.hid (ua.trans ub)
  have h1 := Lib.hid (Rw.View.new hn (ua.trans ub))
  have h2 := Lib.hid (Rw.View.new hn' (ua.trans ub))
  rw [← hwa] at hwb
  replace hwb := Lib.hid hwb
  clear hwa sa ua ub hX hY hn hn'
  dsimp only at k0 k1 k2 k3 k4 k5 l0 l1 l2 l3 l4 l5
  by_cases c0 : m.epoch = n.epoch
  case neg =>
    have e0 : (m.epoch != n.epoch) = true := bne_iff_ne.2 c0
    have hend := Lib.hid hU.out
    clear h1 h2 hbig hbig' hU hmn c0
    go_enter Tryd.func16, Tryd.ntmps16
    go_wp2_with fail
    rw [hwb.out]
    go_wp2_with fail
    go_ret
    exact ⟨rfl, hend.out⟩
  have e0 : (m.epoch != n.epoch) = false := by rw [c0]; exact bne_self_eq_false _
  replace c0 := Lib.hid c0
  by_cases c1 : m.base = n.base
  case neg =>
    have e1 : (m.base != n.base) = true := bne_iff_ne.2 c1
    have hend := Lib.hid hU.out
    clear h1 h2 hbig hbig' hU hmn c1
    go_enter Tryd.func16, Tryd.ntmps16
    go_wp2_with fail
    rw [hwb.out]
    go_wp2_with fail
    go_ret
    exact ⟨rfl, hend.out⟩
  have e1 : (m.base != n.base) = false := by rw [c1]; exact bne_self_eq_false _
  replace c1 := Lib.hid c1
  by_cases c2 : m.promise = n.promise
  case neg =>
    have e2 : (m.promise != n.promise) = true := bne_iff_ne.2 c2
    have hend := Lib.hid hU.out
    clear h1 h2 hbig hbig' hU hmn c2
    go_enter Tryd.func16, Tryd.ntmps16
    go_wp2_with fail
    rw [hwb.out]
    go_wp2_with fail
    go_ret
    exact ⟨rfl, hend.out⟩
  have e2 : (m.promise != n.promise) = false := by rw [c2]; exact bne_self_eq_false _
  replace c2 := Lib.hid c2
  by_cases c3 : m.mark = n.mark
  case neg =>
    have e3 : (m.mark != n.mark) = true := bne_iff_ne.2 c3
    have hend := Lib.hid hU.out
    clear h1 h2 hbig hbig' hU hmn c3
    go_enter Tryd.func16, Tryd.ntmps16
    go_wp2_with fail
    rw [hwb.out]
    go_wp2_with fail
    go_ret
    exact ⟨rfl, hend.out⟩
  have e3 : (m.mark != n.mark) = false := by rw [c3]; exact bne_self_eq_false _
  replace c3 := Lib.hid c3
  by_cases c4 : m.check = n.check
  case neg =>
    have e4 : (m.check != n.check) = true := bne_iff_ne.2 c4
    have hend := Lib.hid hU.out
    clear h1 h2 hbig hbig' hU hmn c4
    go_enter Tryd.func16, Tryd.ntmps16
    go_wp2_with fail
    rw [hwb.out]
    go_wp2_with fail
    go_ret
    exact ⟨rfl, hend.out⟩
  have e4 : (m.check != n.check) = false := by rw [c4]; exact bne_self_eq_false _
  replace c4 := Lib.hid c4
  by_cases c5 : m.blocks.length = n.blocks.length
  case neg =>
    have e5 : ((m.blocks.length : Int) != (n.blocks.length : Int)) = true := bne_iff_ne.2 (by omega)
    have hend := Lib.hid hU.out
    clear h1 h2 hbig hbig' hU hmn c5
    go_enter Tryd.func16, Tryd.ntmps16
    go_wp2_with fail
    rw [hwb.out]
    go_wp2_with fail
    go_ret
    exact ⟨rfl, hend.out⟩
  have e5 : ((m.blocks.length : Int) != (n.blocks.length : Int)) = false := by rw [c5]; exact bne_self_eq_false _
  have hdif : Hid (¬ ∀ j : Nat, m.blocks[j]? = n.blocks[j]?) := Lib.hid (fun h => hmn (by
    have hl : m.blocks = n.blocks := List.ext_getElem? h
    cases m; cases n
    simp only [M.mk.injEq]
    exact ⟨c0.out, c1.out, c2.out, c3.out, c4.out, hl⟩))
  clear hmn c0 c1 c2 c3 c4
  obtain ⟨l, hl⟩ : ∃ l, m.blocks = l := ⟨_, rfl⟩
  obtain ⟨l', hl'⟩ : ∃ l', n.blocks = l' := ⟨_, rfl⟩
  simp only [hl, hl'] at hwb hbig hbig' k5 l5 h1 h2 c5 e5 hdif ⊢
  clear hl hl'
  replace c5 := Lib.hid c5
  go_enter Tryd.func16, Tryd.ntmps16
  go_wp2_with fail
  rw [hwb.out]
  go_wp2_with fail
  go_loopw [5] (fun ov wr => ∃ j k : Nat, ov = .int .i64 (j : Int) ∧ j ≤ l.length ∧ Hid (∀ i : Nat, i < j → l[i]? = l'[i]?) ∧ wr = wb.drewN k) (fun ov _ => l.length - (intOf ov).toNat)
  case atStart => exact ⟨0, 0, rfl, Nat.zero_le _, Lib.hid (fun i h => absurd h (Nat.not_lt_zero _)), rfl⟩
  case round =>
    obtain ⟨j, k, rfl, hj, hso, rfl⟩ := hrel
    by_cases hlt : j < l.length
    · obtain ⟨b0, off, rfl, -, -, hcells⟩ := NView.cells h1.out (by omega)
      have hlt' : j < l'.length := by have := c5.out; omega
      obtain ⟨b1, off1, rfl, -, -, hcells1⟩ := NView.cells h2.out (by omega)
      have x0 := hcells j hlt
      have y0 := hcells1 j hlt'
      have hnx : Hid (l[j] = l'[j] → ∀ i : Nat, i < j + 1 → l[i]? = l'[i]?) := Lib.hid (fun he i hi => by
        by_cases hq : i = j
        · subst hq; rw [List.getElem?_eq_getElem hlt, List.getElem?_eq_getElem hlt', he]
        · exact hso.out i (by omega))
      obtain ⟨t, ht⟩ : ∃ t, l[j] = t := ⟨_, rfl⟩
      obtain ⟨t', ht'⟩ : ∃ t, l'[j] = t := ⟨_, rfl⟩
      rw [ht] at x0
      rw [ht'] at y0
      simp only [ht, ht'] at hnx
      clear hcells hcells1 ht ht' hso
      by_cases htt : t = t'
      · subst htt
        have hso2 := Lib.hid (hnx.out rfl)
        clear hnx
        go_wp2_with fail
        go_quiet (fail)
        go_wp2
        refine ⟨⟨j + 1, k + nq, by push_cast; rfl, by omega, hso2, rfl⟩, ?_⟩
        simp only [intOf]; omega
      · have q1 : (t.toList == t'.toList) = false := beq_eq_false_iff_ne.2 fun h => htt (by rw [ByteArray.toList_eq, ByteArray.toList_eq] at h; exact ByteArray.ext (Array.ext' h))
        clear hnx
        go_wp2_with fail
        go_quiet (fail)
        have hend := Lib.hid ((hU.out.trans (upon_drewN _ wb k)).trans (upon_drewN _ _ nq))
        go_wp2_with fail
        go_ret
        exact ⟨rfl, hend.out⟩
    · exact absurd (fun i => by
        by_cases hi : i < j
        · exact hso.out i hi
        · rw [List.getElem?_eq_none (by omega), List.getElem?_eq_none (by have := c5.out; omega)]) hdif.out
end Mf
end Go.Proofs.YtjpgglajcelllaaDoor
