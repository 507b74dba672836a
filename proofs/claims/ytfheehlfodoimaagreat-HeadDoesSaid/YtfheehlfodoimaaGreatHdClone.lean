/- slices.Clone at pairs and at points (layer 13). -/
import Derived.Test.YtfheehlfodoimaaGreatPHd5
set_option maxRecDepth 100000
namespace Go.Proofs.YtfheehlfodoimaaGreat
open Go.RowKit Go.Sort
namespace Hd
open Bit Dsk Ob Dig
set_option linter.unusedVariables false

set_option maxHeartbeats 1600000 in
theorem clonePr_any (w : World) (S : Nat → Prop) (v : Value) (l : List Lb.Pr) (hv : Rw.View Lb.layPr w S v l) (hn : l.length * 32 ≤ 140737488355328) :
    Calls Tryz.prog 50 #[v] w fun e w' => ∃ u : Rw.Sl, e = .returned u.v ∧ Lb.Mine w' u.v l ∧ (∀ b, u.v.ownBlock = some b → w.heap.size ≤ b) ∧ New0 w w' := by
  obtain ⟨A, c, rfl, -, -⟩ := Rw.View.shape hv
  cases A with
  | none =>
    have h0 : Hid (l = []) := Lib.hid (by
      obtain ⟨A', c', h1, h2, h3, h4⟩ := hv
      by_cases hp : 0 < l.length
      · obtain ⟨b, off, k1, -⟩ := h4 hp
        injection h1 with h1
        rw [← h1] at k1; cases k1
      · exact List.length_eq_zero_iff.1 (by omega))
    have hq := fun W => Lib.run_eql_slice_nil (P := Tryz.prog) W 39 72 none l.length c 0 0 Tryz.underlying39
    clear hv
    go_enter Tryz.func50, Tryz.ntmps50
    go_wp2_with fail
    go_ret
    exact ⟨⟨none, 0, 0⟩, rfl, (by rw [h0.out]; exact Rw.Mine.nil _ _ _), (fun b h => (by cases h)), Upon.refl _ _⟩
  | some a =>
    have hq := fun W => Lib.run_eql_slice_nil (P := Tryz.prog) W 39 72 (some a) l.length c 0 0 Tryz.underlying39
    replace hv := Lib.hid (Rw.View.new hv ((Upon.refl _ w).alloc (.cells #[] 72 (0, 0))))
    have hme := Lib.hid (Rw.Mine.empty Lb.layPr (cell_new w (.cells #[] 72 (0, 0))))
    go_enter Tryz.func50, Tryz.ntmps50
    go_wp2_with (at_builtin; refine Rw.wpList_append Lb.typPr rfl _ _ rfl _ _ [] l S rfl rfl hme.out hv.out (by rw [List.length_nil]; omega) (by rw [List.length_nil]; omega) ?_)
    intro v' w2 hown hg hb
    have hu2 : New0 w w2 := Upon.grown ((Upon.refl (fun _ => False) w).alloc _) hg (fun k hk => .inr (by
      have hk' : w.heap.size = k := by simpa [Value.ownBlock] using hk
      omega))
    have hmine : ∀ g, v'.ownBlock = some g → w.heap.size ≤ g := fun g hk => by
      rw [hk] at hb
      rcases hb with hb | hb
      · have : g = w.heap.size := by simpa [Value.ownBlock] using hb
        omega
      · have : g = w.heap.size + 1 := by simpa using hb
        omega
    replace hown : Lb.Mine w2 v' l := hown
    obtain ⟨A3, c3, rfl, -, -⟩ := Rw.View.shape hown.view
    replace hown := Lib.hid hown
    replace hu2 := Lib.hid hu2
    replace hmine := Lib.hid hmine
    clear hg hb hv
    go_wp2_with fail
    go_ret
    exact ⟨⟨A3, l.length, c3⟩, rfl, hown.out, hmine.out, hu2.out⟩

set_option maxHeartbeats 1600000 in
theorem clonePt_any (w : World) (S : Nat → Prop) (v : Value) (l : List Pt) (hv : Rw.View layP w S v l) (hn : l.length * 16 ≤ 140737488355328) :
    Calls Tryz.prog 51 #[v] w fun e w' => ∃ u : Rw.Sl, e = .returned u.v ∧ PMine w' u.v l ∧ (∀ b, u.v.ownBlock = some b → w.heap.size ≤ b) ∧ New0 w w' := by
  obtain ⟨A, c, rfl, -, -⟩ := Rw.View.shape hv
  cases A with
  | none =>
    have h0 : Hid (l = []) := Lib.hid (by
      obtain ⟨A', c', h1, h2, h3, h4⟩ := hv
      by_cases hp : 0 < l.length
      · obtain ⟨b, off, k1, -⟩ := h4 hp
        injection h1 with h1
        rw [← h1] at k1; cases k1
      · exact List.length_eq_zero_iff.1 (by omega))
    have hq := fun W => Lib.run_eql_slice_nil (P := Tryz.prog) W 57 81 none l.length c 0 0 Tryz.underlying57
    clear hv
    go_enter Tryz.func51, Tryz.ntmps51
    go_wp2_with fail
    go_ret
    exact ⟨⟨none, 0, 0⟩, rfl, (by rw [h0.out]; exact Rw.Mine.nil _ _ _), (fun b h => (by cases h)), Upon.refl _ _⟩
  | some a =>
    have hq := fun W => Lib.run_eql_slice_nil (P := Tryz.prog) W 57 81 (some a) l.length c 0 0 Tryz.underlying57
    replace hv := Lib.hid (Rw.View.new hv ((Upon.refl _ w).alloc (.cells #[] 81 (0, 0))))
    have hme := Lib.hid (Rw.Mine.empty layP (cell_new w (.cells #[] 81 (0, 0))))
    go_enter Tryz.func51, Tryz.ntmps51
    go_wp2_with (at_builtin; refine Rw.wpList_append typP rfl _ _ rfl _ _ [] l S rfl rfl hme.out hv.out (by rw [List.length_nil]; omega) (by rw [List.length_nil]; omega) ?_)
    intro v' w2 hown hg hb
    have hu2 : New0 w w2 := Upon.grown ((Upon.refl (fun _ => False) w).alloc _) hg (fun k hk => .inr (by
      have hk' : w.heap.size = k := by simpa [Value.ownBlock] using hk
      omega))
    have hmine : ∀ g, v'.ownBlock = some g → w.heap.size ≤ g := fun g hk => by
      rw [hk] at hb
      rcases hb with hb | hb
      · have : g = w.heap.size := by simpa [Value.ownBlock] using hb
        omega
      · have : g = w.heap.size + 1 := by simpa using hb
        omega
    replace hown : PMine w2 v' l := hown
    obtain ⟨A3, c3, rfl, -, -⟩ := Rw.View.shape hown.view
    replace hown := Lib.hid hown
    replace hu2 := Lib.hid hu2
    replace hmine := Lib.hid hmine
    clear hg hb hv
    go_wp2_with fail
    go_ret
    exact ⟨⟨A3, l.length, c3⟩, rfl, hown.out, hmine.out, hu2.out⟩
end Hd
end Go.Proofs.YtfheehlfodoimaaGreat
