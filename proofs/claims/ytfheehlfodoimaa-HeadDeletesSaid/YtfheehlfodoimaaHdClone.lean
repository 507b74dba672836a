/- slices.Clone at pairs and at points (layer 13). -/
import Derived.Test.YtfheehlfodoimaaPHd5
set_option maxRecDepth 100000
namespace Go.Proofs.Ytfheehlfodoimaa
open Go.RowKit Go.Sort
namespace Hd
open Bit Dsk Ob Dig
set_option linter.unusedVariables false

set_option maxHeartbeats 1600000 in
theorem clonePr_any (w : World) (S : Nat → Prop) (v : Value) (l : List Lb.Pr) (hv : Rw.View Lb.layPr w S v l) (hn : l.length * 32 ≤ 140737488355328) :
    Calls Try.prog 29 #[v] w fun e w' => ∃ u : Rw.Sl, e = .returned u.v ∧ Lb.Mine w' u.v l ∧ (∀ b, u.v.ownBlock = some b → w.heap.size ≤ b) ∧ New0 w w' := by
  obtain ⟨A, c, rfl, -, -⟩ := Rw.View.shape hv
  cases A with
  | none =>
    have h0 : Hid (l = []) := Lib.hid (by
      obtain ⟨A', c', h1, h2, h3, h4⟩ := hv
      by_cases hp : 0 < l.length
      · obtain ⟨b, off, k1, -⟩ := h4 hp
        injection h1 with h1
        rw [← h1] at k1; cases k1
      · exact List.length_eq_zero_iff.1 (by omega))
    have hq := fun W => Lib.run_eql_slice_nil (P := Try.prog) W 42 76 none l.length c 0 0 Try.underlying42
    clear hv
    go_enter Try.func29, Try.ntmps29
    go_wp2_with fail
    go_ret
    exact ⟨⟨none, 0, 0⟩, rfl, (by rw [h0.out]; exact Rw.Mine.nil _ _ _), (fun b h => (by cases h)), Upon.refl _ _⟩
  | some a =>
    have hq := fun W => Lib.run_eql_slice_nil (P := Try.prog) W 42 76 (some a) l.length c 0 0 Try.underlying42
    replace hv := Lib.hid (Rw.View.new hv ((Upon.refl _ w).alloc (.cells #[] 76 (0, 0))))
    have hme := Lib.hid (Rw.Mine.empty Lb.layPr (cell_new w (.cells #[] 76 (0, 0))))
    go_enter Try.func29, Try.ntmps29
    go_wp2_with (at_builtin; refine Rw.wpList_append Lb.typPr rfl _ _ rfl _ _ [] l S rfl rfl hme.out hv.out (by rw [List.length_nil]; omega) (by rw [List.length_nil]; omega) ?_)
    intro v' w2 hown hg hb
    have hu2 : New0 w w2 := Upon.grown ((Upon.refl (fun _ => False) w).alloc _) hg (fun k hk => .inr (by
      have hk' : w.heap.size = k := by simpa [Value.ownBlock] using hk
      omega))
    have hmine : ∀ g, v'.ownBlock = some g → w.heap.size ≤ g := fun g hk => by
      rw [hk] at hb
      rcases hb with hb | hb
      · have : g = w.heap.size := by simpa [Value.ownBlock] using hb
        omega
      · have : g = w.heap.size + 1 := by simpa using hb
        omega
    replace hown : Lb.Mine w2 v' l := hown
    obtain ⟨A3, c3, rfl, -, -⟩ := Rw.View.shape hown.view
    replace hown := Lib.hid hown
    replace hu2 := Lib.hid hu2
    replace hmine := Lib.hid hmine
    clear hg hb hv
    go_wp2_with fail
    go_ret
    exact ⟨⟨A3, l.length, c3⟩, rfl, hown.out, hmine.out, hu2.out⟩

set_option maxHeartbeats 1600000 in
theorem clonePt_any (w : World) (S : Nat → Prop) (v : Value) (l : List Pt) (hv : Rw.View layP w S v l) (hn : l.length * 16 ≤ 140737488355328) :
    Calls Try.prog 30 #[v] w fun e w' => ∃ u : Rw.Sl, e = .returned u.v ∧ PMine w' u.v l ∧ (∀ b, u.v.ownBlock = some b → w.heap.size ≤ b) ∧ New0 w w' := by
  obtain ⟨A, c, rfl, -, -⟩ := Rw.View.shape hv
  cases A with
  | none =>
    have h0 : Hid (l = []) := Lib.hid (by
      obtain ⟨A', c', h1, h2, h3, h4⟩ := hv
      by_cases hp : 0 < l.length
      · obtain ⟨b, off, k1, -⟩ := h4 hp
        injection h1 with h1
        rw [← h1] at k1; cases k1
      · exact List.length_eq_zero_iff.1 (by omega))
    have hq := fun W => Lib.run_eql_slice_nil (P := Try.prog) W 43 58 none l.length c 0 0 Try.underlying43
    clear hv
    go_enter Try.func30, Try.ntmps30
    go_wp2_with fail
    go_ret
    exact ⟨⟨none, 0, 0⟩, rfl, (by rw [h0.out]; exact Rw.Mine.nil _ _ _), (fun b h => (by cases h)), Upon.refl _ _⟩
  | some a =>
    have hq := fun W => Lib.run_eql_slice_nil (P := Try.prog) W 43 58 (some a) l.length c 0 0 Try.underlying43
    replace hv := Lib.hid (Rw.View.new hv ((Upon.refl _ w).alloc (.cells #[] 58 (0, 0))))
    have hme := Lib.hid (Rw.Mine.empty layP (cell_new w (.cells #[] 58 (0, 0))))
    go_enter Try.func30, Try.ntmps30
    go_wp2_with (at_builtin; refine Rw.wpList_append typP rfl _ _ rfl _ _ [] l S rfl rfl hme.out hv.out (by rw [List.length_nil]; omega) (by rw [List.length_nil]; omega) ?_)
    intro v' w2 hown hg hb
    have hu2 : New0 w w2 := Upon.grown ((Upon.refl (fun _ => False) w).alloc _) hg (fun k hk => .inr (by
      have hk' : w.heap.size = k := by simpa [Value.ownBlock] using hk
      omega))
    have hmine : ∀ g, v'.ownBlock = some g → w.heap.size ≤ g := fun g hk => by
      rw [hk] at hb
      rcases hb with hb | hb
      · have : g = w.heap.size := by simpa [Value.ownBlock] using hb
        omega
      · have : g = w.heap.size + 1 := by simpa using hb
        omega
    replace hown : PMine w2 v' l := hown
    obtain ⟨A3, c3, rfl, -, -⟩ := Rw.View.shape hown.view
    replace hown := Lib.hid hown
    replace hu2 := Lib.hid hu2
    replace hmine := Lib.hid hmine
    clear hg hb hv
    go_wp2_with fail
    go_ret
    exact ⟨⟨A3, l.length, c3⟩, rfl, hown.out, hmine.out, hu2.out⟩
end Hd
end Go.Proofs.Ytfheehlfodoimaa
