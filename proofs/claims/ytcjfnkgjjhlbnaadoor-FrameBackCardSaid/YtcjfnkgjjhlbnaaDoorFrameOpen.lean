/- A row of frames among the arguments, opened: each cell holds what was read. No condition. -/
import Derived.Test.YtcjfnkgjjhlbnaaDoorFrameBack
import Derived.Deep.SlicePairs
import Derived.OpenShut
namespace Go.Proofs.YtcjfnkgjjhlbnaaDoor
open Go.RowKit Go.ChangeShapes Go.WideShapes
namespace Frm

def strOfV : Value → ByteArray
  | .string s => s
  | _ => ⟨#[]⟩
theorem open_frames {H : Type} {enc : TypeId × Value → H} {W : World} {base : Nat} {v : Value} {d : DataW H} {p : List MemPlace} (hv : Value.okWide Tryd.prog W .any base 37 v)
    (h : DataW.Trod enc Tryd.prog W 0 (fun _ => true) true 37 v d p) : IsFrames v W := by
  obtain ⟨a0, len0, cap0, rfl⟩ := okWide_slice Tryd.underlying37 hv
  obtain ⟨fuel, hf⟩ := h
  have hf2 : DataW.trod enc Tryd.prog W 0 (fun _ => true) true fuel 37 [.slice a0 len0 cap0] = some (d, p) := hf
  rcases Go.Deep.open_slice_pairs Tryd.underlying37 Tryd.underlying28 (by kernel_rfl) (by kernel_rfl) (by kernel_rfl) (by kernel_rfl) (by kernel_rfl) hf2 with ⟨hcs, _⟩ | ⟨a, len, cap, m, n, V0, V1, D0, D1, P0, P1, hcs, hb, hl, hm, hmm, _, hall⟩
  · simp only [List.cons.injEq, Value.slice.injEq, and_true] at hcs
    obtain ⟨rfl, rfl, rfl⟩ := hcs
    exact ⟨[], none, 0, rfl, by simp, fun h => absurd h (by simp)⟩
  · simp only [List.cons.injEq, Value.slice.injEq, and_true] at hcs
    obtain ⟨rfl, rfl, rfl⟩ := hcs
    have hlm : len0 ≤ m := by rw [hmm]; simp; exact hl
    have hfs : ((List.range len0).map fun i => (intOf (V0 i), strOfV (V1 i))).length = len0 := by simp
    refine ⟨(List.range len0).map fun i => (intOf (V0 i), strOfV (V1 i)), some a, cap0, by rw [hfs], by rw [hfs]; unfold maxLen at hm; omega, fun hpos => ?_⟩
    rw [hfs] at hpos
    obtain ⟨b, off, spot⟩ := a
    have hspot : spot = none := by
      have := World.cell?_spot (hall 0 (by omega)).1
      simpa [Addr.add] using this
    subst hspot
    refine ⟨b, off, rfl, ?_, fun i hi => ?_⟩
    · have := World.block_lt_of_cell? W _ (hall 0 (by omega)).1
      simpa [Addr.add] using this
    · rw [hfs] at hi
      obtain ⟨h0, h1, t0, t1⟩ := hall i (by omega)
      obtain ⟨x, hx, _, hw⟩ := DataW.trod_int Tryd.underlying3 t0
      obtain ⟨s, hs, _, hz⟩ := DataW.trod_string Tryd.underlying9 t1
      simp only [List.cons.injEq, and_true] at hx hs
      rw [hx] at h0
      rw [hs] at h1
      rw [add_plain] at h0 h1
      simp only [List.getElem_map, List.getElem_range, hx, hs, intOf, strOfV]
      refine ⟨h0, by rw [← Nat.add_assoc] at h1; exact h1, ?_⟩
      simp [Lit.wf, IntKind.min, IntKind.max, IntKind.signed, IntKind.bits] at hw
      unfold maxLen at hz
      exact ⟨by omega, by omega, by omega⟩
end Frm
end Go.Proofs.YtcjfnkgjjhlbnaaDoor
