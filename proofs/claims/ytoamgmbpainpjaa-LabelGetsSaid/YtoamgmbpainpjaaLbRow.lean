/- Rows of pairs of texts in memory (layer 10); a row of pairs among the arguments. -/
import Derived.Test.YtoamgmbpainpjaaRowG
import Derived.Test.YtoamgmbpainpjaaLbPure
import Derived.Deep.SlicePairs
set_option maxRecDepth 100000
namespace Go.Proofs.Ytoamgmbpainpjaa
open Go.RowKit Go.ChangeShapes Go.WideShapes
namespace Lb
open Bit Dsk Ob Dig
set_option linter.unusedVariables false

def layPr : Rw.Lay Pr := ⟨2, by decide, fun p => [.string p.1, .string p.2], fun _ => rfl, fun p u hu => by
  rcases List.mem_cons.1 hu with rfl | hu
  · rfl
  · rw [List.mem_singleton.1 hu]; rfl⟩
abbrev All : Nat → Prop := fun _ => True
/-- v reads as the pairs l, out of a block of S. -/
abbrev View := Rw.View layPr
/-- v owns the pairs l. -/
abbrev Mine := Rw.Mine layPr 39
theorem typPr : Rw.Typ layPr 22 39 32 := Rw.Typ.mk' (z := .agg #[.string ByteArray.empty, .string ByteArray.empty]) Try.underlying22 (by kernel_rfl) rfl
theorem View.cells {w : World} {S : Nat → Prop} {A : Option Addr} {n c : Nat} {l : List Pr} (h : View w S (.slice A n c) l) (hp : 0 < l.length) : ∃ b off, A = some ⟨b, off, none⟩ ∧ S b ∧ b < w.heap.size ∧ ∀ i (hi : i < l.length), w.cell? ⟨b, off + i * 2, none⟩ = some (.string l[i].1) ∧ w.cell? ⟨b, off + i * 2 + 1, none⟩ = some (.string l[i].2) := by
  obtain ⟨b, off, h1, h2, h3, h4⟩ := Rw.View.open h hp
  exact ⟨b, off, h1, h2, h3, fun i hi => ⟨h4 i hi 0 _ rfl, h4 i hi 1 _ rfl⟩⟩
theorem view_of {w : World} {S : Nat → Prop} {b off c : Nat} {l : List Pr} (hc : l.length ≤ c) (hm : c ≤ maxLen) (hS : S b) (h : ∀ i (hi : i < l.length), w.cell? ⟨b, off + i * 2, none⟩ = some (.string l[i].1) ∧ w.cell? ⟨b, off + i * 2 + 1, none⟩ = some (.string l[i].2)) : View w S (.slice (some ⟨b, off, none⟩) l.length c) l :=
  ⟨_, c, rfl, hc, hm, fun _ => ⟨b, off, rfl, hS, fun i hi t u ht => by
    obtain ⟨h0, h1⟩ := h i hi
    match t, ht with
    | 0, ht => obtain rfl : Value.string l[i].1 = u := by simpa [layPr] using ht
               exact h0
    | 1, ht => obtain rfl : Value.string l[i].2 = u := by simpa [layPr] using ht
               exact h1
    | t + 2, ht => simp [layPr] at ht⟩⟩
/-- One pair, laid. -/
theorem view_one {w : World} {g : Nat} {x y : ByteArray} (h : w.heap[g]? = some (.cells #[.string x, .string y] 39 (0, 0))) : View w All (.slice (some ⟨g, 0, none⟩) 1 1) [(x, y)] :=
  view_of (l := [(x, y)]) (c := 1) (Nat.le_refl _) (by unfold maxLen; decide) trivial fun i hi => by
    have : i = 0 := by simpa using hi
    subst this
    exact ⟨by rw [Lib.cell_of_heap h]; rfl, by rw [Lib.cell_of_heap h]; rfl⟩
def Sml (l : List Pr) : Prop := ∀ p ∈ l, p.1.size ≤ 9223372036854775807 ∧ p.2.size ≤ 9223372036854775807
/-- A row of pairs that came in. -/
def IsPrs (v : Value) (w : World) : Prop := ∃ l, View w All v l ∧ Sml l ∧ l.length * 32 ≤ 140737488355328
theorem open_prs {H : Type} {enc : TypeId × Value → H} {W : World} {base : Nat} {v : Value} {d : DataW H} {p : List MemPlace}
    (hv : Value.okWide Try.prog W .any base 22 v) (h : DataW.Trod enc Try.prog W 0 (fun _ => true) true 22 v d p)
    (hz : ∀ e s, d = .slice e s → (e.length + s.length) * Try.prog.bytesOf 39 ≤ reachBytes) : IsPrs v W := by
  obtain ⟨a0, len0, cap0, rfl⟩ := okWide_slice Try.underlying22 hv
  obtain ⟨fuel, hf⟩ := h
  have hf2 : DataW.trod enc Try.prog W 0 (fun _ => true) true fuel 22 [.slice a0 len0 cap0] = some (d, p) := hf
  rcases Go.Deep.open_slice_pairs Try.underlying22 Try.underlying39 (by kernel_rfl) rfl rfl (by kernel_rfl) (by kernel_rfl) hf2 with ⟨hcs, _⟩ | ⟨a, len, cap, m, n, V0, V1, D0, D1, P0, P1, hcs, hb, hl, hm, hmm, hx, hall⟩
  · simp only [List.cons.injEq, Value.slice.injEq, and_true] at hcs
    obtain ⟨rfl, rfl, rfl⟩ := hcs
    exact ⟨[], Rw.View.noth _ _ _, fun p hp => by simp at hp, by simp⟩
  · simp only [List.cons.injEq, Value.slice.injEq, and_true] at hcs
    obtain ⟨rfl, rfl, rfl⟩ := hcs
    have hlm : len0 ≤ m := by rw [hmm]; simp; exact hl
    have hsz : len0 * 32 ≤ 140737488355328 := by
      have h1 := hz _ _ (Prod.mk.inj hx).1
      have h2 : Try.prog.bytesOf 39 = 32 := by kernel_rfl
      have h3 : reachBytes = 140737488351232 := rfl
      rw [h2] at h1
      simp only [List.length_map, List.length_range] at h1
      omega
    have hfact : ∀ i, i < len0 → ∃ x y : ByteArray, V0 i = .string x ∧ V1 i = .string y ∧ x.size ≤ 9223372036854775807 ∧ y.size ≤ 9223372036854775807 := fun i hi => by
      obtain ⟨h0, h1, t0, t1⟩ := hall i (by omega)
      obtain ⟨x, hx, _, hw⟩ := DataW.trod_string Try.underlying9 t0
      obtain ⟨y, hy, _, hw1⟩ := DataW.trod_string Try.underlying9 t1
      simp only [List.cons.injEq, and_true] at hx hy
      exact ⟨x, y, hx, hy, by unfold maxLen at hw; omega, by unfold maxLen at hw1; omega⟩
    let T : Value → ByteArray := fun v => match v with | .string s => s | _ => ByteArray.empty
    have hfs : ((List.range len0).map fun i => ((T (V0 i), T (V1 i)) : Pr)).length = len0 := by simp
    by_cases h00 : len0 = 0
    · subst h00
      exact ⟨[], Rw.View.nil _ _ _ _ hm, fun p hp => by simp at hp, by simp⟩
    obtain ⟨b, off, spot⟩ := a
    have hspot : spot = none := by
      have := World.cell?_spot (hall 0 (by omega)).1
      simpa [Addr.add] using this
    subst hspot
    refine ⟨(List.range len0).map fun i => (T (V0 i), T (V1 i)), ?_, fun q hq => ?_, by rw [hfs]; exact hsz⟩
    · have hv := view_of (w := W) (S := All) (b := b) (off := off) (c := cap0) (l := (List.range len0).map fun i => (T (V0 i), T (V1 i))) (by rw [hfs]; exact hl) hm trivial (fun i hi => by
        rw [hfs] at hi
        obtain ⟨h0, h1, -, -⟩ := hall i (by omega)
        obtain ⟨x, y, hx, hy, -, -⟩ := hfact i hi
        rw [hx] at h0
        rw [hy] at h1
        rw [Arg.addr_plain] at h0 h1
        simp only [List.getElem_map, List.getElem_range, hx, hy, T]
        exact ⟨h0, by rw [← Nat.add_assoc] at h1; exact h1⟩)
      rw [hfs] at hv
      exact hv
    · obtain ⟨i, hi, rfl⟩ := List.mem_map.1 hq
      obtain ⟨x, y, hx, hy, h1, h2⟩ := hfact i (List.mem_range.1 hi)
      simp only [hx, hy, T]
      exact ⟨h1, h2⟩
end Lb
end Go.Proofs.Ytoamgmbpainpjaa
