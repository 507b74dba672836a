/- A row of texts, a row of yes and no among the arguments: opened at each index. -/
import Derived.Test.YtlgjbdfnhaoloaaGreatDoorPDisk3
import Derived.Deep.Strs
import Derived.Deep.Grids
namespace Go.Proofs.YtlgjbdfnhaoloaaGreatDoor
open Go.RowKit Go.ChangeShapes Go.WideShapes
namespace Dsk

/-- A row of texts lies there: in block b, from some place on. -/
def StrsAt (w : World) (v : Value) (ss : List ByteArray) (b : Nat) : Prop :=
  ∃ a c, v = .slice a ss.length c ∧ ss.length ≤ maxLen ∧ (ss ≠ [] → ∃ o, a = some ⟨b, o, none⟩ ∧ ∀ j s, ss[j]? = some s → w.cell? ⟨b, o + j, none⟩ = some (.string s) ∧ s.size ≤ maxLen)
def BoolsAt (w : World) (v : Value) (bs : List Bool) (b : Nat) : Prop :=
  ∃ a c, v = .slice a bs.length c ∧ bs.length ≤ maxLen ∧ (bs ≠ [] → ∃ o, a = some ⟨b, o, none⟩ ∧ ∀ j x, bs[j]? = some x → w.cell? ⟨b, o + j, none⟩ = some (.bool x))
theorem StrsAt.kept {w w' : World} {v : Value} {ss : List ByteArray} {b : Nat} (h : StrsAt w v ss b) (hk : w'.heap[b]? = w.heap[b]?) : StrsAt w' v ss b := by
  obtain ⟨a, c, h1, h2, h3⟩ := h
  refine ⟨a, c, h1, h2, fun hn => ?_⟩
  obtain ⟨o, h4, h5⟩ := h3 hn
  exact ⟨o, h4, fun j s hj => ⟨(World.cell?_of_block (w := w) (a := ⟨b, o + j, none⟩) hk).trans (h5 j s hj).1, (h5 j s hj).2⟩⟩
theorem BoolsAt.kept {w w' : World} {v : Value} {bs : List Bool} {b : Nat} (h : BoolsAt w v bs b) (hk : w'.heap[b]? = w.heap[b]?) : BoolsAt w' v bs b := by
  obtain ⟨a, c, h1, h2, h3⟩ := h
  refine ⟨a, c, h1, h2, fun hn => ?_⟩
  obtain ⟨o, h4, h5⟩ := h3 hn
  exact ⟨o, h4, fun j s hj => (World.cell?_of_block (w := w) (a := ⟨b, o + j, none⟩) hk).trans (h5 j s hj)⟩
def IsStrs (v : Value) (W : World) : Prop := ∃ ss b, StrsAt W v ss b ∧ (ss ≠ [] → b < W.heap.size)
def IsBools (v : Value) (W : World) : Prop := ∃ bs b, BoolsAt W v bs b ∧ (bs ≠ [] → b < W.heap.size)

set_option maxRecDepth 100000 in
theorem open_texts {H : Type} {enc : TypeId × Value → H} {W : World} {base : Nat} {v : Value} {d : DataW H} {p : List MemPlace} (hv : Value.okWide Tryz.prog W .any base 22 v)
    (h : DataW.Trod enc Tryz.prog W 0 (fun _ => true) true 22 v d p) : IsStrs v W := by
  obtain ⟨a0, len0, cap0, rfl⟩ := okWide_slice Tryz.underlying22 hv
  obtain ⟨fuel, hf⟩ := h
  have hf2 : DataW.trod enc Tryz.prog W 0 (fun _ => true) true fuel 22 [.slice a0 len0 cap0] = some (d, p) := hf
  rcases Go.Deep.open_strs Tryz.underlying22 Tryz.underlying9 (by kernel_rfl) hf2 with ⟨hcs, _⟩ | ⟨a, len, cap, m, Sx, hcs, hb, hl, hm, hmm, _, hcell⟩
  · simp only [List.cons.injEq, Value.slice.injEq, and_true] at hcs
    obtain ⟨rfl, rfl, rfl⟩ := hcs
    exact ⟨[], 0, ⟨none, 0, rfl, Nat.zero_le _, fun h => absurd rfl h⟩, fun h => absurd rfl h⟩
  · simp only [List.cons.injEq, Value.slice.injEq, and_true] at hcs
    obtain ⟨rfl, rfl, rfl⟩ := hcs
    simp only [if_true] at hmm
    subst hmm
    obtain ⟨b, off, spot⟩ := a
    have hL : ((List.range len0).map Sx).length = len0 := by simp
    by_cases h0 : len0 = 0
    · subst h0
      exact ⟨[], b, ⟨_, _, rfl, Nat.zero_le _, fun h => absurd rfl h⟩, fun h => absurd rfl h⟩
    have hspot : spot = none := by
      have := World.cell?_spot (hcell 0 (by omega)).1
      simpa [Addr.add] using this
    subst hspot
    refine ⟨(List.range len0).map Sx, b, ⟨_, _, by rw [hL], by rw [hL]; omega, fun _ => ⟨off, rfl, fun j s hj => ?_⟩⟩, fun _ => ?_⟩
    · have hj' := (List.getElem?_eq_some_iff.1 hj).1
      rw [hL] at hj'
      have e : (⟨b, off, none⟩ : Addr).add j = ⟨b, off + j, none⟩ := by unfold Addr.add; split <;> simp_all
      have hc := hcell j (by omega)
      rw [e] at hc
      have hs : Sx j = s := by simpa [hj'] using hj
      rw [hs] at hc
      exact hc
    · have := World.block_lt_of_cell? W _ (hcell 0 (by omega)).1
      simpa [Addr.add] using this
set_option maxRecDepth 100000 in
theorem open_yesno {H : Type} {enc : TypeId × Value → H} {W : World} {base : Nat} {v : Value} {d : DataW H} {p : List MemPlace} (hv : Value.okWide Tryz.prog W .any base 23 v)
    (h : DataW.Trod enc Tryz.prog W 0 (fun _ => true) true 23 v d p) : IsBools v W := by
  obtain ⟨a0, len0, cap0, rfl⟩ := okWide_slice Tryz.underlying23 hv
  obtain ⟨fuel, hf⟩ := h
  have hf2 : DataW.trod enc Tryz.prog W 0 (fun _ => true) true fuel 23 [.slice a0 len0 cap0] = some (d, p) := hf
  rcases Go.Deep.open_bools Tryz.underlying23 Tryz.underlying4 (by kernel_rfl) hf2 with ⟨hcs, _⟩ | ⟨a, len, cap, Sx, hcs, hb, hl, hm, _, hcell⟩
  · simp only [List.cons.injEq, Value.slice.injEq, and_true] at hcs
    obtain ⟨rfl, rfl, rfl⟩ := hcs
    exact ⟨[], 0, ⟨none, 0, rfl, Nat.zero_le _, fun h => absurd rfl h⟩, fun h => absurd rfl h⟩
  · simp only [List.cons.injEq, Value.slice.injEq, and_true] at hcs
    obtain ⟨rfl, rfl, rfl⟩ := hcs
    obtain ⟨b, off, spot⟩ := a
    have hL : ((List.range len0).map Sx).length = len0 := by simp
    by_cases h0 : len0 = 0
    · subst h0
      exact ⟨[], b, ⟨_, _, rfl, Nat.zero_le _, fun h => absurd rfl h⟩, fun h => absurd rfl h⟩
    have hspot : spot = none := by
      have := World.cell?_spot (hcell 0 (by omega))
      simpa [Addr.add] using this
    subst hspot
    refine ⟨(List.range len0).map Sx, b, ⟨_, _, by rw [hL], by rw [hL]; omega, fun _ => ⟨off, rfl, fun j s hj => ?_⟩⟩, fun _ => ?_⟩
    · have hj' := (List.getElem?_eq_some_iff.1 hj).1
      rw [hL] at hj'
      have e : (⟨b, off, none⟩ : Addr).add j = ⟨b, off + j, none⟩ := by unfold Addr.add; split <;> simp_all
      have hc := hcell j (by omega)
      rw [e] at hc
      have hs : Sx j = s := by simpa [hj'] using hj
      rw [hs] at hc
      exact hc
    · have := World.block_lt_of_cell? W _ (hcell 0 (by omega))
      simpa [Addr.add] using this
end Dsk
end Go.Proofs.YtlgjbdfnhaoloaaGreatDoor
