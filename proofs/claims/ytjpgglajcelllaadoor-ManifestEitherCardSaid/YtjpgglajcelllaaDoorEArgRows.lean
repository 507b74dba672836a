/- A row of texts, a row of yes and no among the arguments: opened at each index. -/
import Derived.Test.YtjpgglajcelllaaDoorEPDisk3
import Derived.Deep.Strs
import Derived.Deep.Grids
import Derived.SizedLaws
set_option maxRecDepth 100000
namespace Go.Proofs.YtjpgglajcelllaaDoor
open Go.RowKit Go.ChangeShapes Go.WideShapes
namespace Dsk
/-- A row of texts lies there: in block b, from some place on. -/
def StrsAt (w : World) (v : Value) (ss : List ByteArray) (b : Nat) : Prop :=
  ∃ a c, v = .slice a ss.length c ∧ ss.length ≤ maxLen ∧ (ss ≠ [] → ∃ o, a = some ⟨b, o, none⟩ ∧ ∀ j s, ss[j]? = some s → w.cell? ⟨b, o + j, none⟩ = some (.string s) ∧ s.size ≤ maxLen)
def BoolsAt (w : World) (v : Value) (bs : List Bool) (b : Nat) : Prop :=
  ∃ a c, v = .slice a bs.length c ∧ bs.length ≤ maxLen ∧ (bs ≠ [] → ∃ o, a = some ⟨b, o, none⟩ ∧ ∀ j x, bs[j]? = some x → w.cell? ⟨b, o + j, none⟩ = some (.bool x))
theorem StrsAt.kept {w w' : World} {v : Value} {ss : List ByteArray} {b : Nat} (h : StrsAt w v ss b) (hk : w'.heap[b]? = w.heap[b]?) : StrsAt w' v ss b := by
  obtain ⟨a, c, h1, h2, h3⟩ := h
  refine ⟨a, c, h1, h2, fun hn => ?_⟩
  obtain ⟨o, h4, h5⟩ := h3 hn
  exact ⟨o, h4, fun j s hj => ⟨(World.cell?_of_block (w := w) (a := ⟨b, o + j, none⟩) hk).trans (h5 j s hj).1, (h5 j s hj).2⟩⟩
theorem BoolsAt.kept {w w' : World} {v : Value} {bs : List Bool} {b : Nat} (h : BoolsAt w v bs b) (hk : w'.heap[b]? = w.heap[b]?) : BoolsAt w' v bs b := by
  obtain ⟨a, c, h1, h2, h3⟩ := h
  refine ⟨a, c, h1, h2, fun hn => ?_⟩
  obtain ⟨o, h4, h5⟩ := h3 hn
  exact ⟨o, h4, fun j s hj => (World.cell?_of_block (w := w) (a := ⟨b, o + j, none⟩) hk).trans (h5 j s hj)⟩
/-! ### numbers, with the reach of a size -/
def IsIntsZ (v : Value) (W : World) : Prop := ∃ ks db, KeepAt W v ks db ∧ (ks ≠ [] → db < W.heap.size) ∧ ks.length * 8 ≤ 140737488355328
set_option maxRecDepth 100000 in
theorem open_keepz {H : Type} {enc : TypeId × Value → H} {W : World} {base : Nat} {v : Value} {d : DataW H} {p : List MemPlace} (hv : Value.okWide Tryd.prog W .any base 43 v)
    (h : DataW.Trod enc Tryd.prog W 0 (fun _ => true) true 43 v d p)
    (hz : ∀ e s, d = .slice e s → (e.length + s.length) * Tryd.prog.bytesOf 3 ≤ reachBytes) : IsIntsZ v W := by
  obtain ⟨a0, len0, cap0, rfl⟩ := okWide_slice Tryd.underlying43 hv
  obtain ⟨fuel, hf⟩ := h
  have hf2 : DataW.trod enc Tryd.prog W 0 (fun _ => true) true fuel 43 [.slice a0 len0 cap0] = some (d, p) := hf
  rcases open_ints Tryd.underlying43 Tryd.underlying3 (by kernel_rfl) hf2 with ⟨hcs, _⟩ | ⟨a, len, cap, zs, hcs, hb, hl, hm, hzl, hx, hcell, hwf⟩
  · simp only [List.cons.injEq, Value.slice.injEq, and_true] at hcs
    obtain ⟨rfl, rfl, rfl⟩ := hcs
    exact ⟨[], 0, KeepAt.nil _ _, fun h => absurd rfl h, by simp⟩
  · simp only [List.cons.injEq, Value.slice.injEq, and_true] at hcs
    obtain ⟨rfl, rfl, rfl⟩ := hcs
    simp only [if_true] at hzl
    have hkl : (zs.take len0).length = len0 := by simp; omega
    obtain ⟨b, off, spot⟩ := a
    by_cases h0 : len0 = 0
    · subst h0
      exact ⟨[], b, ⟨_, _, rfl, Nat.zero_le _, hm, fun h => absurd rfl h⟩, fun h => absurd rfl h, by simp⟩
    have hspot : spot = none := by
      have := World.cell?_spot (hcell 0 (by omega))
      simpa [Addr.add] using this
    subst hspot
    have hcell' : ∀ j x, (zs.take len0)[j]? = some x → W.cell? ⟨b, off + j, none⟩ = some (.int .i64 x) ∧ -9223372036854775808 ≤ x ∧ x ≤ 9223372036854775807 := by
      intro j x hx
      have hj := (List.getElem?_eq_some_iff.1 hx).1
      rw [hkl] at hj
      have hc := hcell j (by omega)
      have e : (⟨b, off, none⟩ : Addr).add j = ⟨b, off + j, none⟩ := by unfold Addr.add; split <;> simp_all
      rw [e] at hc
      have hxz : zs[j]? = some x := by
        rw [List.getElem?_take_of_lt hj] at hx; exact hx
      have hz : zs.getD j 0 = x := by rw [List.getD_eq_getElem?_getD, hxz]; rfl
      rw [hz] at hc
      have hw := hwf x (List.mem_of_getElem? hxz)
      simp [Lit.wf, IntKind.min, IntKind.max, IntKind.signed, IntKind.bits] at hw
      exact ⟨hc, by omega, by omega⟩
    refine ⟨zs.take len0, b, ⟨_, _, by rw [hkl], by rw [hkl]; exact hl, hm, fun _ => ⟨off, rfl, hcell'⟩⟩, fun _ => ?_, ?_⟩
    · have := World.block_lt_of_cell? W _ (hcell 0 (by omega))
      simpa [Addr.add] using this
    · have h8 : Tryd.prog.bytesOf 3 = 8 := by kernel_rfl
      have hr : reachBytes = 140737488351232 := rfl
      simp only [Prod.mk.injEq] at hx
      have := hz _ _ hx.1
      rw [h8, hr] at this
      simp only [lits, List.length_map, List.length_take, List.length_drop] at this
      rw [hkl]; omega
end Dsk
end Go.Proofs.YtjpgglajcelllaaDoor
