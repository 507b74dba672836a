/- A row of structs among the arguments, opened: over how an element lies in its cells. Names no function of the program. -/
import Derived.Test.YtkachkoiajdhgaaRowG
import Derived.Deep.Slices
set_option maxRecDepth 100000
namespace Go.Proofs.Ytkachkoiajdhgaa
open Go.RowKit Go.ChangeShapes Go.WideShapes
namespace Rw
open Bit Dsk Ob Dig
set_option linter.unusedVariables false

/-- A row whose elements are opened each: what each reads as, and what holds of it. -/
theorem open_row {α : Type} {L : Lay α} {sT T : TypeId} {bytes : Nat} {G : α → Prop} {H : Type} {enc : TypeId × Value → H} {W : World} {base : Nat} {v : Value} {d : DataW H} {p : List MemPlace} {N : Nat}
    (hu : Try.prog.underlying sT = some (.slice T)) (hk : Try.prog.cellsOf T = L.k) (hby : Try.prog.bytesOf T = bytes)
    (hone : ∀ (fuel : Nat) (cs : List Value) (x : DataW H × List MemPlace), cs.length = L.k → DataW.trod enc Try.prog W 0 (fun _ => true) true fuel T cs = some x → ∃ a, cs = L.enc a ∧ G a)
    (hv : Value.okWide Try.prog W .any base sT v) (h : DataW.Trod enc Try.prog W 0 (fun _ => true) true sT v d p)
    (hz : ∀ e s, d = .slice e s → (e.length + s.length) * Try.prog.bytesOf T ≤ N) : ∃ l, View L W All v l ∧ (∀ a ∈ l, G a) ∧ l.length * bytes ≤ N := by
  obtain ⟨a0, len0, cap0, rfl⟩ := okWide_slice hu hv
  obtain ⟨fuel0, hf⟩ := h
  have hf2 : DataW.trod enc Try.prog W 0 (fun _ => true) true fuel0 sT [.slice a0 len0 cap0] = some (d, p) := hf
  rcases Go.Deep.open_slice hu hf2 with ⟨hcs, _⟩ | ⟨a, len, cap, m, n, D, Pl, hcs, hb, hl, hm, hmm, hx, hall⟩
  · simp only [List.cons.injEq, Value.slice.injEq, and_true] at hcs
    obtain ⟨rfl, rfl, rfl⟩ := hcs
    exact ⟨[], View.noth _ _ _, fun a ha => by simp at ha, by simp⟩
  · simp only [List.cons.injEq, Value.slice.injEq, and_true] at hcs
    obtain ⟨rfl, rfl, rfl⟩ := hcs
    have hlm : len0 ≤ m := by rw [hmm]; simp; exact hl
    have hsz : len0 * bytes ≤ N := by
      have h1 := hz _ _ (Prod.mk.inj hx).1
      rw [hby] at h1
      simp only [List.length_map, List.length_range] at h1
      have h4 : len0 * bytes ≤ (len0 + (m - len0)) * bytes := Nat.mul_le_mul_right _ (by omega)
      omega
    have each : ∀ i, i < len0 → ∃ x : α, G x ∧ ∀ t u, (L.enc x)[t]? = some u → W.cell? (a.add (i * L.k + t)) = some u := by
      intro i hi
      obtain ⟨cs', h1, h2⟩ := hall i (by omega)
      rw [hk] at h1
      obtain ⟨_, hlen, hcell⟩ := World.cells?_some h1
      obtain ⟨x, rfl, hG⟩ := hone _ _ _ hlen h2
      refine ⟨x, hG, fun t u ht => ?_⟩
      have htk : t < L.k := by have := (List.getElem?_eq_some_iff.1 ht).1; rwa [L.len] at this
      have := hcell t htk
      rw [Go.Deep.add_add] at this
      rw [this]; exact ht
    by_cases h00 : len0 = 0
    · subst h00
      exact ⟨[], View.nil _ _ _ _ hm, fun a ha => by simp at ha, by simp⟩
    obtain ⟨b, off, spot⟩ := a
    have hspot : spot = none := by
      obtain ⟨x, -, hc⟩ := each 0 (by omega)
      obtain ⟨u, hu0⟩ := first L x
      have := World.cell?_spot (hc 0 u hu0)
      simpa [Addr.add] using this
    subst hspot
    have e : ∀ j, (⟨b, off, none⟩ : Addr).add j = ⟨b, off + j, none⟩ := fun j => by unfold Addr.add; split <;> simp_all
    obtain ⟨f, hf⟩ : ∃ f : Nat → α, ∀ i, i < len0 → G (f i) ∧ ∀ t u, (L.enc (f i))[t]? = some u → W.cell? (Addr.add ⟨b, off, none⟩ (i * L.k + t)) = some u := by
      classical
      obtain ⟨x0, -⟩ := each 0 (by omega)
      refine ⟨fun i => if h : i < len0 then Classical.choose (each i h) else x0, fun i hi => ?_⟩
      simp only [hi, dif_pos]
      exact Classical.choose_spec (each i hi)
    have hfs : ((List.range len0).map f).length = len0 := by simp
    refine ⟨(List.range len0).map f, ⟨_, cap0, by rw [hfs], by rw [hfs]; exact hl, hm, fun _ => ⟨b, off, rfl, trivial, fun i hi t u ht => ?_⟩⟩, fun a ha => ?_, by rw [hfs]; exact hsz⟩
    · rw [hfs] at hi
      simp only [List.getElem_map, List.getElem_range] at ht
      have := (hf i hi).2 t u ht
      rw [e, ← Nat.add_assoc] at this
      exact this
    · obtain ⟨i, hi, rfl⟩ := List.mem_map.1 ha
      exact (hf i (List.mem_range.1 hi)).1
end Rw
end Go.Proofs.Ytkachkoiajdhgaa
