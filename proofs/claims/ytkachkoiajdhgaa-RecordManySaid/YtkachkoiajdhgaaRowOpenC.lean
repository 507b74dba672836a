/- A row of structs, opened out of its cells (it may lie in a struct), with what the reach says of all rows inside. Names no function of the program. -/
import Derived.Test.YtkachkoiajdhgaaRowOpen
set_option maxRecDepth 100000
namespace Go.Proofs.Ytkachkoiajdhgaa
open Go.RowKit Go.ChangeShapes Go.WideShapes
namespace Rw
open Bit Dsk Ob Dig
set_option linter.unusedVariables false

theorem weights_all {H : Type} {P : Program} {e : TypeId} {x : DataW H} {n : Nat} : ∀ {l : List (DataW H)}, x ∈ l → n ∈ x.weights P e → n ∈ DataW.weightsAll P e l
  | y :: l, hx, hn => by
    rw [DataW.weightsAll]
    rcases List.mem_cons.1 hx with rfl | hx
    · exact List.mem_append_left _ hn
    · exact List.mem_append_right _ (weights_all hx hn)
theorem open_rowC {α : Type} {L : Lay α} {sT T : TypeId} {bytes : Nat} {G : α → Prop} {H : Type} {enc : TypeId × Value → H} {W : World} {cs : List Value} {d : DataW H} {p : List MemPlace} {N fuel0 : Nat}
    (hu : Try.prog.underlying sT = some (.slice T)) (hk : Try.prog.cellsOf T = L.k) (hby : Try.prog.bytesOf T = bytes)
    (hone : ∀ (fuel : Nat) (cs : List Value) (d : DataW H) (p : List MemPlace), cs.length = L.k → DataW.trod enc Try.prog W 0 (fun _ => true) true fuel T cs = some (d, p) → (∀ n ∈ d.weights Try.prog T, n ≤ N) → ∃ a, cs = L.enc a ∧ G a)
    (h : DataW.trod enc Try.prog W 0 (fun _ => true) true fuel0 sT cs = some (d, p))
    (hz : ∀ n ∈ d.weights Try.prog sT, n ≤ N) : ∃ A n c l, cs = [.slice A n c] ∧ View L W All (.slice A n c) l ∧ (∀ a ∈ l, G a) ∧ l.length * bytes ≤ N := by
  rcases Go.Deep.open_slice hu h with ⟨hcs, _⟩ | ⟨a, len, cap, m, n, D, Pl, hcs, hb, hl, hm, hmm, hx, hall⟩
  · exact ⟨none, 0, 0, [], hcs, View.noth _ _ _, fun a ha => by simp at ha, by simp⟩
  · refine ⟨some a, len, cap, ?_⟩
    have hlm : len ≤ m := by rw [hmm]; simp; exact hl
    have hd := (Prod.mk.inj hx).1
    have hsz : len * bytes ≤ N := by
      have h1 := hz ((((List.range len).map D).length + ((List.range (m - len)).map fun j => D (len + j)).length) * Try.prog.bytesOf T) (by rw [hd]; simp [DataW.weights, hu])
      rw [hby] at h1
      simp only [List.length_map, List.length_range] at h1
      have h4 : len * bytes ≤ (len + (m - len)) * bytes := Nat.mul_le_mul_right _ (by omega)
      omega
    have each : ∀ i, i < len → ∃ x : α, G x ∧ ∀ t u, (L.enc x)[t]? = some u → W.cell? (a.add (i * L.k + t)) = some u := by
      intro i hi
      obtain ⟨cs', h1, h2⟩ := hall i (by omega)
      rw [hk] at h1
      obtain ⟨_, hlen, hcell⟩ := World.cells?_some h1
      obtain ⟨x, rfl, hG⟩ := hone _ _ _ _ hlen h2 (fun n hn => hz n (by
        rw [hd]
        simp only [DataW.weights, hu]
        exact List.mem_cons_of_mem _ (List.mem_append_left _ (weights_all (x := D i) (List.mem_map.2 ⟨i, List.mem_range.2 hi, rfl⟩) hn))))
      refine ⟨x, hG, fun t u ht => ?_⟩
      have htk : t < L.k := by have := (List.getElem?_eq_some_iff.1 ht).1; rwa [L.len] at this
      have := hcell t htk
      rw [Go.Deep.add_add] at this
      rw [this]; exact ht
    by_cases h00 : len = 0
    · subst h00
      exact ⟨[], hcs, View.nil _ _ _ _ hm, fun a ha => by simp at ha, by simp⟩
    obtain ⟨b, off, spot⟩ := a
    have hspot : spot = none := by
      obtain ⟨x, -, hc⟩ := each 0 (by omega)
      obtain ⟨u, hu0⟩ := first L x
      have := World.cell?_spot (hc 0 u hu0)
      simpa [Addr.add] using this
    subst hspot
    have e : ∀ j, (⟨b, off, none⟩ : Addr).add j = ⟨b, off + j, none⟩ := fun j => by unfold Addr.add; split <;> simp_all
    obtain ⟨f, hf⟩ : ∃ f : Nat → α, ∀ i, i < len → G (f i) ∧ ∀ t u, (L.enc (f i))[t]? = some u → W.cell? (Addr.add ⟨b, off, none⟩ (i * L.k + t)) = some u := by
      classical
      obtain ⟨x0, -⟩ := each 0 (by omega)
      refine ⟨fun i => if h : i < len then Classical.choose (each i h) else x0, fun i hi => ?_⟩
      simp only [hi, dif_pos]
      exact Classical.choose_spec (each i hi)
    have hfs : ((List.range len).map f).length = len := by simp
    refine ⟨(List.range len).map f, hcs, ⟨_, cap, by rw [hfs], by rw [hfs]; exact hl, hm, fun _ => ⟨b, off, rfl, trivial, fun i hi t u ht => ?_⟩⟩, fun a ha => ?_, by rw [hfs]; exact hsz⟩
    · rw [hfs] at hi
      simp only [List.getElem_map, List.getElem_range] at ht
      have := (hf i hi).2 t u ht
      rw [e, ← Nat.add_assoc] at this
      exact this
    · obtain ⟨i, hi, rfl⟩ := List.mem_map.1 ha
      exact (hf i (List.mem_range.1 hi)).1
/-- What the reach says of a struct's parts. -/
theorem weights_part {H : Type} {P : Program} {t : TypeId} {fs : Array Field} {parts : List (DataW H)} (ht : P.underlying t = some (.struct fs)) {j : Nat} {e : TypeId} {d : DataW H} {n : Nat} (he : (fs.toList.map (·.type))[j]? = some e) (hd : parts[j]? = some d) (hn : n ∈ d.weights P e) : n ∈ (DataW.agg parts).weights P t := by
  simp only [DataW.weights, ht]
  exact DataW.weights_mem_each he hd n hn
end Rw
end Go.Proofs.Ytkachkoiajdhgaa
