/- A map from pairs to slices (layer 14): what it holds, looked up, put. -/
import Derived.Test.YtklgdllllboipaaPoCat
import Derived.DeepKeys4
import Derived.Maps.Own
set_option maxRecDepth 100000
namespace Go.Proofs.Ytklgdllllboipaa
open Go.RowKit Go.Sort Go.ChangeMaps
namespace Po
open Bit Dsk Ob Dig
set_option linter.unusedVariables false
def prV (p : Lb.Pr) : Value := .agg #[.string p.1, .string p.2]
theorem prV_inj {p q : Lb.Pr} (h : prV p = prV q) : p = q := by
  unfold prV at h
  injection h with h
  have h' := congrArg Array.toList h
  simp at h'
  exact Prod.ext h'.1 h'.2
/-- No string is longer. -/
def Sz (p : Lb.Pr) : Prop := p.1.size ≤ maxLen ∧ p.2.size ≤ maxLen
theorem keyP : WideMaps.KeyLaw Try.prog 28 := deep_law_laid (m := 2) (by kernel_rfl) (by omega) (of_decide_eq_true (by kernel_rfl)) (by kernel_rfl) (by kernel_rfl)
theorem key_pr {p : Lb.Pr} (h : Sz p) : ∃ l, keyOf Try.prog 28 (prV p) = some l := by
  obtain ⟨m, hm⟩ : ∃ m, Try.prog.types.size = m + 1 := ⟨Try.prog.types.size - 1, by have : 0 < Try.prog.types.size := of_decide_eq_true (by kernel_rfl); omega⟩
  have hkt : Try.prog.keyType 28 = true := by kernel_rfl
  obtain ⟨a, b⟩ := p
  obtain ⟨h1, h2⟩ := h
  simp only at h1 h2
  refine ⟨.string (keyBytes [.string a.data.toList, .string b.data.toList]), ?_⟩
  unfold keyOf prV
  simp only [Try.underlying28]
  rw [if_pos (by simp [hkt, Value.formed, Try.underlying28]; kernel_rfl), hm]
  unfold Program.keyLits
  simp only [Try.underlying28, Value.cells]
  rw [if_pos ⟨by kernel_rfl, by kernel_rfl⟩]
  simp [Program.keyLits, Try.underlying9, show Try.prog.cellsOf 9 = 1 from by kernel_rfl, h1, h2]
/-- The map in block b: each pair's slice. -/
def MapP (w : World) (b : Nat) (f : Lb.Pr → Option Value) : Prop :=
  ∃ es clock, w.heap[b]? = some (.map es clock) ∧ (∀ e ∈ es.toList, ∃ p, e.key = prV p ∧ Sz p ∧ f p = some e.val) ∧ (∀ p v, f p = some v → ∃ e ∈ es.toList, e.key = prV p) ∧ (es.toList.map (·.key)).Nodup
theorem MapP.lt {w : World} {b : Nat} {f : Lb.Pr → Option Value} (h : MapP w b f) : b < w.heap.size := by
  obtain ⟨es, clock, hb, -⟩ := h
  exact (Array.getElem?_eq_some_iff.1 hb).1
theorem MapP.kept {w w' : World} {b : Nat} {f : Lb.Pr → Option Value} (h : MapP w b f) (hk : w'.heap[b]? = w.heap[b]?) : MapP w' b f := by
  obtain ⟨es, clock, hb, r⟩ := h
  exact ⟨es, clock, hk.trans hb, r⟩
theorem MapP.ne {w : World} {b c : Nat} {f : Lb.Pr → Option Value} {x : Array Value} {T : TypeId} {z : Nat × Nat} (h : MapP w b f) (hc : w.heap[c]? = some (.cells x T z)) : c ≠ b := by
  obtain ⟨es, clock, hb, _⟩ := h
  rintro rfl
  rw [hb] at hc; cases hc
theorem MapP.made (w : World) : MapP (w.alloc (.map #[] 0)) w.heap.size (fun _ => none) :=
  ⟨#[], 0, cell_new w _, (fun e he => absurd he (by simp)), (fun p v h => (by cases h)), (by simp)⟩
theorem MapP.look {w : World} {b : Nat} {f : Lb.Pr → Option Value} (h : MapP w b f) {p : Lb.Pr} (hp : Sz p) :
    (Instr.lookup 60 (.map (some b)) (prV p) false).run Try.prog w = .ok ((f p).getD (.slice none 0 0)) w := by
  obtain ⟨es, clock, hb, h1, h2, h3⟩ := h
  obtain ⟨l, hl⟩ := key_pr hp
  have hz : (zeroValue 22).run Try.prog w = .ok (.slice none 0 0) w := Try.zeroValue22 w
  have hkeys : ∀ e ∈ es.toList, ∃ l, keyOf Try.prog 28 e.key = some l := fun e he => by
    obtain ⟨q, e1, e2, -⟩ := h1 e he
    rw [e1]; exact key_pr e2
  rcases keyP.find w hl es.toList hkeys with ⟨k1, k2⟩ | ⟨j, e0, k1, k2, k3⟩
  · have hf : f p = none := by
      cases hf : f p with
      | none => rfl
      | some v => obtain ⟨e, he, hk⟩ := h2 p v hf; exact absurd hk (k2 e he)
    rw [hf]
    simp [Instr.lookup, run_underlying Try.underlying60, MapKept.run_getObj_map hb, keyP.check w _ hl, k1, hz, Result.andThen]
  · obtain ⟨q, e1, -, e3⟩ := h1 e0 (List.mem_of_getElem? k2)
    obtain rfl : q = p := prV_inj (e1.symm.trans k3)
    rw [e3]
    simp [Instr.lookup, run_underlying Try.underlying60, MapKept.run_getObj_map hb, keyP.check w _ hl, k1, Result.andThen]
def putF (f : Lb.Pr → Option Value) (p : Lb.Pr) (v : Value) : Lb.Pr → Option Value := fun q => if q = p then some v else f q
theorem MapP.put {w : World} {b : Nat} {f : Lb.Pr → Option Value} (h : MapP w b f) {p : Lb.Pr} (hp : Sz p) (v : Value) :
    ∃ w', (Instr.mapUpdate 60 (.map (some b)) (prV p) v).run Try.prog w = .ok () w' ∧ MapP w' b (putF f p v) ∧ w.grownBy w' (some b) := by
  obtain ⟨es, clock, hb, h1, h2, h3⟩ := h
  obtain ⟨l, hl⟩ := key_pr hp
  have hgr : ∀ o, w.grownBy (setBlock w b o) (some b) := fun o => ⟨rfl, rfl, rfl, by simp [setBlock], fun i _ hi => heap_setBlock_other hb _ (fun e => hi (by rw [e]))⟩
  have hkeys : ∀ e ∈ es.toList, ∃ l, keyOf Try.prog 28 e.key = some l := fun e he => by
    obtain ⟨q, e1, e2, -⟩ := h1 e he
    rw [e1]; exact key_pr e2
  rcases keyP.find w hl es.toList hkeys with ⟨k1, k2⟩ | ⟨j, e0, k1, k2, k3⟩
  · refine ⟨setBlock w b (.map (es.push ⟨prV p, v, clock⟩) (clock + 1)), ?_, ⟨_, _, heap_setBlock_same hb _, fun e he => ?_, fun q u hq => ?_, ?_⟩, hgr _⟩
    · simp [Instr.mapUpdate, run_underlying Try.underlying60, MapKept.run_getObj_map hb, keyP.check w false hl, k1, MapKept.run_setObj_map _ hb, Result.andThen, setBlock]
    · simp only [Array.toList_push, List.mem_append, List.mem_singleton] at he
      rcases he with he | rfl
      · obtain ⟨q, e1, e2, e3⟩ := h1 e he
        exact ⟨q, e1, e2, by unfold putF; rw [if_neg (fun c => k2 e he (by rw [e1, c])), e3]⟩
      · exact ⟨p, rfl, hp, by unfold putF; rw [if_pos rfl]⟩
    · simp only [Array.toList_push, List.mem_append, List.mem_singleton]
      by_cases c : q = p
      · exact ⟨_, .inr rfl, by rw [c]⟩
      · unfold putF at hq
        rw [if_neg c] at hq
        obtain ⟨e, he, hk⟩ := h2 q u hq
        exact ⟨e, .inl he, hk⟩
    · rw [Array.toList_push, List.map_append, List.map_singleton]
      refine List.nodup_append.2 ⟨h3, by simp, fun a ha b' hb' => ?_⟩
      obtain ⟨e, he, rfl⟩ := List.mem_map.1 ha
      rw [List.mem_singleton.1 hb']
      exact k2 e he
  · obtain ⟨q0, e1, -, e3⟩ := h1 e0 (List.mem_of_getElem? k2)
    obtain rfl : q0 = p := prV_inj (e1.symm.trans k3)
    have hj : es[j]? = some e0 := by simpa using k2
    have hjl : j < es.toList.length := (List.getElem?_eq_some_iff.1 k2).1
    have hlist : (es.modify j (fun e' => { e' with key := prV q0, val := v })).toList = es.toList.set j { e0 with key := prV q0, val := v } := by rw [Array.toList_modify, modify_eq_set _ _ _ _ k2]
    have hmap : (es.toList.set j { e0 with key := prV q0, val := v }).map (·.key) = es.toList.map (·.key) := by
      rw [List.map_set]
      refine List.ext_getElem (by simp) fun i hi hi' => ?_
      rw [List.getElem_set]
      split
      · rename_i c
        subst c
        rw [List.getElem_map]
        have := (List.getElem?_eq_some_iff.1 k2).2
        rw [this]; exact k3.symm
      · rfl
    refine ⟨setBlock w b (.map (es.modify j (fun e' => { e' with key := prV q0, val := v })) clock), ?_, ⟨_, _, heap_setBlock_same hb _, fun e he => ?_, fun q u hq => ?_, ?_⟩, hgr _⟩
    · simp [Instr.mapUpdate, run_underlying Try.underlying60, MapKept.run_getObj_map hb, keyP.check w false hl, k1, hj, k3, keyP.stays w hl, MapKept.run_setObj_map _ hb, Result.andThen, setBlock]
    · rw [hlist] at he
      obtain ⟨i, hi, ex⟩ := List.getElem_of_mem he
      rw [List.getElem_set] at ex
      split at ex
      · rw [← ex]; exact ⟨q0, rfl, hp, by unfold putF; rw [if_pos rfl]⟩
      · rename_i hne
        have hi' : i < es.toList.length := by simpa using hi
        obtain ⟨q, g1, g2, g3⟩ := h1 e (ex ▸ List.getElem_mem hi')
        refine ⟨q, g1, g2, ?_⟩
        unfold putF
        rw [if_neg, g3]
        intro c
        subst c
        have n1 := List.pairwise_iff_getElem.1 h3
        have him : i < (es.toList.map (·.key)).length := by simpa using hi'
        have hjm : j < (es.toList.map (·.key)).length := by simpa using hjl
        have a1 : (es.toList.map (·.key))[i] = prV q := by rw [List.getElem_map, ex]; exact g1
        have a2 : (es.toList.map (·.key))[j] = prV q := by rw [List.getElem_map, (List.getElem?_eq_some_iff.1 k2).2]; exact k3
        rcases Nat.lt_or_gt_of_ne (fun h : i = j => hne h.symm) with h | h
        · exact n1 i j him hjm h (a1.trans a2.symm)
        · exact n1 j i hjm him h (a2.trans a1.symm)
    · rw [hlist]
      by_cases c : q = q0
      · subst c
        exact ⟨{ e0 with key := prV q, val := v }, List.mem_iff_getElem.2 ⟨j, by simpa using hjl, by simp⟩, rfl⟩
      · unfold putF at hq
        rw [if_neg c] at hq
        obtain ⟨e, he, hk⟩ := h2 q u hq
        obtain ⟨i, hi, ex⟩ := List.getElem_of_mem he
        have hij : j ≠ i := fun h => by
          subst h
          have : e = e0 := by have := (List.getElem?_eq_some_iff.1 k2).2; rw [← ex, this]
          rw [this, k3] at hk
          exact c (prV_inj hk).symm
        exact ⟨e, List.mem_iff_getElem.2 ⟨i, by simpa using hi, by rw [List.getElem_set, if_neg hij, ex]⟩, hk⟩
    · rw [hlist, hmap]; exact h3
end Po
end Go.Proofs.Ytklgdllllboipaa
