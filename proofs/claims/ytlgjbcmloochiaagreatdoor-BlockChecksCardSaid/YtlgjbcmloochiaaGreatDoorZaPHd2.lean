/- Parts, put together: HdPut, HdPut2. -/
import Derived.Test.YtlgjbcmloochiaaGreatDoorZaPHd1
import Derived.Deep.RegionHeld3
import Derived.Deep.RegionLaw

/- The document's head (layer 13): put. -/
section
set_option maxRecDepth 100000
namespace Go.Proofs.YtlgjbcmloochiaaGreatDoor
open Go.RowKit Go.Sort
namespace Hd
open Bit Dsk Ob Dig
set_option linter.unusedVariables false

/-- What put leaves, when the sample is not too old. -/
structure PutE (w w' : World) (A R : Nat → Prop) (p : Nat) (h : H) : Prop where
  obj : ∃ A' R' u' rs', HeadR w' A' R' p u' rs' h ∧ (∀ b, A b → A' b) ∧ (∀ b, A' b → A b ∨ w.heap.size ≤ b) ∧ ∀ b, R' b → R b ∨ w.heap.size ≤ b
  upon : Upon A w w'
theorem typ_ne {w : World} {T T' : TypeId} (hT : T ≠ T') {g g' : Nat} {cs cs' : Array Value} (h1 : w.heap[g]? = some (.cells cs T (0, 0))) (h2 : w.heap[g']? = some (.cells cs' T' (0, 0))) : g ≠ g' := fun e => by
  subst e
  rw [h1] at h2
  injection h2 with h2
  injection h2 with _ h2 _
  exact hT h2
/-! ### a row is put in -/
theorem RowsR.take {w : World} {A R : Nat → Prop} {rs : List RR} {h : H} (hh : RowsR w A R rs h) (n : Nat) : RowsR w A R (rs.take n) (h.take n) := by
  have hl := hh.len
  have g : ∀ k, k < (rs.take n).length → k < rs.length := fun k hk => by rw [List.length_take] at hk; omega
  have g' : ∀ k, k < (h.take n).length → k < h.length := fun k hk => by rw [List.length_take] at hk; omega
  refine ⟨by simp [hl], fun k k1 k2 => ?_, fun k k1 k2 => ?_, fun k k1 k2 => ?_, fun k k1 b hb => ?_, fun a c k1 k2 b hac hb he => ?_⟩
  · rw [List.getElem_take, List.getElem_take]; exact hh.lab k (g k k1) (g' k k2)
  · rw [List.getElem_take, List.getElem_take]; exact hh.pts k (g k k1) (g' k k2)
  · rw [List.getElem_take, List.getElem_take]; exact hh.last k (g k k1) (g' k k2)
  · rw [List.getElem_take] at hb; exact hh.own k (g k k1) b hb
  · rw [List.getElem_take] at hb he; exact hh.apart a c (g a k1) (g c k2) b hac hb he
theorem RowsR.drop {w : World} {A R : Nat → Prop} {rs : List RR} {h : H} (hh : RowsR w A R rs h) (n : Nat) : RowsR w A R (rs.drop n) (h.drop n) := by
  have hl := hh.len
  have g : ∀ k, k < (rs.drop n).length → n + k < rs.length := fun k hk => by rw [List.length_drop] at hk; omega
  have g' : ∀ k, k < (h.drop n).length → n + k < h.length := fun k hk => by rw [List.length_drop] at hk; omega
  refine ⟨by simp [hl], fun k k1 k2 => ?_, fun k k1 k2 => ?_, fun k k1 k2 => ?_, fun k k1 b hb => ?_, fun a c k1 k2 b hac hb he => ?_⟩
  · rw [List.getElem_drop, List.getElem_drop]; exact hh.lab (n + k) (g k k1) (g' k k2)
  · rw [List.getElem_drop, List.getElem_drop]; exact hh.pts (n + k) (g k k1) (g' k k2)
  · rw [List.getElem_drop, List.getElem_drop]; exact hh.last (n + k) (g k k1) (g' k k2)
  · rw [List.getElem_drop] at hb; exact hh.own (n + k) (g k k1) b hb
  · rw [List.getElem_drop] at hb he; exact hh.apart (n + a) (n + c) (g a k1) (g c k2) b (by omega) hb he
theorem RowsR.append {w : World} {A R : Nat → Prop} {rs qs : List RR} {h g : H} (hh : RowsR w A R rs h) (hg : RowsR w A R qs g)
    (hx : ∀ a c (k1 : a < rs.length) (k2 : c < qs.length) b, rs[a].pts.v.ownBlock = some b → qs[c].pts.v.ownBlock ≠ some b) : RowsR w A R (rs ++ qs) (h ++ g) := by
  have hl := hh.len
  have hl2 := hg.len
  have e : ∀ k (k1 : k < (rs ++ qs).length) (k2 : k < (h ++ g).length), (∃ (a : k < rs.length) (b : k < h.length), (rs ++ qs)[k] = rs[k] ∧ (h ++ g)[k] = h[k]) ∨ ∃ (c : Nat) (a : c < qs.length) (b : c < g.length), k = rs.length + c ∧ (rs ++ qs)[k] = qs[c] ∧ (h ++ g)[k] = g[c] := fun k k1 k2 => by
    by_cases hk : k < rs.length
    · exact .inl ⟨hk, by omega, List.getElem_append_left hk, List.getElem_append_left (by omega)⟩
    · have k1' : k < rs.length + qs.length := by simpa using k1
      refine .inr ⟨k - rs.length, by omega, by omega, by omega, List.getElem_append_right (by omega), ?_⟩
      rw [List.getElem_append_right (by omega)]
      simp only [hl]
  have e2 : ∀ k, k < (rs ++ qs).length → k < (h ++ g).length := fun k hk => by simp at hk ⊢; omega
  refine ⟨by simp [hl, hl2], fun k k1 k2 => ?_, fun k k1 k2 => ?_, fun k k1 k2 => ?_, fun k k1 b hb => ?_, fun a c k1 k2 b hac hb he => ?_⟩
  · rcases e k k1 k2 with ⟨a, b, e1, e2⟩ | ⟨c, a, b, -, e1, e2⟩
    · rw [e1, e2]; exact hh.lab k a b
    · rw [e1, e2]; exact hg.lab c a b
  · rcases e k k1 k2 with ⟨a, b, e1, e2⟩ | ⟨c, a, b, -, e1, e2⟩
    · rw [e1, e2]; exact hh.pts k a b
    · rw [e1, e2]; exact hg.pts c a b
  · rcases e k k1 k2 with ⟨a, b, e1, e2⟩ | ⟨c, a, b, -, e1, e2⟩
    · rw [e1, e2]; exact hh.last k a b
    · rw [e1, e2]; exact hg.last c a b
  · rcases e k k1 (e2 k k1) with ⟨a, _, e1, _⟩ | ⟨c, a, _, -, e1, _⟩
    · rw [e1] at hb; exact hh.own k a b hb
    · rw [e1] at hb; exact hg.own c a b hb
  · rcases e a k1 (e2 a k1) with ⟨a1, _, e1, _⟩ | ⟨d, a1, _, ed, e1, _⟩ <;> rcases e c k2 (e2 c k2) with ⟨a2, _, e3, _⟩ | ⟨d', a2, _, ed', e3, _⟩
    · rw [e1] at hb; rw [e3] at he; exact hh.apart a c a1 a2 b hac hb he
    · rw [e1] at hb; rw [e3] at he; exact hx a d' a1 a2 b hb he
    · rw [e1] at hb; rw [e3] at he; exact hx c d a2 a1 b he hb
    · rw [e1] at hb; rw [e3] at he; exact hg.apart d d' a1 a2 b (by omega) hb he
end Hd
end Go.Proofs.YtlgjbcmloochiaaGreatDoor
end

/- The document's head (layer 13): put, walked. -/
section
set_option maxRecDepth 100000
namespace Go.Proofs.YtlgjbcmloochiaaGreatDoor
open Go.RowKit Go.Sort
namespace Hd
open Bit Dsk Ob Dig
set_option linter.unusedVariables false
set_option linter.unusedSimpArgs false

end Hd
end Go.Proofs.YtlgjbcmloochiaaGreatDoor
end
