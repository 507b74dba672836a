/- Rows of structs that hold rows: what is in the cells (raw), and what it reads as. Names no function of the program. -/
import Derived.Test.YtkachkoiajdhgaaRowOpen
set_option maxRecDepth 100000
namespace Go.Proofs.Ytkachkoiajdhgaa
open Go.RowKit Go.ChangeShapes Go.WideShapes
namespace Rw
open Bit Dsk Ob Dig
set_option linter.unusedVariables false

/-- A slice's three parts. -/
structure Sl where
  a : Option Addr
  n : Nat
  c : Nat
abbrev Sl.v (s : Sl) : Value := .slice s.a s.n s.c
/-- What raw cells read as, out of blocks of S. -/
structure Inner (α β : Type) where
  rel : World → (Nat → Prop) → α → β → Prop
  upon : ∀ {w w' : World} {S T : Nat → Prop} {a : α} {b : β}, rel w S a b → Upon T w w' → (∀ x, S x → ¬ T x) → rel w' S a b
  mono : ∀ {w : World} {S S' : Nat → Prop} {a : α} {b : β}, rel w S a b → (∀ x, x < w.heap.size → S x → S' x) → rel w S' a b
/-- v reads as the deep row l, out of blocks of S. -/
def DView {α β : Type} (L : Lay α) (I : Inner α β) (w : World) (S : Nat → Prop) (v : Value) (l : List β) : Prop :=
  ∃ rs, View L w S v rs ∧ rs.length = l.length ∧ ∀ i (h1 : i < rs.length) (h2 : i < l.length), I.rel w S rs[i] l[i]
section
variable {α β : Type} {L : Lay α} {I : Inner α β} {w w' : World} {S S' T : Nat → Prop} {v : Value} {l : List β}
theorem DView.upon (h : DView L I w S v l) (hu : Upon T w w') (hd : ∀ b, S b → ¬ T b) : DView L I w' S v l :=
  let ⟨rs, h1, h2, h3⟩ := h
  ⟨rs, h1.upon hu hd, h2, fun i k1 k2 => I.upon (h3 i k1 k2) hu hd⟩
theorem DView.new (h : DView L I w S v l) (hu : New0 w w') : DView L I w' S v l := h.upon hu fun _ _ f => f
theorem DView.mono (h : DView L I w S v l) (hS : ∀ b, b < w.heap.size → S b → S' b) : DView L I w S' v l :=
  let ⟨rs, h1, h2, h3⟩ := h
  ⟨rs, h1.mono hS, h2, fun i k1 k2 => I.mono (h3 i k1 k2) hS⟩
theorem DView.all (h : DView L I w S v l) : DView L I w All v l := h.mono fun _ _ _ => trivial
theorem DView.shape (h : DView L I w S v l) : ∃ A c, v = .slice A l.length c ∧ l.length ≤ c ∧ c ≤ maxLen := by
  obtain ⟨rs, h1, h2, -⟩ := h
  obtain ⟨A, c, e, k1, k2⟩ := h1.shape
  rw [h2] at e k1
  exact ⟨A, c, e, k1, k2⟩
theorem DView.noth (L : Lay α) (I : Inner α β) (w : World) (S : Nat → Prop) : DView L I w S (.slice none 0 0) [] := ⟨[], View.noth _ _ _, rfl, fun i h => absurd h (by simp)⟩
/-- Its elements: the raw one at each place, its cells, what it reads as. -/
theorem DView.open {A : Option Addr} {n c : Nat} (h : DView L I w S (.slice A n c) l) (hp : 0 < l.length) : ∃ b off, A = some ⟨b, off, none⟩ ∧ b < w.heap.size ∧
    ∀ i (hi : i < l.length), ∃ r, I.rel w S r l[i] ∧ ∀ t u, (L.enc r)[t]? = some u → w.cell? ⟨b, off + i * L.k + t, none⟩ = some u := by
  obtain ⟨rs, h1, h2, h3⟩ := h
  obtain ⟨b, off, k1, -, k2, k3⟩ := View.open h1 (by omega)
  exact ⟨b, off, k1, k2, fun i hi => ⟨rs[i]'(by omega), h3 i (by omega) hi, k3 i (by omega)⟩⟩
end
end Rw
end Go.Proofs.Ytkachkoiajdhgaa
