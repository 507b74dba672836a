/- Parts, put together: BitK, BitRow. -/
import Derived.Test.YtlgjbcmloochiaaGreatDoorZaPBit2
import Derived.Test.YtlgjbcmloochiaaGreatDoorZaPObj
import Derived.Lib.QuietBelow
import Derived.StillTailTactics

/- The program's reader of bits as a row of bits that are left. -/
section
set_option maxRecDepth 100000
namespace Go.Proofs.YtlgjbcmloochiaaGreatDoor
open Go.RowKit Go.Sort
namespace Bit
open Dsk Ob
set_option linter.unusedVariables false

/-- The reader at block q has the bits K left. -/
def IsRK (w : World) (S : Nat → Prop) (q : Nat) (K : List Bool) : Prop := ∃ s a e, IsR w S q s a e ∧ bitsAt s.data.toList a (e - a) = K
/-- Of what was packed. -/
theorem rkOf {w : World} {S : Nat → Prop} {q : Nat} {s : ByteArray} {L : List Bool} (hs : s.data.toList = pack L) (h : IsR w S q s 0 L.length) : IsRK w S q L :=
  ⟨s, 0, L.length, h, by rw [hs, Nat.sub_zero, bitsAt_pack L 0 L.length (by omega)]; simp⟩
end Bit
end Go.Proofs.YtlgjbcmloochiaaGreatDoor
end

/- Rows of bits of a call's own; what a call leaves alone beside an object; a local struct of two cells beside an object. -/
section
set_option maxRecDepth 100000
namespace Go.Proofs.YtlgjbcmloochiaaGreatDoor
open Go.RowKit Go.Sort
namespace Bit
open Dsk Ob
set_option linter.unusedVariables false

/-- A step that may drop blocks. -/
structure Fall (I : Ob.Rel) (S : Nat → Prop) (w w' : World) : Prop where
  obj : ∃ S', I w' S' ∧ ∀ b, S' b → S b ∨ w.heap.size ≤ b
  upon : Upon S w w'
theorem Fall.of {I J : Ob.Rel} {S : Nat → Prop} {w w' : World} (h : ObjStep I S w w') (k : ∀ S', I w' S' → ∃ S'', J w' S'' ∧ ∀ b, S'' b → S' b) : Fall J S w w' := by
  obtain ⟨⟨S', h1, h2, h3⟩, hu⟩ := h
  obtain ⟨S'', k1, k2⟩ := k S' h1
  exact ⟨⟨S'', k1, fun b hb => h3 b (k2 b hb)⟩, hu⟩
theorem Fall.step {I : Ob.Rel} {S : Nat → Prop} {w w' : World} (h : ObjStep I S w w') : Fall I S w w' := Fall.of h fun S' h => ⟨S', h, fun _ h => h⟩
theorem Fall.own {I : Ob.Rel} {w0 w : World} (h : Own I w0 w) : ∃ S, I w S ∧ ∀ (J : Ob.Rel) (w' : World), Fall J S w w' → Own J w0 w' := by
  obtain ⟨⟨S, h1, h2⟩, hb⟩ := h
  refine ⟨S, h1, fun J w' ⟨⟨S', k1, k3⟩, ku⟩ => ⟨⟨S', k1, fun b hS => ?_⟩, ?_⟩⟩
  · rcases k3 b hS with h | h
    · exact h2 b h
    · exact Nat.le_trans hb.size h
  · exact hb.trans (ku.below hb.size h2)
theorem Fall.left {I J : Ob.Rel} (hJ : Thing J) {w : World} {S : Nat → Prop} (h : Tens I J w S) : ∃ A, I w A ∧ ∀ (I' : Ob.Rel) (w' : World), Fall I' A w w' → Fall (Tens I' J) S w w' := by
  obtain ⟨A, B, h1, h2, h3, h4⟩ := h
  refine ⟨A, h1, fun I' w' ⟨⟨A', k1, k3⟩, ku⟩ => ⟨⟨fun b => A' b ∨ B b, ⟨A', B, k1, ?_, ?_, fun b => Iff.rfl⟩, ?_⟩, ?_⟩⟩
  · exact hJ.kept w w' B h2 (fun b hb => ku.block b (hJ.lt w B h2 b hb) (fun ha => h3 b ha hb)) ku.size
  · intro b ha hb
    rcases k3 b ha with h | h
    · exact h3 b h hb
    · have := hJ.lt w B h2 b hb; omega
  · intro b hb
    rcases hb with hb | hb
    · exact (k3 b hb).imp (fun h => (h4 b).2 (.inl h)) id
    · exact .inl ((h4 b).2 (.inr hb))
  · exact ku.mono fun b _ hb => (h4 b).2 (.inl hb)
theorem Fall.right {I J : Ob.Rel} (hI : Thing I) {w : World} {S : Nat → Prop} (h : Tens I J w S) : ∃ B, J w B ∧ ∀ (J' : Ob.Rel) (w' : World), Fall J' B w w' → Fall (Tens I J') S w w' := by
  obtain ⟨B, h1, h2⟩ := Fall.left hI h.swap
  refine ⟨B, h1, fun J' w' k => ?_⟩
  obtain ⟨⟨S', a, b⟩, c⟩ := h2 J' w' k
  exact ⟨⟨S', a.swap, b⟩, c⟩
theorem newRow {w : World} {T : TypeId} : (w.alloc (.cells #[.slice none 0 0] T (0, 0))).heap[w.heap.size]? = some (.cells #[.slice none 0 0] T (0, 0)) := cell_new w _
theorem newRW (w : World) : IsRW (w.alloc (.cells #[.slice none 0 0] 137 (0, 0))) (fun x => x = w.heap.size) w.heap.size [] :=
  ⟨.slice none 0 0, { cell := newRow, row := ⟨rfl, .inl ⟨rfl, rfl⟩⟩, s_q := rfl, s_v := fun b hb => (by cases hb), lt := fun b hb => (by rw [hb]; exact (Array.getElem?_eq_some_iff.1 (newRow (w := w) (T := 137))).1) }⟩
theorem int_div_pow (d k : Nat) : ((d : Int) / 2 ^ k) = ((d / 2 ^ k : Nat) : Int) := by rw [Int.natCast_ediv, Int.natCast_pow]; rfl
theorem cnt_nat {m : Nat} (h : m ≤ 64) : cnt (m : Int) = m := by unfold cnt; omega
abbrev New0 (w w' : World) : Prop := Upon (fun _ => False) w w'
theorem New0.cell {w w' : World} (h : New0 w w') {b o : Nat} {v : Value} (hc : w.cell? ⟨b, o, none⟩ = some v) : w'.cell? ⟨b, o, none⟩ = some v :=
  ((h.below (Nat.le_refl _) fun _ f => f.elim).cell (p := ⟨b, o, none⟩) (World.block_lt_of_cell? w _ hc)).trans hc
theorem stepNew {I : Ob.Rel} (hI : Thing I) {S : Nat → Prop} {w0 w w' : World} (H : ObjStep I S w0 w) (h : New0 w w') : ObjStep I S w0 w' := H.upon0 hI h
theorem preNew {I : Ob.Rel} {S : Nat → Prop} {w0 w w' : World} (h : New0 w0 w) (H : ObjStep I S w w') : ObjStep I S w0 w' := by
  obtain ⟨⟨S', h1, h2, h3⟩, hu⟩ := H
  exact ⟨⟨S', h1, h2, fun b hb => (h3 b hb).imp id fun hb2 => Nat.le_trans h.size hb2⟩, (h.mono (T := S) fun _ _ f => f.elim).trans hu⟩
/-- A cell beside an object stays. -/
theorem cellBeside {I : Ob.Rel} {S : Nat → Prop} {w w' : World} (H : ObjStep I S w w') {b o : Nat} {v : Value} (hb : ¬ S b) (hc : w.cell? ⟨b, o, none⟩ = some v) : w'.cell? ⟨b, o, none⟩ = some v := by
  have hl := World.block_lt_of_cell? w _ hc
  rw [← hc, World.cell?, World.cell?, H.upon.block _ hl hb]
theorem frozenBeside {I : Ob.Rel} {S : Nat → Prop} {w w' : World} (H : ObjStep I S w w') {b o : Nat} (hb : ¬ S b) (hl : b < w.heap.size) (hc : w.frozen? ⟨b, o, none⟩ = false) : w'.frozen? ⟨b, o, none⟩ = false := by
  rw [← hc, World.frozen?, World.frozen?, H.upon.block _ hl hb]
/-- The cells of a new window, whatever is done beside it. -/
structure Boxed (g : Nat) (a b : Value) (w : World) : Prop where
  c0 : w.cell? ⟨g, 0, none⟩ = some a
  c1 : w.cell? ⟨g, 1, none⟩ = some b
  f0 : w.frozen? ⟨g, 0, none⟩ = false
  f1 : w.frozen? ⟨g, 1, none⟩ = false
theorem Boxed.of {g : Nat} {a b : Value} {w : World} {T : TypeId} (h : w.heap[g]? = some (.cells #[a, b] T (0, 0))) : Boxed g a b w :=
  ⟨(cell2 h).1, (cell2 h).2.1, (cell2 h).2.2 0, (cell2 h).2.2 1⟩
theorem Boxed.beside {g : Nat} {a b : Value} {I : Ob.Rel} {S : Nat → Prop} {w w' : World} (h : Boxed g a b w) (H : ObjStep I S w w') (hb : ¬ S g) : Boxed g a b w' :=
  have hl := World.block_lt_of_cell? w _ h.c0
  ⟨cellBeside H hb h.c0, cellBeside H hb h.c1, frozenBeside H hb hl h.f0, frozenBeside H hb hl h.f1⟩
theorem World.set_other {w : World} {g : Nat} {o o2 : Nat} {v x : Value} (hne : o2 ≠ o) (h : w.cell? ⟨g, o, none⟩ = some x) : (w.setCell ⟨g, o2, none⟩ v).cell? ⟨g, o, none⟩ = some x :=
  (World.cell?_setCell_other w _ _ _ (by intro e; injection e with _ e2; exact hne (by first | exact e2 | exact e2.symm))).trans h
/-- Both cells are written. -/
theorem Boxed.set {g : Nat} {a b : Value} {w : World} (h : Boxed g a b w) (x y : Value) : (w.setCell ⟨g, 0, none⟩ x).cell? ⟨g, 1, none⟩ = some b ∧ (w.setCell ⟨g, 0, none⟩ x).frozen? ⟨g, 1, none⟩ = false ∧ ((w.setCell ⟨g, 0, none⟩ x).setCell ⟨g, 1, none⟩ y).cell? ⟨g, 0, none⟩ = some x ∧ ((w.setCell ⟨g, 0, none⟩ x).setCell ⟨g, 1, none⟩ y).cell? ⟨g, 1, none⟩ = some y := by
  have h1 : (w.setCell ⟨g, 0, none⟩ x).cell? ⟨g, 1, none⟩ = some b := World.set_other (by decide) h.c1
  refine ⟨h1, ?_, World.set_other (by decide) (World.cell?_setCell_same w _ _ h.c0), World.cell?_setCell_same _ _ _ h1⟩
  exact (World.frozen?_setCell w _ _ _).trans h.f1
theorem belowOf {w w' : World} (h : New0 w w') : Below w.heap.size w w' := h.below (Nat.le_refl _) fun _ f => f.elim
theorem newOf {w w' : World} (h : Below w.heap.size w w') : New0 w w' := Upon.of_below h _
/-- A local window is made beside an object. -/
theorem boxStart {I : Ob.Rel} (hI : Thing I) {S : Nat → Prop} {w w3 : World} (H : ObjStep I S w w3) (a b : Value) (T : TypeId) :
    ∃ S', I (w3.alloc (.cells #[a, b] T (0, 0))) S' ∧ (∀ (J : Ob.Rel) (c : World), ObjStep J S' (w3.alloc (.cells #[a, b] T (0, 0))) c → ObjStep J S w c) ∧ ¬ S' w3.heap.size ∧ Boxed w3.heap.size a b (w3.alloc (.cells #[a, b] T (0, 0))) ∧ ∀ x, S' x → S x ∨ w.heap.size ≤ x := by
  have hu : New0 w3 (w3.alloc (.cells #[a, b] T (0, 0))) := (Upon.refl _ w3).alloc _
  obtain ⟨⟨S', h1, h2, h3⟩, hw⟩ := H
  have go : ∀ (J : Ob.Rel) (c : World), ObjStep J S' w3 c → ObjStep J S w c := fun J c k => ObjStep.then (I := fun w T => w = w3 ∧ T = S') ⟨⟨S', ⟨rfl, rfl⟩, h2, h3⟩, hw⟩ (fun T hT => by rw [hT.2]; exact k)
  exact ⟨S', hI.kept _ _ S' h1 (fun b hb => hu.block b (hI.lt w3 S' h1 b hb) fun f => f) hu.size, fun J c h => go J c (preNew hu h), fun hs => by have := hI.lt w3 S' h1 _ hs; omega, Boxed.of (cell_new w3 _), h3⟩
end Bit
end Go.Proofs.YtlgjbcmloochiaaGreatDoor
end
