/- Objects in memory: a call, or a store, done to one of two. Names no function of the program. -/
import Derived.Test.YtkachkoiajdhgaaObj
set_option maxRecDepth 100000
namespace Go.Proofs.Ytkachkoiajdhgaa
open Go.RowKit
set_option linter.unusedVariables false
namespace Ob
open Dsk

theorem stepL {I I' J : Rel} {S : Nat → Prop} {w0 w w' : World} (hJ : Thing J) (H : ObjStep (Tens I J) S w0 w) (k : ∀ A, I w A → ObjStep I' A w w') : ObjStep (Tens I' J) S w0 w' := by
  obtain ⟨T, h1, go⟩ := H.get
  obtain ⟨A, h2, go2⟩ := h1.left hJ
  exact go _ _ (go2 _ _ (k A h2))
theorem stepR {I J J' : Rel} {S : Nat → Prop} {w0 w w' : World} (hI : Thing I) (H : ObjStep (Tens I J) S w0 w) (k : ∀ A, J w A → ObjStep J' A w w') : ObjStep (Tens I J') S w0 w' := by
  obtain ⟨T, h1, go⟩ := H.get
  obtain ⟨A, h2, go2⟩ := h1.right hI
  exact go _ _ (go2 _ _ (k A h2))
theorem callL {P : Program} {I I' J : Rel} {S : Nat → Prop} {w0 w : World} {f : FuncId} {args : Array Value} {Q : Ending → Prop} (hJ : Thing J) (H : ObjStep (Tens I J) S w0 w) (hc : ∀ A, I w A → Calls P f args w fun e w' => Q e ∧ ObjStep I' A w w') :
    Calls P f args w fun e w' => Q e ∧ ObjStep (Tens I' J) S w0 w' := by
  obtain ⟨T, h1, go⟩ := H.get
  obtain ⟨A, h2, go2⟩ := h1.left hJ
  exact (hc A h2).mono fun e w' ⟨he, hs⟩ => ⟨he, go _ _ (go2 _ _ hs)⟩
theorem callR {P : Program} {I J J' : Rel} {S : Nat → Prop} {w0 w : World} {f : FuncId} {args : Array Value} {Q : Ending → Prop} (hI : Thing I) (H : ObjStep (Tens I J) S w0 w) (hc : ∀ A, J w A → Calls P f args w fun e w' => Q e ∧ ObjStep J' A w w') :
    Calls P f args w fun e w' => Q e ∧ ObjStep (Tens I J') S w0 w' := by
  obtain ⟨T, h1, go⟩ := H.get
  obtain ⟨A, h2, go2⟩ := h1.right hI
  exact (hc A h2).mono fun e w' ⟨he, hs⟩ => ⟨he, go _ _ (go2 _ _ hs)⟩
/-- The whole of it. -/
theorem callW {P : Program} {I I' : Rel} {S : Nat → Prop} {w0 w : World} {f : FuncId} {args : Array Value} {Q : Ending → Prop} (H : ObjStep I S w0 w) (hc : ∀ A, I w A → Calls P f args w fun e w' => Q e ∧ ObjStep I' A w w') :
    Calls P f args w fun e w' => Q e ∧ ObjStep I' S w0 w' := by
  obtain ⟨T, h1, go⟩ := H.get
  exact (hc T h1).mono fun e w' ⟨he, hs⟩ => ⟨he, go _ _ hs⟩
/-- What is read of an object, without a step. -/
theorem seeW {I : Rel} {S : Nat → Prop} {w0 w : World} (H : ObjStep I S w0 w) : ∃ A, I w A := let ⟨T, h1, _⟩ := H.get; ⟨T, h1⟩
theorem seeL {I J : Rel} {S : Nat → Prop} {w0 w : World} (H : ObjStep (Tens I J) S w0 w) : ∃ A, I w A := let ⟨T, ⟨A, B, h1, _⟩, _⟩ := H.get; ⟨A, h1⟩
theorem seeR {I J : Rel} {S : Nat → Prop} {w0 w : World} (H : ObjStep (Tens I J) S w0 w) : ∃ A, J w A := let ⟨T, ⟨A, B, _, h1, _⟩, _⟩ := H.get; ⟨B, h1⟩
theorem stepDrew {I : Rel} (hI : Thing I) {S : Nat → Prop} {w0 w : World} (H : ObjStep I S w0 w) : ObjStep I S w0 w.drew := H.upon0 hI (upon_drewN _ w 1)
/-- An object with one block that is written. -/
theorem stepCell {I' : Rel} {A : Nat → Prop} {w : World} {b o : Nat} {v : Value} (hA : A b) (h : I' (w.setCell ⟨b, o, none⟩ v) A) : ObjStep I' A w (w.setCell ⟨b, o, none⟩ v) :=
  ⟨⟨A, h, fun _ h => h, fun _ h => .inl h⟩, (Upon.refl A w).setCell (p := ⟨b, o, none⟩) (.inl hA) v⟩
theorem Tens.mapL {I I' J : Rel} {S : Nat → Prop} {w : World} (k : ∀ A, I w A → I' w A) (h : Tens I J w S) : Tens I' J w S := let ⟨A, B, h1, h2, h3, h4⟩ := h; ⟨A, B, k A h1, h2, h3, h4⟩
theorem Tens.mapR {I J J' : Rel} {S : Nat → Prop} {w : World} (k : ∀ A, J w A → J' w A) (h : Tens I J w S) : Tens I J' w S := let ⟨A, B, h1, h2, h3, h4⟩ := h; ⟨A, B, h1, k B h2, h3, h4⟩
theorem Tens.assoc {I J K : Rel} {w : World} {S : Nat → Prop} (h : Tens (Tens I J) K w S) : Tens I (Tens J K) w S := by
  obtain ⟨AB, C, ⟨A, B, a, b, d1, i1⟩, c, d2, i2⟩ := h
  refine ⟨A, fun x => B x ∨ C x, a, ⟨B, C, b, c, fun x hb hc => d2 x ((i1 x).2 (.inr hb)) hc, fun x => Iff.rfl⟩, fun x ha hbc => hbc.elim (d1 x ha) (d2 x ((i1 x).2 (.inl ha))), fun x => ?_⟩
  rw [i2, i1]
  exact or_assoc
theorem Tens.cossa {I J K : Rel} {w : World} {S : Nat → Prop} (h : Tens I (Tens J K) w S) : Tens (Tens I J) K w S := by
  obtain ⟨A, BC, a, ⟨B, C, b, c, d1, i1⟩, d2, i2⟩ := h
  refine ⟨fun x => A x ∨ B x, C, ⟨A, B, a, b, fun x ha hb => d2 x ha ((i1 x).2 (.inl hb)), fun x => Iff.rfl⟩, c, fun x hab hc => hab.elim (fun ha => d2 x ha ((i1 x).2 (.inr hc))) (fun hb => d1 x hb hc), fun x => ?_⟩
  rw [i2, i1]
  exact or_assoc.symm
end Ob
end Go.Proofs.Ytkachkoiajdhgaa
