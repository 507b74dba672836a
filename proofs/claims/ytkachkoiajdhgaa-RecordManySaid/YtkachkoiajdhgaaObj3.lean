/- Objects that a call has made: a call done to one of them, its blocks being new. Names no function of the program. -/
import Derived.Test.YtkachkoiajdhgaaObj2
set_option maxRecDepth 100000
namespace Go.Proofs.Ytkachkoiajdhgaa
open Go.RowKit
set_option linter.unusedVariables false
namespace Ob
open Dsk

theorem ownW {P : Program} {I I' : Rel} {w0 w : World} {f : FuncId} {args : Array Value} {Q : Ending → Prop} (H : Own I w0 w) (hc : ∀ A, (∀ b, A b → w0.heap.size ≤ b) → I w A → Calls P f args w fun e w' => Q e ∧ ObjStep I' A w w') :
    Calls P f args w fun e w' => Q e ∧ Own I' w0 w' := by
  obtain ⟨⟨S, h1, h2⟩, hb⟩ := H
  refine (hc S h2 h1).mono fun e w' ⟨he, ⟨S', k1, _, k3⟩, ku⟩ => ⟨he, ⟨S', k1, fun b hS => ?_⟩, hb.trans (ku.below hb.size h2)⟩
  rcases k3 b hS with h | h
  · exact h2 b h
  · exact Nat.le_trans hb.size h
theorem ownL {P : Program} {I I' J : Rel} {w0 w : World} {f : FuncId} {args : Array Value} {Q : Ending → Prop} (hJ : Thing J) (H : Own (Tens I J) w0 w) (hc : ∀ A, (∀ b, A b → w0.heap.size ≤ b) → I w A → Calls P f args w fun e w' => Q e ∧ ObjStep I' A w w') :
    Calls P f args w fun e w' => Q e ∧ Own (Tens I' J) w0 w' :=
  ownW H fun S hS hT => by
    obtain ⟨A, B, h1, h2, h3, h4⟩ := hT
    have hT : Tens I J w S := ⟨A, B, h1, h2, h3, h4⟩
    exact (hc A (fun b hb => hS b ((h4 b).2 (.inl hb))) h1).mono fun e w' ⟨he, hs⟩ => ⟨he, by
      obtain ⟨⟨A', k1, k2, k3⟩, ku⟩ := hs
      refine ⟨⟨fun b => A' b ∨ B b, ⟨A', B, k1, ?_, ?_, fun b => Iff.rfl⟩, ?_, ?_⟩, ?_⟩
      · exact hJ.kept w w' B h2 (fun b hb => ku.block b (hJ.lt w B h2 b hb) (fun ha => h3 b ha hb)) ku.size
      · intro b ha hb
        rcases k3 b ha with h | h
        · exact h3 b h hb
        · have := hJ.lt w B h2 b hb; omega
      · intro b hb
        exact ((h4 b).1 hb).imp (k2 b) id
      · intro b hb
        rcases hb with hb | hb
        · exact (k3 b hb).imp (fun h => (h4 b).2 (.inl h)) id
        · exact .inl ((h4 b).2 (.inr hb))
      · exact ku.mono fun b _ hb => (h4 b).2 (.inl hb)⟩
theorem Own.swap {I J : Rel} {w0 w : World} (h : Own (Tens I J) w0 w) : Own (Tens J I) w0 w := h.mono fun _ => Tens.swap
theorem ownR {P : Program} {I J J' : Rel} {w0 w : World} {f : FuncId} {args : Array Value} {Q : Ending → Prop} (hI : Thing I) (H : Own (Tens I J) w0 w) (hc : ∀ A, (∀ b, A b → w0.heap.size ≤ b) → J w A → Calls P f args w fun e w' => Q e ∧ ObjStep J' A w w') :
    Calls P f args w fun e w' => Q e ∧ Own (Tens I J') w0 w' :=
  (ownL hI H.swap hc).mono fun _ _ ⟨he, h⟩ => ⟨he, h.swap⟩
theorem Own.assoc {I J K : Rel} {w0 w : World} (h : Own (Tens (Tens I J) K) w0 w) : Own (Tens I (Tens J K)) w0 w := h.mono fun _ => Tens.assoc
theorem Own.cossa {I J K : Rel} {w0 w : World} (h : Own (Tens I (Tens J K)) w0 w) : Own (Tens (Tens I J) K) w0 w := h.mono fun _ => Tens.cossa
/-- What is read of the first one. -/
theorem Own.seeL {I J : Rel} {w0 w : World} (h : Own (Tens I J) w0 w) : ∃ A, I w A := let ⟨⟨_, ⟨A, _, h1, _⟩, _⟩, _⟩ := h; ⟨A, h1⟩
theorem Own.seeR {I J : Rel} {w0 w : World} (h : Own (Tens I J) w0 w) : ∃ A, J w A := let ⟨⟨_, ⟨_, B, _, h1, _⟩, _⟩, _⟩ := h; ⟨B, h1⟩
theorem Tens.mid {A B C D : Rel} {w : World} {S : Nat → Prop} (h : Tens (Tens A B) (Tens C D) w S) : Tens (Tens A C) (Tens B D) w S :=
  Tens.cossa (Tens.mapR (fun _ k => Tens.assoc (Tens.mapL (fun _ j => Tens.swap j) (Tens.cossa k))) (Tens.assoc h))
end Ob
end Go.Proofs.Ytkachkoiajdhgaa
