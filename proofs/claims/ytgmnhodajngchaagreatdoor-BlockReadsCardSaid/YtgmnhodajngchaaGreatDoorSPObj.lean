/- Parts: PObj. -/
import Derived.Test.YtgmnhodajngchaaGreatDoorRows
import Derived.WalkKit
import Derived.Below
import Derived.OneCell
import Derived.Deep.QuietTactic
set_option maxRecDepth 100000
set_option linter.unusedVariables false
namespace Go.Proofs.YtgmnhodajngchaaGreatDoor
section
section
open Go.RowKit
namespace Dsk
structure Upon (S : Nat -> Prop) (w w' : World) : Prop where
 os : w'.os = w.os
 tape : w'.tape = w.tape
 output : w'.output = w.output
 size : w.heap.size <= w'.heap.size
 block : ∀ k, k < w.heap.size -> ¬ S k -> w'.heap[k]? = w.heap[k]?
theorem Upon.refl (S : Nat -> Prop) (w : World) : Upon S w w := ⟨rfl, rfl, rfl, Nat.le_refl _, fun _ _ _ => rfl⟩
theorem Upon.trans {S : Nat -> Prop} {a b c : World} (h : Upon S a b) (k : Upon S b c) : Upon S a c :=
 ⟨k.os.trans h.os, k.tape.trans h.tape, k.output.trans h.output, Nat.le_trans h.size k.size, fun i hi hn => (k.block i (Nat.lt_of_lt_of_le hi h.size) hn).trans (h.block i hi hn)⟩
theorem Upon.trans' {S T : Nat -> Prop} {a b c : World} (h : Upon S a b) (k : Upon T b c) (hT : ∀ i, i < a.heap.size -> T i -> S i) : Upon S a c :=
 ⟨k.os.trans h.os, k.tape.trans h.tape, k.output.trans h.output, Nat.le_trans h.size k.size, fun i hi hn => (k.block i (Nat.lt_of_lt_of_le hi h.size) (fun ht => hn (hT i hi ht))).trans (h.block i hi hn)⟩
theorem Upon.mono {S T : Nat -> Prop} {a b : World} (h : Upon S a b) (hT : ∀ i, i < a.heap.size -> S i -> T i) : Upon T a b :=
 ⟨h.os, h.tape, h.output, h.size, fun i hi hn => h.block i hi (fun hs => hn (hT i hi hs))⟩
theorem Upon.drew {S : Nat -> Prop} {a w : World} (h : Upon S a w) : Upon S a w.drew := ⟨h.os, h.tape, h.output, h.size, h.block⟩
theorem Upon.alloc {S : Nat -> Prop} {a w : World} (h : Upon S a w) (o : Obj) : Upon S a (w.alloc o) :=
 h.trans' (T := fun _ => False) ⟨rfl, rfl, rfl, by simp, fun k hk _ => Below.heap_alloc _ _ _ hk⟩ (fun _ _ => False.elim)
theorem Upon.setCell {S : Nat -> Prop} {a w : World} (h : Upon S a w) {p : Addr} (hp : S p.block \/ a.heap.size <= p.block) (u : Value) : Upon S a (w.setCell p u) :=
 h.trans' (T := fun k => k = p.block) ⟨rfl, rfl, rfl, by simp [World.setCell], fun k _ hk => Below.heap_setCell _ _ _ _ hk⟩ (fun i hi e => by
  subst e; rcases hp with h | h
  ·exact h
  ·omega)
theorem Upon.grown {S : Nat -> Prop} {a w w' : World} {row : Option Nat} (h : Upon S a w) (hg : w.grownBy w' row) (hr : ∀ k, row = some k -> S k \/ a.heap.size <= k) : Upon S a w' :=
 h.trans' (T := fun k => some k = row) ⟨hg.os, hg.tape, hg.output, hg.size, fun k hk hn => hg.block k hk hn⟩ (fun i hi e => by
  rcases hr i e.symm with h | h
  ·exact h
  ·omega)
theorem Upon.below {S : Nat -> Prop} {a w : World} (h : Upon S a w) {B : Nat} (hB : B <= a.heap.size) (hS : ∀ k, S k -> B <= k) : Below B a w :=
 ⟨h.os, h.tape, h.output, h.size, fun k hk => h.block k (by omega) (fun hs => by have := hS k hs; omega)⟩
theorem Upon.of_below {a w : World} (h : Below a.heap.size a w) (S : Nat -> Prop) : Upon S a w := ⟨h.os, h.tape, h.output, h.size, fun k hk _ => h.block k hk⟩
theorem ownsRow_kept {w w' : World} {base : Nat} {e : TypeId} {size : Nat} {v : Value} {n : Nat} {xs : List Value} (h : w.ownsRow base e size v n xs) (hk : ∀ b, v.ownBlock = some b -> w'.heap[b]? = w.heap[b]?) : w'.ownsRow base e size v n xs := by
 refine ⟨h.1, ?_⟩
 rcases h.2 with hn | ⟨g, cap, cur, rfl, hb, hg, r⟩
 ·exact .inl hn
 ·exact .inr ⟨g, cap, cur, rfl, hb, (hk g rfl).trans hg, r⟩
theorem cell_new (w : World) (o : Obj) : (w.alloc o).heap[w.heap.size]? = some o := by
 show (w.heap.push o)[w.heap.size]? = _
 simp
end Dsk
end
section
open Go.RowKit
namespace Ob
open Dsk
abbrev Rel := World -> (Nat -> Prop) -> Prop
structure Thing (I : Rel) : Prop where
 kept : ∀ (w w' : World) (S : Nat -> Prop), I w S -> (∀ b, S b -> w'.heap[b]? = w.heap[b]?) -> w.heap.size <= w'.heap.size -> I w' S
 lt : ∀ (w : World) (S : Nat -> Prop), I w S -> ∀ b, S b -> b < w.heap.size
structure ObjStep (I : Rel) (S : Nat -> Prop) (w w' : World) : Prop where
 obj : ∃ S', I w' S' /\ (∀ b, S b -> S' b) /\ ∀ b, S' b -> S b \/ w.heap.size <= b
 upon : Upon S w w'
theorem ObjStep.then {I J : Rel} {S : Nat -> Prop} {a b c : World} (h : ObjStep I S a b) (k : ∀ S', I b S' -> ObjStep J S' b c) : ObjStep J S a c := by
 obtain ⟨⟨S', h1, h2, h3⟩, hu⟩ := h
 obtain ⟨⟨S'', k1, k2, k3⟩, ku⟩ := k S' h1
 refine ⟨⟨S'', k1, fun x hx => k2 x (h2 x hx), fun x hx => ?_⟩, ?_⟩
 ·rcases k3 x hx with h | h
  ·exact h3 x h
  ·exact .inr (Nat.le_trans hu.size h)
 ·exact hu.trans' ku fun i hi ht => by
   rcases h3 i ht with h | h
   ·exact h
   ·omega
theorem ObjStep.refl {I : Rel} {S : Nat -> Prop} {w : World} (h : I w S) : ObjStep I S w w := ⟨⟨S, h, fun _ h => h, fun _ h => .inl h⟩, Upon.refl _ _⟩
theorem ObjStep.get {I : Rel} {S : Nat -> Prop} {a b : World} (h : ObjStep I S a b) : ∃ S', I b S' /\ ∀ (J : Rel) (c : World), ObjStep J S' b c -> ObjStep J S a c := by
 obtain ⟨⟨S', h1, h2, h3⟩, hu⟩ := h
 exact ⟨S', h1, fun J c k => (ObjStep.then (I := fun w T => w = b /\ T = S') ⟨⟨S', ⟨rfl, rfl⟩, h2, h3⟩, hu⟩ (fun T hT => by rw [hT.2]; exact k))⟩
theorem ObjStep.mono {I J : Rel} {S : Nat -> Prop} {a b : World} (h : ObjStep I S a b) (k : ∀ S', I b S' -> J b S') : ObjStep J S a b := by
 obtain ⟨⟨S', h1, h2, h3⟩, hu⟩ := h
 exact ⟨⟨S', k S' h1, h2, h3⟩, hu⟩
theorem ObjStep.upon0 {I : Rel} (hO : Thing I) {S : Nat -> Prop} {a b c : World} (h : ObjStep I S a b) (k : Upon (fun _ => False) b c) : ObjStep I S a c :=
 h.then fun S' h1 => ⟨⟨S', hO.kept b c S' h1 (fun x hx => k.block x (hO.lt b S' h1 x hx) (fun f => f)) k.size, fun _ h => h, fun _ h => .inl h⟩, k.mono fun _ _ f => f.elim⟩
theorem upon_drewN (S : Nat -> Prop) (w : World) (n : Nat) : Upon S w (w.drewN n) := ⟨rfl, rfl, rfl, Nat.le_refl _, fun _ _ _ => rfl⟩
structure Own (I : Rel) (w0 w : World) : Prop where
 obj : ∃ S, I w S /\ ∀ b, S b -> w0.heap.size <= b
 bel : Below w0.heap.size w0 w
theorem Own.get {I : Rel} {w0 w : World} (h : Own I w0 w) : ∃ S, I w S /\ (∀ (J : Rel) (w' : World), ObjStep J S w w' -> Own J w0 w') := by
 obtain ⟨⟨S, h1, h2⟩, hb⟩ := h
 refine ⟨S, h1, fun J w' ⟨⟨S', k1, _, k3⟩, ku⟩ => ⟨⟨S', k1, fun b hS => ?_⟩, ?_⟩⟩
 ·rcases k3 b hS with h | h
  ·exact h2 b h
  ·exact Nat.le_trans hb.size h
 ·exact hb.trans (ku.below hb.size h2)
theorem below_of_upon {w0 w w' : World} (hb : Below w0.heap.size w0 w) (hu : Upon (fun _ => False) w w') : Below w0.heap.size w0 w' := hb.trans (hu.below hb.size fun _ h => h.elim)
theorem Own.made {I : Rel} {S : Nat -> Prop} {w0 w w' : World} (hb : Below w0.heap.size w0 w) (h : I w' S) (hS : ∀ b, S b -> w.heap.size <= b) (hu : Upon (fun _ => False) w w') : Own I w0 w' :=
 ⟨⟨S, h, fun b hb2 => Nat.le_trans hb.size (hS b hb2)⟩, below_of_upon hb hu⟩
theorem Own.upon0 {I : Rel} (hO : Thing I) {w0 w w' : World} (h : Own I w0 w) (k : Upon (fun _ => False) w w') : Own I w0 w' := by
 obtain ⟨S, h1, h2⟩ := h.get
 exact h2 _ _ ((ObjStep.refl (I := I) h1).upon0 hO k)
def Tens (I J : Rel) : Rel := fun w S => ∃ A B : Nat -> Prop, I w A /\ J w B /\ (∀ b, A b -> ¬ B b) /\ ∀ b, S b ↔ A b \/ B b
theorem Tens.ob {I J : Rel} (hI : Thing I) (hJ : Thing J) : Thing (Tens I J) where
 kept := fun w w' S ⟨A, B, h1, h2, h3, h4⟩ hk hs => ⟨A, B, hI.kept w w' A h1 (fun b hb => hk b ((h4 b).2 (.inl hb))) hs, hJ.kept w w' B h2 (fun b hb => hk b ((h4 b).2 (.inr hb))) hs, h3, h4⟩
 lt := fun w S ⟨A, B, h1, h2, _, h4⟩ b hb => ((h4 b).1 hb).elim (hI.lt w A h1 b) (hJ.lt w B h2 b)
theorem Tens.swap {I J : Rel} {w : World} {S : Nat -> Prop} (h : Tens I J w S) : Tens J I w S :=
 let ⟨A, B, h1, h2, h3, h4⟩ := h
 ⟨B, A, h2, h1, fun b hb ha => h3 b ha hb, fun b => (h4 b).trans Or.comm⟩
theorem Tens.left {I J : Rel} (hJ : Thing J) {w : World} {S : Nat -> Prop} (h : Tens I J w S) : ∃ A, I w A /\ ∀ (I' : Rel) (w' : World), ObjStep I' A w w' -> ObjStep (Tens I' J) S w w' := by
 obtain ⟨A, B, h1, h2, h3, h4⟩ := h
 refine ⟨A, h1, fun I' w' ⟨⟨A', k1, k2, k3⟩, ku⟩ => ⟨⟨fun b => A' b \/ B b, ⟨A', B, k1, ?_, ?_, fun b => Iff.rfl⟩, ?_, ?_⟩, ?_⟩⟩
 ·exact hJ.kept w w' B h2 (fun b hb => ku.block b (hJ.lt w B h2 b hb) (fun ha => h3 b ha hb)) ku.size
 ·intro b ha hb
  rcases k3 b ha with h | h
  ·exact h3 b h hb
  ·have := hJ.lt w B h2 b hb; omega
 ·intro b hb
  exact ((h4 b).1 hb).imp (k2 b) id
 ·intro b hb
  rcases hb with hb | hb
  ·exact (k3 b hb).imp (fun h => (h4 b).2 (.inl h)) id
  ·exact .inl ((h4 b).2 (.inr hb))
 ·exact ku.mono fun b _ hb => (h4 b).2 (.inl hb)
theorem ObjStep.swap {I J : Rel} {S : Nat -> Prop} {w w' : World} (h : ObjStep (Tens I J) S w w') : ObjStep (Tens J I) S w w' := h.mono fun _ => Tens.swap
theorem Tens.right {I J : Rel} (hI : Thing I) {w : World} {S : Nat -> Prop} (h : Tens I J w S) : ∃ B, J w B /\ ∀ (J' : Rel) (w' : World), ObjStep J' B w w' -> ObjStep (Tens I J') S w w' := by
 obtain ⟨B, h1, h2⟩ := h.swap.left hI
 exact ⟨B, h1, fun J' w' k => (h2 J' w' k).swap⟩
theorem Tens.new {I J : Rel} (hI : Thing I) {w w' : World} {S T : Nat -> Prop} (h : I w S) (k : J w' T) (hT : ∀ b, T b -> w.heap.size <= b) (hu : Upon (fun _ => False) w w') : ObjStep (Tens I J) S w w' := by
 refine ⟨⟨fun b => S b \/ T b, ⟨S, T, ?_, k, ?_, fun b => Iff.rfl⟩, fun b hb => .inl hb, fun b hb => hb.imp id (hT b)⟩, hu.mono fun _ _ f => f.elim⟩
 ·exact hI.kept w w' S h (fun b hb => hu.block b (hI.lt w S h b hb) (fun f => f)) hu.size
 ·intro b hs ht
  have h1 := hI.lt w S h b hs
  have h2 := hT b ht
  omega
theorem Own.new {I J : Rel} (hI : Thing I) {w0 w w' : World} {T : Nat -> Prop} (h : Own I w0 w) (k : J w' T) (hT : ∀ b, T b -> w.heap.size <= b) (hu : Upon (fun _ => False) w w') : Own (Tens I J) w0 w' := by
 obtain ⟨S, h1, h2⟩ := h.get
 exact h2 _ _ (Tens.new hI h1 k hT hu)
theorem Own.left {I J : Rel} (hJ : Thing J) {w0 w : World} (h : Own (Tens I J) w0 w) : ∃ A, I w A /\ ∀ (I' : Rel) (w' : World), ObjStep I' A w w' -> Own (Tens I' J) w0 w' := by
 obtain ⟨S, h1, h2⟩ := h.get
 obtain ⟨A, h3, h4⟩ := h1.left hJ
 exact ⟨A, h3, fun I' w' k => h2 _ _ (h4 I' w' k)⟩
theorem Own.right {I J : Rel} (hI : Thing I) {w0 w : World} (h : Own (Tens I J) w0 w) : ∃ B, J w B /\ ∀ (J' : Rel) (w' : World), ObjStep J' B w w' -> Own (Tens I J') w0 w' := by
 obtain ⟨S, h1, h2⟩ := h.get
 obtain ⟨A, h3, h4⟩ := h1.right hI
 exact ⟨A, h3, fun I' w' k => h2 _ _ (h4 I' w' k)⟩
theorem Own.mono {I J : Rel} {w0 w : World} (h : Own I w0 w) (k : ∀ S, I w S -> J w S) : Own J w0 w := by
 obtain ⟨⟨S, h1, h2⟩, hb⟩ := h
 exact ⟨⟨S, k S h1, h2⟩, hb⟩
theorem Own.dropl {I J : Rel} {w0 w : World} (h : Own (Tens I J) w0 w) : Own J w0 w := by
 obtain ⟨⟨S, ⟨A, B, h1, h2, h3, h4⟩, h5⟩, hb⟩ := h
 exact ⟨⟨B, h2, fun b hb2 => h5 b ((h4 b).2 (.inr hb2))⟩, hb⟩
theorem Own.dropr {I J : Rel} {w0 w : World} (h : Own (Tens I J) w0 w) : Own I w0 w := by
 obtain ⟨⟨S, ⟨A, B, h1, h2, h3, h4⟩, h5⟩, hb⟩ := h
 exact ⟨⟨A, h1, fun b hb2 => h5 b ((h4 b).2 (.inl hb2))⟩, hb⟩
end Ob
end
section
open Go.RowKit
namespace Ob
open Dsk
theorem stepL {I I' J : Rel} {S : Nat -> Prop} {w0 w w' : World} (hJ : Thing J) (H : ObjStep (Tens I J) S w0 w) (k : ∀ A, I w A -> ObjStep I' A w w') : ObjStep (Tens I' J) S w0 w' := by
 obtain ⟨T, h1, go⟩ := H.get
 obtain ⟨A, h2, go2⟩ := h1.left hJ
 exact go _ _ (go2 _ _ (k A h2))
theorem callL {P : Program} {I I' J : Rel} {S : Nat -> Prop} {w0 w : World} {f : FuncId} {args : Array Value} {Q : Ending -> Prop} (hJ : Thing J) (H : ObjStep (Tens I J) S w0 w) (hc : ∀ A, I w A -> Calls P f args w fun e w' => Q e /\ ObjStep I' A w w') :
  Calls P f args w fun e w' => Q e /\ ObjStep (Tens I' J) S w0 w' := by
 obtain ⟨T, h1, go⟩ := H.get
 obtain ⟨A, h2, go2⟩ := h1.left hJ
 exact (hc A h2).mono fun e w' ⟨he, hs⟩ => ⟨he, go _ _ (go2 _ _ hs)⟩
theorem callR {P : Program} {I J J' : Rel} {S : Nat -> Prop} {w0 w : World} {f : FuncId} {args : Array Value} {Q : Ending -> Prop} (hI : Thing I) (H : ObjStep (Tens I J) S w0 w) (hc : ∀ A, J w A -> Calls P f args w fun e w' => Q e /\ ObjStep J' A w w') :
  Calls P f args w fun e w' => Q e /\ ObjStep (Tens I J') S w0 w' := by
 obtain ⟨T, h1, go⟩ := H.get
 obtain ⟨A, h2, go2⟩ := h1.right hI
 exact (hc A h2).mono fun e w' ⟨he, hs⟩ => ⟨he, go _ _ (go2 _ _ hs)⟩
theorem callW {P : Program} {I I' : Rel} {S : Nat -> Prop} {w0 w : World} {f : FuncId} {args : Array Value} {Q : Ending -> Prop} (H : ObjStep I S w0 w) (hc : ∀ A, I w A -> Calls P f args w fun e w' => Q e /\ ObjStep I' A w w') :
  Calls P f args w fun e w' => Q e /\ ObjStep I' S w0 w' := by
 obtain ⟨T, h1, go⟩ := H.get
 exact (hc T h1).mono fun e w' ⟨he, hs⟩ => ⟨he, go _ _ hs⟩
theorem seeW {I : Rel} {S : Nat -> Prop} {w0 w : World} (H : ObjStep I S w0 w) : ∃ A, I w A := let ⟨T, h1, _⟩ := H.get; ⟨T, h1⟩
theorem seeL {I J : Rel} {S : Nat -> Prop} {w0 w : World} (H : ObjStep (Tens I J) S w0 w) : ∃ A, I w A := let ⟨T, ⟨A, B, h1, _⟩, _⟩ := H.get; ⟨A, h1⟩
theorem seeR {I J : Rel} {S : Nat -> Prop} {w0 w : World} (H : ObjStep (Tens I J) S w0 w) : ∃ A, J w A := let ⟨T, ⟨A, B, _, h1, _⟩, _⟩ := H.get; ⟨B, h1⟩
theorem stepDrew {I : Rel} (hI : Thing I) {S : Nat -> Prop} {w0 w : World} (H : ObjStep I S w0 w) : ObjStep I S w0 w.drew := H.upon0 hI (upon_drewN _ w 1)
theorem stepCell {I' : Rel} {A : Nat -> Prop} {w : World} {b o : Nat} {v : Value} (hA : A b) (h : I' (w.setCell ⟨b, o, none⟩ v) A) : ObjStep I' A w (w.setCell ⟨b, o, none⟩ v) :=
 ⟨⟨A, h, fun _ h => h, fun _ h => .inl h⟩, (Upon.refl A w).setCell (p := ⟨b, o, none⟩) (.inl hA) v⟩
theorem Tens.mapL {I I' J : Rel} {S : Nat -> Prop} {w : World} (k : ∀ A, I w A -> I' w A) (h : Tens I J w S) : Tens I' J w S := let ⟨A, B, h1, h2, h3, h4⟩ := h; ⟨A, B, k A h1, h2, h3, h4⟩
theorem Tens.mapR {I J J' : Rel} {S : Nat -> Prop} {w : World} (k : ∀ A, J w A -> J' w A) (h : Tens I J w S) : Tens I J' w S := let ⟨A, B, h1, h2, h3, h4⟩ := h; ⟨A, B, h1, k B h2, h3, h4⟩
theorem Tens.assoc {I J K : Rel} {w : World} {S : Nat -> Prop} (h : Tens (Tens I J) K w S) : Tens I (Tens J K) w S := by
 obtain ⟨AB, C, ⟨A, B, a, b, d1, i1⟩, c, d2, i2⟩ := h
 refine ⟨A, fun x => B x \/ C x, a, ⟨B, C, b, c, fun x hb hc => d2 x ((i1 x).2 (.inr hb)) hc, fun x => Iff.rfl⟩, fun x ha hbc => hbc.elim (d1 x ha) (d2 x ((i1 x).2 (.inl ha))), fun x => ?_⟩
 rw [i2, i1]
 exact or_assoc
theorem Tens.cossa {I J K : Rel} {w : World} {S : Nat -> Prop} (h : Tens I (Tens J K) w S) : Tens (Tens I J) K w S := by
 obtain ⟨A, BC, a, ⟨B, C, b, c, d1, i1⟩, d2, i2⟩ := h
 refine ⟨fun x => A x \/ B x, C, ⟨A, B, a, b, fun x ha hb => d2 x ha ((i1 x).2 (.inl hb)), fun x => Iff.rfl⟩, c, fun x hab hc => hab.elim (fun ha => d2 x ha ((i1 x).2 (.inr hc))) (fun hb => d1 x hb hc), fun x => ?_⟩
 rw [i2, i1]
 exact or_assoc.symm
end Ob
end
section
open Go.RowKit
namespace Ob
open Dsk
theorem ownW {P : Program} {I I' : Rel} {w0 w : World} {f : FuncId} {args : Array Value} {Q : Ending -> Prop} (H : Own I w0 w) (hc : ∀ A, (∀ b, A b -> w0.heap.size <= b) -> I w A -> Calls P f args w fun e w' => Q e /\ ObjStep I' A w w') :
  Calls P f args w fun e w' => Q e /\ Own I' w0 w' := by
 obtain ⟨⟨S, h1, h2⟩, hb⟩ := H
 refine (hc S h2 h1).mono fun e w' ⟨he, ⟨S', k1, _, k3⟩, ku⟩ => ⟨he, ⟨S', k1, fun b hS => ?_⟩, hb.trans (ku.below hb.size h2)⟩
 rcases k3 b hS with h | h
 ·exact h2 b h
 ·exact Nat.le_trans hb.size h
theorem ownL {P : Program} {I I' J : Rel} {w0 w : World} {f : FuncId} {args : Array Value} {Q : Ending -> Prop} (hJ : Thing J) (H : Own (Tens I J) w0 w) (hc : ∀ A, (∀ b, A b -> w0.heap.size <= b) -> I w A -> Calls P f args w fun e w' => Q e /\ ObjStep I' A w w') :
  Calls P f args w fun e w' => Q e /\ Own (Tens I' J) w0 w' :=
 ownW H fun S hS hT => by
  obtain ⟨A, B, h1, h2, h3, h4⟩ := hT
  have hT : Tens I J w S := ⟨A, B, h1, h2, h3, h4⟩
  exact (hc A (fun b hb => hS b ((h4 b).2 (.inl hb))) h1).mono fun e w' ⟨he, hs⟩ => ⟨he, by
   obtain ⟨⟨A', k1, k2, k3⟩, ku⟩ := hs
   refine ⟨⟨fun b => A' b \/ B b, ⟨A', B, k1, ?_, ?_, fun b => Iff.rfl⟩, ?_, ?_⟩, ?_⟩
   ·exact hJ.kept w w' B h2 (fun b hb => ku.block b (hJ.lt w B h2 b hb) (fun ha => h3 b ha hb)) ku.size
   ·intro b ha hb
    rcases k3 b ha with h | h
    ·exact h3 b h hb
    ·have := hJ.lt w B h2 b hb; omega
   ·intro b hb
    exact ((h4 b).1 hb).imp (k2 b) id
   ·intro b hb
    rcases hb with hb | hb
    ·exact (k3 b hb).imp (fun h => (h4 b).2 (.inl h)) id
    ·exact .inl ((h4 b).2 (.inr hb))
   ·exact ku.mono fun b _ hb => (h4 b).2 (.inl hb)⟩
theorem Own.swap {I J : Rel} {w0 w : World} (h : Own (Tens I J) w0 w) : Own (Tens J I) w0 w := h.mono fun _ => Tens.swap
theorem ownR {P : Program} {I J J' : Rel} {w0 w : World} {f : FuncId} {args : Array Value} {Q : Ending -> Prop} (hI : Thing I) (H : Own (Tens I J) w0 w) (hc : ∀ A, (∀ b, A b -> w0.heap.size <= b) -> J w A -> Calls P f args w fun e w' => Q e /\ ObjStep J' A w w') :
  Calls P f args w fun e w' => Q e /\ Own (Tens I J') w0 w' :=
 (ownL hI H.swap hc).mono fun _ _ ⟨he, h⟩ => ⟨he, h.swap⟩
theorem Own.assoc {I J K : Rel} {w0 w : World} (h : Own (Tens (Tens I J) K) w0 w) : Own (Tens I (Tens J K)) w0 w := h.mono fun _ => Tens.assoc
theorem Own.cossa {I J K : Rel} {w0 w : World} (h : Own (Tens I (Tens J K)) w0 w) : Own (Tens (Tens I J) K) w0 w := h.mono fun _ => Tens.cossa
theorem Own.seeL {I J : Rel} {w0 w : World} (h : Own (Tens I J) w0 w) : ∃ A, I w A := let ⟨⟨_, ⟨A, _, h1, _⟩, _⟩, _⟩ := h; ⟨A, h1⟩
theorem Own.seeR {I J : Rel} {w0 w : World} (h : Own (Tens I J) w0 w) : ∃ A, J w A := let ⟨⟨_, ⟨_, B, _, h1, _⟩, _⟩, _⟩ := h; ⟨B, h1⟩
end Ob
end
end
end Go.Proofs.YtgmnhodajngchaaGreatDoor
