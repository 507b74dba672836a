/- Parts, put together: Upon, Obj, Obj2, Obj3. -/
import Derived.Test.YtjpgglajcelllaaDoorRows
import Derived.WalkKit
import Derived.Below
import Derived.OneCell
import Derived.Deep.QuietTactic

/- What a call leaves alone but for a set of blocks; small facts on rows and new blocks. Names no function of the program. -/
section
set_option maxRecDepth 100000
namespace Go.Proofs.YtjpgglajcelllaaDoor
open Go.RowKit
namespace Dsk
/-- But for the blocks of S, all that lay in w lies as it did. -/
structure Upon (S : Nat → Prop) (w w' : World) : Prop where
  os : w'.os = w.os
  tape : w'.tape = w.tape
  output : w'.output = w.output
  size : w.heap.size ≤ w'.heap.size
  block : ∀ k, k < w.heap.size → ¬ S k → w'.heap[k]? = w.heap[k]?
theorem Upon.refl (S : Nat → Prop) (w : World) : Upon S w w := ⟨rfl, rfl, rfl, Nat.le_refl _, fun _ _ _ => rfl⟩
theorem Upon.trans {S : Nat → Prop} {a b c : World} (h : Upon S a b) (k : Upon S b c) : Upon S a c :=
  ⟨k.os.trans h.os, k.tape.trans h.tape, k.output.trans h.output, Nat.le_trans h.size k.size, fun i hi hn => (k.block i (Nat.lt_of_lt_of_le hi h.size) hn).trans (h.block i hi hn)⟩
/-- .. the second step may write to what was new behind the first one. -/
theorem Upon.trans' {S T : Nat → Prop} {a b c : World} (h : Upon S a b) (k : Upon T b c) (hT : ∀ i, i < a.heap.size → T i → S i) : Upon S a c :=
  ⟨k.os.trans h.os, k.tape.trans h.tape, k.output.trans h.output, Nat.le_trans h.size k.size, fun i hi hn => (k.block i (Nat.lt_of_lt_of_le hi h.size) (fun ht => hn (hT i hi ht))).trans (h.block i hi hn)⟩
theorem Upon.mono {S T : Nat → Prop} {a b : World} (h : Upon S a b) (hT : ∀ i, i < a.heap.size → S i → T i) : Upon T a b :=
  ⟨h.os, h.tape, h.output, h.size, fun i hi hn => h.block i hi (fun hs => hn (hT i hi hs))⟩
theorem Upon.drew {S : Nat → Prop} {a w : World} (h : Upon S a w) : Upon S a w.drew := ⟨h.os, h.tape, h.output, h.size, h.block⟩
theorem Upon.alloc {S : Nat → Prop} {a w : World} (h : Upon S a w) (o : Obj) : Upon S a (w.alloc o) :=
  h.trans' (T := fun _ => False) ⟨rfl, rfl, rfl, by simp, fun k hk _ => Below.heap_alloc _ _ _ hk⟩ (fun _ _ => False.elim)
theorem Upon.setCell {S : Nat → Prop} {a w : World} (h : Upon S a w) {p : Addr} (hp : S p.block ∨ a.heap.size ≤ p.block) (u : Value) : Upon S a (w.setCell p u) :=
  h.trans' (T := fun k => k = p.block) ⟨rfl, rfl, rfl, by simp [World.setCell], fun k _ hk => Below.heap_setCell _ _ _ _ hk⟩ (fun i hi e => by
    subst e; rcases hp with h | h
    · exact h
    · omega)
theorem Upon.grown {S : Nat → Prop} {a w w' : World} {row : Option Nat} (h : Upon S a w) (hg : w.grownBy w' row) (hr : ∀ k, row = some k → S k ∨ a.heap.size ≤ k) : Upon S a w' :=
  h.trans' (T := fun k => some k = row) ⟨hg.os, hg.tape, hg.output, hg.size, fun k hk hn => hg.block k hk hn⟩ (fun i hi e => by
    rcases hr i e.symm with h | h
    · exact h
    · omega)
theorem Upon.freeze {S : Nat → Prop} {a w : World} (h : Upon S a w) {p : Addr} (hp : S p.block) (n : Nat) : Upon S a (w.freeze p n) := by
  refine h.trans' (T := fun k => k = p.block) ?_ (fun i _ e => by rw [e]; exact hp)
  unfold World.freeze
  split
  · exact Upon.refl _ w
  · refine ⟨rfl, rfl, rfl, by simp, fun k _ hk => ?_⟩
    simp only [Array.getElem?_modify]
    rw [if_neg (fun e => hk e.symm)]
theorem Upon.below {S : Nat → Prop} {a w : World} (h : Upon S a w) {B : Nat} (hB : B ≤ a.heap.size) (hS : ∀ k, S k → B ≤ k) : Below B a w :=
  ⟨h.os, h.tape, h.output, h.size, fun k hk => h.block k (by omega) (fun hs => by have := hS k hs; omega)⟩
theorem Upon.of_below {a w : World} (h : Below a.heap.size a w) (S : Nat → Prop) : Upon S a w := ⟨h.os, h.tape, h.output, h.size, fun k hk _ => h.block k hk⟩
theorem ownsRow_kept {w w' : World} {base : Nat} {e : TypeId} {size : Nat} {v : Value} {n : Nat} {xs : List Value} (h : w.ownsRow base e size v n xs) (hk : ∀ b, v.ownBlock = some b → w'.heap[b]? = w.heap[b]?) : w'.ownsRow base e size v n xs := by
  refine ⟨h.1, ?_⟩
  rcases h.2 with hn | ⟨g, cap, cur, rfl, hb, hg, r⟩
  · exact .inl hn
  · exact .inr ⟨g, cap, cur, rfl, hb, (hk g rfl).trans hg, r⟩
theorem cell_new (w : World) (o : Obj) : (w.alloc o).heap[w.heap.size]? = some o := by
  show (w.heap.push o)[w.heap.size]? = _
  simp
end Dsk
end Go.Proofs.YtjpgglajcelllaaDoor
end
/- Objects in memory: a relation over the world and a set of blocks. What a step of one leaves; objects that a call has made; two objects beside one another. Names no function of the program. -/
section
set_option maxRecDepth 100000
namespace Go.Proofs.YtjpgglajcelllaaDoor
open Go.RowKit
set_option linter.unusedVariables false
namespace Ob
open Dsk
/-- A relation over the world and the blocks that it speaks of. -/
abbrev Rel := World → (Nat → Prop) → Prop
/-- It speaks of its blocks alone, and they are there. -/
structure Thing (I : Rel) : Prop where
  kept : ∀ (w w' : World) (S : Nat → Prop), I w S → (∀ b, S b → w'.heap[b]? = w.heap[b]?) → w.heap.size ≤ w'.heap.size → I w' S
  lt : ∀ (w : World) (S : Nat → Prop), I w S → ∀ b, S b → b < w.heap.size
/-- What a step of an object leaves: the object over its blocks, or new ones; all else as it was. -/
structure ObjStep (I : Rel) (S : Nat → Prop) (w w' : World) : Prop where
  obj : ∃ S', I w' S' ∧ (∀ b, S b → S' b) ∧ ∀ b, S' b → S b ∨ w.heap.size ≤ b
  upon : Upon S w w'
theorem ObjStep.then {I J : Rel} {S : Nat → Prop} {a b c : World} (h : ObjStep I S a b) (k : ∀ S', I b S' → ObjStep J S' b c) : ObjStep J S a c := by
  obtain ⟨⟨S', h1, h2, h3⟩, hu⟩ := h
  obtain ⟨⟨S'', k1, k2, k3⟩, ku⟩ := k S' h1
  refine ⟨⟨S'', k1, fun x hx => k2 x (h2 x hx), fun x hx => ?_⟩, ?_⟩
  · rcases k3 x hx with h | h
    · exact h3 x h
    · exact .inr (Nat.le_trans hu.size h)
  · exact hu.trans' ku fun i hi ht => by
      rcases h3 i ht with h | h
      · exact h
      · omega
theorem ObjStep.refl {I : Rel} {S : Nat → Prop} {w : World} (h : I w S) : ObjStep I S w w := ⟨⟨S, h, fun _ h => h, fun _ h => .inl h⟩, Upon.refl _ _⟩
theorem ObjStep.get {I : Rel} {S : Nat → Prop} {a b : World} (h : ObjStep I S a b) : ∃ S', I b S' ∧ ∀ (J : Rel) (c : World), ObjStep J S' b c → ObjStep J S a c := by
  obtain ⟨⟨S', h1, h2, h3⟩, hu⟩ := h
  exact ⟨S', h1, fun J c k => (ObjStep.then (I := fun w T => w = b ∧ T = S') ⟨⟨S', ⟨rfl, rfl⟩, h2, h3⟩, hu⟩ (fun T hT => by rw [hT.2]; exact k))⟩
theorem ObjStep.mono {I J : Rel} {S : Nat → Prop} {a b : World} (h : ObjStep I S a b) (k : ∀ S', I b S' → J b S') : ObjStep J S a b := by
  obtain ⟨⟨S', h1, h2, h3⟩, hu⟩ := h
  exact ⟨⟨S', k S' h1, h2, h3⟩, hu⟩
/-- .. and draws behind it, or whatever writes to nothing that was there. -/
theorem ObjStep.upon0 {I : Rel} (hO : Thing I) {S : Nat → Prop} {a b c : World} (h : ObjStep I S a b) (k : Upon (fun _ => False) b c) : ObjStep I S a c :=
  h.then fun S' h1 => ⟨⟨S', hO.kept b c S' h1 (fun x hx => k.block x (hO.lt b S' h1 x hx) (fun f => f)) k.size, fun _ h => h, fun _ h => .inl h⟩, k.mono fun _ _ f => f.elim⟩
theorem upon_drewN (S : Nat → Prop) (w : World) (n : Nat) : Upon S w (w.drewN n) := ⟨rfl, rfl, rfl, Nat.le_refl _, fun _ _ _ => rfl⟩
/-! ### what a call has made -/
/-- An object that the call has made since w0. -/
structure Own (I : Rel) (w0 w : World) : Prop where
  obj : ∃ S, I w S ∧ ∀ b, S b → w0.heap.size ≤ b
  bel : Below w0.heap.size w0 w
theorem Own.get {I : Rel} {w0 w : World} (h : Own I w0 w) : ∃ S, I w S ∧ (∀ (J : Rel) (w' : World), ObjStep J S w w' → Own J w0 w') := by
  obtain ⟨⟨S, h1, h2⟩, hb⟩ := h
  refine ⟨S, h1, fun J w' ⟨⟨S', k1, _, k3⟩, ku⟩ => ⟨⟨S', k1, fun b hS => ?_⟩, ?_⟩⟩
  · rcases k3 b hS with h | h
    · exact h2 b h
    · exact Nat.le_trans hb.size h
  · exact hb.trans (ku.below hb.size h2)
theorem below_of_upon {w0 w w' : World} (hb : Below w0.heap.size w0 w) (hu : Upon (fun _ => False) w w') : Below w0.heap.size w0 w' := hb.trans (hu.below hb.size fun _ h => h.elim)
theorem Own.made {I : Rel} {S : Nat → Prop} {w0 w w' : World} (hb : Below w0.heap.size w0 w) (h : I w' S) (hS : ∀ b, S b → w.heap.size ≤ b) (hu : Upon (fun _ => False) w w') : Own I w0 w' :=
  ⟨⟨S, h, fun b hb2 => Nat.le_trans hb.size (hS b hb2)⟩, below_of_upon hb hu⟩
theorem Own.upon0 {I : Rel} (hO : Thing I) {w0 w w' : World} (h : Own I w0 w) (k : Upon (fun _ => False) w w') : Own I w0 w' := by
  obtain ⟨S, h1, h2⟩ := h.get
  exact h2 _ _ ((ObjStep.refl (I := I) h1).upon0 hO k)
/-! ### two objects -/
/-- Two objects beside one another. -/
def Tens (I J : Rel) : Rel := fun w S => ∃ A B : Nat → Prop, I w A ∧ J w B ∧ (∀ b, A b → ¬ B b) ∧ ∀ b, S b ↔ A b ∨ B b
/-- A step of the first one. -/
theorem Tens.left {I J : Rel} (hJ : Thing J) {w : World} {S : Nat → Prop} (h : Tens I J w S) : ∃ A, I w A ∧ ∀ (I' : Rel) (w' : World), ObjStep I' A w w' → ObjStep (Tens I' J) S w w' := by
  obtain ⟨A, B, h1, h2, h3, h4⟩ := h
  refine ⟨A, h1, fun I' w' ⟨⟨A', k1, k2, k3⟩, ku⟩ => ⟨⟨fun b => A' b ∨ B b, ⟨A', B, k1, ?_, ?_, fun b => Iff.rfl⟩, ?_, ?_⟩, ?_⟩⟩
  · exact hJ.kept w w' B h2 (fun b hb => ku.block b (hJ.lt w B h2 b hb) (fun ha => h3 b ha hb)) ku.size
  · intro b ha hb
    rcases k3 b ha with h | h
    · exact h3 b h hb
    · have := hJ.lt w B h2 b hb; omega
  · intro b hb
    exact ((h4 b).1 hb).imp (k2 b) id
  · intro b hb
    rcases hb with hb | hb
    · exact (k3 b hb).imp (fun h => (h4 b).2 (.inl h)) id
    · exact .inl ((h4 b).2 (.inr hb))
  · exact ku.mono fun b _ hb => (h4 b).2 (.inl hb)
/-- A second one is made. -/
theorem Tens.new {I J : Rel} (hI : Thing I) {w w' : World} {S T : Nat → Prop} (h : I w S) (k : J w' T) (hT : ∀ b, T b → w.heap.size ≤ b) (hu : Upon (fun _ => False) w w') : ObjStep (Tens I J) S w w' := by
  refine ⟨⟨fun b => S b ∨ T b, ⟨S, T, ?_, k, ?_, fun b => Iff.rfl⟩, fun b hb => .inl hb, fun b hb => hb.imp id (hT b)⟩, hu.mono fun _ _ f => f.elim⟩
  · exact hI.kept w w' S h (fun b hb => hu.block b (hI.lt w S h b hb) (fun f => f)) hu.size
  · intro b hs ht
    have h1 := hI.lt w S h b hs
    have h2 := hT b ht
    omega
theorem Own.new {I J : Rel} (hI : Thing I) {w0 w w' : World} {T : Nat → Prop} (h : Own I w0 w) (k : J w' T) (hT : ∀ b, T b → w.heap.size ≤ b) (hu : Upon (fun _ => False) w w') : Own (Tens I J) w0 w' := by
  obtain ⟨S, h1, h2⟩ := h.get
  exact h2 _ _ (Tens.new hI h1 k hT hu)
theorem Own.left {I J : Rel} (hJ : Thing J) {w0 w : World} (h : Own (Tens I J) w0 w) : ∃ A, I w A ∧ ∀ (I' : Rel) (w' : World), ObjStep I' A w w' → Own (Tens I' J) w0 w' := by
  obtain ⟨S, h1, h2⟩ := h.get
  obtain ⟨A, h3, h4⟩ := h1.left hJ
  exact ⟨A, h3, fun I' w' k => h2 _ _ (h4 I' w' k)⟩
theorem Own.mono {I J : Rel} {w0 w : World} (h : Own I w0 w) (k : ∀ S, I w S → J w S) : Own J w0 w := by
  obtain ⟨⟨S, h1, h2⟩, hb⟩ := h
  exact ⟨⟨S, k S h1, h2⟩, hb⟩
end Ob
end Go.Proofs.YtjpgglajcelllaaDoor
end
/- Objects in memory: a call, or a store, done to one of two. Names no function of the program. -/
section
set_option maxRecDepth 100000
namespace Go.Proofs.YtjpgglajcelllaaDoor
open Go.RowKit
set_option linter.unusedVariables false
namespace Ob
open Dsk
/-- The whole of it. -/
theorem callW {P : Program} {I I' : Rel} {S : Nat → Prop} {w0 w : World} {f : FuncId} {args : Array Value} {Q : Ending → Prop} (H : ObjStep I S w0 w) (hc : ∀ A, I w A → Calls P f args w fun e w' => Q e ∧ ObjStep I' A w w') :
    Calls P f args w fun e w' => Q e ∧ ObjStep I' S w0 w' := by
  obtain ⟨T, h1, go⟩ := H.get
  exact (hc T h1).mono fun e w' ⟨he, hs⟩ => ⟨he, go _ _ hs⟩
/-- What is read of an object, without a step. -/
theorem seeW {I : Rel} {S : Nat → Prop} {w0 w : World} (H : ObjStep I S w0 w) : ∃ A, I w A := let ⟨T, h1, _⟩ := H.get; ⟨T, h1⟩
end Ob
end Go.Proofs.YtjpgglajcelllaaDoor
end
/- Objects that a call has made: a call done to one of them, its blocks being new. Names no function of the program. -/
section
set_option maxRecDepth 100000
namespace Go.Proofs.YtjpgglajcelllaaDoor
open Go.RowKit
set_option linter.unusedVariables false
namespace Ob
open Dsk
end Ob
end Go.Proofs.YtjpgglajcelllaaDoor
end
