/- What a call leaves alone but for a set of blocks; small facts on rows and new blocks. Names no function of the program. -/
import Derived.Test.YtkachkoiajdhgaaRows
import Derived.WalkKit
import Derived.Below
import Derived.OneCell
set_option maxRecDepth 100000
namespace Go.Proofs.Ytkachkoiajdhgaa
open Go.RowKit
namespace Dsk

/-- But for the blocks of S, all that lay in w lies as it did. -/
structure Upon (S : Nat → Prop) (w w' : World) : Prop where
  os : w'.os = w.os
  tape : w'.tape = w.tape
  output : w'.output = w.output
  size : w.heap.size ≤ w'.heap.size
  block : ∀ k, k < w.heap.size → ¬ S k → w'.heap[k]? = w.heap[k]?

theorem Upon.refl (S : Nat → Prop) (w : World) : Upon S w w := ⟨rfl, rfl, rfl, Nat.le_refl _, fun _ _ _ => rfl⟩
theorem Upon.trans {S : Nat → Prop} {a b c : World} (h : Upon S a b) (k : Upon S b c) : Upon S a c :=
  ⟨k.os.trans h.os, k.tape.trans h.tape, k.output.trans h.output, Nat.le_trans h.size k.size, fun i hi hn => (k.block i (Nat.lt_of_lt_of_le hi h.size) hn).trans (h.block i hi hn)⟩
/-- .. the second step may write to what was new behind the first one. -/
theorem Upon.trans' {S T : Nat → Prop} {a b c : World} (h : Upon S a b) (k : Upon T b c) (hT : ∀ i, i < a.heap.size → T i → S i) : Upon S a c :=
  ⟨k.os.trans h.os, k.tape.trans h.tape, k.output.trans h.output, Nat.le_trans h.size k.size, fun i hi hn => (k.block i (Nat.lt_of_lt_of_le hi h.size) (fun ht => hn (hT i hi ht))).trans (h.block i hi hn)⟩
theorem Upon.mono {S T : Nat → Prop} {a b : World} (h : Upon S a b) (hT : ∀ i, i < a.heap.size → S i → T i) : Upon T a b :=
  ⟨h.os, h.tape, h.output, h.size, fun i hi hn => h.block i hi (fun hs => hn (hT i hi hs))⟩
theorem Upon.drew {S : Nat → Prop} {a w : World} (h : Upon S a w) : Upon S a w.drew := ⟨h.os, h.tape, h.output, h.size, h.block⟩
theorem Upon.alloc {S : Nat → Prop} {a w : World} (h : Upon S a w) (o : Obj) : Upon S a (w.alloc o) :=
  h.trans' (T := fun _ => False) ⟨rfl, rfl, rfl, by simp, fun k hk _ => Below.heap_alloc _ _ _ hk⟩ (fun _ _ => False.elim)
theorem Upon.setCell {S : Nat → Prop} {a w : World} (h : Upon S a w) {p : Addr} (hp : S p.block ∨ a.heap.size ≤ p.block) (u : Value) : Upon S a (w.setCell p u) :=
  h.trans' (T := fun k => k = p.block) ⟨rfl, rfl, rfl, by simp [World.setCell], fun k _ hk => Below.heap_setCell _ _ _ _ hk⟩ (fun i hi e => by
    subst e; rcases hp with h | h
    · exact h
    · omega)
theorem Upon.grown {S : Nat → Prop} {a w w' : World} {row : Option Nat} (h : Upon S a w) (hg : w.grownBy w' row) (hr : ∀ k, row = some k → S k ∨ a.heap.size ≤ k) : Upon S a w' :=
  h.trans' (T := fun k => some k = row) ⟨hg.os, hg.tape, hg.output, hg.size, fun k hk hn => hg.block k hk hn⟩ (fun i hi e => by
    rcases hr i e.symm with h | h
    · exact h
    · omega)
theorem Upon.freeze {S : Nat → Prop} {a w : World} (h : Upon S a w) {p : Addr} (hp : S p.block) (n : Nat) : Upon S a (w.freeze p n) := by
  refine h.trans' (T := fun k => k = p.block) ?_ (fun i _ e => by rw [e]; exact hp)
  unfold World.freeze
  split
  · exact Upon.refl _ w
  · refine ⟨rfl, rfl, rfl, by simp, fun k _ hk => ?_⟩
    simp only [Array.getElem?_modify]
    rw [if_neg (fun e => hk e.symm)]
theorem Upon.below {S : Nat → Prop} {a w : World} (h : Upon S a w) {B : Nat} (hB : B ≤ a.heap.size) (hS : ∀ k, S k → B ≤ k) : Below B a w :=
  ⟨h.os, h.tape, h.output, h.size, fun k hk => h.block k (by omega) (fun hs => by have := hS k hs; omega)⟩
theorem Upon.of_below {a w : World} (h : Below a.heap.size a w) (S : Nat → Prop) : Upon S a w := ⟨h.os, h.tape, h.output, h.size, fun k hk _ => h.block k hk⟩
theorem Upon.to_grown {a w : World} {p : Nat} (h : Upon (fun k => k = p) a w) : a.grownBy w (some p) :=
  ⟨h.os, h.tape, h.output, h.size, fun k hk hn => h.block k hk (fun e => hn (by rw [e]))⟩

theorem ownsRow_kept {w w' : World} {base : Nat} {e : TypeId} {size : Nat} {v : Value} {n : Nat} {xs : List Value} (h : w.ownsRow base e size v n xs) (hk : ∀ b, v.ownBlock = some b → w'.heap[b]? = w.heap[b]?) : w'.ownsRow base e size v n xs := by
  refine ⟨h.1, ?_⟩
  rcases h.2 with hn | ⟨g, cap, cur, rfl, hb, hg, r⟩
  · exact .inl hn
  · exact .inr ⟨g, cap, cur, rfl, hb, (hk g rfl).trans hg, r⟩
theorem cell_new (w : World) (o : Obj) : (w.alloc o).heap[w.heap.size]? = some o := by
  show (w.heap.push o)[w.heap.size]? = _
  simp
end Dsk
end Go.Proofs.Ytkachkoiajdhgaa
