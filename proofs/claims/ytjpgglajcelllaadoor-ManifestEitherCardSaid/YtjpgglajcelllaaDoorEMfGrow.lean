/- A manifest that grows, beside a reader of two cells (layer 17). -/
import Derived.Test.YtjpgglajcelllaaDoorEMfSix
import Derived.Test.YtjpgglajcelllaaDoorEPHeld
set_option maxRecDepth 100000
namespace Go.Proofs.YtjpgglajcelllaaDoor
open Go.RowKit
namespace Mf
open Bit Dsk Ob Dig
set_option linter.unusedVariables false
/-- The reader (block p, of S), the manifest that grows (block g, its names in row v), the result's block r. -/
structure Grw (T TR : TypeId) (x y : Value) (w : World) (S : Nat → Prop) (p g r : Nat) (E B P K C : Int) (v : Value) (l : List ByteArray) (wr : World) : Prop where
  rd : Rw.Box2 TR p x y wr S
  box : Six T g ⟨.int .i64 E, .int .i64 B, .int .i64 P, .int .i64 K, .int .i64 C, v⟩ wr
  res : Six T r svZ wr
  row : NMine wr v l
  new : ∀ k, v.ownBlock = some k → w.heap.size ≤ k ∧ k ≠ g ∧ k ≠ r ∧ k ≠ p
  up : Upon S w wr
  lo : w.heap.size ≤ r ∧ w.heap.size ≤ g
  ne : p ≠ g ∧ p ≠ r ∧ r ≠ g
theorem nview_one (w : World) (a : ByteArray) : NView (w.alloc (.cells #[.string a] 9 (0, 0))) All (.slice (some ⟨w.heap.size, 0, none⟩) 1 1) [a] := by
  refine ⟨_, 1, rfl, Nat.le_refl _, by unfold maxLen; omega, fun _ => ⟨_, 0, rfl, trivial, fun i hi t u ht => ?_⟩⟩
  have hi' : i = 0 := by simp at hi; omega
  subst hi'
  have ht' : t = 0 := by have := (List.getElem?_eq_some_iff.1 ht).1; simp [layN] at this; omega
  subst ht'
  have ht2 : u = .string a := by simpa [layN] using ht.symm
  rw [ht2]
  have hc := cell_new w (.cells #[.string a] 9 (0, 0))
  have h2 : (w.alloc (.cells #[.string a] 9 (0, 0))).cell? ⟨w.heap.size, 0, none⟩ = some (.string a) := by unfold World.cell?; rw [hc]; rfl
  exact h2
section
variable {T TR : TypeId} {x y : Value} {w wr : World} {S : Nat → Prop} {p g r : Nat} {E B P K C : Int} {v : Value} {l : List ByteArray}
/-- What lasts while the reader, and the row, turn. -/
theorem Grw.held (h : Grw T TR x y w S p g r E B P K C v l wr) {w' : World} (hu : Upon (fun k => k = p ∨ v.ownBlock = some k) wr w') : w'.cell? ⟨g, 5, none⟩ = some v ∧ w'.frozen? ⟨g, 5, none⟩ = false := by
  have h1 := h.box.upon hu (by
    have := h.ne
    rintro (e | e)
    · omega
    · exact (h.new g e).2.1 rfl)
  exact ⟨h1.cells.2.2.2.2.2, h1.frozen 5⟩
/-- One name more. -/
theorem Grw.more (h : Grw T TR x y w S p g r E B P K C v l wr) {x' y' : Value} {wd wE w2 : World} {v' : Value} {a : ByteArray} {o : Go.Obj} (hrd : Rw.Box2 TR p x' y' wE S) (hd : New0 wr wd) (hU : Upon (fun k => k = p) wd wE)
    (hown : NMine w2 v' (l ++ [a])) (hg : (wE.alloc o).grownBy w2 v.ownBlock) (hbl : v'.ownBlock = v.ownBlock ∨ v'.ownBlock = some (wE.alloc o).heap.size) :
    Grw T TR x' y' w S p g r E B P K C v' (l ++ [a]) (w2.setCell ⟨g, 5, none⟩ v') := by
  have hlo := h.lo
  have hne := h.ne
  have hgl := h.box.lt
  have hrl := h.res.lt
  have hpl : p < wr.heap.size := (Array.getElem?_eq_some_iff.1 h.rd.1).1
  have hs1 := hd.size
  have hs2 := hU.size
  have hs3 : (wE.alloc o).heap.size = wE.heap.size + 1 := by simp
  have hSp := h.rd.2
  have hvg : v.ownBlock ≠ some g := fun e => (h.new g e).2.1 rfl
  have hvr : v.ownBlock ≠ some r := fun e => (h.new r e).2.2.1 rfl
  have hvp : v.ownBlock ≠ some p := fun e => (h.new p e).2.2.2 rfl
  have hwl := h.up.size
  have uE : Upon (fun k => k = p) wr wE := (hd.mono fun _ _ f => f.elim).trans hU
  have uA : Upon (fun k => k = p) wr (wE.alloc o) := uE.alloc o
  have hpE : p < wE.heap.size := by omega
  have hbox : Six T g ⟨.int .i64 E, .int .i64 B, .int .i64 P, .int .i64 K, .int .i64 C, v⟩ w2 := (h.box.upon uA (by omega)).grown hg hvg
  have hres : Six T r svZ w2 := (h.res.upon uA (by omega)).grown hg hvr
  have hv' : ∀ k, v'.ownBlock = some k → w.heap.size ≤ k ∧ k ≠ g ∧ k ≠ r ∧ k ≠ p := fun k hk => by
    rcases hbl with e | e
    · exact h.new k (e.symm.trans hk)
    · rw [e] at hk; injection hk with hk; omega
  have us : Upon (fun k => k = g) w2 (w2.setCell ⟨g, 5, none⟩ v') := Upon.setCell (S := fun k => k = g) (p := ⟨g, 5, none⟩) (Upon.refl _ _) (.inl rfl) _
  refine ⟨⟨?_, hSp⟩, hbox.set5 v', ?_, ?_, hv', ?_, hlo, hne⟩
  · rw [Below.heap_setCell _ _ _ _ (by show p ≠ g; omega), hg.block p (by omega) (fun e => hvp e.symm), Below.heap_alloc _ _ _ hpE]
    exact hrd.1
  · exact hres.upon us (by omega)
  · exact Rw.Mine.upon hown us fun k hk e => (hv' k hk).2.1 e
  · refine Upon.setCell (p := ⟨g, 5, none⟩) (Upon.grown (Upon.alloc (h.up.trans (uE.mono fun i _ e => (hSp i).2 e)) o) hg fun k hk => .inr (h.new k hk).1) (.inr (by show w.heap.size ≤ g; omega)) _
/-- The result is written. -/
theorem Grw.last (h : Grw T TR x y w S p g r E B P K C v l wr) : Six T r ⟨.int .i64 E, .int .i64 B, .int .i64 P, .int .i64 K, .int .i64 C, v⟩ (setSix r ⟨.int .i64 E, .int .i64 B, .int .i64 P, .int .i64 K, .int .i64 C, v⟩ wr) ∧
    ObjStep (Rw.Box2 TR p x y) S w (setSix r ⟨.int .i64 E, .int .i64 B, .int .i64 P, .int .i64 K, .int .i64 C, v⟩ wr) ∧ NView (setSix r ⟨.int .i64 E, .int .i64 B, .int .i64 P, .int .i64 K, .int .i64 C, v⟩ wr) (Lb.Nw w) v l := by
  have hlo := h.lo
  have hne := h.ne
  have hpl : p < wr.heap.size := (Array.getElem?_eq_some_iff.1 h.rd.1).1
  have hu : Upon (fun k => k = r) wr (setSix r ⟨.int .i64 E, .int .i64 B, .int .i64 P, .int .i64 K, .int .i64 C, v⟩ wr) := upon_setSix (Upon.refl _ _) (.inl rfl)
  refine ⟨h.res.setAll _, ⟨⟨S, ⟨?_, h.rd.2⟩, fun _ h => h, fun _ h => .inl h⟩, upon_setSix h.up (.inr hlo.1)⟩, ?_⟩
  · exact (hu.block p hpl (by omega)).trans h.rd.1
  · refine Rw.View.mono (Rw.View.upon h.row.view hu fun k hk e => (h.new k hk).2.2.1 e) fun k _ hk => ?_
    exact (h.new k hk).1
end
end Mf
end Go.Proofs.YtjpgglajcelllaaDoor
