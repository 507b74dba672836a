/- Parts: BkRow. -/
import Derived.Test.YtgmnhodajngchaaGreatDoorSBkPure
import Derived.Test.YtgmnhodajngchaaGreatDoorSPHd4
set_option maxRecDepth 100000
set_option linter.unusedVariables false
namespace Go.Proofs.YtgmnhodajngchaaGreatDoor
section
open Go.RowKit
namespace Bk
open Bit Dsk Ob Dig
structure RB where
 s : Rw.Sl
 t : Int
 p : Rw.Sl
def layB : Rw.Lay RB := ⟨3, by decide, fun x => [x.s.v, .int .i64 x.t, x.p.v], fun _ => rfl, fun x u hu => by
 simp only [List.mem_cons, List.not_mem_nil, or_false] at hu
 rcases hu with rfl | rfl | rfl <;> rfl⟩
def innB : Rw.Inner RB Row where
 rel w S x r := x.t = r.last /\ Lb.View w S x.s.v r.lab /\ Rw.View Hd.layP w S x.p.v r.pts
 upon h hu hd := ⟨h.1, Rw.View.upon h.2.1 hu hd, Rw.View.upon h.2.2 hu hd⟩
 mono h hS := ⟨h.1, Rw.View.mono h.2.1 hS, Rw.View.mono h.2.2 hS⟩
abbrev BsView := Rw.DView layB innB
theorem BsView.cells {w : World} {S : Nat -> Prop} {A : Option Addr} {n c : Nat} {l : List Row} (h : BsView w S (.slice A n c) l) (hp : 0 < l.length) : ∃ b off, A = some ⟨b, off, none⟩ /\ b < w.heap.size /\ ∀ i (hi : i < l.length), ∃ (A1 : Option Addr) (c1 : Nat) (A2 : Option Addr) (c2 : Nat),
  w.cell? ⟨b, off + i * 3, none⟩ = some (.slice A1 l[i].lab.length c1) /\ w.cell? ⟨b, off + i * 3 + 1, none⟩ = some (.int .i64 l[i].last) /\ w.cell? ⟨b, off + i * 3 + 2, none⟩ = some (.slice A2 l[i].pts.length c2) /\
  Lb.View w S (.slice A1 l[i].lab.length c1) l[i].lab /\ Rw.View Hd.layP w S (.slice A2 l[i].pts.length c2) l[i].pts := by
 obtain ⟨b, off, h1, h2, h3⟩ := Rw.DView.open h hp
 refine ⟨b, off, h1, h2, fun i hi => ?_⟩
 obtain ⟨⟨⟨sa, sn, sc⟩, t, ⟨pa, pn, pc⟩⟩, ⟨k1, k2, k3⟩, k4⟩ := h3 i hi
 simp only at k1 k2 k3
 subst k1
 obtain ⟨A1, c1, e1, -, -⟩ := Rw.View.shape k2
 obtain ⟨A2, c2, e2, -, -⟩ := Rw.View.shape k3
 injection e1 with f1 f2 f3
 injection e2 with g1 g2 g3
 subst f1 f2 f3 g1 g2 g3
 exact ⟨_, _, _, _, k4 0 _ rfl, k4 1 _ rfl, k4 2 _ rfl, k2, k3⟩
theorem pts_cells {w : World} {S : Nat -> Prop} {A : Option Addr} {n c : Nat} {l : List Pt} (h : Rw.View Hd.layP w S (.slice A n c) l) (hp : 0 < l.length) : ∃ b off, A = some ⟨b, off, none⟩ /\ b < w.heap.size /\ ∀ i (hi : i < l.length), w.cell? ⟨b, off + i * 2, none⟩ = some (.int .i64 l[i].1) /\ w.cell? ⟨b, off + i * 2 + 1, none⟩ = some (.int .u64 (l[i].2 : Int)) := by
 obtain ⟨b, off, h1, -, h2, h3⟩ := Rw.View.open h hp
 exact ⟨b, off, h1, h2, fun i hi => ⟨h3 i hi 0 _ rfl, h3 i hi 1 _ rfl⟩⟩
abbrev bv (f t : Int) (r d : Rw.Sl) : Value := .agg #[.int .i64 f, .int .i64 t, r.v, d.v]
def BView (w : World) (S : Nat -> Prop) (v : Value) (b : B) : Prop := ∃ r d : Rw.Sl, v = bv b.first b.til r d /\ BsView w S r.v b.rows /\ Hd.RsView w S d.v b.dels
theorem BView.upon {w w' : World} {S T : Nat -> Prop} {v : Value} {b : B} (h : BView w S v b) (hu : Upon T w w') (hd : ∀ x, S x -> ¬ T x) : BView w' S v b :=
 let ⟨r, d, e, h1, h2⟩ := h
 ⟨r, d, e, h1.upon hu hd, h2.upon hu hd⟩
theorem BView.new {w w' : World} {S : Nat -> Prop} {v : Value} {b : B} (h : BView w S v b) (hu : New0 w w') : BView w' S v b := h.upon hu fun _ _ f => f
theorem BView.mono {w : World} {S S' : Nat -> Prop} {v : Value} {b : B} (h : BView w S v b) (hS : ∀ x, x < w.heap.size -> S x -> S' x) : BView w S' v b :=
 let ⟨r, d, e, h1, h2⟩ := h
 ⟨r, d, e, h1.mono hS, h2.mono hS⟩
theorem BView.shape {w : World} {S : Nat -> Prop} {v : Value} {b : B} (h : BView w S v b) : ∃ A c A' c', v = .agg #[.int .i64 b.first, .int .i64 b.til, .slice A b.rows.length c, .slice A' b.dels.length c'] /\ BsView w S (.slice A b.rows.length c) b.rows /\ Hd.RsView w S (.slice A' b.dels.length c') b.dels := by
 obtain ⟨⟨A, n, c⟩, ⟨A', n', c'⟩, rfl, h1, h2⟩ := h
 obtain ⟨a1, a2, e1, -, -⟩ := Rw.DView.shape h1
 obtain ⟨b1, b2, e2, -, -⟩ := Rw.DView.shape h2
 injection e1 with f1 f2 f3
 injection e2 with g1 g2 g3
 subst f1 f2 f3 g1 g2 g3
 exact ⟨_, _, _, _, rfl, h1, h2⟩
theorem BView.noth (w : World) (S : Nat -> Prop) : BView w S (.agg #[.int .i64 0, .int .i64 0, .slice none 0 0, .slice none 0 0]) zero := ⟨⟨none, 0, 0⟩, ⟨none, 0, 0⟩, rfl, Rw.DView.noth _ _ _ _, Rw.DView.noth _ _ _ _⟩
structure Bnd (b : B) : Prop where
 first : -9223372036854775808 <= b.first /\ b.first <= 9223372036854775807
 til : -9223372036854775808 <= b.til /\ b.til <= 9223372036854775807
 sml : ∀ r ∈ b.rows, Lb.Sml r.lab
 inn : ∀ r ∈ b.rows, InRow r
 len : ∀ r ∈ b.rows, r.lab.length * 32 <= 140737488351232 /\ r.pts.length * 16 <= 140737488351232
 dels : ∀ r ∈ b.dels, Hd.RBnd r
 few : b.rows.length * 56 <= 140737488351232
 few2 : b.dels.length * 72 <= 140737488351232
structure Box4 (g : Nat) (f t : Int) (r d : Value) (w : World) : Prop where
 c0 : w.cell? ⟨g, 0, none⟩ = some (.int .i64 f)
 c1 : w.cell? ⟨g, 1, none⟩ = some (.int .i64 t)
 c2 : w.cell? ⟨g, 2, none⟩ = some r
 c3 : w.cell? ⟨g, 3, none⟩ = some d
theorem Box4.new {g : Nat} {f t : Int} {r d : Value} {w w' : World} (h : Box4 g f t r d w) (hu : New0 w w') : Box4 g f t r d w' :=
 ⟨Lb.New0.cells hu h.c0, Lb.New0.cells hu h.c1, Lb.New0.cells hu h.c2, Lb.New0.cells hu h.c3⟩
theorem box4 (w : World) (f t : Int) (r d : Value) (T : TypeId) : Box4 w.heap.size f t r d (w.alloc (.cells #[.int .i64 f, .int .i64 t, r, d] T (0, 0))) := by
 have h := cell_new w (.cells #[.int .i64 f, .int .i64 t, r, d] T (0, 0))
 exact ⟨by rw [Lib.cell_of_heap h]; rfl, by rw [Lib.cell_of_heap h]; rfl, by rw [Lib.cell_of_heap h]; rfl, by rw [Lib.cell_of_heap h]; rfl⟩
structure Box3 (g : Nat) (s : Value) (t : Int) (p : Value) (w : World) : Prop where
 c0 : w.cell? ⟨g, 0, none⟩ = some s
 c1 : w.cell? ⟨g, 1, none⟩ = some (.int .i64 t)
 c2 : w.cell? ⟨g, 2, none⟩ = some p
theorem Box3.new {g : Nat} {s p : Value} {t : Int} {w w' : World} (h : Box3 g s t p w) (hu : New0 w w') : Box3 g s t p w' := ⟨Lb.New0.cells hu h.c0, Lb.New0.cells hu h.c1, Lb.New0.cells hu h.c2⟩
theorem box3 (w : World) (s : Value) (t : Int) (p : Value) (T : TypeId) : Box3 w.heap.size s t p (w.alloc (.cells #[s, .int .i64 t, p] T (0, 0))) := by
 have h := cell_new w (.cells #[s, .int .i64 t, p] T (0, 0))
 exact ⟨by rw [Lib.cell_of_heap h]; rfl, by rw [Lib.cell_of_heap h]; rfl, by rw [Lib.cell_of_heap h]; rfl⟩
end Bk
end
end Go.Proofs.YtgmnhodajngchaaGreatDoor
