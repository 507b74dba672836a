/- Parts: PHd4. -/
import Derived.Test.YtgmnhodajngchaaGreatDoorSPHd2
import Derived.Test.YtgmnhodajngchaaGreatDoorSPHeld
import Derived.Test.YtgmnhodajngchaaGreatDoorSPRc1
import Derived.Test.YtgmnhodajngchaaGreatDoorSPRow
import Derived.Test.YtgmnhodajngchaaGreatDoorSPHd1
set_option maxRecDepth 100000
set_option linter.unusedVariables false
namespace Go.Proofs.YtgmnhodajngchaaGreatDoor
section
section
open Go.RowKit Go.Sort
open Bit Dsk Ob Dig
namespace Hd
end Hd
end
section
open Go.RowKit Go.ChangeShapes Go.WideShapes
namespace Hd
open Bit Dsk Ob Dig
structure RC where
 k : Int
 s : Rw.Sl
 m : Rw.Sl
 a : Int
 b : Int
def layRC : Rw.Lay RC := ⟨5, by decide, fun x => [.int .i64 x.k, x.s.v, x.m.v, .int .i64 x.a, .int .i64 x.b], fun _ => rfl, fun x u hu => by
 simp only [List.mem_cons, List.not_mem_nil, or_false] at hu
 rcases hu with rfl | rfl | rfl | rfl | rfl <;> rfl⟩
def innRC : Rw.Inner RC Rc.R where
 rel w S x r := x.k = r.kind /\ x.a = r.frm /\ x.b = r.til /\ Rc.SView w S x.s.v r.smp /\ Mt.View w S x.m.v r.ms
 upon h hu hd := ⟨h.1, h.2.1, h.2.2.1, Rw.DView.upon h.2.2.2.1 hu hd, Rw.View.upon h.2.2.2.2 hu hd⟩
 mono h hS := ⟨h.1, h.2.1, h.2.2.1, Rw.DView.mono h.2.2.2.1 hS, Rw.View.mono h.2.2.2.2 hS⟩
abbrev RsView := Rw.DView layRC innRC
def RBnd (r : Rc.R) : Prop := Rc.Bnd r /\ r.smp.length * 40 <= 140737488351232 /\ r.ms.length * 40 <= 140737488351232
theorem RsView.at {w : World} {S : Nat -> Prop} {A : Option Addr} {n c : Nat} {l : List Rc.R} (h : RsView w S (.slice A n c) l) {i : Nat} (hi : i < l.length) : ∃ (b off : Nat) (A1 : Option Addr) (c1 : Nat) (A2 : Option Addr) (c2 : Nat), A = some ⟨b, off, none⟩ /\ b < w.heap.size /\
  w.cell? ⟨b, off + i * 5, none⟩ = some (.int .i64 l[i].kind) /\ w.cell? ⟨b, off + i * 5 + 1, none⟩ = some (.slice A1 l[i].smp.length c1) /\ w.cell? ⟨b, off + i * 5 + 2, none⟩ = some (.slice A2 l[i].ms.length c2) /\ w.cell? ⟨b, off + i * 5 + 3, none⟩ = some (.int .i64 l[i].frm) /\ w.cell? ⟨b, off + i * 5 + 4, none⟩ = some (.int .i64 l[i].til) /\
  Rc.RView w S (.agg #[.int .i64 l[i].kind, .slice A1 l[i].smp.length c1, .slice A2 l[i].ms.length c2, .int .i64 l[i].frm, .int .i64 l[i].til]) l[i] /\ Rc.SView w S (.slice A1 l[i].smp.length c1) l[i].smp := by
 obtain ⟨b, off, h1, h2, h3⟩ := Rw.DView.open h (show 0 < l.length by omega)
 obtain ⟨⟨k, ⟨sa, sn, sc⟩, ⟨ma, mn, mc⟩, a, b2⟩, ⟨k1, k2, k3, k4, k5⟩, k6⟩ := h3 i hi
 simp only at k1 k2 k3 k4 k5
 subst k1 k2 k3
 obtain ⟨A1, c1, e1, -, -⟩ := Rw.DView.shape k4
 obtain ⟨A2, c2, e2, -, -⟩ := Rw.View.shape k5
 injection e1 with f1 f2 f3
 injection e2 with g1 g2 g3
 subst f1 f2 f3 g1 g2 g3
 exact ⟨b, off, _, _, _, _, h1, h2, k6 0 _ rfl, k6 1 _ rfl, k6 2 _ rfl, k6 3 _ rfl, k6 4 _ rfl, ⟨⟨_, _, _⟩, ⟨_, _, _⟩, rfl, k4, k5⟩, k4⟩
end Hd
end
section
open Go.RowKit Go.Sort
namespace Hd
open Bit Dsk Ob Dig
end Hd
end
end
end Go.Proofs.YtgmnhodajngchaaGreatDoor
