/- Parts, put together: HdApp2, HdArg, HdObj. -/
import Derived.Test.YtlgjbcmloochiaaGreatDoorZaPHd3
import Derived.Test.YtlgjbcmloochiaaGreatDoorZaPRc1
import Derived.Test.YtlgjbcmloochiaaGreatDoorZaPRow
import Derived.Test.YtlgjbcmloochiaaGreatDoorZaPHd1

/- The document's head (layer 13): Apply. -/
section
set_option maxRecDepth 100000
namespace Go.Proofs.YtlgjbcmloochiaaGreatDoor
open Go.RowKit Go.Sort
open Bit Dsk Ob Dig
namespace Hd
set_option linter.unusedVariables false
set_option linter.unusedSimpArgs false

/-- What the rounds keep: the head, and that only its blocks have changed. -/
structure Kp (wx w : World) (A R : Nat → Prop) (p : Nat) (g : H) : Prop where
  obj : ∃ A' R' u' rs', HeadR w A' R' p u' rs' g ∧ (∀ b, A b → A' b) ∧ (∀ b, A' b → A b ∨ wx.heap.size ≤ b) ∧ ∀ b, R' b → R b ∨ wx.heap.size ≤ b
  upon : Upon A wx w
theorem Kp.new {wx w w' : World} {A R : Nat → Prop} {p : Nat} {g : H} (k : Kp wx w A R p g) (hu : New0 w w') : Kp wx w' A R p g := by
  obtain ⟨A', R', u', rs', h1, h2, h3, h4⟩ := k.obj
  exact ⟨⟨A', R', u', rs', h1.new hu, h2, h3, h4⟩, k.upon.trans (hu.mono fun _ _ f => f.elim)⟩
theorem Kp.put {wx w w' : World} {A R A1 R1 : Nat → Prop} {p : Nat} {g : H} (hu : Upon A wx w) (h2 : ∀ b, A b → A1 b) (h3 : ∀ b, A1 b → A b ∨ wx.heap.size ≤ b) (h4 : ∀ b, R1 b → R b ∨ wx.heap.size ≤ b) (k : PutE w w' A1 R1 p g) : Kp wx w' A R p g := by
  obtain ⟨A', R', u', rs', e1, e2, e3, e4⟩ := k.obj
  have hs := hu.size
  refine ⟨⟨A', R', u', rs', e1, fun b hb => e2 b (h2 b hb), fun b hb => ?_, fun b hb => ?_⟩, hu.trans' k.upon fun b hb hA => ?_⟩
  · rcases e3 b hb with h | h
    · exact h3 b h
    · exact .inr (by omega)
  · rcases e4 b hb with h | h
    · exact h4 b h
    · exact .inr (by omega)
  · rcases h3 b hA with h | h
    · exact h
    · omega
end Hd
end Go.Proofs.YtlgjbcmloochiaaGreatDoor
end

/- Rows of records, of queries among the arguments (layer 13), opened. -/
section
set_option maxRecDepth 100000
namespace Go.Proofs.YtlgjbcmloochiaaGreatDoor
open Go.RowKit Go.ChangeShapes Go.WideShapes
namespace Hd
open Bit Dsk Ob Dig
set_option linter.unusedVariables false

abbrev AllB : Nat → Prop := fun _ => True
/-- A record's cells. -/
structure RC where
  k : Int
  s : Rw.Sl
  m : Rw.Sl
  a : Int
  b : Int
def layRC : Rw.Lay RC := ⟨5, by decide, fun x => [.int .i64 x.k, x.s.v, x.m.v, .int .i64 x.a, .int .i64 x.b], fun _ => rfl, fun x u hu => by
  simp only [List.mem_cons, List.not_mem_nil, or_false] at hu
  rcases hu with rfl | rfl | rfl | rfl | rfl <;> rfl⟩
def innRC : Rw.Inner RC Rc.R where
  rel w S x r := x.k = r.kind ∧ x.a = r.frm ∧ x.b = r.til ∧ Rc.SView w S x.s.v r.smp ∧ Mt.View w S x.m.v r.ms
  upon h hu hd := ⟨h.1, h.2.1, h.2.2.1, Rw.DView.upon h.2.2.2.1 hu hd, Rw.View.upon h.2.2.2.2 hu hd⟩
  mono h hS := ⟨h.1, h.2.1, h.2.2.1, Rw.DView.mono h.2.2.2.1 hS, Rw.View.mono h.2.2.2.2 hS⟩
/-- v reads as the records l. -/
abbrev RsView := Rw.DView layRC innRC
/-- What is known of a record that came in. -/
def RBnd (r : Rc.R) : Prop := Rc.Bnd r ∧ r.smp.length * 40 ≤ 140737488351232 ∧ r.ms.length * 40 ≤ 140737488351232
/-- Record i, as a walk reads it. -/
theorem RsView.at {w : World} {S : Nat → Prop} {A : Option Addr} {n c : Nat} {l : List Rc.R} (h : RsView w S (.slice A n c) l) {i : Nat} (hi : i < l.length) : ∃ (b off : Nat) (A1 : Option Addr) (c1 : Nat) (A2 : Option Addr) (c2 : Nat), A = some ⟨b, off, none⟩ ∧ b < w.heap.size ∧
    w.cell? ⟨b, off + i * 5, none⟩ = some (.int .i64 l[i].kind) ∧ w.cell? ⟨b, off + i * 5 + 1, none⟩ = some (.slice A1 l[i].smp.length c1) ∧ w.cell? ⟨b, off + i * 5 + 2, none⟩ = some (.slice A2 l[i].ms.length c2) ∧ w.cell? ⟨b, off + i * 5 + 3, none⟩ = some (.int .i64 l[i].frm) ∧ w.cell? ⟨b, off + i * 5 + 4, none⟩ = some (.int .i64 l[i].til) ∧
    Rc.RView w S (.agg #[.int .i64 l[i].kind, .slice A1 l[i].smp.length c1, .slice A2 l[i].ms.length c2, .int .i64 l[i].frm, .int .i64 l[i].til]) l[i] ∧ Rc.SView w S (.slice A1 l[i].smp.length c1) l[i].smp := by
  obtain ⟨b, off, h1, h2, h3⟩ := Rw.DView.open h (show 0 < l.length by omega)
  obtain ⟨⟨k, ⟨sa, sn, sc⟩, ⟨ma, mn, mc⟩, a, b2⟩, ⟨k1, k2, k3, k4, k5⟩, k6⟩ := h3 i hi
  simp only at k1 k2 k3 k4 k5
  subst k1 k2 k3
  obtain ⟨A1, c1, e1, -, -⟩ := Rw.DView.shape k4
  obtain ⟨A2, c2, e2, -, -⟩ := Rw.View.shape k5
  injection e1 with f1 f2 f3
  injection e2 with g1 g2 g3
  subst f1 f2 f3 g1 g2 g3
  exact ⟨b, off, _, _, _, _, h1, h2, k6 0 _ rfl, k6 1 _ rfl, k6 2 _ rfl, k6 3 _ rfl, k6 4 _ rfl, ⟨⟨_, _, _⟩, ⟨_, _, _⟩, rfl, k4, k5⟩, k4⟩
/-- A query: matchers, from, to. -/
structure Q where
  ms : List Mt.M
  frm : Int
  til : Int
structure QC where
  m : Rw.Sl
  a : Int
  b : Int
def layQC : Rw.Lay QC := ⟨3, by decide, fun x => [x.m.v, .int .i64 x.a, .int .i64 x.b], fun _ => rfl, fun x u hu => by
  simp only [List.mem_cons, List.not_mem_nil, or_false] at hu
  rcases hu with rfl | rfl | rfl <;> rfl⟩
def innQC : Rw.Inner QC Q where
  rel w S x q := x.a = q.frm ∧ x.b = q.til ∧ Mt.View w S x.m.v q.ms
  upon h hu hd := ⟨h.1, h.2.1, Rw.View.upon h.2.2 hu hd⟩
  mono h hS := ⟨h.1, h.2.1, Rw.View.mono h.2.2 hS⟩
abbrev QsView := Rw.DView layQC innQC
theorem QsView.at {w : World} {S : Nat → Prop} {A : Option Addr} {n c : Nat} {l : List Q} (h : QsView w S (.slice A n c) l) {i : Nat} (hi : i < l.length) : ∃ (b off : Nat) (A1 : Option Addr) (c1 : Nat), A = some ⟨b, off, none⟩ ∧ b < w.heap.size ∧
    w.cell? ⟨b, off + i * 3, none⟩ = some (.slice A1 l[i].ms.length c1) ∧ w.cell? ⟨b, off + i * 3 + 1, none⟩ = some (.int .i64 l[i].frm) ∧ w.cell? ⟨b, off + i * 3 + 2, none⟩ = some (.int .i64 l[i].til) ∧ Mt.View w S (.slice A1 l[i].ms.length c1) l[i].ms := by
  obtain ⟨b, off, h1, h2, h3⟩ := Rw.DView.open h (show 0 < l.length by omega)
  obtain ⟨⟨⟨ma, mn, mc⟩, a, b2⟩, ⟨k1, k2, k5⟩, k6⟩ := h3 i hi
  simp only at k1 k2 k5
  subst k1 k2
  obtain ⟨A2, c2, e2, -, -⟩ := Rw.View.shape k5
  injection e2 with g1 g2 g3
  subst g1 g2 g3
  exact ⟨b, off, _, _, h1, h2, k6 0 _ rfl, k6 1 _ rfl, k6 2 _ rfl, k5⟩
section
variable {H : Type} {enc : TypeId × Value → H} {W : World}
def RCG (W : World) (x : RC) : Prop := ∃ r : Rc.R, innRC.rel W AllB x r ∧ RBnd r
theorem open_rc {fuel : Nat} {cs : List Value} {d : DataW H} {p : List MemPlace} (hl : cs.length = 5) (h : DataW.trod enc Tryz.prog W 0 (fun _ => true) true fuel 50 cs = some (d, p)) (hz : ∀ n ∈ d.weights Tryz.prog 50, n ≤ 140737488351232) : ∃ x : RC, cs = layRC.enc x ∧ RCG W x := by
  have ci : Tryz.prog.cellsOf 3 = 1 := by kernel_rfl
  have c0 : Tryz.prog.cellsOf 47 = 1 := by kernel_rfl
  have c1 : Tryz.prog.cellsOf 48 = 1 := by kernel_rfl
  have c2 : Tryz.prog.cellsOf 2 = 1 := by kernel_rfl
  obtain ⟨xs, k, hk, hxy, _, hxl, hfd⟩ := DataW.trod_struct Tryz.underlying50 h
  match xs, hxl, cs, hl with
  | [y0, y1, y2, y3, y4], _, [v0, v1, v2, v3, v4], _ =>
    have g0 := hfd 0 _ rfl
    have g1 := hfd 1 _ rfl
    have g2 := hfd 2 _ rfl
    have g3 := hfd 3 _ rfl
    have g4 := hfd 4 _ rfl
    simp [ci, c0, c1, c2] at g0 g1 g2 g3 g4
    have hd := (Prod.mk.inj hxy).1
    obtain ⟨k0, e0, _, w0⟩ := DataW.trod_int Tryz.underlying3 g0
    obtain ⟨s, l, e1, hs1, hs2, hs3⟩ := Rc.open_smps (d := y1.1) (p := y1.2) g1 (fun n hn => hz n (by rw [hd]; exact Rw.weights_part (j := 1) (e := 47) (d := y1.1) Tryz.underlying50 rfl rfl hn))
    obtain ⟨m, ms, e2, hm1, hm2, hm3⟩ := Rc.open_mss (d := y2.1) (p := y2.2) g2 (fun n hn => hz n (by rw [hd]; exact Rw.weights_part (j := 2) (e := 48) (d := y2.1) Tryz.underlying50 rfl rfl hn))
    obtain ⟨a, e3, _, w3⟩ := DataW.trod_int Tryz.underlying2 g3
    obtain ⟨b, e4, _, w4⟩ := DataW.trod_int Tryz.underlying2 g4
    obtain rfl := (List.cons.inj e0).1
    obtain rfl := (List.cons.inj e1).1
    obtain rfl := (List.cons.inj e2).1
    obtain rfl := (List.cons.inj e3).1
    obtain rfl := (List.cons.inj e4).1
    exact ⟨⟨k0, s, m, a, b⟩, rfl, ⟨k0, l, ms, a, b⟩, ⟨rfl, rfl, rfl, hs1, hm1⟩, ⟨Mt.lit64 w0, hs2, hm2, Mt.lit64 w3, Mt.lit64 w4⟩, hs3, hm3⟩
end
end Hd
end Go.Proofs.YtlgjbcmloochiaaGreatDoor
end

/- Layer 13: the document's head as an object. -/
section
set_option maxRecDepth 100000
namespace Go.Proofs.YtlgjbcmloochiaaGreatDoor
open Go.RowKit Go.Sort
namespace Hd
open Bit Dsk Ob Dig
set_option linter.unusedVariables false

section
variable {w : World} {S : Nat → Prop} {q : Nat} {h : H}
end
end Hd
end Go.Proofs.YtlgjbcmloochiaaGreatDoor
end
