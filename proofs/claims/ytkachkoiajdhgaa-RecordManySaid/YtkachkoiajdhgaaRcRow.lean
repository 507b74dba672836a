/- Samples and records in memory (layer 12). -/
import Derived.Test.YtkachkoiajdhgaaRowDeep
import Derived.Test.YtkachkoiajdhgaaRcPure
import Derived.Test.YtkachkoiajdhgaaPMt1
set_option maxRecDepth 100000
namespace Go.Proofs.Ytkachkoiajdhgaa
open Go.RowKit Go.ChangeShapes Go.WideShapes
namespace Rc
open Bit Dsk Ob Dig
set_option linter.unusedVariables false

abbrev All : Nat → Prop := fun _ => True
/-- A sample's cells. -/
abbrev RS := Rw.Sl × Int × Nat
def layS : Rw.Lay RS := ⟨3, by decide, fun x => [x.1.v, .int .i64 x.2.1, .int .u64 (x.2.2 : Int)], fun _ => rfl, fun x u hu => by
  simp only [List.mem_cons, List.not_mem_nil, or_false] at hu
  rcases hu with rfl | rfl | rfl <;> rfl⟩
def innS : Rw.Inner RS Smp where
  rel w S a b := a.2.1 = b.2.1 ∧ a.2.2 = b.2.2 ∧ Lb.View w S a.1.v b.1
  upon h hu hd := ⟨h.1, h.2.1, Rw.View.upon h.2.2 hu hd⟩
  mono h hS := ⟨h.1, h.2.1, Rw.View.mono h.2.2 hS⟩
theorem typS : Rw.Typ layS 22 43 40 := Rw.Typ.mk' (z := .agg #[.slice none 0 0, .int .i64 0, .int .u64 0]) Try.underlying22 (by kernel_rfl) rfl
/-- v reads as the samples l. -/
abbrev SView := Rw.DView layS innS
theorem SView.cells {w : World} {S : Nat → Prop} {A : Option Addr} {n c : Nat} {l : List Smp} (h : SView w S (.slice A n c) l) (hp : 0 < l.length) : ∃ b off, A = some ⟨b, off, none⟩ ∧ b < w.heap.size ∧
    ∀ i (hi : i < l.length), ∃ s : Rw.Sl, Lb.View w S s.v l[i].1 ∧ w.cell? ⟨b, off + i * 3, none⟩ = some s.v ∧ w.cell? ⟨b, off + i * 3 + 1, none⟩ = some (.int .i64 l[i].2.1) ∧ w.cell? ⟨b, off + i * 3 + 2, none⟩ = some (.int .u64 (l[i].2.2 : Int)) := by
  obtain ⟨b, off, h1, h2, h3⟩ := Rw.DView.open h hp
  refine ⟨b, off, h1, h2, fun i hi => ?_⟩
  obtain ⟨⟨s, t, u⟩, ⟨k1, k2, k3⟩, k4⟩ := h3 i hi
  simp only at k1 k2
  subst k1 k2
  exact ⟨s, k3, k4 0 _ rfl, k4 1 _ rfl, k4 2 _ rfl⟩
def BndS (x : Smp) : Prop := Lb.Sml x.1 ∧ x.1.length * 32 ≤ 140737488351232 ∧ -9223372036854775808 ≤ x.2.1 ∧ x.2.1 ≤ 9223372036854775807 ∧ x.2.2 < 18446744073709551616
structure Bnd (r : R) : Prop where
  kind : -9223372036854775808 ≤ r.kind ∧ r.kind ≤ 9223372036854775807
  smp : ∀ x ∈ r.smp, BndS x
  ms : Mt.Bnd r.ms
  frm : -9223372036854775808 ≤ r.frm ∧ r.frm ≤ 9223372036854775807
  til : -9223372036854775808 ≤ r.til ∧ r.til ≤ 9223372036854775807
/-- A record's cells. -/
abbrev rv (k : Int) (s m : Rw.Sl) (a b : Int) : Value := .agg #[.int .i64 k, s.v, m.v, .int .i64 a, .int .i64 b]
/-- v reads as the record r. -/
def RView (w : World) (S : Nat → Prop) (v : Value) (r : R) : Prop := ∃ s m : Rw.Sl, v = rv r.kind s m r.frm r.til ∧ SView w S s.v r.smp ∧ Mt.View w S m.v r.ms
theorem RView.upon {w w' : World} {S T : Nat → Prop} {v : Value} {r : R} (h : RView w S v r) (hu : Upon T w w') (hd : ∀ b, S b → ¬ T b) : RView w' S v r :=
  let ⟨s, m, h1, h2, h3⟩ := h
  ⟨s, m, h1, Rw.DView.upon h2 hu hd, Rw.View.upon h3 hu hd⟩
theorem RView.new {w w' : World} {S : Nat → Prop} {v : Value} {r : R} (h : RView w S v r) (hu : New0 w w') : RView w' S v r := h.upon hu fun _ _ f => f
theorem RView.mono {w : World} {S S' : Nat → Prop} {v : Value} {r : R} (h : RView w S v r) (hS : ∀ b, b < w.heap.size → S b → S' b) : RView w S' v r :=
  let ⟨s, m, h1, h2, h3⟩ := h
  ⟨s, m, h1, Rw.DView.mono h2 hS, Rw.View.mono h3 hS⟩
theorem RView.all {w : World} {S : Nat → Prop} {v : Value} {r : R} (h : RView w S v r) : RView w All v r := h.mono fun _ _ _ => trivial
theorem RView.shape {w : World} {S : Nat → Prop} {v : Value} {r : R} (h : RView w S v r) : ∃ A c A' c', v = .agg #[.int .i64 r.kind, .slice A r.smp.length c, .slice A' r.ms.length c', .int .i64 r.frm, .int .i64 r.til] ∧ SView w S (.slice A r.smp.length c) r.smp ∧ Mt.View w S (.slice A' r.ms.length c') r.ms := by
  obtain ⟨⟨sa, sn, sc⟩, ⟨ma, mn, mc⟩, h1, h2, h3⟩ := h
  obtain ⟨A, c, e, -, -⟩ := Rw.DView.shape h2
  obtain ⟨A', c', e', -, -⟩ := Rw.View.shape h3
  injection e with e1 e2 e3
  injection e' with f1 f2 f3
  subst e1 e2 e3 f1 f2 f3
  exact ⟨_, _, _, _, h1, h2, h3⟩
end Rc
end Go.Proofs.Ytkachkoiajdhgaa
