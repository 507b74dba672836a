/- A record, a sample among the arguments, opened (layer 12). -/
import Derived.Test.YtkachkoiajdhgaaRowOpenC
import Derived.Test.YtkachkoiajdhgaaRcRow
set_option maxRecDepth 100000
namespace Go.Proofs.Ytkachkoiajdhgaa
open Go.RowKit Go.ChangeShapes Go.WideShapes
namespace Rc
open Bit Dsk Ob Dig
set_option linter.unusedVariables false

theorem list_of {α β : Type} {P : α → β → Prop} : ∀ {rs : List α}, (∀ a ∈ rs, ∃ b, P a b) → ∃ l : List β, rs.length = l.length ∧ ∀ i (h1 : i < rs.length) (h2 : i < l.length), P rs[i] l[i]
  | [], _ => ⟨[], rfl, fun i h => absurd h (by simp)⟩
  | a :: rs, h => by
    obtain ⟨b, hb⟩ := h a (by simp)
    obtain ⟨l, h1, h2⟩ := list_of (rs := rs) fun x hx => h x (by simp [hx])
    refine ⟨b :: l, by simp [h1], fun i k1 k2 => ?_⟩
    cases i with
    | zero => exact hb
    | succ i => exact h2 i (by simpa using k1) (by simpa using k2)
theorem litu64 {k : Int} (h : (Lit.int .u64 k).wf = true) : 0 ≤ k ∧ k ≤ 18446744073709551615 := by
  simp [Lit.wf, IntKind.min, IntKind.max, IntKind.signed, IntKind.bits] at h
  exact ⟨by omega, by omega⟩
section
variable {H : Type} {enc : TypeId × Value → H} {W : World}
theorem open_pr {fuel : Nat} {cs : List Value} {d : DataW H} {p : List MemPlace} (hl : cs.length = 2) (h : DataW.trod enc Try.prog W 0 (fun _ => true) true fuel 47 cs = some (d, p)) : ∃ a : Lb.Pr, cs = Lb.layPr.enc a ∧ (a.1.size ≤ 9223372036854775807 ∧ a.2.size ≤ 9223372036854775807) := by
  have cs' : Try.prog.cellsOf 9 = 1 := by kernel_rfl
  obtain ⟨xs, k, hk, hxy, _, hxl, hfd⟩ := DataW.trod_struct Try.underlying47 h
  match xs, hxl, cs, hl with
  | [y0, y1], _, [v0, v1], _ =>
    have g0 := hfd 0 _ rfl
    have g1 := hfd 1 _ rfl
    simp [cs'] at g0 g1
    obtain ⟨s1, e1, _, z1⟩ := DataW.trod_string Try.underlying9 g0
    obtain ⟨s2, e2, _, z2⟩ := DataW.trod_string Try.underlying9 g1
    obtain rfl := (List.cons.inj e1).1
    obtain rfl := (List.cons.inj e2).1
    unfold maxLen at z1 z2
    exact ⟨(s1, s2), rfl, by simp only; omega, by simp only; omega⟩
theorem open_labels {fuel : Nat} {cs : List Value} {d : DataW H} {p : List MemPlace} (h : DataW.trod enc Try.prog W 0 (fun _ => true) true fuel 40 cs = some (d, p)) (hz : ∀ n ∈ d.weights Try.prog 40, n ≤ 140737488351232) :
    ∃ (s : Rw.Sl) (l : List Lb.Pr), cs = [s.v] ∧ Lb.View W All s.v l ∧ Lb.Sml l ∧ l.length * 32 ≤ 140737488351232 := by
  obtain ⟨A, n, c, l, h1, h2, h3, h4⟩ := Rw.open_rowC (L := Lb.layPr) (G := fun a => a.1.size ≤ 9223372036854775807 ∧ a.2.size ≤ 9223372036854775807) Try.underlying40 (by kernel_rfl) (by kernel_rfl) (fun _ _ _ _ hl h _ => open_pr hl h) h hz
  exact ⟨⟨A, n, c⟩, l, h1, h2, h3, h4⟩
/-- What a sample's cells read as. -/
def SmpG (W : World) (a : RS) : Prop := ∃ x : Smp, innS.rel W All a x ∧ BndS x
theorem open_smp {fuel : Nat} {cs : List Value} {d : DataW H} {p : List MemPlace} (hl : cs.length = 3) (h : DataW.trod enc Try.prog W 0 (fun _ => true) true fuel 43 cs = some (d, p)) (hz : ∀ n ∈ d.weights Try.prog 43, n ≤ 140737488351232) : ∃ a : RS, cs = layS.enc a ∧ SmpG W a := by
  have c0 : Try.prog.cellsOf 40 = 1 := by kernel_rfl
  have c1 : Try.prog.cellsOf 2 = 1 := by kernel_rfl
  have c2 : Try.prog.cellsOf 41 = 1 := by kernel_rfl
  obtain ⟨xs, k, hk, hxy, _, hxl, hfd⟩ := DataW.trod_struct Try.underlying43 h
  match xs, hxl, cs, hl with
  | [y0, y1, y2], _, [v0, v1, v2], _ =>
    have g0 := hfd 0 _ rfl
    have g1 := hfd 1 _ rfl
    have g2 := hfd 2 _ rfl
    simp [c0, c1, c2] at g0 g1 g2
    have hd := (Prod.mk.inj hxy).1
    have hz0 : ∀ n ∈ y0.1.weights Try.prog 40, n ≤ 140737488351232 := fun n hn => hz n (by
      rw [hd]
      exact Rw.weights_part (j := 0) (e := 40) (d := y0.1) Try.underlying43 rfl rfl hn)
    obtain ⟨s, l, e0, hv, hsm, hlen⟩ := open_labels (d := y0.1) (p := y0.2) g0 hz0
    obtain ⟨t, e1, _, w1⟩ := DataW.trod_int Try.underlying2 g1
    obtain ⟨u, e2, _, w2⟩ := DataW.trod_int Try.underlying41 g2
    obtain rfl := (List.cons.inj e0).1
    obtain rfl := (List.cons.inj e1).1
    obtain rfl := (List.cons.inj e2).1
    have ht := Mt.lit64 w1
    have hu := litu64 w2
    obtain ⟨un, rfl⟩ : ∃ un : Nat, u = (un : Int) := ⟨u.toNat, by omega⟩
    exact ⟨(s, t, un), rfl, (l, t, un), ⟨rfl, rfl, hv⟩, hsm, hlen, ht.1, ht.2, by simp only; omega⟩
theorem open_smps {fuel : Nat} {cs : List Value} {d : DataW H} {p : List MemPlace} (h : DataW.trod enc Try.prog W 0 (fun _ => true) true fuel 22 cs = some (d, p)) (hz : ∀ n ∈ d.weights Try.prog 22, n ≤ 140737488351232) :
    ∃ (s : Rw.Sl) (l : List Smp), cs = [s.v] ∧ SView W All s.v l ∧ (∀ x ∈ l, BndS x) ∧ l.length * 40 ≤ 140737488351232 := by
  obtain ⟨A, n, c, rs, h1, h2, h3, h4⟩ := Rw.open_rowC (L := layS) (G := SmpG W) Try.underlying22 (by kernel_rfl) (by kernel_rfl) (fun _ _ _ _ hl h hz => open_smp hl h hz) h hz
  obtain ⟨l, hl, hall⟩ := list_of (P := fun a x => innS.rel W All a x ∧ BndS x) h3
  refine ⟨⟨A, n, c⟩, l, h1, ⟨rs, h2, hl, fun i k1 k2 => (hall i k1 k2).1⟩, fun x hx => ?_, by rw [← hl]; exact h4⟩
  obtain ⟨i, hi, rfl⟩ := List.mem_iff_getElem.1 hx
  exact (hall i (by omega) hi).2
theorem open_mss {fuel : Nat} {cs : List Value} {d : DataW H} {p : List MemPlace} (h : DataW.trod enc Try.prog W 0 (fun _ => true) true fuel 23 cs = some (d, p)) (hz : ∀ n ∈ d.weights Try.prog 23, n ≤ 140737488351232) :
    ∃ (s : Rw.Sl) (l : List Mt.M), cs = [s.v] ∧ Mt.View W All s.v l ∧ Mt.Bnd l ∧ l.length * 40 ≤ 140737488351232 := by
  obtain ⟨A, n, c, l, h1, h2, h3, h4⟩ := Rw.open_rowC (L := Mt.layM) (G := Mt.Bnd1) Try.underlying23 (by kernel_rfl) (by kernel_rfl) (fun _ _ _ _ hl h _ => Mt.open_m hl h) h hz
  exact ⟨⟨A, n, c⟩, l, h1, h2, h3, h4⟩
end
/-- A record that came in. -/
def IsRec (v : Value) (w : World) : Prop := ∃ r, RView w All v r ∧ Bnd r ∧ r.smp.length * 40 ≤ 140737488351232 ∧ r.ms.length * 40 ≤ 140737488351232
theorem open_rec {H : Type} {enc : TypeId × Value → H} {W : World} {base : Nat} {v : Value} {d : DataW H} {p : List MemPlace}
    (hv : Value.okWide Try.prog W .any base 25 v) (h : DataW.Trod enc Try.prog W 0 (fun _ => true) true 25 v d p)
    (hz : ∀ n ∈ d.weights Try.prog 25, n ≤ reachBytes) : IsRec v W := by
  obtain ⟨cs, rfl, hsz⟩ := okWide_struct Try.underlying25 hv
  have c5 : Try.prog.cellsOf 25 = 5 := by kernel_rfl
  rw [c5] at hsz
  obtain ⟨fuel, hf⟩ := h
  have hf2 : DataW.trod enc Try.prog W 0 (fun _ => true) true fuel 25 cs.toList = some (d, p) := hf
  have ci : Try.prog.cellsOf 3 = 1 := by kernel_rfl
  have c0 : Try.prog.cellsOf 22 = 1 := by kernel_rfl
  have c1 : Try.prog.cellsOf 23 = 1 := by kernel_rfl
  have c2 : Try.prog.cellsOf 2 = 1 := by kernel_rfl
  have hr : reachBytes = 140737488351232 := rfl
  rw [hr] at hz
  obtain ⟨xs, k, hk, hxy, _, hxl, hfd⟩ := DataW.trod_struct Try.underlying25 hf2
  have hl5 : cs.toList.length = 5 := by simpa using hsz
  obtain ⟨L, hL⟩ : ∃ L, cs.toList = L := ⟨_, rfl⟩
  rw [hL] at hl5 hfd
  have hcs : cs = L.toArray := by rw [← hL]
  match xs, hxl, L, hl5 with
  | [y0, y1, y2, y3, y4], _, [v0, v1, v2, v3, v4], _ =>
    have g0 := hfd 0 _ rfl
    have g1 := hfd 1 _ rfl
    have g2 := hfd 2 _ rfl
    have g3 := hfd 3 _ rfl
    have g4 := hfd 4 _ rfl
    simp [ci, c0, c1, c2] at g0 g1 g2 g3 g4
    have hd := (Prod.mk.inj hxy).1
    obtain ⟨k0, e0, _, w0⟩ := DataW.trod_int Try.underlying3 g0
    obtain ⟨s, l, e1, hs1, hs2, hs3⟩ := open_smps (d := y1.1) (p := y1.2) g1 (fun n hn => hz n (by rw [hd]; exact Rw.weights_part (j := 1) (e := 22) (d := y1.1) Try.underlying25 rfl rfl hn))
    obtain ⟨m, ms, e2, hm1, hm2, hm3⟩ := open_mss (d := y2.1) (p := y2.2) g2 (fun n hn => hz n (by rw [hd]; exact Rw.weights_part (j := 2) (e := 23) (d := y2.1) Try.underlying25 rfl rfl hn))
    obtain ⟨a, e3, _, w3⟩ := DataW.trod_int Try.underlying2 g3
    obtain ⟨b, e4, _, w4⟩ := DataW.trod_int Try.underlying2 g4
    obtain rfl := (List.cons.inj e0).1
    obtain rfl := (List.cons.inj e1).1
    obtain rfl := (List.cons.inj e2).1
    obtain rfl := (List.cons.inj e3).1
    obtain rfl := (List.cons.inj e4).1
    exact ⟨⟨k0, l, ms, a, b⟩, ⟨s, m, by rw [hcs], hs1, hm1⟩, ⟨Mt.lit64 w0, hs2, hm2, Mt.lit64 w3, Mt.lit64 w4⟩, hs3, hm3⟩
/-- A sample that came in. -/
def IsSmp (v : Value) (w : World) : Prop := ∃ (s : Rw.Sl) (x : Smp), v = .agg #[s.v, .int .i64 x.2.1, .int .u64 (x.2.2 : Int)] ∧ Lb.View w All s.v x.1 ∧ BndS x
theorem open_sample {H : Type} {enc : TypeId × Value → H} {W : World} {base : Nat} {v : Value} {d : DataW H} {p : List MemPlace}
    (hv : Value.okWide Try.prog W .any base 43 v) (h : DataW.Trod enc Try.prog W 0 (fun _ => true) true 43 v d p)
    (hz : ∀ n ∈ d.weights Try.prog 43, n ≤ reachBytes) : IsSmp v W := by
  obtain ⟨cs, rfl, hsz⟩ := okWide_struct Try.underlying43 hv
  have c3 : Try.prog.cellsOf 43 = 3 := by kernel_rfl
  rw [c3] at hsz
  obtain ⟨fuel, hf⟩ := h
  have hf2 : DataW.trod enc Try.prog W 0 (fun _ => true) true fuel 43 cs.toList = some (d, p) := hf
  obtain ⟨⟨s, t, u⟩, h1, x, ⟨h2, h3, h4⟩, h5⟩ := open_smp (by simpa using hsz) hf2 hz
  simp only at h2 h3
  subst h2 h3
  refine ⟨s, x, ?_, h4, h5⟩
  have : cs = (layS.enc (s, x.2.1, x.2.2)).toArray := by rw [← h1]
  rw [this]; rfl
end Rc
end Go.Proofs.Ytkachkoiajdhgaa
