/- Parts, put together: HdApp2, HdArg, HdObj. -/
import Derived.Test.YtfheehlfodoimaaPHd3
import Derived.Test.YtfheehlfodoimaaPRc1
import Derived.Test.YtfheehlfodoimaaPRow
import Derived.Test.YtfheehlfodoimaaPHd1

/- The document's head (layer 13): Apply. -/
section
set_option maxRecDepth 100000
namespace Go.Proofs.Ytfheehlfodoimaa
open Go.RowKit Go.Sort
open Bit Dsk Ob Dig
namespace Hd
set_option linter.unusedVariables false
set_option linter.unusedSimpArgs false

theorem app_no {h : H} {r : Rc.R} (ht : tr h r ≠ 0) : app h r = h := by rw [app, if_pos ht]
theorem app_del {h : H} {r : Rc.R} (ht : tr h r = 0) (hk : r.kind = 2) : app h r = del h r.ms r.frm r.til := by rw [app, if_neg (by simp [ht]), if_pos hk]
theorem app_com {h g : H} {r : Rc.R} (ht : tr h r = 0) (hk : r.kind ≠ 2) (hp : puts h r.smp = some g) : app h r = g := by rw [app, if_neg (by simp [ht]), if_neg hk, hp]; rfl
theorem tr_zero {h : H} {r : Rc.R} (ht : tr h r = 0) : Rc.chk r = 0 ∧ ∃ g, puts h r.smp = some g ∧ g.length ≤ 256 := by
  unfold tr at ht
  by_cases hc : Rc.chk r = 0
  · rw [if_neg (by simp [hc])] at ht
    cases hp : puts h r.smp with
    | none => rw [hp] at ht; cases ht
    | some g =>
      rw [hp] at ht
      refine ⟨hc, g, rfl, ?_⟩
      by_cases h256 : 256 < g.length
      · simp only [if_pos h256] at ht; cases ht
      · omega
  · rw [if_pos hc] at ht; exact absurd ht hc
/-- One of the samples is not too old, where all of them may be put. -/
theorem puts_one {h g gf : H} {l : List Rc.Smp} {j : Nat} (hj : j < l.length) (hp : puts h (l.take j) = some g) (hf : puts h l = some gf) : old g l[j] = false ∧ puts h (l.take (j + 1)) = some (add g l[j]) := by
  have h1 : puts h (l.take (j + 1)) = if old g l[j] = true then none else some (add g l[j]) := by rw [List.take_succ_eq_append_getElem hj, puts_snoc, hp]
  cases ho : old g l[j] with
  | true =>
    rw [ho, if_pos rfl] at h1
    have h2 := puts_none h _ (l.drop (j + 1)) h1
    rw [List.take_append_drop, hf] at h2
    cases h2
  | false => rw [ho, if_neg (by decide)] at h1; exact ⟨rfl, h1⟩
end Hd
end Go.Proofs.Ytfheehlfodoimaa
end

/- Rows of records, of queries among the arguments (layer 13), opened. -/
section
set_option maxRecDepth 100000
namespace Go.Proofs.Ytfheehlfodoimaa
open Go.RowKit Go.ChangeShapes Go.WideShapes
namespace Hd
open Bit Dsk Ob Dig
set_option linter.unusedVariables false

abbrev AllB : Nat → Prop := fun _ => True
/-- A record's cells. -/
structure RC where
  k : Int
  s : Rw.Sl
  m : Rw.Sl
  a : Int
  b : Int
def layRC : Rw.Lay RC := ⟨5, by decide, fun x => [.int .i64 x.k, x.s.v, x.m.v, .int .i64 x.a, .int .i64 x.b], fun _ => rfl, fun x u hu => by
  simp only [List.mem_cons, List.not_mem_nil, or_false] at hu
  rcases hu with rfl | rfl | rfl | rfl | rfl <;> rfl⟩
def innRC : Rw.Inner RC Rc.R where
  rel w S x r := x.k = r.kind ∧ x.a = r.frm ∧ x.b = r.til ∧ Rc.SView w S x.s.v r.smp ∧ Mt.View w S x.m.v r.ms
  upon h hu hd := ⟨h.1, h.2.1, h.2.2.1, Rw.DView.upon h.2.2.2.1 hu hd, Rw.View.upon h.2.2.2.2 hu hd⟩
  mono h hS := ⟨h.1, h.2.1, h.2.2.1, Rw.DView.mono h.2.2.2.1 hS, Rw.View.mono h.2.2.2.2 hS⟩
/-- v reads as the records l. -/
abbrev RsView := Rw.DView layRC innRC
/-- What is known of a record that came in. -/
def RBnd (r : Rc.R) : Prop := Rc.Bnd r ∧ r.smp.length * 40 ≤ 140737488351232 ∧ r.ms.length * 40 ≤ 140737488351232
/-- Record i, as a walk reads it. -/
theorem RsView.at {w : World} {S : Nat → Prop} {A : Option Addr} {n c : Nat} {l : List Rc.R} (h : RsView w S (.slice A n c) l) {i : Nat} (hi : i < l.length) : ∃ (b off : Nat) (A1 : Option Addr) (c1 : Nat) (A2 : Option Addr) (c2 : Nat), A = some ⟨b, off, none⟩ ∧ b < w.heap.size ∧
    w.cell? ⟨b, off + i * 5, none⟩ = some (.int .i64 l[i].kind) ∧ w.cell? ⟨b, off + i * 5 + 1, none⟩ = some (.slice A1 l[i].smp.length c1) ∧ w.cell? ⟨b, off + i * 5 + 2, none⟩ = some (.slice A2 l[i].ms.length c2) ∧ w.cell? ⟨b, off + i * 5 + 3, none⟩ = some (.int .i64 l[i].frm) ∧ w.cell? ⟨b, off + i * 5 + 4, none⟩ = some (.int .i64 l[i].til) ∧
    Rc.RView w S (.agg #[.int .i64 l[i].kind, .slice A1 l[i].smp.length c1, .slice A2 l[i].ms.length c2, .int .i64 l[i].frm, .int .i64 l[i].til]) l[i] ∧ Rc.SView w S (.slice A1 l[i].smp.length c1) l[i].smp := by
  obtain ⟨b, off, h1, h2, h3⟩ := Rw.DView.open h (show 0 < l.length by omega)
  obtain ⟨⟨k, ⟨sa, sn, sc⟩, ⟨ma, mn, mc⟩, a, b2⟩, ⟨k1, k2, k3, k4, k5⟩, k6⟩ := h3 i hi
  simp only at k1 k2 k3 k4 k5
  subst k1 k2 k3
  obtain ⟨A1, c1, e1, -, -⟩ := Rw.DView.shape k4
  obtain ⟨A2, c2, e2, -, -⟩ := Rw.View.shape k5
  injection e1 with f1 f2 f3
  injection e2 with g1 g2 g3
  subst f1 f2 f3 g1 g2 g3
  exact ⟨b, off, _, _, _, _, h1, h2, k6 0 _ rfl, k6 1 _ rfl, k6 2 _ rfl, k6 3 _ rfl, k6 4 _ rfl, ⟨⟨_, _, _⟩, ⟨_, _, _⟩, rfl, k4, k5⟩, k4⟩
/-- A query: matchers, from, to. -/
structure Q where
  ms : List Mt.M
  frm : Int
  til : Int
structure QC where
  m : Rw.Sl
  a : Int
  b : Int
def layQC : Rw.Lay QC := ⟨3, by decide, fun x => [x.m.v, .int .i64 x.a, .int .i64 x.b], fun _ => rfl, fun x u hu => by
  simp only [List.mem_cons, List.not_mem_nil, or_false] at hu
  rcases hu with rfl | rfl | rfl <;> rfl⟩
def innQC : Rw.Inner QC Q where
  rel w S x q := x.a = q.frm ∧ x.b = q.til ∧ Mt.View w S x.m.v q.ms
  upon h hu hd := ⟨h.1, h.2.1, Rw.View.upon h.2.2 hu hd⟩
  mono h hS := ⟨h.1, h.2.1, Rw.View.mono h.2.2 hS⟩
abbrev QsView := Rw.DView layQC innQC
def QBnd (q : Q) : Prop := Mt.Bnd q.ms ∧ (-9223372036854775808 ≤ q.frm ∧ q.frm ≤ 9223372036854775807) ∧ (-9223372036854775808 ≤ q.til ∧ q.til ≤ 9223372036854775807) ∧ q.ms.length * 40 ≤ 140737488351232
theorem QsView.at {w : World} {S : Nat → Prop} {A : Option Addr} {n c : Nat} {l : List Q} (h : QsView w S (.slice A n c) l) {i : Nat} (hi : i < l.length) : ∃ (b off : Nat) (A1 : Option Addr) (c1 : Nat), A = some ⟨b, off, none⟩ ∧ b < w.heap.size ∧
    w.cell? ⟨b, off + i * 3, none⟩ = some (.slice A1 l[i].ms.length c1) ∧ w.cell? ⟨b, off + i * 3 + 1, none⟩ = some (.int .i64 l[i].frm) ∧ w.cell? ⟨b, off + i * 3 + 2, none⟩ = some (.int .i64 l[i].til) ∧ Mt.View w S (.slice A1 l[i].ms.length c1) l[i].ms := by
  obtain ⟨b, off, h1, h2, h3⟩ := Rw.DView.open h (show 0 < l.length by omega)
  obtain ⟨⟨⟨ma, mn, mc⟩, a, b2⟩, ⟨k1, k2, k5⟩, k6⟩ := h3 i hi
  simp only at k1 k2 k5
  subst k1 k2
  obtain ⟨A2, c2, e2, -, -⟩ := Rw.View.shape k5
  injection e2 with g1 g2 g3
  subst g1 g2 g3
  exact ⟨b, off, _, _, h1, h2, k6 0 _ rfl, k6 1 _ rfl, k6 2 _ rfl, k5⟩
section
variable {H : Type} {enc : TypeId × Value → H} {W : World}
def RCG (W : World) (x : RC) : Prop := ∃ r : Rc.R, innRC.rel W AllB x r ∧ RBnd r
theorem open_rc {fuel : Nat} {cs : List Value} {d : DataW H} {p : List MemPlace} (hl : cs.length = 5) (h : DataW.trod enc Try.prog W 0 (fun _ => true) true fuel 34 cs = some (d, p)) (hz : ∀ n ∈ d.weights Try.prog 34, n ≤ 140737488351232) : ∃ x : RC, cs = layRC.enc x ∧ RCG W x := by
  have ci : Try.prog.cellsOf 3 = 1 := by kernel_rfl
  have c0 : Try.prog.cellsOf 32 = 1 := by kernel_rfl
  have c1 : Try.prog.cellsOf 23 = 1 := by kernel_rfl
  have c2 : Try.prog.cellsOf 2 = 1 := by kernel_rfl
  obtain ⟨xs, k, hk, hxy, _, hxl, hfd⟩ := DataW.trod_struct Try.underlying34 h
  match xs, hxl, cs, hl with
  | [y0, y1, y2, y3, y4], _, [v0, v1, v2, v3, v4], _ =>
    have g0 := hfd 0 _ rfl
    have g1 := hfd 1 _ rfl
    have g2 := hfd 2 _ rfl
    have g3 := hfd 3 _ rfl
    have g4 := hfd 4 _ rfl
    simp [ci, c0, c1, c2] at g0 g1 g2 g3 g4
    have hd := (Prod.mk.inj hxy).1
    obtain ⟨k0, e0, _, w0⟩ := DataW.trod_int Try.underlying3 g0
    obtain ⟨s, l, e1, hs1, hs2, hs3⟩ := Rc.open_smps (d := y1.1) (p := y1.2) g1 (fun n hn => hz n (by rw [hd]; exact Rw.weights_part (j := 1) (e := 32) (d := y1.1) Try.underlying34 rfl rfl hn))
    obtain ⟨m, ms, e2, hm1, hm2, hm3⟩ := Rc.open_mss (d := y2.1) (p := y2.2) g2 (fun n hn => hz n (by rw [hd]; exact Rw.weights_part (j := 2) (e := 23) (d := y2.1) Try.underlying34 rfl rfl hn))
    obtain ⟨a, e3, _, w3⟩ := DataW.trod_int Try.underlying2 g3
    obtain ⟨b, e4, _, w4⟩ := DataW.trod_int Try.underlying2 g4
    obtain rfl := (List.cons.inj e0).1
    obtain rfl := (List.cons.inj e1).1
    obtain rfl := (List.cons.inj e2).1
    obtain rfl := (List.cons.inj e3).1
    obtain rfl := (List.cons.inj e4).1
    exact ⟨⟨k0, s, m, a, b⟩, rfl, ⟨k0, l, ms, a, b⟩, ⟨rfl, rfl, rfl, hs1, hm1⟩, ⟨Mt.lit64 w0, hs2, hm2, Mt.lit64 w3, Mt.lit64 w4⟩, hs3, hm3⟩
def QCG (W : World) (x : QC) : Prop := ∃ q : Q, innQC.rel W AllB x q ∧ QBnd q
theorem open_qc {fuel : Nat} {cs : List Value} {d : DataW H} {p : List MemPlace} (hl : cs.length = 3) (h : DataW.trod enc Try.prog W 0 (fun _ => true) true fuel 25 cs = some (d, p)) (hz : ∀ n ∈ d.weights Try.prog 25, n ≤ 140737488351232) : ∃ x : QC, cs = layQC.enc x ∧ QCG W x := by
  have c1 : Try.prog.cellsOf 23 = 1 := by kernel_rfl
  have c2 : Try.prog.cellsOf 2 = 1 := by kernel_rfl
  obtain ⟨xs, k, hk, hxy, _, hxl, hfd⟩ := DataW.trod_struct Try.underlying25 h
  match xs, hxl, cs, hl with
  | [y0, y1, y2], _, [v0, v1, v2], _ =>
    have g0 := hfd 0 _ rfl
    have g1 := hfd 1 _ rfl
    have g2 := hfd 2 _ rfl
    simp [c1, c2] at g0 g1 g2
    have hd := (Prod.mk.inj hxy).1
    obtain ⟨m, ms, e0, hm1, hm2, hm3⟩ := Rc.open_mss (d := y0.1) (p := y0.2) g0 (fun n hn => hz n (by rw [hd]; exact Rw.weights_part (j := 0) (e := 23) (d := y0.1) Try.underlying25 rfl rfl hn))
    obtain ⟨a, e1, _, w1⟩ := DataW.trod_int Try.underlying2 g1
    obtain ⟨b, e2, _, w2⟩ := DataW.trod_int Try.underlying2 g2
    obtain rfl := (List.cons.inj e0).1
    obtain rfl := (List.cons.inj e1).1
    obtain rfl := (List.cons.inj e2).1
    exact ⟨⟨m, a, b⟩, rfl, ⟨ms, a, b⟩, ⟨rfl, rfl, hm1⟩, hm2, Mt.lit64 w1, Mt.lit64 w2, hm3⟩
end
/-- Records that came in. -/
def IsRecs (v : Value) (w : World) : Prop := ∃ l, RsView w AllB v l ∧ (∀ r ∈ l, RBnd r) ∧ l.length * 72 ≤ 140737488351232
theorem open_recs {H : Type} {enc : TypeId × Value → H} {W : World} {base : Nat} {v : Value} {d : DataW H} {p : List MemPlace}
    (hv : Value.okWide Try.prog W .any base 22 v) (h : DataW.Trod enc Try.prog W 0 (fun _ => true) true 22 v d p)
    (hz : ∀ n ∈ d.weights Try.prog 22, n ≤ reachBytes) : IsRecs v W := by
  have hr : reachBytes = 140737488351232 := rfl
  rw [hr] at hz
  obtain ⟨a0, len0, cap0, rfl⟩ := okWide_slice Try.underlying22 hv
  obtain ⟨fuel, hf⟩ := h
  have hf2 : DataW.trod enc Try.prog W 0 (fun _ => true) true fuel 22 [.slice a0 len0 cap0] = some (d, p) := hf
  obtain ⟨A, n, c, rs, h1, h2, h3, h4⟩ := Rw.open_rowC (L := layRC) (G := RCG W) Try.underlying22 (by kernel_rfl) (by kernel_rfl) (fun _ _ _ _ hl h hz => open_rc hl h hz) hf2 hz
  obtain ⟨l, hl, hall⟩ := Rc.list_of (P := fun a x => innRC.rel W AllB a x ∧ RBnd x) h3
  have hv := (List.cons.inj h1).1
  refine ⟨l, by rw [hv]; exact ⟨rs, h2, hl, fun i k1 k2 => (hall i k1 k2).1⟩, fun x hx => ?_, by rw [← hl]; exact h4⟩
  obtain ⟨i, hi, rfl⟩ := List.mem_iff_getElem.1 hx
  exact (hall i (by omega) hi).2
/-- Queries that came in. -/
def IsAsks (v : Value) (w : World) : Prop := ∃ l, QsView w AllB v l ∧ (∀ q ∈ l, QBnd q) ∧ l.length * 40 ≤ 140737488351232
/-- A query that came in alone. -/
def IsAsk (v : Value) (w : World) : Prop := ∃ (m : Rw.Sl) (q : Q), v = .agg #[m.v, .int .i64 q.frm, .int .i64 q.til] ∧ Mt.View w AllB m.v q.ms ∧ QBnd q
theorem open_ask {H : Type} {enc : TypeId × Value → H} {W : World} {base : Nat} {v : Value} {d : DataW H} {p : List MemPlace}
    (hv : Value.okWide Try.prog W .any base 25 v) (h : DataW.Trod enc Try.prog W 0 (fun _ => true) true 25 v d p)
    (hz : ∀ n ∈ d.weights Try.prog 25, n ≤ reachBytes) : IsAsk v W := by
  obtain ⟨cs, rfl, hsz⟩ := okWide_struct Try.underlying25 hv
  have c3 : Try.prog.cellsOf 25 = 3 := by kernel_rfl
  rw [c3] at hsz
  obtain ⟨fuel, hf⟩ := h
  have hf2 : DataW.trod enc Try.prog W 0 (fun _ => true) true fuel 25 cs.toList = some (d, p) := hf
  obtain ⟨⟨m, a, b⟩, h1, q, ⟨h2, h3, h4⟩, h5⟩ := open_qc (by simpa using hsz) hf2 hz
  simp only at h2 h3
  subst h2 h3
  refine ⟨m, q, ?_, h4, h5⟩
  have : cs = (layQC.enc (⟨m, q.frm, q.til⟩ : QC)).toArray := by rw [← h1]
  rw [this]; rfl
end Hd
end Go.Proofs.Ytfheehlfodoimaa
end

/- Layer 13: the document's head as an object. -/
section
set_option maxRecDepth 100000
namespace Go.Proofs.Ytfheehlfodoimaa
open Go.RowKit Go.Sort
namespace Hd
open Bit Dsk Ob Dig
set_option linter.unusedVariables false

theorem mine_keep {α : Type} {L : Rw.Lay α} {T : TypeId} {w w' : World} {S : Nat → Prop} (hk : ∀ b, S b → w'.heap[b]? = w.heap[b]?) {v : Value} {l : List α} (h : Rw.Mine L T w v l) (hS : ∀ b, v.ownBlock = some b → S b) : Rw.Mine L T w' v l := h.kept fun b hb => hk b (hS b hb)
theorem row_keep {α : Type} {L : Rw.Lay α} {w w' : World} {S : Nat → Prop} (hk : ∀ b, S b → w'.heap[b]? = w.heap[b]?) {u : Value} {l : List α} (h : Rw.View L w S u l) : Rw.View L w' S u l :=
  let ⟨A, c, h1, h2, h3, h4⟩ := h
  ⟨A, c, h1, h2, h3, fun hp => let ⟨b, off, k1, k2, k3⟩ := h4 hp
    ⟨b, off, k1, k2, fun i hi t u ht => by rw [← k3 i hi t u ht, World.cell?, World.cell?, hk b k2]⟩⟩
section
variable {w : World} {S : Nat → Prop} {q : Nat} {h : H}
end
end Hd
end Go.Proofs.Ytfheehlfodoimaa
end
