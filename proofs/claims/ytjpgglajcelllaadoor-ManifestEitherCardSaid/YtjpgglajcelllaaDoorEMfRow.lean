/- Manifests in memory (layer 17): a row of names, a manifest's six cells; a manifest among the arguments, opened. -/
import Derived.Test.YtjpgglajcelllaaDoorEMfPure
set_option maxRecDepth 100000
namespace Go.Proofs.YtjpgglajcelllaaDoor
open Go.RowKit Go.ChangeShapes Go.WideShapes
namespace Mf
open Bit Dsk Ob Dig
set_option linter.unusedVariables false
abbrev All : Nat → Prop := fun _ => True
def layN : Rw.Lay ByteArray := ⟨1, by decide, fun s => [.string s], fun _ => rfl, fun s u hu => by rw [List.mem_singleton.1 hu]; rfl⟩
abbrev NView := Rw.View layN
abbrev NMine := Rw.Mine layN 9
theorem typN : Rw.Typ layN 22 9 16 := Rw.Typ.mk' (z := .string ⟨#[]⟩) Tryd.underlying22 (by kernel_rfl) rfl
theorem NView.cells {w : World} {S : Nat → Prop} {A : Option Addr} {n c : Nat} {l : List ByteArray} (h : NView w S (.slice A n c) l) (hp : 0 < l.length) : ∃ b off, A = some ⟨b, off, none⟩ ∧ S b ∧ b < w.heap.size ∧ ∀ i (hi : i < l.length), w.cell? ⟨b, off + i, none⟩ = some (.string l[i]) := by
  obtain ⟨b, off, h1, h2, h3, h4⟩ := Rw.View.open h hp
  exact ⟨b, off, h1, h2, h3, fun i hi => by have := h4 i hi 0 _ rfl; simpa [layN] using this⟩
theorem NView.big {w : World} {S : Nat → Prop} {v : Value} {l : List ByteArray} (h : NView w S v l) : l.length ≤ 9223372036854775807 := by
  obtain ⟨A, c, -, h1, h2⟩ := Rw.View.shape h
  unfold maxLen at h2; omega
/-- A manifest's cells. -/
abbrev mv (m : M) (s : Rw.Sl) : Value := .agg #[.int .i64 m.epoch, .int .i64 m.base, .int .i64 m.promise, .int .i64 m.mark, .int .i64 m.check, s.v]
/-- v reads as the manifest m. -/
def MView (w : World) (S : Nat → Prop) (v : Value) (m : M) : Prop := ∃ s : Rw.Sl, v = mv m s ∧ NView w S s.v m.blocks
theorem MView.upon {w w' : World} {S T : Nat → Prop} {v : Value} {m : M} (h : MView w S v m) (hu : Upon T w w') (hd : ∀ b, S b → ¬ T b) : MView w' S v m :=
  let ⟨s, h1, h2⟩ := h; ⟨s, h1, h2.upon hu hd⟩
theorem MView.new {w w' : World} {S : Nat → Prop} {v : Value} {m : M} (h : MView w S v m) (hu : New0 w w') : MView w' S v m := h.upon hu fun _ _ f => f
theorem MView.mono {w : World} {S S' : Nat → Prop} {v : Value} {m : M} (h : MView w S v m) (hS : ∀ b, b < w.heap.size → S b → S' b) : MView w S' v m :=
  let ⟨s, h1, h2⟩ := h; ⟨s, h1, h2.mono hS⟩
theorem MView.all {w : World} {S : Nat → Prop} {v : Value} {m : M} (h : MView w S v m) : MView w All v m := h.mono fun _ _ _ => trivial
theorem MView.shape {w : World} {S : Nat → Prop} {v : Value} {m : M} (h : MView w S v m) : ∃ A c, v = .agg #[.int .i64 m.epoch, .int .i64 m.base, .int .i64 m.promise, .int .i64 m.mark, .int .i64 m.check, .slice A m.blocks.length c] ∧ NView w S (.slice A m.blocks.length c) m.blocks := by
  obtain ⟨s, rfl, h⟩ := h
  obtain ⟨A, c, h1, -⟩ := Rw.View.shape h
  have : s = ⟨A, m.blocks.length, c⟩ := by cases s; simp only [Rw.Sl.v, Value.slice.injEq] at h1; obtain ⟨rfl, rfl, rfl⟩ := h1; rfl
  subst this
  exact ⟨A, c, rfl, h⟩
/-- Names that a machine can hold. -/
def NBnd (l : List ByteArray) : Prop := ∀ b ∈ l, b.size ≤ 9223372036854775807
structure Bnd (m : M) : Prop where
  rng : Rng m
  nms : NBnd m.blocks
/-! ### six cells -/
structure Box6 (T : TypeId) (g : Nat) (a b c d e f : Value) (w : World) : Prop where
  blk : w.heap[g]? = some (.cells #[a, b, c, d, e, f] T (0, 0))
theorem Box6.cells {T : TypeId} {g : Nat} {a b c d e f : Value} {w : World} (h : Box6 T g a b c d e f w) : w.cell? ⟨g, 0, none⟩ = some a ∧ w.cell? ⟨g, 1, none⟩ = some b ∧ w.cell? ⟨g, 2, none⟩ = some c ∧ w.cell? ⟨g, 3, none⟩ = some d ∧ w.cell? ⟨g, 4, none⟩ = some e ∧ w.cell? ⟨g, 5, none⟩ = some f := by
  have := h.blk
  simp [World.cell?, this]
theorem Box6.lt {T : TypeId} {g : Nat} {a b c d e f : Value} {w : World} (h : Box6 T g a b c d e f w) : g < w.heap.size := (Array.getElem?_eq_some_iff.1 h.blk).1
theorem Box6.new {T : TypeId} {g : Nat} {a b c d e f : Value} {w w' : World} (h : Box6 T g a b c d e f w) (hu : New0 w w') : Box6 T g a b c d e f w' := ⟨(hu.block g h.lt fun f => f).trans h.blk⟩
theorem Box6.upon {T : TypeId} {g : Nat} {a b c d e f : Value} {w w' : World} {U : Nat → Prop} (h : Box6 T g a b c d e f w) (hu : Upon U w w') (hn : ¬ U g) : Box6 T g a b c d e f w' := ⟨(hu.block g h.lt hn).trans h.blk⟩
theorem box6 (T : TypeId) (w : World) (a b c d e f : Value) : Box6 T w.heap.size a b c d e f (w.alloc (.cells #[a, b, c, d, e, f] T (0, 0))) := ⟨cell_new w _⟩
/-! ### among the arguments -/
section
variable {H : Type} {enc : TypeId × Value → H} {W : World}
theorem open_nm {fuel : Nat} {cs : List Value} {d : DataW H} {p : List MemPlace} (hl : cs.length = 1) (h : DataW.trod enc Tryd.prog W 0 (fun _ => true) true fuel 9 cs = some (d, p)) : ∃ a : ByteArray, cs = layN.enc a ∧ a.size ≤ 9223372036854775807 := by
  obtain ⟨s, e1, _, z1⟩ := DataW.trod_string Tryd.underlying9 h
  exact ⟨s, e1, z1⟩
theorem open_nms {fuel : Nat} {cs : List Value} {d : DataW H} {p : List MemPlace} (h : DataW.trod enc Tryd.prog W 0 (fun _ => true) true fuel 22 cs = some (d, p)) (hz : ∀ n ∈ d.weights Tryd.prog 22, n ≤ 140737488351232) :
    ∃ (s : Rw.Sl) (l : List ByteArray), cs = [s.v] ∧ NView W All s.v l ∧ NBnd l ∧ l.length * 16 ≤ 140737488351232 := by
  obtain ⟨A, n, c, l, h1, h2, h3, h4⟩ := Rw.open_rowC (L := layN) (G := fun a => a.size ≤ 9223372036854775807) Tryd.underlying22 (by kernel_rfl) (by kernel_rfl) (fun _ _ _ _ hl h _ => open_nm hl h) h hz
  exact ⟨⟨A, n, c⟩, l, h1, h2, h3, h4⟩
/-- A manifest's raw cells. -/
abbrev RM := Int × Int × Int × Int × Int × Rw.Sl
def layM : Rw.Lay RM := ⟨6, by decide, fun x => [.int .i64 x.1, .int .i64 x.2.1, .int .i64 x.2.2.1, .int .i64 x.2.2.2.1, .int .i64 x.2.2.2.2.1, x.2.2.2.2.2.v], fun _ => rfl, fun x u hu => by
  simp only [List.mem_cons, List.not_mem_nil, or_false] at hu
  rcases hu with rfl | rfl | rfl | rfl | rfl | rfl <;> rfl⟩
def innM : Rw.Inner RM M where
  rel w S a m := a.1 = m.epoch ∧ a.2.1 = m.base ∧ a.2.2.1 = m.promise ∧ a.2.2.2.1 = m.mark ∧ a.2.2.2.2.1 = m.check ∧ NView w S a.2.2.2.2.2.v m.blocks
  upon h hu hd := ⟨h.1, h.2.1, h.2.2.1, h.2.2.2.1, h.2.2.2.2.1, Rw.View.upon h.2.2.2.2.2 hu hd⟩
  mono h hS := ⟨h.1, h.2.1, h.2.2.1, h.2.2.2.1, h.2.2.2.2.1, Rw.View.mono h.2.2.2.2.2 hS⟩
def MG (W : World) (a : RM) : Prop := ∃ m : M, innM.rel W All a m ∧ Bnd m
theorem open_mf {fuel : Nat} {cs : List Value} {d : DataW H} {p : List MemPlace} (hl : cs.length = 6) (h : DataW.trod enc Tryd.prog W 0 (fun _ => true) true fuel 24 cs = some (d, p)) (hz : ∀ n ∈ d.weights Tryd.prog 24, n ≤ 140737488351232) : ∃ a : RM, cs = layM.enc a ∧ MG W a := by
  have c0 : Tryd.prog.cellsOf 22 = 1 := by kernel_rfl
  have c1 : Tryd.prog.cellsOf 2 = 1 := by kernel_rfl
  have c2 : Tryd.prog.cellsOf 3 = 1 := by kernel_rfl
  obtain ⟨xs, k, hk, hxy, _, hxl, hfd⟩ := DataW.trod_struct Tryd.underlying24 h
  match xs, hxl, cs, hl with
  | [y0, y1, y2, y3, y4, y5], _, [v0, v1, v2, v3, v4, v5], _ =>
    have g0 := hfd 0 _ rfl
    have g1 := hfd 1 _ rfl
    have g2 := hfd 2 _ rfl
    have g3 := hfd 3 _ rfl
    have g4 := hfd 4 _ rfl
    have g5 := hfd 5 _ rfl
    simp [c0, c1, c2] at g0 g1 g2 g3 g4 g5
    have hd := (Prod.mk.inj hxy).1
    obtain ⟨a0, e0, _, w0⟩ := DataW.trod_int Tryd.underlying3 g0
    obtain ⟨a1, e1, _, w1⟩ := DataW.trod_int Tryd.underlying3 g1
    obtain ⟨a2, e2, _, w2⟩ := DataW.trod_int Tryd.underlying3 g2
    obtain ⟨a3, e3, _, w3⟩ := DataW.trod_int Tryd.underlying2 g3
    obtain ⟨a4, e4, _, w4⟩ := DataW.trod_int Tryd.underlying3 g4
    obtain ⟨s, l, e5, hv, hb, hlen⟩ := open_nms (d := y5.1) (p := y5.2) g5 (fun n hn => hz n (by rw [hd]; exact Rw.weights_part (j := 5) (e := 22) (d := y5.1) Tryd.underlying24 rfl rfl hn))
    obtain rfl := (List.cons.inj e0).1
    obtain rfl := (List.cons.inj e1).1
    obtain rfl := (List.cons.inj e2).1
    obtain rfl := (List.cons.inj e3).1
    obtain rfl := (List.cons.inj e4).1
    obtain rfl := (List.cons.inj e5).1
    exact ⟨(a0, a1, a2, a3, a4, s), rfl, ⟨a0, a1, a2, a3, a4, l⟩, ⟨rfl, rfl, rfl, rfl, rfl, hv⟩, ⟨Mt.lit64 w0, Mt.lit64 w1, Mt.lit64 w2, Mt.lit64 w3, Mt.lit64 w4⟩, hb⟩
end
/-- A manifest that came in. -/
def IsM (v : Value) (w : World) : Prop := ∃ m, MView w All v m ∧ Bnd m
theorem open_man {H : Type} {enc : TypeId × Value → H} {W : World} {base : Nat} {v : Value} {d : DataW H} {p : List MemPlace}
    (hv : Value.okWide Tryd.prog W .any base 24 v) (h : DataW.Trod enc Tryd.prog W 0 (fun _ => true) true 24 v d p)
    (hz : ∀ n ∈ d.weights Tryd.prog 24, n ≤ reachBytes) : IsM v W := by
  obtain ⟨cs, rfl, hsz⟩ := okWide_struct Tryd.underlying24 hv
  have c6 : Tryd.prog.cellsOf 24 = 6 := by kernel_rfl
  rw [c6] at hsz
  obtain ⟨fuel, hf⟩ := h
  have hf2 : DataW.trod enc Tryd.prog W 0 (fun _ => true) true fuel 24 cs.toList = some (d, p) := hf
  obtain ⟨⟨a0, a1, a2, a3, a4, s⟩, h1, m, ⟨h2, h3, h4, h5, h6, h7⟩, h8⟩ := open_mf (by simpa using hsz) hf2 hz
  simp only at h2 h3 h4 h5 h6 h7
  subst h2 h3 h4 h5 h6
  refine ⟨m, ⟨s, ?_, h7⟩, h8⟩
  have : cs = (layM.enc (m.epoch, m.base, m.promise, m.mark, m.check, s)).toArray := by rw [← h1]
  rw [this]; rfl
end Mf
end Go.Proofs.YtjpgglajcelllaaDoor
