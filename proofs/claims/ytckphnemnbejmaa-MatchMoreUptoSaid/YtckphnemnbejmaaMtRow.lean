/- Rows of matchers in memory (layer 11); a row of matchers among the arguments. -/
import Derived.Test.YtckphnemnbejmaaRowOpen
import Derived.Test.YtckphnemnbejmaaMtPure
set_option maxRecDepth 100000
namespace Go.Proofs.Ytckphnemnbejmaa
open Go.RowKit Go.ChangeShapes Go.WideShapes
namespace Mt
open Bit Dsk Ob Dig
set_option linter.unusedVariables false

def layM : Rw.Lay M := ⟨3, by decide, fun m => [.int .i64 m.1, .string m.2.1, .string m.2.2], fun _ => rfl, fun m u hu => by
  simp only [List.mem_cons, List.not_mem_nil, or_false] at hu
  rcases hu with rfl | rfl | rfl <;> rfl⟩
abbrev All : Nat → Prop := fun _ => True
/-- v reads as the matchers l, out of a block of S. -/
abbrev View := Rw.View layM
/-- v owns the matchers l. -/
abbrev Mine := Rw.Mine layM 37
theorem typM : Rw.Typ layM 22 37 40 := Rw.Typ.mk' (z := .agg #[.int .i64 0, .string ByteArray.empty, .string ByteArray.empty]) Try.underlying22 (by kernel_rfl) rfl
theorem View.cells {w : World} {S : Nat → Prop} {A : Option Addr} {n c : Nat} {l : List M} (h : View w S (.slice A n c) l) (hp : 0 < l.length) : ∃ b off, A = some ⟨b, off, none⟩ ∧ S b ∧ b < w.heap.size ∧
    ∀ i (hi : i < l.length), w.cell? ⟨b, off + i * 3, none⟩ = some (.int .i64 l[i].1) ∧ w.cell? ⟨b, off + i * 3 + 1, none⟩ = some (.string l[i].2.1) ∧ w.cell? ⟨b, off + i * 3 + 2, none⟩ = some (.string l[i].2.2) := by
  obtain ⟨b, off, h1, h2, h3, h4⟩ := Rw.View.open h hp
  exact ⟨b, off, h1, h2, h3, fun i hi => ⟨h4 i hi 0 _ rfl, h4 i hi 1 _ rfl, h4 i hi 2 _ rfl⟩⟩
theorem view_of {w : World} {S : Nat → Prop} {b off c : Nat} {l : List M} (hc : l.length ≤ c) (hm : c ≤ maxLen) (hS : S b) (h : ∀ i (hi : i < l.length), w.cell? ⟨b, off + i * 3, none⟩ = some (.int .i64 l[i].1) ∧ w.cell? ⟨b, off + i * 3 + 1, none⟩ = some (.string l[i].2.1) ∧ w.cell? ⟨b, off + i * 3 + 2, none⟩ = some (.string l[i].2.2)) : View w S (.slice (some ⟨b, off, none⟩) l.length c) l :=
  ⟨_, c, rfl, hc, hm, fun _ => ⟨b, off, rfl, hS, fun i hi t u ht => by
    obtain ⟨h0, h1, h2⟩ := h i hi
    match t, ht with
    | 0, ht => obtain rfl : Value.int .i64 l[i].1 = u := by simpa [layM] using ht
               exact h0
    | 1, ht => obtain rfl : Value.string l[i].2.1 = u := by simpa [layM] using ht
               exact h1
    | 2, ht => obtain rfl : Value.string l[i].2.2 = u := by simpa [layM] using ht
               exact h2
    | t + 3, ht => simp [layM] at ht⟩⟩
/-- One matcher, laid. -/
theorem view_one {w : World} {g : Nat} {k : Int} {x y : ByteArray} (h : w.heap[g]? = some (.cells #[.int .i64 k, .string x, .string y] 37 (0, 0))) : View w All (.slice (some ⟨g, 0, none⟩) 1 1) [(k, x, y)] :=
  view_of (l := [(k, x, y)]) (c := 1) (Nat.le_refl _) (by unfold maxLen; decide) trivial fun i hi => by
    have : i = 0 := by simpa using hi
    subst this
    exact ⟨by rw [Lib.cell_of_heap h]; rfl, by rw [Lib.cell_of_heap h]; rfl, by rw [Lib.cell_of_heap h]; rfl⟩
def Bnd1 (m : M) : Prop := -9223372036854775808 ≤ m.1 ∧ m.1 ≤ 9223372036854775807 ∧ m.2.1.size ≤ 9223372036854775807 ∧ m.2.2.size ≤ 9223372036854775807
def Bnd (l : List M) : Prop := ∀ m ∈ l, Bnd1 m
/-- A row of matchers that came in, of at most so many bytes. -/
def IsMsN (N : Nat) (v : Value) (w : World) : Prop := ∃ l, View w All v l ∧ Bnd l ∧ l.length * 40 ≤ N
/-- A row of matchers that came in. -/
abbrev IsMs (v : Value) (w : World) : Prop := IsMsN 140737488351232 v w
theorem lit64 {k : Int} (h : (Lit.int .i64 k).wf = true) : -9223372036854775808 ≤ k ∧ k ≤ 9223372036854775807 := by
  simp [Lit.wf, IntKind.min, IntKind.max, IntKind.signed, IntKind.bits] at h
  exact ⟨by omega, by omega⟩
/-- One matcher, opened. -/
theorem open_m {H : Type} {enc : TypeId × Value → H} {W : World} {fuel : Nat} {cs : List Value} {x : DataW H × List MemPlace} (hl : cs.length = 3) (h : DataW.trod enc Try.prog W 0 (fun _ => true) true fuel 37 cs = some x) : ∃ m : M, cs = layM.enc m ∧ Bnd1 m := by
  have ci : Try.prog.cellsOf 3 = 1 := by kernel_rfl
  have cs' : Try.prog.cellsOf 9 = 1 := by kernel_rfl
  obtain ⟨xs, k, hk, hxy, _, hxl, hfd⟩ := DataW.trod_struct Try.underlying37 h
  match xs, hxl, cs, hl with
  | [y0, y1, y2], _, [v0, v1, v2], _ =>
    have g0 := hfd 0 _ rfl
    have g1 := hfd 1 _ rfl
    have g2 := hfd 2 _ rfl
    simp [ci, cs'] at g0 g1 g2
    obtain ⟨k0, e0, _, w0⟩ := DataW.trod_int Try.underlying3 g0
    obtain ⟨s1, e1, _, z1⟩ := DataW.trod_string Try.underlying9 g1
    obtain ⟨s2, e2, _, z2⟩ := DataW.trod_string Try.underlying9 g2
    obtain rfl := (List.cons.inj e0).1
    obtain rfl := (List.cons.inj e1).1
    obtain rfl := (List.cons.inj e2).1
    unfold maxLen at z1 z2
    exact ⟨(k0, s1, s2), rfl, (lit64 w0).1, (lit64 w0).2, by simp only; omega, by simp only; omega⟩
theorem open_msN {H : Type} {enc : TypeId × Value → H} {W : World} {base : Nat} {v : Value} {d : DataW H} {p : List MemPlace} {N : Nat}
    (hv : Value.okWide Try.prog W .any base 22 v) (h : DataW.Trod enc Try.prog W 0 (fun _ => true) true 22 v d p)
    (hz : ∀ e s, d = .slice e s → (e.length + s.length) * Try.prog.bytesOf 37 ≤ N) : IsMsN N v W :=
  Rw.open_row (L := layM) (G := Bnd1) Try.underlying22 (by kernel_rfl) (by kernel_rfl) (fun _ _ _ hl h => open_m hl h) hv h hz
theorem open_ms {H : Type} {enc : TypeId × Value → H} {W : World} {base : Nat} {v : Value} {d : DataW H} {p : List MemPlace}
    (hv : Value.okWide Try.prog W .any base 22 v) (h : DataW.Trod enc Try.prog W 0 (fun _ => true) true 22 v d p)
    (hz : ∀ e s, d = .slice e s → (e.length + s.length) * Try.prog.bytesOf 37 ≤ reachBytes) : IsMs v W := open_msN hv h hz
end Mt
end Go.Proofs.Ytckphnemnbejmaa
