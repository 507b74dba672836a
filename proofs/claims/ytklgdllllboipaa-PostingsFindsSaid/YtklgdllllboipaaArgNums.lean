/- A row of numbers, a row of pairs of numbers among the arguments, opened: each cell holds what was read. Names no function of the program. -/
import Derived.Test.YtklgdllllboipaaRows
import Derived.Below
import Derived.Deep.SlicePairs
import Derived.SizedLaws
import Derived.ChangeSlices
import Derived.ProofKit
import Derived.OpenShut
import Derived.WalkKit
set_option maxRecDepth 100000
namespace Go.Proofs.Ytklgdllllboipaa
open Go.RowKit Go.ChangeShapes Go.WideShapes
set_option linter.unusedVariables false
namespace Arg

/-- A row of numbers that came in. -/
def NumsAt (k : IntKind) (zs : List Int) (A : Option Addr) (w : World) : Prop :=
  0 < zs.length → ∃ b off, A = some ⟨b, off, none⟩ ∧ b < w.heap.size ∧ ∀ i (h : i < zs.length), w.cell? ⟨b, off + i, none⟩ = some (.int k zs[i]) ∧ (Lit.int k zs[i]).wf = true
def IsNums (k : IntKind) (v : Value) (w : World) : Prop := ∃ (zs : List Int) (A : Option Addr) (c : Nat), v = .slice A zs.length c ∧ zs.length ≤ maxLen ∧ NumsAt k zs A w
/-- A row of pairs of numbers that came in. -/
def PairsAt (k1 k2 : IntKind) (ps : List (Int × Int)) (A : Option Addr) (w : World) : Prop :=
  0 < ps.length → ∃ b off, A = some ⟨b, off, none⟩ ∧ b < w.heap.size ∧ ∀ i (h : i < ps.length), w.cell? ⟨b, off + i * 2, none⟩ = some (.int k1 ps[i].1) ∧ w.cell? ⟨b, off + i * 2 + 1, none⟩ = some (.int k2 ps[i].2) ∧
    (Lit.int k1 ps[i].1).wf = true ∧ (Lit.int k2 ps[i].2).wf = true
def IsPairs (k1 k2 : IntKind) (v : Value) (w : World) : Prop := ∃ (ps : List (Int × Int)) (A : Option Addr) (c : Nat), v = .slice A ps.length c ∧ ps.length ≤ maxLen ∧ PairsAt k1 k2 ps A w

theorem NumsAt.below {k : IntKind} {zs : List Int} {A : Option Addr} {w w' : World} (h : NumsAt k zs A w) (hb : Below w.heap.size w w') : NumsAt k zs A w' := fun hp =>
  let ⟨b, off, h1, h2, h3⟩ := h hp
  ⟨b, off, h1, Nat.lt_of_lt_of_le h2 hb.size, fun i hi => ⟨(hb.cell (p := ⟨b, off + i, none⟩) h2).trans (h3 i hi).1, (h3 i hi).2⟩⟩
theorem PairsAt.below {k1 k2 : IntKind} {ps : List (Int × Int)} {A : Option Addr} {w w' : World} (h : PairsAt k1 k2 ps A w) (hb : Below w.heap.size w w') : PairsAt k1 k2 ps A w' := fun hp =>
  let ⟨b, off, h1, h2, h3⟩ := h hp
  ⟨b, off, h1, Nat.lt_of_lt_of_le h2 hb.size, fun i hi => ⟨(hb.cell (p := ⟨b, off + i * 2, none⟩) h2).trans (h3 i hi).1, (hb.cell (p := ⟨b, off + i * 2 + 1, none⟩) h2).trans (h3 i hi).2.1, (h3 i hi).2.2⟩⟩
theorem addr_plain (b off j : Nat) : (⟨b, off, none⟩ : Addr).add j = ⟨b, off + j, none⟩ := by unfold Addr.add; split <;> simp_all
theorem wf_i64 {x : Int} (h : (Lit.int .i64 x).wf = true) : -9223372036854775808 ≤ x ∧ x ≤ 9223372036854775807 := by
  simp [Lit.wf, IntKind.min, IntKind.max, IntKind.signed, IntKind.bits] at h
  exact ⟨by omega, by omega⟩
theorem wf_u64 {x : Int} (h : (Lit.int .u64 x).wf = true) : 0 ≤ x ∧ x ≤ 18446744073709551615 := by
  simp [Lit.wf, IntKind.min, IntKind.max, IntKind.signed, IntKind.bits] at h
  exact ⟨by omega, by omega⟩

set_option maxRecDepth 100000 in
theorem open_nums {H : Type} {enc : TypeId × Value → H} {W : World} {base : Nat} {v : Value} {d : DataW H} {p : List MemPlace} {t e : TypeId} {k : IntKind} (ht : Try.prog.underlying t = some (.slice e)) (he : Try.prog.underlying e = some (.int k)) (hc : Try.prog.cellsOf e = 1)
    (hv : Value.okWide Try.prog W .any base t v) (h : DataW.Trod enc Try.prog W 0 (fun _ => true) true t v d p) : IsNums k v W := by
  obtain ⟨a0, len0, cap0, rfl⟩ := okWide_slice ht hv
  obtain ⟨fuel, hf⟩ := h
  have hf2 : DataW.trod enc Try.prog W 0 (fun _ => true) true fuel t [.slice a0 len0 cap0] = some (d, p) := hf
  rcases open_ints ht he hc hf2 with ⟨hcs, _⟩ | ⟨a, len, cap, zs, hcs, hb, hl, hm, hzl, hx, hcell, hwf⟩
  · simp only [List.cons.injEq, Value.slice.injEq, and_true] at hcs
    obtain ⟨rfl, rfl, rfl⟩ := hcs
    exact ⟨[], none, 0, rfl, Nat.zero_le _, fun h => absurd h (by simp)⟩
  · simp only [List.cons.injEq, Value.slice.injEq, and_true] at hcs
    obtain ⟨rfl, rfl, rfl⟩ := hcs
    simp only [if_true] at hzl
    have hkl : (zs.take len0).length = len0 := by simp; omega
    refine ⟨zs.take len0, some a, cap0, by rw [hkl], by rw [hkl]; omega, fun hpos => ?_⟩
    rw [hkl] at hpos
    obtain ⟨b, off, spot⟩ := a
    have hspot : spot = none := by
      have := World.cell?_spot (hcell 0 (by omega))
      simpa [Addr.add] using this
    subst hspot
    refine ⟨b, off, rfl, ?_, fun i hi => ?_⟩
    · have := World.block_lt_of_cell? W _ (hcell 0 (by omega))
      simpa [Addr.add] using this
    · rw [hkl] at hi
      have h0 := hcell i (by omega)
      rw [addr_plain] at h0
      have e1 : zs.getD i 0 = (zs.take len0)[i]'(by rw [hkl]; exact hi) := by
        rw [List.getElem_take, List.getD_eq_getElem?_getD, List.getElem?_eq_getElem (by omega)]; rfl
      rw [e1] at h0
      exact ⟨h0, hwf _ (List.mem_of_mem_take (List.getElem_mem _))⟩

set_option maxRecDepth 100000 in
theorem open_pairs {H : Type} {enc : TypeId × Value → H} {W : World} {base : Nat} {v : Value} {d : DataW H} {p : List MemPlace} {t e : TypeId} {f0 f1 : Field} {k1 k2 : IntKind} (ht : Try.prog.underlying t = some (.slice e)) (he : Try.prog.underlying e = some (.struct #[f0, f1]))
    (ce : Try.prog.cellsOf e = 2) (o0 : f0.offset = 0) (o1 : f1.offset = 1) (c0 : Try.prog.cellsOf f0.type = 1) (c1 : Try.prog.cellsOf f1.type = 1)
    (u0 : Try.prog.underlying f0.type = some (.int k1)) (u1 : Try.prog.underlying f1.type = some (.int k2))
    (hv : Value.okWide Try.prog W .any base t v) (h : DataW.Trod enc Try.prog W 0 (fun _ => true) true t v d p) : IsPairs k1 k2 v W := by
  obtain ⟨a0, len0, cap0, rfl⟩ := okWide_slice ht hv
  obtain ⟨fuel, hf⟩ := h
  have hf2 : DataW.trod enc Try.prog W 0 (fun _ => true) true fuel t [.slice a0 len0 cap0] = some (d, p) := hf
  rcases Go.Deep.open_slice_pairs ht he ce o0 o1 c0 c1 hf2 with ⟨hcs, _⟩ | ⟨a, len, cap, m, n, V0, V1, D0, D1, P0, P1, hcs, hb, hl, hm, hmm, _, hall⟩
  · simp only [List.cons.injEq, Value.slice.injEq, and_true] at hcs
    obtain ⟨rfl, rfl, rfl⟩ := hcs
    exact ⟨[], none, 0, rfl, Nat.zero_le _, fun h => absurd h (by simp)⟩
  · simp only [List.cons.injEq, Value.slice.injEq, and_true] at hcs
    obtain ⟨rfl, rfl, rfl⟩ := hcs
    have hlm : len0 ≤ m := by rw [hmm]; simp; exact hl
    have hfs : ((List.range len0).map fun i => (intOf (V0 i), intOf (V1 i))).length = len0 := by simp
    refine ⟨(List.range len0).map fun i => (intOf (V0 i), intOf (V1 i)), some a, cap0, by rw [hfs], by rw [hfs]; omega, fun hpos => ?_⟩
    rw [hfs] at hpos
    obtain ⟨b, off, spot⟩ := a
    have hspot : spot = none := by
      have := World.cell?_spot (hall 0 (by omega)).1
      simpa [Addr.add] using this
    subst hspot
    refine ⟨b, off, rfl, ?_, fun i hi => ?_⟩
    · have := World.block_lt_of_cell? W _ (hall 0 (by omega)).1
      simpa [Addr.add] using this
    · rw [hfs] at hi
      obtain ⟨h0, h1, t0, t1⟩ := hall i (by omega)
      obtain ⟨x, hx, _, hw⟩ := DataW.trod_int u0 t0
      obtain ⟨y, hy, _, hw1⟩ := DataW.trod_int u1 t1
      simp only [List.cons.injEq, and_true] at hx hy
      rw [hx] at h0
      rw [hy] at h1
      rw [addr_plain] at h0 h1
      simp only [List.getElem_map, List.getElem_range, hx, hy, intOf]
      exact ⟨h0, by rw [← Nat.add_assoc] at h1; exact h1, hw, hw1⟩
end Arg
end Go.Proofs.Ytklgdllllboipaa
