/- A row of acts of layer 4 among the arguments, opened at each index. -/
import Derived.Test.YtiadjjdmhpabnaaPDisk3
import Derived.Deep.Slices
namespace Go.Proofs.Ytiadjjdmhpabnaa
open Go.RowKit Go.ChangeShapes Go.WideShapes
namespace Dsk
set_option linter.unusedVariables false

/-- An act lies at cell o of block b. -/
def OpAt (W : World) (b o : Nat) : Prop := ∃ (K : Int) (nm nt s : ByteArray) (n : Int) (kv : Value) (ks : List Int) (db : Nat),
  (W.cell? ⟨b, o, none⟩ = some (.int .i64 K) ∧ W.cell? ⟨b, o + 1, none⟩ = some (.string nm) ∧ W.cell? ⟨b, o + 2, none⟩ = some (.string nt) ∧ W.cell? ⟨b, o + 3, none⟩ = some (.string s) ∧ W.cell? ⟨b, o + 4, none⟩ = some (.int .i64 n) ∧ W.cell? ⟨b, o + 5, none⟩ = some kv) ∧
    nm.size ≤ maxLen ∧ nt.size ≤ maxLen ∧ s.size ≤ maxLen ∧ (-9223372036854775808 ≤ K ∧ K ≤ 9223372036854775807) ∧ (-9223372036854775808 ≤ n ∧ n ≤ 9223372036854775807) ∧ KeepAt W kv ks db ∧ (ks ≠ [] → db < W.heap.size)
def IsOps (v : Value) (W : World) : Prop := ∃ (A : Option Addr) (len c : Nat), v = .slice A len c ∧ len ≤ maxLen ∧ (0 < len → ∃ b off, A = some ⟨b, off, none⟩ ∧ b < W.heap.size ∧ ∀ i, i < len → OpAt W b (off + i * 6))

theorem keep_of {H : Type} {enc : TypeId × Value → H} {W : World} {v : Value} {x : DataW H × List MemPlace} {fuel : Nat}
    (hf2 : DataW.trod enc Try.prog W 0 (fun _ => true) true fuel 27 [v] = some x) : IsInts v W := by
  have hv : ∃ a0 len0 cap0, v = .slice a0 len0 cap0 := by
    rcases open_ints Try.underlying27 Try.underlying3 (by kernel_rfl) hf2 with ⟨hcs, _⟩ | ⟨a, len, cap, zs, hcs, _⟩
    · exact ⟨_, _, _, (List.cons.inj hcs).1⟩
    · exact ⟨_, _, _, (List.cons.inj hcs).1⟩
  obtain ⟨a0, len0, cap0, rfl⟩ := hv
  rcases open_ints Try.underlying27 Try.underlying3 (by kernel_rfl) hf2 with ⟨hcs, _⟩ | ⟨a, len, cap, zs, hcs, hb, hl, hm, hzl, _, hcell, hwf⟩
  · simp only [List.cons.injEq, Value.slice.injEq, and_true] at hcs
    obtain ⟨rfl, rfl, rfl⟩ := hcs
    exact ⟨[], 0, KeepAt.nil _ _, fun h => absurd rfl h⟩
  · simp only [List.cons.injEq, Value.slice.injEq, and_true] at hcs
    obtain ⟨rfl, rfl, rfl⟩ := hcs
    simp only [if_true] at hzl
    have hkl : (zs.take len0).length = len0 := by simp; omega
    obtain ⟨b, off, spot⟩ := a
    by_cases h0 : len0 = 0
    · subst h0
      exact ⟨[], b, ⟨_, _, rfl, Nat.zero_le _, hm, fun h => absurd rfl h⟩, fun h => absurd rfl h⟩
    have hspot : spot = none := by
      have := World.cell?_spot (hcell 0 (by omega))
      simpa [Addr.add] using this
    subst hspot
    have hcell' : ∀ j x, (zs.take len0)[j]? = some x → W.cell? ⟨b, off + j, none⟩ = some (.int .i64 x) ∧ -9223372036854775808 ≤ x ∧ x ≤ 9223372036854775807 := by
      intro j x hx
      have hj := (List.getElem?_eq_some_iff.1 hx).1
      rw [hkl] at hj
      have hc := hcell j (by omega)
      have e : (⟨b, off, none⟩ : Addr).add j = ⟨b, off + j, none⟩ := by unfold Addr.add; split <;> simp_all
      rw [e] at hc
      have hxz : zs[j]? = some x := by
        rw [List.getElem?_take_of_lt hj] at hx; exact hx
      have hz : zs.getD j 0 = x := by rw [List.getD_eq_getElem?_getD, hxz]; rfl
      rw [hz] at hc
      have hw := hwf x (List.mem_of_getElem? hxz)
      simp [Lit.wf, IntKind.min, IntKind.max, IntKind.signed, IntKind.bits] at hw
      exact ⟨hc, by omega, by omega⟩
    refine ⟨zs.take len0, b, ⟨_, _, by rw [hkl], by rw [hkl]; exact hl, hm, fun _ => ⟨off, rfl, hcell'⟩⟩, fun _ => ?_⟩
    have := World.block_lt_of_cell? W _ (hcell 0 (by omega))
    simpa [Addr.add] using this
theorem lit_i64 {x : Int} (h : (Lit.int .i64 x).wf = true) : -9223372036854775808 ≤ x ∧ x ≤ 9223372036854775807 := by
  simp [Lit.wf, IntKind.min, IntKind.max, IntKind.signed, IntKind.bits] at h
  exact ⟨by omega, by omega⟩

set_option maxRecDepth 100000 in
theorem open_acts {H : Type} {enc : TypeId × Value → H} {W : World} {base : Nat} {v : Value} {d : DataW H} {p : List MemPlace} (hv : Value.okWide Try.prog W .any base 22 v)
    (h : DataW.Trod enc Try.prog W 0 (fun _ => true) true 22 v d p) : IsOps v W := by
  obtain ⟨a0, len0, cap0, rfl⟩ := okWide_slice Try.underlying22 hv
  obtain ⟨fuel, hf⟩ := h
  have hf2 : DataW.trod enc Try.prog W 0 (fun _ => true) true fuel 22 [.slice a0 len0 cap0] = some (d, p) := hf
  have ce : Try.prog.cellsOf 29 = 6 := by kernel_rfl
  have ci : Try.prog.cellsOf 3 = 1 := by kernel_rfl
  have cs : Try.prog.cellsOf 9 = 1 := by kernel_rfl
  have ck : Try.prog.cellsOf 27 = 1 := by kernel_rfl
  rcases Go.Deep.open_slice Try.underlying22 hf2 with ⟨hcs, _⟩ | ⟨a, len, cap, m, n, D, Pl, hcs, hb, hl, hm, hmm, _, hall⟩
  · simp only [List.cons.injEq, Value.slice.injEq, and_true] at hcs
    obtain ⟨rfl, rfl, rfl⟩ := hcs
    exact ⟨none, 0, 0, rfl, Nat.zero_le _, fun h => absurd h (by simp)⟩
  · simp only [List.cons.injEq, Value.slice.injEq, and_true] at hcs
    obtain ⟨rfl, rfl, rfl⟩ := hcs
    have hlm : len0 ≤ m := by rw [hmm]; simp; exact hl
    have each : ∀ i, i < len0 → ∃ v0 v1 v2 v3 v4 v5 : Value, (∀ j v, [v0, v1, v2, v3, v4, v5][j]? = some v → W.cell? (a.add (i * 6 + j)) = some v) ∧
        (∃ k : Int, v0 = .int .i64 k ∧ (Lit.int .i64 k).wf = true) ∧ (∃ s : ByteArray, v1 = .string s ∧ s.size ≤ maxLen) ∧ (∃ s : ByteArray, v2 = .string s ∧ s.size ≤ maxLen) ∧ (∃ s : ByteArray, v3 = .string s ∧ s.size ≤ maxLen) ∧ (∃ k : Int, v4 = .int .i64 k ∧ (Lit.int .i64 k).wf = true) ∧ IsInts v5 W := by
      intro i hi
      obtain ⟨cs', h1, h2⟩ := hall i (by omega)
      rw [ce] at h1
      obtain ⟨_, hlen, hcell⟩ := World.cells?_some h1
      obtain ⟨xs, k, hk, hxy, _, hxl, hfd⟩ := DataW.trod_struct Try.underlying29 h2
      match xs, hxl, cs', hlen with
      | [y0, y1, y2, y3, y4, y5], _, [v0, v1, v2, v3, v4, v5], _ =>
        have g0 := hfd 0 _ rfl
        have g1 := hfd 1 _ rfl
        have g2 := hfd 2 _ rfl
        have g3 := hfd 3 _ rfl
        have g4 := hfd 4 _ rfl
        have g5 := hfd 5 _ rfl
        simp [ci, cs, ck] at g0 g1 g2 g3 g4 g5
        obtain ⟨k0, e0, _, w0⟩ := DataW.trod_int Try.underlying3 g0
        obtain ⟨s1, e1, _, z1⟩ := DataW.trod_string Try.underlying9 g1
        obtain ⟨s2, e2, _, z2⟩ := DataW.trod_string Try.underlying9 g2
        obtain ⟨s3, e3, _, z3⟩ := DataW.trod_string Try.underlying9 g3
        obtain ⟨k4, e4, _, w4⟩ := DataW.trod_int Try.underlying3 g4
        have hk5 := keep_of g5
        refine ⟨v0, v1, v2, v3, v4, v5, fun j v hj => ?_, ⟨k0, (List.cons.inj e0).1, w0⟩, ⟨s1, (List.cons.inj e1).1, z1⟩, ⟨s2, (List.cons.inj e2).1, z2⟩, ⟨s3, (List.cons.inj e3).1, z3⟩, ⟨k4, (List.cons.inj e4).1, w4⟩, hk5⟩
        have hj6 : j < 6 := (List.getElem?_eq_some_iff.1 hj).1
        have := hcell j hj6
        rw [Go.Deep.add_add] at this
        rw [this]; exact hj
    by_cases h0 : len0 = 0
    · subst h0
      exact ⟨_, 0, cap0, rfl, Nat.zero_le _, fun h => absurd h (by simp)⟩
    obtain ⟨b, off, spot⟩ := a
    have hspot : spot = none := by
      obtain ⟨v0, v1, v2, v3, v4, v5, hc, _⟩ := each 0 (by omega)
      have := World.cell?_spot (hc 0 v0 rfl)
      simpa [Addr.add] using this
    subst hspot
    have e : ∀ j, (⟨b, off, none⟩ : Addr).add j = ⟨b, off + j, none⟩ := fun j => by unfold Addr.add; split <;> simp_all
    refine ⟨_, len0, cap0, rfl, by omega, fun _ => ⟨b, off, rfl, ?_, fun i hi => ?_⟩⟩
    · obtain ⟨v0, v1, v2, v3, v4, v5, hc, _⟩ := each 0 (by omega)
      have := World.block_lt_of_cell? W _ (hc 0 v0 rfl)
      rw [e] at this
      exact this
    · obtain ⟨v0, v1, v2, v3, v4, v5, hc, ⟨k0, rfl, w0⟩, ⟨s1, rfl, z1⟩, ⟨s2, rfl, z2⟩, ⟨s3, rfl, z3⟩, ⟨k4, rfl, w4⟩, ks, db, hk, hdb⟩ := each i hi
      have c0 := hc 0 _ rfl
      have c1 := hc 1 _ rfl
      have c2 := hc 2 _ rfl
      have c3 := hc 3 _ rfl
      have c4 := hc 4 _ rfl
      have c5 := hc 5 _ rfl
      rw [e] at c0 c1 c2 c3 c4 c5
      simp only [← Nat.add_assoc] at c0 c1 c2 c3 c4 c5
      exact ⟨k0, s1, s2, s3, k4, v5, ks, db, ⟨c0, c1, c2, c3, c4, c5⟩, z1, z2, z3, lit_i64 w0, lit_i64 w4, hk, hdb⟩
end Dsk
end Go.Proofs.Ytiadjjdmhpabnaa
