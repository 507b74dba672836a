/- A row of texts, a row of yes and no among the arguments: opened at each index. -/
import Derived.Test.YtlgjbdfnhaoloaaGreatDoorPDisk3
import Derived.Deep.Strs
import Derived.Deep.Grids
import Derived.SizedLaws
namespace Go.Proofs.YtlgjbdfnhaoloaaGreatDoor
open Go.RowKit Go.ChangeShapes Go.WideShapes
namespace Dsk

/-- A row of texts lies there: in block b, from some place on. -/
def StrsAt (w : World) (v : Value) (ss : List ByteArray) (b : Nat) : Prop :=
  ∃ a c, v = .slice a ss.length c ∧ ss.length ≤ maxLen ∧ (ss ≠ [] → ∃ o, a = some ⟨b, o, none⟩ ∧ ∀ j s, ss[j]? = some s → w.cell? ⟨b, o + j, none⟩ = some (.string s) ∧ s.size ≤ maxLen)
def BoolsAt (w : World) (v : Value) (bs : List Bool) (b : Nat) : Prop :=
  ∃ a c, v = .slice a bs.length c ∧ bs.length ≤ maxLen ∧ (bs ≠ [] → ∃ o, a = some ⟨b, o, none⟩ ∧ ∀ j x, bs[j]? = some x → w.cell? ⟨b, o + j, none⟩ = some (.bool x))
theorem StrsAt.kept {w w' : World} {v : Value} {ss : List ByteArray} {b : Nat} (h : StrsAt w v ss b) (hk : w'.heap[b]? = w.heap[b]?) : StrsAt w' v ss b := by
  obtain ⟨a, c, h1, h2, h3⟩ := h
  refine ⟨a, c, h1, h2, fun hn => ?_⟩
  obtain ⟨o, h4, h5⟩ := h3 hn
  exact ⟨o, h4, fun j s hj => ⟨(World.cell?_of_block (w := w) (a := ⟨b, o + j, none⟩) hk).trans (h5 j s hj).1, (h5 j s hj).2⟩⟩
theorem BoolsAt.kept {w w' : World} {v : Value} {bs : List Bool} {b : Nat} (h : BoolsAt w v bs b) (hk : w'.heap[b]? = w.heap[b]?) : BoolsAt w' v bs b := by
  obtain ⟨a, c, h1, h2, h3⟩ := h
  refine ⟨a, c, h1, h2, fun hn => ?_⟩
  obtain ⟨o, h4, h5⟩ := h3 hn
  exact ⟨o, h4, fun j s hj => (World.cell?_of_block (w := w) (a := ⟨b, o + j, none⟩) hk).trans (h5 j s hj)⟩
def IsStrs (v : Value) (W : World) : Prop := ∃ ss b, StrsAt W v ss b ∧ (ss ≠ [] → b < W.heap.size)
def IsBools (v : Value) (W : World) : Prop := ∃ bs b, BoolsAt W v bs b ∧ (bs ≠ [] → b < W.heap.size)

set_option maxRecDepth 100000 in
theorem open_texts {H : Type} {enc : TypeId × Value → H} {W : World} {base : Nat} {v : Value} {d : DataW H} {p : List MemPlace} (hv : Value.okWide Tryz.prog W .any base 22 v)
    (h : DataW.Trod enc Tryz.prog W 0 (fun _ => true) true 22 v d p) : IsStrs v W := by
  obtain ⟨a0, len0, cap0, rfl⟩ := okWide_slice Tryz.underlying22 hv
  obtain ⟨fuel, hf⟩ := h
  have hf2 : DataW.trod enc Tryz.prog W 0 (fun _ => true) true fuel 22 [.slice a0 len0 cap0] = some (d, p) := hf
  rcases Go.Deep.open_strs Tryz.underlying22 Tryz.underlying9 (by kernel_rfl) hf2 with ⟨hcs, _⟩ | ⟨a, len, cap, m, Sx, hcs, hb, hl, hm, hmm, _, hcell⟩
  · simp only [List.cons.injEq, Value.slice.injEq, and_true] at hcs
    obtain ⟨rfl, rfl, rfl⟩ := hcs
    exact ⟨[], 0, ⟨none, 0, rfl, Nat.zero_le _, fun h => absurd rfl h⟩, fun h => absurd rfl h⟩
  · simp only [List.cons.injEq, Value.slice.injEq, and_true] at hcs
    obtain ⟨rfl, rfl, rfl⟩ := hcs
    simp only [if_true] at hmm
    subst hmm
    obtain ⟨b, off, spot⟩ := a
    have hL : ((List.range len0).map Sx).length = len0 := by simp
    by_cases h0 : len0 = 0
    · subst h0
      exact ⟨[], b, ⟨_, _, rfl, Nat.zero_le _, fun h => absurd rfl h⟩, fun h => absurd rfl h⟩
    have hspot : spot = none := by
      have := World.cell?_spot (hcell 0 (by omega)).1
      simpa [Addr.add] using this
    subst hspot
    refine ⟨(List.range len0).map Sx, b, ⟨_, _, by rw [hL], by rw [hL]; omega, fun _ => ⟨off, rfl, fun j s hj => ?_⟩⟩, fun _ => ?_⟩
    · have hj' := (List.getElem?_eq_some_iff.1 hj).1
      rw [hL] at hj'
      have e : (⟨b, off, none⟩ : Addr).add j = ⟨b, off + j, none⟩ := by unfold Addr.add; split <;> simp_all
      have hc := hcell j (by omega)
      rw [e] at hc
      have hs : Sx j = s := by simpa [hj'] using hj
      rw [hs] at hc
      exact hc
    · have := World.block_lt_of_cell? W _ (hcell 0 (by omega)).1
      simpa [Addr.add] using this
set_option maxRecDepth 100000 in
theorem open_yesno {H : Type} {enc : TypeId × Value → H} {W : World} {base : Nat} {v : Value} {d : DataW H} {p : List MemPlace} (hv : Value.okWide Tryz.prog W .any base 23 v)
    (h : DataW.Trod enc Tryz.prog W 0 (fun _ => true) true 23 v d p) : IsBools v W := by
  obtain ⟨a0, len0, cap0, rfl⟩ := okWide_slice Tryz.underlying23 hv
  obtain ⟨fuel, hf⟩ := h
  have hf2 : DataW.trod enc Tryz.prog W 0 (fun _ => true) true fuel 23 [.slice a0 len0 cap0] = some (d, p) := hf
  rcases Go.Deep.open_bools Tryz.underlying23 Tryz.underlying4 (by kernel_rfl) hf2 with ⟨hcs, _⟩ | ⟨a, len, cap, Sx, hcs, hb, hl, hm, _, hcell⟩
  · simp only [List.cons.injEq, Value.slice.injEq, and_true] at hcs
    obtain ⟨rfl, rfl, rfl⟩ := hcs
    exact ⟨[], 0, ⟨none, 0, rfl, Nat.zero_le _, fun h => absurd rfl h⟩, fun h => absurd rfl h⟩
  · simp only [List.cons.injEq, Value.slice.injEq, and_true] at hcs
    obtain ⟨rfl, rfl, rfl⟩ := hcs
    obtain ⟨b, off, spot⟩ := a
    have hL : ((List.range len0).map Sx).length = len0 := by simp
    by_cases h0 : len0 = 0
    · subst h0
      exact ⟨[], b, ⟨_, _, rfl, Nat.zero_le _, fun h => absurd rfl h⟩, fun h => absurd rfl h⟩
    have hspot : spot = none := by
      have := World.cell?_spot (hcell 0 (by omega))
      simpa [Addr.add] using this
    subst hspot
    refine ⟨(List.range len0).map Sx, b, ⟨_, _, by rw [hL], by rw [hL]; omega, fun _ => ⟨off, rfl, fun j s hj => ?_⟩⟩, fun _ => ?_⟩
    · have hj' := (List.getElem?_eq_some_iff.1 hj).1
      rw [hL] at hj'
      have e : (⟨b, off, none⟩ : Addr).add j = ⟨b, off + j, none⟩ := by unfold Addr.add; split <;> simp_all
      have hc := hcell j (by omega)
      rw [e] at hc
      have hs : Sx j = s := by simpa [hj'] using hj
      rw [hs] at hc
      exact hc
    · have := World.block_lt_of_cell? W _ (hcell 0 (by omega))
      simpa [Addr.add] using this
/-! ### numbers, with the reach of a size -/
def IsIntsZ (v : Value) (W : World) : Prop := ∃ ks db, KeepAt W v ks db ∧ (ks ≠ [] → db < W.heap.size) ∧ ks.length * 8 ≤ 140737488355328
set_option maxRecDepth 100000 in
theorem open_keepz {H : Type} {enc : TypeId × Value → H} {W : World} {base : Nat} {v : Value} {d : DataW H} {p : List MemPlace} (hv : Value.okWide Tryz.prog W .any base 24 v)
    (h : DataW.Trod enc Tryz.prog W 0 (fun _ => true) true 24 v d p)
    (hz : ∀ e s, d = .slice e s → (e.length + s.length) * Tryz.prog.bytesOf 3 ≤ reachBytes) : IsIntsZ v W := by
  obtain ⟨a0, len0, cap0, rfl⟩ := okWide_slice Tryz.underlying24 hv
  obtain ⟨fuel, hf⟩ := h
  have hf2 : DataW.trod enc Tryz.prog W 0 (fun _ => true) true fuel 24 [.slice a0 len0 cap0] = some (d, p) := hf
  rcases open_ints Tryz.underlying24 Tryz.underlying3 (by kernel_rfl) hf2 with ⟨hcs, _⟩ | ⟨a, len, cap, zs, hcs, hb, hl, hm, hzl, hx, hcell, hwf⟩
  · simp only [List.cons.injEq, Value.slice.injEq, and_true] at hcs
    obtain ⟨rfl, rfl, rfl⟩ := hcs
    exact ⟨[], 0, KeepAt.nil _ _, fun h => absurd rfl h, by simp⟩
  · simp only [List.cons.injEq, Value.slice.injEq, and_true] at hcs
    obtain ⟨rfl, rfl, rfl⟩ := hcs
    simp only [if_true] at hzl
    have hkl : (zs.take len0).length = len0 := by simp; omega
    obtain ⟨b, off, spot⟩ := a
    by_cases h0 : len0 = 0
    · subst h0
      exact ⟨[], b, ⟨_, _, rfl, Nat.zero_le _, hm, fun h => absurd rfl h⟩, fun h => absurd rfl h, by simp⟩
    have hspot : spot = none := by
      have := World.cell?_spot (hcell 0 (by omega))
      simpa [Addr.add] using this
    subst hspot
    have hcell' : ∀ j x, (zs.take len0)[j]? = some x → W.cell? ⟨b, off + j, none⟩ = some (.int .i64 x) ∧ -9223372036854775808 ≤ x ∧ x ≤ 9223372036854775807 := by
      intro j x hx
      have hj := (List.getElem?_eq_some_iff.1 hx).1
      rw [hkl] at hj
      have hc := hcell j (by omega)
      have e : (⟨b, off, none⟩ : Addr).add j = ⟨b, off + j, none⟩ := by unfold Addr.add; split <;> simp_all
      rw [e] at hc
      have hxz : zs[j]? = some x := by
        rw [List.getElem?_take_of_lt hj] at hx; exact hx
      have hz : zs.getD j 0 = x := by rw [List.getD_eq_getElem?_getD, hxz]; rfl
      rw [hz] at hc
      have hw := hwf x (List.mem_of_getElem? hxz)
      simp [Lit.wf, IntKind.min, IntKind.max, IntKind.signed, IntKind.bits] at hw
      exact ⟨hc, by omega, by omega⟩
    refine ⟨zs.take len0, b, ⟨_, _, by rw [hkl], by rw [hkl]; exact hl, hm, fun _ => ⟨off, rfl, hcell'⟩⟩, fun _ => ?_, ?_⟩
    · have := World.block_lt_of_cell? W _ (hcell 0 (by omega))
      simpa [Addr.add] using this
    · have h8 : Tryz.prog.bytesOf 3 = 8 := by kernel_rfl
      have hr : reachBytes = 140737488351232 := rfl
      simp only [Prod.mk.injEq] at hx
      have := hz _ _ hx.1
      rw [h8, hr] at this
      simp only [lits, List.length_map, List.length_take, List.length_drop] at this
      rw [hkl]; omega

/-- append([]int{}, v...): a copy in a block of its own. -/
theorem run_copyz (w : World) (g : Nat) (hg : w.heap[g]? = some (.cells #[] 3 (0, 0))) (v : Value) (ks : List Int) (db : Nat) (hk : KeepAt w v ks db) (hlen : ks.length * 8 ≤ 140737488355328) (ty : TypeId) :
    ∃ v' db' w', (Builtin.append_ #[24, 24] ty #[.slice (some ⟨g, 0, none⟩) 0 0, v]).run Tryz.prog w = .ok v' w' ∧ KeepAt w' v' ks db' ∧ Upon (fun _ => False) w w' ∧ (ks ≠ [] → w.heap.size ≤ db' ∧ db' < w'.heap.size) := by
  obtain ⟨i0, hi, hz0, hz1, hz2⟩ := info_parts infoInt
  obtain ⟨a, c, rfl, h1, h2, h3⟩ := hk
  cases hks : ks with
  | nil =>
    subst hks
    refine ⟨.slice (some ⟨g, 0, none⟩) 0 0, g, w, ?_, ⟨_, _, rfl, Nat.le_refl _, Nat.zero_le _, fun h => absurd rfl h⟩, Upon.refl _ _, fun h => absurd rfl h⟩
    cases a with
    | none => simp [Builtin.append_, run_underlying Tryz.underlying24, sizeOf, typeInfo, hi, Builtin.lenOf, Builtin.firstCells, loadCells, loadCellsFrom, storeCells]
    | some a => simp [Builtin.append_, run_underlying Tryz.underlying24, sizeOf, typeInfo, hi, Builtin.lenOf, Builtin.firstCells, loadCells, loadCellsFrom, storeCells]
  | cons x r =>
    rw [← hks]
    have hn : ks ≠ [] := by rw [hks]; simp
    obtain ⟨o, rfl, hc⟩ := h3 hn
    have hown : w.ownsRow 0 3 1 (.slice (some ⟨g, 0, none⟩) 0 0) 0 [] := ⟨rfl, .inr ⟨g, 0, #[], rfl, Nat.zero_le _, hg, Nat.le_refl _, Nat.zero_le _, rfl, rfl⟩⟩
    have hpos : 0 < ks.length := List.length_pos_iff.2 hn
    have hr := run_append_grow (P := Tryz.prog) w 24 ty 3 i0 (.int .i64 0) Tryz.underlying24 hi hz0 ⟨g, 0, none⟩ 0 0 [] (by simp) (fun j v h => by simp at h) ⟨db, o, none⟩ ks.length c (ks.map (Value.int .i64)) (by simp [hz1]) (fun j v hj => by
      obtain ⟨y, hy, rfl⟩ : ∃ y, ks[j]? = some y ∧ Value.int .i64 y = v := by simpa using hj
      have e : (⟨db, o, none⟩ : Addr).add j = ⟨db, o + j, none⟩ := by unfold Addr.add; split <;> simp_all
      rw [e]; exact (hc j y hy).1) (by omega) (by omega) (by rw [hz2]; exact growslice_fits (by omega) (by omega))
    simp only [Nat.zero_add] at hr
    have hge := grownCap_ge w ks.length 0 3
    have hcm := grownCap_le_maxLen w ks.length 0 3 (by unfold maxLen; omega)
    refine ⟨_, w.heap.size, _, hr, ⟨_, _, rfl, hge, hcm, fun _ => ⟨0, rfl, fun j y hy => ?_⟩⟩, Upon.alloc (Upon.drew (Upon.refl _ w)) _, fun _ => ⟨Nat.le_refl _, by simp⟩⟩
    have hj := (List.getElem?_eq_some_iff.1 hy).1
    refine ⟨?_, (hc j y hy).2⟩
    refine (Lib.cell_of_heap (show (w.drew.alloc _).heap[w.heap.size]? = some _ from cell_new w.drew _) (0 + j)).trans ?_
    rw [Nat.zero_add, Array.empty_append, Array.getElem?_append_left (by simpa using hj)]
    simp [hy]

theorem wpList_copyz (w : World) {ops : Array Oper} {rest : List Oper} {o : Oper} {a : Act} {Q : Exit → Act → World → Prop} (hgd : o.guard = none) (sl x : Operand)
    (ho : o.op = .call { callee := .builtin .append, args := #[sl, x], argTypes := #[24, 24] })
    (g : Nat) (hg : w.heap[g]? = some (.cells #[] 3 (0, 0))) (v : Value) (ks : List Int) (db : Nat) (hs : a.eval sl = .slice (some ⟨g, 0, none⟩) 0 0) (hx : a.eval x = v) (hk : KeepAt w v ks db) (hlen : ks.length * 8 ≤ 140737488355328)
    (hK : ∀ v' db' w', KeepAt w' v' ks db' → Upon (fun _ => False) w w' → (ks ≠ [] → w.heap.size ≤ db' ∧ db' < w'.heap.size) → wpList Tryz.prog ops Q rest (a.put o.dst v') w') : wpList Tryz.prog ops Q (o :: rest) a w := by
  refine wpList_plain hgd fun K hK' => ?_
  obtain ⟨v', db', w', hr, h2, h3, h4⟩ := run_copyz w g hg v ks db hk hlen o.type
  unfold Oper.wp execOp
  simp only [ho, resolve, invoke, builtin, Sem.run_bind, Sem.run_pure, Result.andThen_ok, List.map_toArray, List.map_cons, List.map_nil, hs, hx, hr]
  exact hK' _ _ (hK v' db' w' h2 h3 h4)

end Dsk
end Go.Proofs.YtlgjbdfnhaoloaaGreatDoor
