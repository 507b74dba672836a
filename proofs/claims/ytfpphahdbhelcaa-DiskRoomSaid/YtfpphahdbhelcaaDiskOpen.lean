/- A row of numbers among the arguments, opened and copied; a crash with it (layer 4). -/
import Derived.Test.YtfpphahdbhelcaaDiskWorks
import Derived.ChangeSlices
import Derived.OpenShut
import Derived.Laws.AppendOwn
namespace Go.Proofs.Ytfpphahdbhelcaa
open Go.RowKit Go.ChangeShapes Go.WideShapes
namespace Dsk

def IsInts (v : Value) (W : World) : Prop := ∃ ks db, KeepAt W v ks db ∧ (ks ≠ [] → db < W.heap.size)

set_option maxRecDepth 100000 in
theorem open_keep {H : Type} {enc : TypeId × Value → H} {W : World} {base : Nat} {v : Value} {d : DataW H} {p : List MemPlace} (hv : Value.okWide Try.prog W .any base 27 v)
    (h : DataW.Trod enc Try.prog W 0 (fun _ => true) true 27 v d p) : IsInts v W := by
  obtain ⟨a0, len0, cap0, rfl⟩ := okWide_slice Try.underlying27 hv
  obtain ⟨fuel, hf⟩ := h
  have hf2 : DataW.trod enc Try.prog W 0 (fun _ => true) true fuel 27 [.slice a0 len0 cap0] = some (d, p) := hf
  rcases open_ints Try.underlying27 Try.underlying3 (by kernel_rfl) hf2 with ⟨hcs, _⟩ | ⟨a, len, cap, zs, hcs, hb, hl, hm, hzl, _, hcell, hwf⟩
  · simp only [List.cons.injEq, Value.slice.injEq, and_true] at hcs
    obtain ⟨rfl, rfl, rfl⟩ := hcs
    exact ⟨[], 0, KeepAt.nil _ _, fun h => absurd rfl h⟩
  · simp only [List.cons.injEq, Value.slice.injEq, and_true] at hcs
    obtain ⟨rfl, rfl, rfl⟩ := hcs
    simp only [if_true] at hzl
    have hkl : (zs.take len0).length = len0 := by simp; omega
    obtain ⟨b, off, spot⟩ := a
    by_cases h0 : len0 = 0
    · subst h0
      exact ⟨[], b, ⟨_, _, rfl, Nat.zero_le _, hm, fun h => absurd rfl h⟩, fun h => absurd rfl h⟩
    have hspot : spot = none := by
      have := World.cell?_spot (hcell 0 (by omega))
      simpa [Addr.add] using this
    subst hspot
    have hcell' : ∀ j x, (zs.take len0)[j]? = some x → W.cell? ⟨b, off + j, none⟩ = some (.int .i64 x) ∧ -9223372036854775808 ≤ x ∧ x ≤ 9223372036854775807 := by
      intro j x hx
      have hj := (List.getElem?_eq_some_iff.1 hx).1
      rw [hkl] at hj
      have hc := hcell j (by omega)
      have e : (⟨b, off, none⟩ : Addr).add j = ⟨b, off + j, none⟩ := by unfold Addr.add; split <;> simp_all
      rw [e] at hc
      have hxz : zs[j]? = some x := by
        rw [List.getElem?_take_of_lt hj] at hx; exact hx
      have hz : zs.getD j 0 = x := by rw [List.getD_eq_getElem?_getD, hxz]; rfl
      rw [hz] at hc
      have hw := hwf x (List.mem_of_getElem? hxz)
      simp [Lit.wf, IntKind.min, IntKind.max, IntKind.signed, IntKind.bits] at hw
      exact ⟨hc, by omega, by omega⟩
    refine ⟨zs.take len0, b, ⟨_, _, by rw [hkl], by rw [hkl]; exact hl, hm, fun _ => ⟨off, rfl, hcell'⟩⟩, fun _ => ?_⟩
    have := World.block_lt_of_cell? W _ (hcell 0 (by omega))
    simpa [Addr.add] using this

theorem infoInt : (Try.prog.info? 3).map (fun i => (i.zero, i.size, i.bytes)) = some (some (.int .i64 0), 1, 8) := by kernel_rfl

/-- append([]int{}, v...): a copy in a block of its own. -/
theorem run_copy (w : World) (g : Nat) (hg : w.heap[g]? = some (.cells #[] 3 (0, 0))) (v : Value) (ks : List Int) (db : Nat) (hk : KeepAt w v ks db) (hlen : ks.length ≤ 1000000) (ty : TypeId) :
    ∃ v' db' w', (Builtin.append_ #[27, 27] ty #[.slice (some ⟨g, 0, none⟩) 0 0, v]).run Try.prog w = .ok v' w' ∧ KeepAt w' v' ks db' ∧ Upon (fun _ => False) w w' ∧ (ks ≠ [] → w.heap.size ≤ db' ∧ db' < w'.heap.size) := by
  obtain ⟨i0, hi, hz0, hz1, hz2⟩ := info_parts infoInt
  obtain ⟨a, c, rfl, h1, h2, h3⟩ := hk
  cases hks : ks with
  | nil =>
    subst hks
    refine ⟨.slice (some ⟨g, 0, none⟩) 0 0, g, w, ?_, ⟨_, _, rfl, Nat.le_refl _, Nat.zero_le _, fun h => absurd rfl h⟩, Upon.refl _ _, fun h => absurd rfl h⟩
    cases a with
    | none => simp [Builtin.append_, run_underlying Try.underlying27, sizeOf, typeInfo, hi, Builtin.lenOf, Builtin.firstCells, loadCells, loadCellsFrom, storeCells]
    | some a => simp [Builtin.append_, run_underlying Try.underlying27, sizeOf, typeInfo, hi, Builtin.lenOf, Builtin.firstCells, loadCells, loadCellsFrom, storeCells]
  | cons x r =>
    rw [← hks]
    have hn : ks ≠ [] := by rw [hks]; simp
    obtain ⟨o, rfl, hc⟩ := h3 hn
    have hown : w.ownsRow 0 3 1 (.slice (some ⟨g, 0, none⟩) 0 0) 0 [] := ⟨rfl, .inr ⟨g, 0, #[], rfl, Nat.zero_le _, hg, Nat.le_refl _, Nat.zero_le _, rfl, rfl⟩⟩
    have hpos : 0 < ks.length := List.length_pos_iff.2 hn
    have hr := run_append_grow (P := Try.prog) w 27 ty 3 i0 (.int .i64 0) Try.underlying27 hi hz0 ⟨g, 0, none⟩ 0 0 [] (by simp) (fun j v h => by simp at h) ⟨db, o, none⟩ ks.length c (ks.map (Value.int .i64)) (by simp [hz1]) (fun j v hj => by
      obtain ⟨y, hy, rfl⟩ : ∃ y, ks[j]? = some y ∧ Value.int .i64 y = v := by simpa using hj
      have e : (⟨db, o, none⟩ : Addr).add j = ⟨db, o + j, none⟩ := by unfold Addr.add; split <;> simp_all
      rw [e]; exact (hc j y hy).1) (by omega) (by omega) (by rw [hz2]; exact growslice_fits (by omega) (by omega))
    simp only [Nat.zero_add] at hr
    have hge := grownCap_ge w ks.length 0 3
    have hcm := grownCap_le_maxLen w ks.length 0 3 (by unfold maxLen; omega)
    refine ⟨_, w.heap.size, _, hr, ⟨_, _, rfl, hge, hcm, fun _ => ⟨0, rfl, fun j y hy => ?_⟩⟩, Upon.alloc (Upon.drew (Upon.refl _ w)) _, fun _ => ⟨Nat.le_refl _, by simp⟩⟩
    have hj := (List.getElem?_eq_some_iff.1 hy).1
    refine ⟨?_, (hc j y hy).2⟩
    refine (Lib.cell_of_heap (show (w.drew.alloc _).heap[w.heap.size]? = some _ from cell_new w.drew _) (0 + j)).trans ?_
    rw [Nat.zero_add, Array.empty_append, Array.getElem?_append_left (by simpa using hj)]
    simp [hy]

theorem wpList_copy (w : World) {ops : Array Oper} {rest : List Oper} {o : Oper} {a : Act} {Q : Exit → Act → World → Prop} (hgd : o.guard = none) (sl x : Operand)
    (ho : o.op = .call { callee := .builtin .append, args := #[sl, x], argTypes := #[27, 27] })
    (g : Nat) (hg : w.heap[g]? = some (.cells #[] 3 (0, 0))) (v : Value) (ks : List Int) (db : Nat) (hs : a.eval sl = .slice (some ⟨g, 0, none⟩) 0 0) (hx : a.eval x = v) (hk : KeepAt w v ks db) (hlen : ks.length ≤ 1000000)
    (hK : ∀ v' db' w', KeepAt w' v' ks db' → Upon (fun _ => False) w w' → (ks ≠ [] → w.heap.size ≤ db' ∧ db' < w'.heap.size) → wpList Try.prog ops Q rest (a.put o.dst v') w') : wpList Try.prog ops Q (o :: rest) a w := by
  refine wpList_plain hgd fun K hK' => ?_
  obtain ⟨v', db', w', hr, h2, h3, h4⟩ := run_copy w g hg v ks db hk hlen o.type
  unfold Oper.wp execOp
  simp only [ho, resolve, invoke, builtin, Sem.run_bind, Sem.run_pure, Result.andThen_ok, List.map_toArray, List.map_cons, List.map_nil, hs, hx, hr]
  exact hK' _ _ (hK v' db' w' h2 h3 h4)

/-- A crash with numbers that lie in a block that is none of the disk's. -/
theorem Own.crash {W w w' : World} {p : Nat} {st : St} (h : Own W p st w) (hu : Upon (fun _ => False) w w') {v : Value} {ks : List Int} {db : Nat} (hk : KeepAt w' v ks db) (hdb : ks ≠ [] → w.heap.size ≤ db ∧ db < w'.heap.size) (hz : Small st 0) :
    Calls Try.prog 23 #[.pointer (some ⟨p, 0, none⟩), v] w' fun e w'' => e = .returned (.tuple #[]) ∧ Own W p (Dsk.crash st ks) w'' := by
  obtain ⟨S, h1, h2, h3⟩ := h
  have h0 := Own.grow ⟨S, h1, h2, h3⟩ hu
  have hd : IsDisk w' S p st := h1.upon hu fun _ _ h => h
  exact (crash_any S p st ks v db w' hd hk (fun hn => ⟨(hdb hn).2, fun hS => by have := h1.lt _ hS; have := (hdb hn).1; omega⟩) (fun f hf => by have := hz.file f hf; omega) hz.chs).mono fun e w'' ⟨he, hs⟩ => ⟨he, Own.step h2 h0.below hs⟩
end Dsk
end Go.Proofs.Ytfpphahdbhelcaa
