/- The document's own writer of bits (layer 6) in memory as plain data, and what each of its calls does. -/
import Derived.Test.YtblfhmajonnceaaBitBack
import Derived.Deep.AppendLies
import Derived.Deep.RegionLaw
namespace Go.Proofs.Ytblfhmajonnceaa
open Go.RowKit
namespace Bit
open Dsk Ob
set_option linter.unusedVariables false

/-- A row of yes and no. -/
abbrev boolCells (L : List Bool) : List Value := L.map Value.bool
structure RwM (T : TypeId) (w : World) (S : Nat → Prop) (q : Nat) (L : List Bool) (v : Value) : Prop where
  cell : w.heap[q]? = some (.cells #[v] T (0, 0))
  row : w.ownsRow 0 4 1 v L.length (boolCells L)
  s_q : S q
  s_v : ∀ b, v.ownBlock = some b → S b
  lt : ∀ b, S b → b < w.heap.size
/-- The document's writer at block q, of blocks S, holds the bits L. -/
def IsRW (w : World) (S : Nat → Prop) (q : Nat) (L : List Bool) : Prop := ∃ v, RwM 28 w S q L v
theorem objRW (q : Nat) (L : List Bool) : Thing (fun w S => IsRW w S q L) where
  kept := fun w w' S ⟨v, h⟩ hk hs => ⟨v, { h with cell := (hk q h.s_q).trans h.cell, row := ownsRow_kept h.row fun b hb => hk b (h.s_v b hb), lt := fun b hb => Nat.lt_of_lt_of_le (h.lt b hb) hs }⟩
  lt := fun _ _ ⟨_, h⟩ => h.lt
theorem infoBool : (Try.prog.info? 4).map (fun i => (i.zero, i.size, i.bytes)) = some (some (.bool false), 1, 1) := by kernel_rfl
theorem ne_of_bool {T : TypeId} (hT : T ≠ 4) {w : World} {q g : Nat} {c d : Array Value} {f k : Nat × Nat} (h1 : w.heap[q]? = some (.cells c T f)) (h2 : w.heap[g]? = some (.cells d 4 k)) : g ≠ q := by
  rintro rfl
  rw [h1] at h2
  simp at h2
  exact hT h2.2.1
theorem own_block_of {w : World} {e : TypeId} {v : Value} {n : Nat} {xs : List Value} {g : Nat} (h : w.ownsRow 0 e 1 v n xs) (hg : v.ownBlock = some g) : ∃ c, w.heap[g]? = some (.cells c e (0, 0)) := by
  rcases h.2 with ⟨hv, _⟩ | ⟨g', cap', cur, hv, _, hgg, _⟩
  · rw [hv] at hg; cases hg
  · rw [hv] at hg; cases hg; exact ⟨_, hgg⟩
/-- One bit more: append, and the store into the field. -/
theorem RwM.more {T : TypeId} (hT : T ≠ 4) {w w' : World} {S : Nat → Prop} {q g cap : Nat} {L : List Bool} {v : Value} {o : Obj} {b : Bool} (h : RwM T w S q L v)
    (hown : w'.ownsRow 0 4 1 (.slice (some ⟨g, 0, none⟩) (L.length + 1) cap) (L.length + 1) (boolCells L ++ [.bool b])) (hg : (w.alloc o).grownBy w' v.ownBlock) (hS : v.ownBlock = some g ∨ g = w.heap.size + 1) :
    w'.heap[q]? = some (.cells #[v] T (0, 0)) ∧ ∀ w2, w2 = w'.setCell ⟨q, 0, none⟩ (.slice (some ⟨g, 0, none⟩) (L.length + 1) cap) → ObjStep (fun w S => ∃ v, RwM T w S q (L ++ [b]) v) S w w2 := by
  have hvq : some q ≠ v.ownBlock := by
    intro e3
    obtain ⟨c, hc⟩ := own_block_of h.row e3.symm
    exact ne_of_bool hT h.cell hc rfl
  have hql : q < w.heap.size := h.lt q h.s_q
  have hq : w'.heap[q]? = some (.cells #[v] T (0, 0)) := by
    rw [hg.block q (by simp; omega) hvq, Below.heap_alloc _ _ _ hql]; exact h.cell
  obtain ⟨c, hgc⟩ := own_block_of hown rfl
  have hgq : g ≠ q := ne_of_bool hT hq hgc
  have hgl : g < w'.heap.size := (Array.getElem?_eq_some_iff.1 hgc).1
  have hws : w.heap.size ≤ w'.heap.size := by have := hg.size; simp at this; omega
  have hSn : S g ∨ w.heap.size ≤ g := hS.elim (fun e => .inl (h.s_v g e)) (fun e => .inr (by omega))
  refine ⟨hq, fun w2 e2 => ?_⟩
  subst e2
  refine ⟨⟨fun x => S x ∨ x = g, ⟨.slice (some ⟨g, 0, none⟩) (L.length + 1) cap, ?_, ?_, .inl h.s_q, ?_, ?_⟩, fun x hx => .inl hx, fun x hx => ?_⟩, ?_⟩
  · simp [World.setCell, Array.getElem?_modify, hq]
  · rw [show (L ++ [b]).length = L.length + 1 from List.length_append, show boolCells (L ++ [b]) = boolCells L ++ [.bool b] by simp [boolCells]]
    exact ownsRow_kept hown fun x hx => Below.heap_setCell _ _ _ _ fun e3 => hgq ((Option.some.inj hx).trans e3)
  · intro x hx; exact .inr (Option.some.inj hx).symm
  · intro x hx
    have : (w'.setCell ⟨q, 0, none⟩ (.slice (some ⟨g, 0, none⟩) (L.length + 1) cap)).heap.size = w'.heap.size := by simp [World.setCell]
    rw [this]
    rcases hx with h2 | h2
    · exact Nat.lt_of_lt_of_le (h.lt x h2) hws
    · rw [h2]; exact hgl
  · rcases hx with h2 | h2
    · exact .inl h2
    · rw [h2]; exact hSn
  · exact (((Upon.refl S w).alloc o).grown hg (fun k hk => .inl (h.s_v k hk))).setCell (p := ⟨q, 0, none⟩) (.inl h.s_q) _
theorem step_of_drew {I : Rel} {S : Nat → Prop} {w w' : World} (h : ObjStep I S w.drew w') : ObjStep I S w w' := ⟨h.obj, ⟨h.upon.os, h.upon.tape, h.upon.output, h.upon.size, h.upon.block⟩⟩
theorem bit_eq (v j : Nat) : ((((v : Int) / 2 ^ j).tmod 2) == 1) = v.testBit j := by
  rw [Int.tmod_eq_emod_of_nonneg (Int.ediv_nonneg (Int.natCast_nonneg _) (Int.le_of_lt (Int.pow_pos (by decide))))]
  rw [Nat.testBit_eq_decide_div_mod_eq]
  have e : ((v : Int) / 2 ^ j % 2) = ((v / 2 ^ j % 2 : Nat) : Int) := by rw [Int.natCast_emod, Int.natCast_ediv, Int.natCast_pow]; rfl
  rw [e]
  by_cases h : v / 2 ^ j % 2 = 1
  · rw [h]; rfl
  · rw [decide_eq_false h, beq_eq_false_iff_ne]; omega

set_option maxHeartbeats 3200000 in
theorem refput_m (S : Nat → Prop) (q : Nat) (L : List Bool) (v : Nat) (n : Int) (m : Nat) (w : World) (h : IsRW w S q L) (hL : L.length ≤ 90000000000000) (hv : v < 18446744073709551616) (hm : max 0 (min n 64) = (m : Int)) (hm2 : m ≤ 64) :
    Calls Try.prog 9 #[.pointer (some ⟨q, 0, none⟩), .int .u64 (v : Int), .int .i64 n] w fun e w' => e = .returned (.tuple #[]) ∧ ObjStep (fun w S => IsRW w S q (L ++ bitsOf v m)) S w w' := by
  replace hL := Lib.hid hL
  have h0 : Hid (ObjStep (fun w S => IsRW w S q (L ++ (bitsOf v m).take (m - m))) S w w) := Lib.hid (by rw [Nat.sub_self, List.take_zero, List.append_nil]; exact ObjStep.refl (I := fun w S => IsRW w S q L) h)
  clear h
  have hv0 := Lib.hid hv
  clear hv
  obtain ⟨i0, hi, hz0, hz1, hz2⟩ := info_parts infoBool
  go_enter Try.func9, Try.ntmps9
  go_wp2_with fail
  all_goals
    go_loopw [6] (fun i wr => ∃ j : Nat, j ≤ m ∧ i = .int .i64 ((j : Int) - 1) ∧ ObjStep (fun w S => IsRW w S q (L ++ (bitsOf v m).take (m - j))) S w wr) (fun i _ => (intOf i + 1).toNat)
    case atStart => exact ⟨m, Nat.le_refl _, by congr 1; omega, h0.out⟩
    case round =>
      obtain ⟨j, hj, rfl, hst⟩ := hrel
      cases j with
      | zero =>
        have hs3 : Hid (ObjStep (fun w S => IsRW w S q (L ++ bitsOf v m)) S w wr) := Lib.hid (by
          rwa [Nat.sub_zero, List.take_of_length_le (by rw [bitsOf_length]; exact Nat.le_refl _)] at hst)
        clear hst h0
        rw [show ((0 : Nat) : Int) - 1 = -1 by rfl]
        go_wp2_with fail
        go_end0
        exact ⟨rfl, hs3.out⟩
      | succ j =>
        rw [show (((j + 1 : Nat)) : Int) - 1 = (j : Int) by omega]
        have hsn := bitsOf_snoc v m (m - (j + 1)) (by omega)
        rw [show m - (j + 1) + 1 = m - j by omega, show m - 1 - (m - (j + 1)) = j by omega] at hsn
        replace hsn := Lib.hid hsn
        obtain ⟨S', ⟨rv, hw⟩, hgo⟩ := hst.get
        replace hgo := Lib.hid hgo
        have hlen : Hid ((L ++ (bitsOf v m).take (m - (j + 1))).length ≤ 100000000000000) := Lib.hid (by
          have := hL.out
          rw [List.length_append, List.length_take, bitsOf_length]; omega)
        have hbit := bit_eq v j
        have k0 : wr.cell? ⟨q, 0, none⟩ = some rv := by rw [Lib.cell_of_heap hw.cell]; rfl
        have c0a := fun (o : Obj) => (World.cell?_alloc_lt wr o ⟨q, 0, none⟩ (hw.lt q hw.s_q)).trans k0
        replace hw := Lib.hid hw
        clear hst
        have hsn2 : Hid (L ++ (bitsOf v m).take (m - j) = (L ++ (bitsOf v m).take (m - (j + 1))) ++ [v.testBit j]) := Lib.hid (by rw [hsn.out, List.append_assoc])
        clear hsn
        generalize L ++ (bitsOf v m).take (m - (j + 1)) = M at *
        go_wp2_with fail
        go_region_law (first
          | (refine step_append_lies (o := ⟨some 26, _, _, _, _, _⟩) _ (by rfl) _ _ _ (by rfl) 0 4 i0 (.bool false) 1 1 Try.underlying26 hi hz0 hz1 hz2 rfl (by omega) _ M.length (boolCells M) (by rfl) (ownsRow_kept hw.out.row (fun b hb => Below.heap_alloc _ _ _ (hw.out.row.lt b hb).2)) ⟨wr.heap.size, 0, none⟩ 1 1 [_] (by rfl) rfl (World.news_of_block (cell_new _ _)) (by simp [Value.oneCell']) (by omega) (by have := hlen.out; unfold maxLen; omega) (by have := hlen.out; omega) (by omega) _ rfl ?_
             intro g cap w2 hown hgrow hat hlt
             obtain ⟨hq1, hst2⟩ := RwM.more (T := 28) (by decide) (w := wr) (b := v.testBit j) hw.out hown ⟨hgrow.os, hgrow.tape, hgrow.output, hgrow.size, hgrow.block⟩ (hat.imp id (fun e => by simpa using e))
             have d0 : w2.cell? ⟨q, 0, none⟩ = some rv := by rw [Lib.cell_of_heap hq1]; rfl
             have f0 := Lib.frozen_of_heap hq1 0
             have HG := Lib.hid (fun w3 e => hgo.out _ _ (hst2 w3 e))
             clear hown hgrow hat hlt hq1 hst2))
        all_goals
          go_wp2_with fail
          go_roundw
          case rel => exact ⟨j, by omega, rfl, by rw [hsn2.out]; exact HG.out _ rfl⟩
          case measure => simp [intOf]; try omega
/-- Put, as the document says it. -/
theorem refput_any (S : Nat → Prop) (q : Nat) (L : List Bool) (v : Nat) (n : Int) (w : World) (h : IsRW w S q L) (hL : L.length ≤ 90000000000000) (hv : v < 18446744073709551616) :
    Calls Try.prog 9 #[.pointer (some ⟨q, 0, none⟩), .int .u64 (v : Int), .int .i64 n] w fun e w' => e = .returned (.tuple #[]) ∧ ObjStep (fun w S => IsRW w S q (L ++ bitsOf v (cnt n))) S w w' :=
  refput_m S q L v n (cnt n) w h hL hv (by unfold cnt; omega) (by unfold cnt; omega)
end Bit
end Go.Proofs.Ytblfhmajonnceaa
