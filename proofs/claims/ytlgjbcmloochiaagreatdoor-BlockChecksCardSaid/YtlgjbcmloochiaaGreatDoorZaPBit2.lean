/- Parts, put together: BitRef, BitRefT, BitWrites, BitRefR, BitRefG, BitReads. -/
import Derived.Test.YtlgjbcmloochiaaGreatDoorZaPBit1
import Derived.Deep.AppendLies
import Derived.Deep.RegionLaw
import Derived.Lib.QuietBelow
set_option maxRecDepth 100000

/- The document's own writer of bits (layer 6) in memory as plain data, and what each of its calls does. -/
section
namespace Go.Proofs.YtlgjbcmloochiaaGreatDoor
open Go.RowKit
namespace Bit
open Dsk Ob
set_option linter.unusedVariables false

/-- A row of yes and no. -/
abbrev boolCells (L : List Bool) : List Value := L.map Value.bool
structure RwM (T : TypeId) (w : World) (S : Nat → Prop) (q : Nat) (L : List Bool) (v : Value) : Prop where
  cell : w.heap[q]? = some (.cells #[v] T (0, 0))
  row : w.ownsRow 0 4 1 v L.length (boolCells L)
  s_q : S q
  s_v : ∀ b, v.ownBlock = some b → S b
  lt : ∀ b, S b → b < w.heap.size
/-- The document's writer at block q, of blocks S, holds the bits L. -/
def IsRW (w : World) (S : Nat → Prop) (q : Nat) (L : List Bool) : Prop := ∃ v, RwM 137 w S q L v
theorem objRW (q : Nat) (L : List Bool) : Thing (fun w S => IsRW w S q L) where
  kept := fun w w' S ⟨v, h⟩ hk hs => ⟨v, { h with cell := (hk q h.s_q).trans h.cell, row := ownsRow_kept h.row fun b hb => hk b (h.s_v b hb), lt := fun b hb => Nat.lt_of_lt_of_le (h.lt b hb) hs }⟩
  lt := fun _ _ ⟨_, h⟩ => h.lt
theorem infoBool : (Tryz.prog.info? 4).map (fun i => (i.zero, i.size, i.bytes)) = some (some (.bool false), 1, 1) := by kernel_rfl
theorem ne_of_bool {T : TypeId} (hT : T ≠ 4) {w : World} {q g : Nat} {c d : Array Value} {f k : Nat × Nat} (h1 : w.heap[q]? = some (.cells c T f)) (h2 : w.heap[g]? = some (.cells d 4 k)) : g ≠ q := by
  rintro rfl
  rw [h1] at h2
  simp at h2
  exact hT h2.2.1
theorem own_block_of {w : World} {e : TypeId} {v : Value} {n : Nat} {xs : List Value} {g : Nat} (h : w.ownsRow 0 e 1 v n xs) (hg : v.ownBlock = some g) : ∃ c, w.heap[g]? = some (.cells c e (0, 0)) := by
  rcases h.2 with ⟨hv, _⟩ | ⟨g', cap', cur, hv, _, hgg, _⟩
  · rw [hv] at hg; cases hg
  · rw [hv] at hg; cases hg; exact ⟨_, hgg⟩
/-- One bit more: append, and the store into the field. -/
theorem RwM.more {T : TypeId} (hT : T ≠ 4) {w w' : World} {S : Nat → Prop} {q g cap : Nat} {L : List Bool} {v : Value} {o : Obj} {b : Bool} (h : RwM T w S q L v)
    (hown : w'.ownsRow 0 4 1 (.slice (some ⟨g, 0, none⟩) (L.length + 1) cap) (L.length + 1) (boolCells L ++ [.bool b])) (hg : (w.alloc o).grownBy w' v.ownBlock) (hS : v.ownBlock = some g ∨ g = w.heap.size + 1) :
    w'.heap[q]? = some (.cells #[v] T (0, 0)) ∧ ∀ w2, w2 = w'.setCell ⟨q, 0, none⟩ (.slice (some ⟨g, 0, none⟩) (L.length + 1) cap) → ObjStep (fun w S => ∃ v, RwM T w S q (L ++ [b]) v) S w w2 := by
  have hvq : some q ≠ v.ownBlock := by
    intro e3
    obtain ⟨c, hc⟩ := own_block_of h.row e3.symm
    exact ne_of_bool hT h.cell hc rfl
  have hql : q < w.heap.size := h.lt q h.s_q
  have hq : w'.heap[q]? = some (.cells #[v] T (0, 0)) := by
    rw [hg.block q (by simp; omega) hvq, Below.heap_alloc _ _ _ hql]; exact h.cell
  obtain ⟨c, hgc⟩ := own_block_of hown rfl
  have hgq : g ≠ q := ne_of_bool hT hq hgc
  have hgl : g < w'.heap.size := (Array.getElem?_eq_some_iff.1 hgc).1
  have hws : w.heap.size ≤ w'.heap.size := by have := hg.size; simp at this; omega
  have hSn : S g ∨ w.heap.size ≤ g := hS.elim (fun e => .inl (h.s_v g e)) (fun e => .inr (by omega))
  refine ⟨hq, fun w2 e2 => ?_⟩
  subst e2
  refine ⟨⟨fun x => S x ∨ x = g, ⟨.slice (some ⟨g, 0, none⟩) (L.length + 1) cap, ?_, ?_, .inl h.s_q, ?_, ?_⟩, fun x hx => .inl hx, fun x hx => ?_⟩, ?_⟩
  · simp [World.setCell, Array.getElem?_modify, hq]
  · rw [show (L ++ [b]).length = L.length + 1 from List.length_append, show boolCells (L ++ [b]) = boolCells L ++ [.bool b] by simp [boolCells]]
    exact ownsRow_kept hown fun x hx => Below.heap_setCell _ _ _ _ fun e3 => hgq ((Option.some.inj hx).trans e3)
  · intro x hx; exact .inr (Option.some.inj hx).symm
  · intro x hx
    have : (w'.setCell ⟨q, 0, none⟩ (.slice (some ⟨g, 0, none⟩) (L.length + 1) cap)).heap.size = w'.heap.size := by simp [World.setCell]
    rw [this]
    rcases hx with h2 | h2
    · exact Nat.lt_of_lt_of_le (h.lt x h2) hws
    · rw [h2]; exact hgl
  · rcases hx with h2 | h2
    · exact .inl h2
    · rw [h2]; exact hSn
  · exact (((Upon.refl S w).alloc o).grown hg (fun k hk => .inl (h.s_v k hk))).setCell (p := ⟨q, 0, none⟩) (.inl h.s_q) _
theorem bit_eq (v j : Nat) : ((((v : Int) / 2 ^ j).tmod 2) == 1) = v.testBit j := by
  rw [Int.tmod_eq_emod_of_nonneg (Int.ediv_nonneg (Int.natCast_nonneg _) (Int.le_of_lt (Int.pow_pos (by decide))))]
  rw [Nat.testBit_eq_decide_div_mod_eq]
  have e : ((v : Int) / 2 ^ j % 2) = ((v / 2 ^ j % 2 : Nat) : Int) := by rw [Int.natCast_emod, Int.natCast_ediv, Int.natCast_pow]; rfl
  rw [e]
  by_cases h : v / 2 ^ j % 2 = 1
  · rw [h]; rfl
  · rw [decide_eq_false h, beq_eq_false_iff_ne]; omega

set_option maxHeartbeats 3200000 in
theorem refput_m (S : Nat → Prop) (q : Nat) (L : List Bool) (v : Nat) (n : Int) (m : Nat) (w : World) (h : IsRW w S q L) (hL : L.length ≤ 90000000000000) (hv : v < 18446744073709551616) (hm : max 0 (min n 64) = (m : Int)) (hm2 : m ≤ 64) :
    Calls Tryz.prog 118 #[.pointer (some ⟨q, 0, none⟩), .int .u64 (v : Int), .int .i64 n] w fun e w' => e = .returned (.tuple #[]) ∧ ObjStep (fun w S => IsRW w S q (L ++ bitsOf v m)) S w w' := by
  replace hL := Lib.hid hL
  have h0 : Hid (ObjStep (fun w S => IsRW w S q (L ++ (bitsOf v m).take (m - m))) S w w) := Lib.hid (by rw [Nat.sub_self, List.take_zero, List.append_nil]; exact ObjStep.refl (I := fun w S => IsRW w S q L) h)
  clear h
  have hv0 := Lib.hid hv
  clear hv
  obtain ⟨i0, hi, hz0, hz1, hz2⟩ := info_parts infoBool
  go_enter Tryz.func118, Tryz.ntmps118
  go_wp2_with fail
  all_goals
    go_loopw [6] (fun i wr => ∃ j : Nat, j ≤ m ∧ i = .int .i64 ((j : Int) - 1) ∧ ObjStep (fun w S => IsRW w S q (L ++ (bitsOf v m).take (m - j))) S w wr) (fun i _ => (intOf i + 1).toNat)
    case atStart => exact ⟨m, Nat.le_refl _, by congr 1; omega, h0.out⟩
    case round =>
      obtain ⟨j, hj, rfl, hst⟩ := hrel
      cases j with
      | zero =>
        have hs3 : Hid (ObjStep (fun w S => IsRW w S q (L ++ bitsOf v m)) S w wr) := Lib.hid (by
          rwa [Nat.sub_zero, List.take_of_length_le (by rw [bitsOf_length]; exact Nat.le_refl _)] at hst)
        clear hst h0
        rw [show ((0 : Nat) : Int) - 1 = -1 by rfl]
        go_wp2_with fail
        go_end0
        exact ⟨rfl, hs3.out⟩
      | succ j =>
        rw [show (((j + 1 : Nat)) : Int) - 1 = (j : Int) by omega]
        have hsn := bitsOf_snoc v m (m - (j + 1)) (by omega)
        rw [show m - (j + 1) + 1 = m - j by omega, show m - 1 - (m - (j + 1)) = j by omega] at hsn
        replace hsn := Lib.hid hsn
        obtain ⟨S', ⟨rv, hw⟩, hgo⟩ := hst.get
        replace hgo := Lib.hid hgo
        have hlen : Hid ((L ++ (bitsOf v m).take (m - (j + 1))).length ≤ 100000000000000) := Lib.hid (by
          have := hL.out
          rw [List.length_append, List.length_take, bitsOf_length]; omega)
        have hbit := bit_eq v j
        have k0 : wr.cell? ⟨q, 0, none⟩ = some rv := by rw [Lib.cell_of_heap hw.cell]; rfl
        have c0a := fun (o : Obj) => (World.cell?_alloc_lt wr o ⟨q, 0, none⟩ (hw.lt q hw.s_q)).trans k0
        replace hw := Lib.hid hw
        clear hst
        have hsn2 : Hid (L ++ (bitsOf v m).take (m - j) = (L ++ (bitsOf v m).take (m - (j + 1))) ++ [v.testBit j]) := Lib.hid (by rw [hsn.out, List.append_assoc])
        clear hsn
        generalize L ++ (bitsOf v m).take (m - (j + 1)) = M at *
        go_wp2_with fail
        go_region_law (first
          | (refine step_append_lies (o := ⟨some 26, _, _, _, _, _⟩) _ (by rfl) _ _ _ (by rfl) 0 4 i0 (.bool false) 1 1 Tryz.underlying135 hi hz0 hz1 hz2 rfl (by omega) _ M.length (boolCells M) (by rfl) (ownsRow_kept hw.out.row (fun b hb => Below.heap_alloc _ _ _ (hw.out.row.lt b hb).2)) ⟨wr.heap.size, 0, none⟩ 1 1 [_] (by rfl) rfl (World.news_of_block (cell_new _ _)) (by simp [Value.oneCell']) (by omega) (by have := hlen.out; unfold maxLen; omega) (by have := hlen.out; omega) (by omega) _ rfl ?_
             intro g cap w2 hown hgrow hat hlt
             obtain ⟨hq1, hst2⟩ := RwM.more (T := 137) (by decide) (w := wr) (b := v.testBit j) hw.out hown ⟨hgrow.os, hgrow.tape, hgrow.output, hgrow.size, hgrow.block⟩ (hat.imp id (fun e => by simpa using e))
             have d0 : w2.cell? ⟨q, 0, none⟩ = some rv := by rw [Lib.cell_of_heap hq1]; rfl
             have f0 := Lib.frozen_of_heap hq1 0
             have HG := Lib.hid (fun w3 e => hgo.out _ _ (hst2 w3 e))
             clear hown hgrow hat hlt hq1 hst2))
        all_goals
          go_wp2_with fail
          go_roundw
          case rel => exact ⟨j, by omega, rfl, by rw [hsn2.out]; exact HG.out _ rfl⟩
          case measure => simp [intOf]; try omega
/-- Put, as the document says it. -/
theorem refput_any (S : Nat → Prop) (q : Nat) (L : List Bool) (v : Nat) (n : Int) (w : World) (h : IsRW w S q L) (hL : L.length ≤ 90000000000000) (hv : v < 18446744073709551616) :
    Calls Tryz.prog 118 #[.pointer (some ⟨q, 0, none⟩), .int .u64 (v : Int), .int .i64 n] w fun e w' => e = .returned (.tuple #[]) ∧ ObjStep (fun w S => IsRW w S q (L ++ bitsOf v (cnt n))) S w w' :=
  refput_m S q L v n (cnt n) w h hL hv (by unfold cnt; omega) (by unfold cnt; omega)
end Bit
end Go.Proofs.YtlgjbcmloochiaaGreatDoor
end

/- The document's own writer of bits: its text. -/
section
namespace Go.Proofs.YtlgjbcmloochiaaGreatDoor
open Go.RowKit
namespace Bit
open Dsk Ob
set_option linter.unusedVariables false

theorem pk_nil (j : Nat) : pk [] j = 0 := by unfold pk; rw [chunk_behind [] j (by simp)]; simp [numOf]
theorem packTo_nil (m : Nat) : Lib.byteCells (packTo m []) = List.replicate m (.int .u8 0) := by
  unfold packTo Lib.byteCells
  apply List.ext_getElem
  · simp
  · intro i h1 h2
    simp [pk_nil]
theorem packTo_false (m : Nat) (L : List Bool) : packTo m (L ++ [false]) = packTo m L := by
  unfold packTo
  apply List.map_congr_left
  intro j _
  by_cases h : j = L.length / 8
  · subst h; rw [pk_at]; simp
  · rw [pk_other L false j h]
theorem div_pow (k : Nat) (h : k < 8) : (128 : Nat) / 2 ^ k = 2 ^ (7 - k) := by
  have e : (128 : Nat) = 2 ^ (7 - k) * 2 ^ k := by rw [← Nat.pow_add, show 7 - k + k = 7 by omega]
  rw [e, Nat.mul_div_cancel _ (Nat.two_pow_pos k)]
theorem add_bit (L : List Bool) : IntKind.u8.wrap (((pk L (L.length / 8) : Nat) : Int) + 128 / 2 ^ (L.length % 8)) = ((pk L (L.length / 8) + true.toNat * 2 ^ (7 - L.length % 8) : Nat) : Int) := by
  have h8 : L.length % 8 < 8 := Nat.mod_lt _ (by decide)
  have e1 : (128 : Int) / 2 ^ (L.length % 8) = ((2 ^ (7 - L.length % 8) : Nat) : Int) := by
    rw [← div_pow _ h8]; rw [Int.natCast_ediv, Int.natCast_pow]; rfl
  have h := pk_lt (L ++ [true]) (L.length / 8)
  rw [pk_at] at h
  have e2 : true.toNat * 2 ^ (7 - L.length % 8) = 2 ^ (7 - L.length % 8) := by simp
  rw [e1, e2]
  rw [e2] at h
  generalize 2 ^ (7 - L.length % 8) = p at *
  rw [IntKind.wrap_u8]
  omega
theorem row_byte {w : World} {G m cap : Nat} {L : List Bool} (hm : L.length / 8 < m) (h : w.ownsRow 0 5 1 (.slice (some ⟨G, 0, none⟩) m cap) m (Lib.byteCells (packTo m L))) :
    w.cell? ⟨G, L.length / 8, none⟩ = some (.int .u8 ((pk L (L.length / 8) : Nat) : Int)) ∧ w.frozen? ⟨G, L.length / 8, none⟩ = false := by
  obtain ⟨g, cap', hv, h1, h2, _⟩ := WrM.byte hm h
  cases hv
  exact ⟨h1, h2 _⟩

set_option maxHeartbeats 3200000 in
theorem reftext_any (S : Nat → Prop) (q : Nat) (L : List Bool) (w : World) (h : IsRW w S q L) (hL : L.length ≤ 90000000000000) :
    Calls Tryz.prog 72 #[.pointer (some ⟨q, 0, none⟩)] w fun e w' => e = .returned (.string ⟨(pack L).toArray⟩) ∧ Below w.heap.size w w' := by
  obtain ⟨rv, h⟩ := h
  obtain ⟨i0, hi, hz0, hz1, hz2⟩ := info_parts infoU8
  have k0 : w.cell? ⟨q, 0, none⟩ = some rv := by rw [Lib.cell_of_heap h.cell]; rfl
  have hql : Hid (q < w.heap.size) := Lib.hid (h.lt q h.s_q)
  have hslice : ∃ A c, rv = .slice A L.length c := by
    rcases h.row.2 with ⟨hv, h0⟩ | ⟨g, cap, cur, hv, _⟩
    · exact ⟨none, 0, by rw [hv, h0]⟩
    · exact ⟨_, _, hv⟩
  obtain ⟨A, c, rfl⟩ := hslice
  replace h := Lib.hid h
  have k0h := Lib.hid k0
  have hn : IntKind.i64.wrap (((L.length : Int) + 7).tdiv 8) = ((nb L.length : Nat) : Int) := by
    rw [IntWalk.i64_quo _ _ (by omega)]; unfold nb; omega
  go_enter Tryz.func72, Tryz.ntmps72
  go_wp2_with (refine wpList_make_full _ rfl _ _ 54 rfl 0 5 i0 (.int .u8 0) 1 Tryz.underlying54 hi hz0 hz1 .i64 .i64 _ _ (nb L.length) rfl rfl ?c1 ?c2 ?c3 ?c4 ?c5 ?_)
  case c1 => unfold nb; omega
  case c2 => unfold nb; omega
  case c3 => rw [hz2]; unfold nb; omega
  case c4 => unfold nb maxLen; omega
  case c5 => omega
  intro w1 hown hgrow
  rw [toList_madeCells_one, ← packTo_nil] at hown
  have hup : Hid (Upon (fun _ => False) w w1) := Lib.hid ((Upon.refl _ w).grown hgrow (fun k hk => by cases hk))
  have hgl : w.heap.size < w1.heap.size := by
    have := hown.lt w.heap.size
    rcases hown.2 with ⟨h0, _⟩ | ⟨g, cap, cur, hv, _, hgg, _⟩
    · cases h0
    · cases hv; exact (Array.getElem?_eq_some_iff.1 hgg).1
  have k1 := (World.cell?_of_block (w := w) (a := ⟨q, 0, none⟩) (hup.out.block q hql.out (fun f => f))).trans k0
  replace hown : Hid (w1.ownsRow 0 5 1 (.slice (some ⟨w.heap.size, 0, none⟩) (nb L.length) (nb L.length)) (nb L.length) (Lib.byteCells (packTo (nb L.length) (L.take 0)))) := Lib.hid hown
  clear hgrow k0
  replace hgl := Lib.hid hgl
  go_wp2_with fail
  clear hn hi hz0 hz1 hz2 k1
  go_loopw [4] (fun i wr => ∃ k : Nat, k ≤ L.length ∧ i = .int .i64 k ∧ wr.ownsRow 0 5 1 (.slice (some ⟨w.heap.size, 0, none⟩) (nb L.length) (nb L.length)) (nb L.length) (Lib.byteCells (packTo (nb L.length) (L.take k))) ∧ Upon (fun _ => False) w wr) (fun i _ => L.length - (intOf i).toNat)
  case atStart => exact ⟨0, Nat.zero_le _, rfl, hown.out, hup.out⟩
  case round =>
    obtain ⟨k, hk, rfl, hrow, hu⟩ := hrel
    have k1 := (World.cell?_of_block (w := w) (a := ⟨q, 0, none⟩) (hu.block q hql.out (fun f => f))).trans k0h.out
    by_cases hlt : k < L.length
    · obtain ⟨g, cap, hv, -, hgl2⟩ := h.out.row.form (show 0 < L.length by omega)
      cases hv
      have hc := h.out.row.cells (g := g) rfl k (.bool L[k]) (by simp [boolCells, hlt])
      rw [Arg.addr_plain, Nat.zero_add] at hc
      have k2 := (World.cell?_of_block (w := w) (a := ⟨g, k, none⟩) (hu.block g hgl2 (fun f => f))).trans hc
      have hts := List.take_succ_eq_append_getElem hlt
      replace hu := Lib.hid hu
      clear hc
      cases hb : L[k] with
      | false =>
        rw [hb] at k2 hts
        have hrow2 : Hid (wr.ownsRow 0 5 1 (.slice (some ⟨w.heap.size, 0, none⟩) (nb L.length) (nb L.length)) (nb L.length) (Lib.byteCells (packTo (nb L.length) (L.take (k + 1))))) := Lib.hid (by rw [hts, packTo_false]; exact hrow)
        clear hrow hts hb
        go_wp2_with fail
        go_roundw
        case rel => exact ⟨k + 1, by omega, by go_num, hrow2.out, hu.out⟩
        case measure => simp [intOf]; omega
      | true =>
        rw [hb] at k2 hts
        have htl : (L.take k).length = k := by rw [List.length_take]; omega
        have hkm : k / 8 < nb L.length := by unfold nb; omega
        obtain ⟨b1, b2⟩ := row_byte (L := L.take k) (by rw [htl]; exact hkm) hrow
        rw [htl] at b1 b2
        have hadd := add_bit (L.take k)
        rw [htl] at hadd
        obtain ⟨P, hP⟩ : ∃ P : Nat, P = pk (L.take k) (k / 8) + true.toNat * 2 ^ (7 - k % 8) := ⟨_, rfl⟩
        have hset : Hid (∀ w2 : World, w2.heap = wr.heap → Upon (fun _ => False) w w2 → (w2.setCell ⟨w.heap.size, k / 8, none⟩ (.int .u8 (P : Int))).ownsRow 0 5 1 (.slice (some ⟨w.heap.size, 0, none⟩) (nb L.length) (nb L.length)) (nb L.length) (Lib.byteCells (packTo (nb L.length) (L.take (k + 1)))) ∧ Upon (fun _ => False) w (w2.setCell ⟨w.heap.size, k / 8, none⟩ (.int .u8 (P : Int)))) := Lib.hid (fun w2 e2 hu2 => by
          have hr2 : w2.ownsRow 0 5 1 (.slice (some ⟨w.heap.size, 0, none⟩) (nb L.length) (nb L.length)) (nb L.length) (Lib.byteCells (packTo (nb L.length) (L.take k))) := ownsRow_kept hrow fun b _ => by rw [e2]
          refine ⟨?_, hu2.setCell (p := ⟨w.heap.size, k / 8, none⟩) (.inr (Nat.le_refl _)) _⟩
          have hpl : P < 256 := by
            have := pk_lt (L.take k ++ [true]) ((L.take k).length / 8)
            rw [pk_at, htl] at this; omega
          have hs := row_set (j := k / 8) (b := UInt8.ofNat P) hr2
          rw [UInt8.toNat_ofNat', Nat.mod_eq_of_lt hpl] at hs
          rw [hts, packTo_snoc _ _ _ (by rw [htl]; exact hkm), htl, ← hP]
          exact hs)
        rw [← hP] at hadd
        replace hts := Lib.hid hts
        clear hP hb hrow htl
        have i1 : IntKind.i64.wrap ((k : Int) / 8) = (k : Int) / 8 := IntWalk.i64_in _ (by omega)
        have i2 : ((k : Int) / 8).toNat = k / 8 := by omega
        have i3 : 0 ≤ (k : Int) / 8 := by omega
        have i4 : (k : Int) / 8 < (nb L.length : Nat) := by omega
        have i5 : ((k : Int) % 8).toNat = k % 8 := by omega
        have i6 : 0 ≤ (k : Int) % 8 := by omega
        have i7 : (k : Int).tmod 8 = (k : Int) % 8 := IntWalk.rem_in _ _ (by omega)
        go_wp2_with fail
        go_still_tail 13, (by kernel_rfl)
        change wpList _ _ _ _ _ wr.drew
        have hu2 : Hid (Upon (fun _ => False) w wr.drew) := Lib.hid hu.out.drew
        obtain ⟨n1, n2⟩ := hset.out wr.drew rfl hu2.out
        have f2 : wr.drew.frozen? ⟨w.heap.size, k / 8, none⟩ = false := b2
        have c2 : wr.drew.cell? ⟨w.heap.size, k / 8, none⟩ = some (.int .u8 ((pk (L.take k) (k / 8) : Nat) : Int)) := b1
        replace n1 := Lib.hid n1
        replace n2 := Lib.hid n2
        clear hset i1 i2 i3 i4 i5 i6 i7 hadd b1 b2 k1 k2 hu2
        generalize wr.drew = w2 at *
        go_wp2_with fail
        go_roundw
        case rel => exact ⟨k + 1, by omega, by go_num, n1.out, n2.out⟩
        case measure => simp [intOf]; omega
    · obtain rfl : k = L.length := by omega
      rw [List.take_length] at hrow
      have hcv := run_text wr (.slice (some ⟨w.heap.size, 0, none⟩) (nb L.length) (nb L.length)) (pack L) (by rw [pack_length]; exact hrow)
      have hb : Hid (Below w.heap.size w wr) := Lib.hid (hu.below (Nat.le_refl _) fun _ f => f.elim)
      clear hrow hu hlt
      go_wp2_with fail
      go_ret
      exact ⟨rfl, hb.out⟩
end Bit
end Go.Proofs.YtlgjbcmloochiaaGreatDoor
end

/- BitsWrites, walked: whatever bits are written, how many and the text are what the document says. -/
section
namespace Go.Proofs.YtlgjbcmloochiaaGreatDoor
open Go.RowKit Go.Sort
namespace Bit
open Dsk Ob Arg
set_option linter.unusedVariables false

theorem Own.calm {I : Rel} (hI : Thing I) {w0 w : World} (h : Own I w0 w) (d : Nat) (os : Array Go.Obj) : Own I w0 (grow (redrawn w d) os) := Own.upon0 hI h (Upon.of_below (below_regrown w d os) _)
theorem below_refl' (w : World) : Below w.heap.size w w := Below.refl _ _
/-- The document's writer beside the program's. -/
abbrev OwnWW (w0 : World) (q : Nat) (L : List Bool) (p : Nat) (M : List Bool) (w : World) : Prop := Own (Tens (fun w S => IsW w S q L) (fun w S => IsRW w S p M)) w0 w
theorem thingWW (q : Nat) (L : List Bool) (p : Nat) (M : List Bool) : Thing (Tens (fun w S => IsW w S q L) (fun w S => IsRW w S p M)) := Tens.ob (objW _ _) (objRW _ _)
theorem OwnWW.len {w0 w : World} {q p : Nat} {L M : List Bool} (h : OwnWW w0 q L p M w) (d : Nat) (os : Array Go.Obj) :
    Calls Tryz.prog 160 #[.pointer (some ⟨q, 0, none⟩)] (grow (redrawn w d) os) fun e w' => e = .returned (.int .i64 (L.length : Int)) ∧ Below (grow (redrawn w d) os).heap.size (grow (redrawn w d) os) w' :=
  (OwnW.len (Own.calm (thingWW q L p M) h d os).dropr rfl).mono fun _ _ ⟨he, hw⟩ => ⟨he, hw ▸ below_refl' _⟩
theorem OwnWW.put {w0 w : World} {q p : Nat} {L M L' : List Bool} (h : OwnWW w0 q L p M w) (v : Nat) (n : Int) (hL : L.length ≤ 90000000000000) (hv : v < 18446744073709551616) (e : L' = L ++ bitsOf v (cnt n)) :
    Calls Tryz.prog 212 #[.pointer (some ⟨q, 0, none⟩), .int .u64 (v : Int), .int .i64 n] w fun e w' => e = .returned (.tuple #[]) ∧ OwnWW w0 q L' p M w' := by
  subst e
  obtain ⟨S, h1, h2⟩ := Own.left (objRW p M) h
  exact (put_any S q L v n w h1 hL hv).mono fun _ _ ⟨he, hs⟩ => ⟨he, h2 _ _ hs⟩

end Bit
end Go.Proofs.YtlgjbcmloochiaaGreatDoor
end

/- The document's own reader of bits (layer 6): NewReader. -/
section
namespace Go.Proofs.YtlgjbcmloochiaaGreatDoor
open Go.RowKit
namespace Bit
open Dsk Ob
set_option linter.unusedVariables false

end Bit
end Go.Proofs.YtlgjbcmloochiaaGreatDoor
end

/- The document's own reader of bits (layer 6): Get. -/
section
namespace Go.Proofs.YtlgjbcmloochiaaGreatDoor
open Go.RowKit
namespace Bit
open Dsk Ob
set_option linter.unusedVariables false

/-- A row of bits behind a view: its cells, and its block among S. -/
def ViewAt (w : World) (S : Nat → Prop) (v : Value) (K : List Bool) : Prop :=
  (v = .slice none 0 0 ∧ K = []) ∨ ∃ g off cap, v = .slice (some ⟨g, off, none⟩) K.length cap ∧ K.length ≤ cap ∧ cap < 9223372036854775808 ∧ S g ∧ ∀ i (h : i < K.length), w.cell? ⟨g, off + i, none⟩ = some (.bool K[i])
structure RvM (w : World) (S : Nat → Prop) (q : Nat) (K : List Bool) (v : Value) : Prop where
  cell : w.heap[q]? = some (.cells #[v] 220 (0, 0))
  view : ViewAt w S v K
  s_q : S q
  lt : ∀ b, S b → b < w.heap.size
  ne : ∀ g off n cap, v = .slice (some ⟨g, off, none⟩) n cap → g ≠ q
/-- The document's reader at block q, of blocks S: the bits K are left. -/
def IsRR (w : World) (S : Nat → Prop) (q : Nat) (K : List Bool) : Prop := ∃ v, RvM w S q K v
theorem ViewAt.kept {w w' : World} {S : Nat → Prop} {v : Value} {K : List Bool} (h : ViewAt w S v K) (hk : ∀ b, S b → w'.heap[b]? = w.heap[b]?) : ViewAt w' S v K := by
  rcases h with h | ⟨g, off, cap, h1, h2, hc, h3, h4⟩
  · exact .inl h
  · exact .inr ⟨g, off, cap, h1, h2, hc, h3, fun i hi => (World.cell?_of_block (hk g h3)).trans (h4 i hi)⟩
theorem objRR (q : Nat) (K : List Bool) : Thing (fun w S => IsRR w S q K) where
  kept := fun w w' S ⟨v, h⟩ hk hs => ⟨v, { h with cell := (hk q h.s_q).trans h.cell, view := h.view.kept hk, lt := fun b hb => Nat.lt_of_lt_of_le (h.lt b hb) hs }⟩
  lt := fun _ _ ⟨_, h⟩ => h.lt

end Bit
end Go.Proofs.YtlgjbcmloochiaaGreatDoor
end

/- BitsReads, walked: whatever is read of any text, bits by bits, is what the document says. -/
section
namespace Go.Proofs.YtlgjbcmloochiaaGreatDoor
open Go.RowKit Go.Sort
namespace Bit
open Dsk Ob Arg
set_option linter.unusedVariables false

/-- Are so many bits read, of so many that are left? -/
def rdOk (d : Nat) (n : Int) : Bool := decide (0 ≤ n ∧ n ≤ 64 ∧ n ≤ (d : Int))
def rdN (d : Nat) (n : Int) : Nat := if rdOk d n then n.toNat else 0
def rdV (s : List UInt8) (a e : Nat) (n : Int) : Nat := numOf (bitsAt s a (rdN (e - a) n))
/-- The document's reader beside the program's. -/
abbrev OwnRR (w0 : World) (q : Nat) (s : ByteArray) (a e p : Nat) (K : List Bool) (w : World) : Prop := Own (Tens (fun w S => IsR w S q s a e) (fun w S => IsRR w S p K)) w0 w
theorem thingRR (q : Nat) (s : ByteArray) (a e p : Nat) (K : List Bool) : Thing (Tens (fun w S => IsR w S q s a e) (fun w S => IsRR w S p K)) := Tens.ob (objR _ _ _ _) (objRR _ _)
theorem OwnRR.get {w0 w : World} {q p : Nat} {s : ByteArray} {a e a' x : Nat} {b : Bool} {K : List Bool} (h : OwnRR w0 q s a e p K w) (n : Int) (ha : a + rdN (e - a) n = a') (hx : rdV s.data.toList a e n = x) (hb : rdOk (e - a) n = b) :
    Calls Tryz.prog 260 #[.pointer (some ⟨q, 0, none⟩), .int .i64 n] w fun y w' => y = .returned (.tuple #[.int .u64 (x : Int), .bool b]) ∧ OwnRR w0 q s a' e p K w' := by
  obtain ⟨S, h1, h2⟩ := Own.left (objRR p K) h
  have hle : a ≤ e := h1.le
  subst ha; subst hx; subst hb
  unfold rdV rdN
  by_cases hk : rdOk (e - a) n = true
  · have hk' := of_decide_eq_true hk
    obtain ⟨m, rfl⟩ := Int.eq_ofNat_of_zero_le hk'.1
    rw [if_pos hk, hk]
    exact (Bit.get_ok S q s a e m w h1 (by omega) (by omega)).mono fun _ _ ⟨he, hs⟩ => ⟨he, h2 _ _ hs⟩
  · have hk' : ¬ (0 ≤ n ∧ n ≤ 64 ∧ n ≤ ((e - a : Nat) : Int)) := fun h => hk (decide_eq_true h)
    rw [if_neg hk, eq_false_of_ne_true hk]
    exact (Bit.get_no S q s a e n w h1 (by omega)).mono fun _ _ ⟨he, hs⟩ => ⟨he, h2 _ _ hs⟩
theorem OwnRR.left {w0 w : World} {q p : Nat} {s : ByteArray} {a e m : Nat} {K : List Bool} (h : OwnRR w0 q s a e p K w) (hm : e - a = m) (d : Nat) (os : Array Go.Obj) :
    Calls Tryz.prog 218 #[.pointer (some ⟨q, 0, none⟩)] (grow (redrawn w d) os) fun y w' => y = .returned (.int .i64 (m : Int)) ∧ Below (grow (redrawn w d) os).heap.size (grow (redrawn w d) os) w' := by
  subst hm
  obtain ⟨S, h1, _⟩ := (Own.calm (thingRR q s a e p K) h d os).dropr.get
  refine (left_any S q s a e _ h1).mono ?_
  rintro x w' ⟨rfl, n, rfl⟩
  exact ⟨rfl, (upon_drewN (fun _ => False) _ n).below (Nat.le_refl _) fun _ f => f.elim⟩
/-- What is read of the document's reader without a call. -/
theorem OwnRR.len {w0 w : World} {q p : Nat} {s : ByteArray} {a e : Nat} {K : List Bool} (h : OwnRR w0 q s a e p K w) : ∃ A c, w.cell? ⟨p, 0, none⟩ = some (.slice A K.length c) := by
  obtain ⟨S, ⟨v, hr⟩, _⟩ := h.dropl.get
  have k0 : w.cell? ⟨p, 0, none⟩ = some v := by rw [Lib.cell_of_heap hr.cell]; rfl
  rcases hr.view with ⟨h1, h2⟩ | ⟨g, off, cap, h1, _⟩
  · subst h1; subst h2; exact ⟨_, _, k0⟩
  · subst h1; exact ⟨_, _, k0⟩

end Bit
end Go.Proofs.YtlgjbcmloochiaaGreatDoor
end
