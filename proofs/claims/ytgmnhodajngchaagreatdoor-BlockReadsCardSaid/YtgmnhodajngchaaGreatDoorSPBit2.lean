/- Parts: PBit2. -/
import Derived.Test.YtgmnhodajngchaaGreatDoorSPBit1
import Derived.Deep.AppendLies
import Derived.Deep.RegionLaw
import Derived.Lib.QuietBelow
set_option maxRecDepth 100000
set_option linter.unusedVariables false
namespace Go.Proofs.YtgmnhodajngchaaGreatDoor
section
section
open Go.RowKit
namespace Bit
open Dsk Ob
abbrev boolCells (L : List Bool) : List Value := L.map Value.bool
structure RwM (T : TypeId) (w : World) (S : Nat -> Prop) (q : Nat) (L : List Bool) (v : Value) : Prop where
 cell : w.heap[q]? = some (.cells #[v] T (0, 0))
 row : w.ownsRow 0 4 1 v L.length (boolCells L)
 s_q : S q
 s_v : ∀ b, v.ownBlock = some b -> S b
 lt : ∀ b, S b -> b < w.heap.size
def IsRW (w : World) (S : Nat -> Prop) (q : Nat) (L : List Bool) : Prop := ∃ v, RwM 204 w S q L v
theorem objRW (q : Nat) (L : List Bool) : Thing (fun w S => IsRW w S q L) where
 kept := fun w w' S ⟨v, h⟩ hk hs => ⟨v, { h with cell := (hk q h.s_q).trans h.cell, row := ownsRow_kept h.row fun b hb => hk b (h.s_v b hb), lt := fun b hb => Nat.lt_of_lt_of_le (h.lt b hb) hs }⟩
 lt := fun _ _ ⟨_, h⟩ => h.lt
theorem infoBool : (Tryz.prog.info? 4).map (fun i => (i.zero, i.size, i.bytes)) = some (some (.bool false), 1, 1) := by kernel_rfl
theorem ne_of_bool {T : TypeId} (hT : T ≠ 4) {w : World} {q g : Nat} {c d : Array Value} {f k : Nat × Nat} (h1 : w.heap[q]? = some (.cells c T f)) (h2 : w.heap[g]? = some (.cells d 4 k)) : g ≠ q := by
 rintro rfl
 rw [h1] at h2
 simp at h2
 exact hT h2.2.1
theorem own_block_of {w : World} {e : TypeId} {v : Value} {n : Nat} {xs : List Value} {g : Nat} (h : w.ownsRow 0 e 1 v n xs) (hg : v.ownBlock = some g) : ∃ c, w.heap[g]? = some (.cells c e (0, 0)) := by
 rcases h.2 with ⟨hv, _⟩ | ⟨g', cap', cur, hv, _, hgg, _⟩
 ·rw [hv] at hg; cases hg
 ·rw [hv] at hg; cases hg; exact ⟨_, hgg⟩
theorem RwM.more {T : TypeId} (hT : T ≠ 4) {w w' : World} {S : Nat -> Prop} {q g cap : Nat} {L : List Bool} {v : Value} {o : Obj} {b : Bool} (h : RwM T w S q L v)
  (hown : w'.ownsRow 0 4 1 (.slice (some ⟨g, 0, none⟩) (L.length + 1) cap) (L.length + 1) (boolCells L ++ [.bool b])) (hg : (w.alloc o).grownBy w' v.ownBlock) (hS : v.ownBlock = some g \/ g = w.heap.size + 1) :
  w'.heap[q]? = some (.cells #[v] T (0, 0)) /\ ∀ w2, w2 = w'.setCell ⟨q, 0, none⟩ (.slice (some ⟨g, 0, none⟩) (L.length + 1) cap) -> ObjStep (fun w S => ∃ v, RwM T w S q (L ++ [b]) v) S w w2 := by
 have hvq : some q ≠ v.ownBlock := by
  intro e3
  obtain ⟨c, hc⟩ := own_block_of h.row e3.symm
  exact ne_of_bool hT h.cell hc rfl
 have hql : q < w.heap.size := h.lt q h.s_q
 have hq : w'.heap[q]? = some (.cells #[v] T (0, 0)) := by
  rw [hg.block q (by simp; omega) hvq, Below.heap_alloc _ _ _ hql]; exact h.cell
 obtain ⟨c, hgc⟩ := own_block_of hown rfl
 have hgq : g ≠ q := ne_of_bool hT hq hgc
 have hgl : g < w'.heap.size := (Array.getElem?_eq_some_iff.1 hgc).1
 have hws : w.heap.size <= w'.heap.size := by have := hg.size; simp at this; omega
 have hSn : S g \/ w.heap.size <= g := hS.elim (fun e => .inl (h.s_v g e)) (fun e => .inr (by omega))
 refine ⟨hq, fun w2 e2 => ?_⟩
 subst e2
 refine ⟨⟨fun x => S x \/ x = g, ⟨.slice (some ⟨g, 0, none⟩) (L.length + 1) cap, ?_, ?_, .inl h.s_q, ?_, ?_⟩, fun x hx => .inl hx, fun x hx => ?_⟩, ?_⟩
 ·simp [World.setCell, Array.getElem?_modify, hq]
 ·rw [show (L ++ [b]).length = L.length + 1 from List.length_append, show boolCells (L ++ [b]) = boolCells L ++ [.bool b] by simp [boolCells]]
  exact ownsRow_kept hown fun x hx => Below.heap_setCell _ _ _ _ fun e3 => hgq ((Option.some.inj hx).trans e3)
 ·intro x hx; exact .inr (Option.some.inj hx).symm
 ·intro x hx
  have : (w'.setCell ⟨q, 0, none⟩ (.slice (some ⟨g, 0, none⟩) (L.length + 1) cap)).heap.size = w'.heap.size := by simp [World.setCell]
  rw [this]
  rcases hx with h2 | h2
  ·exact Nat.lt_of_lt_of_le (h.lt x h2) hws
  ·rw [h2]; exact hgl
 ·rcases hx with h2 | h2
  ·exact .inl h2
  ·rw [h2]; exact hSn
 ·exact (((Upon.refl S w).alloc o).grown hg (fun k hk => .inl (h.s_v k hk))).setCell (p := ⟨q, 0, none⟩) (.inl h.s_q) _
theorem bit_eq (v j : Nat) : ((((v : Int) / 2 ^ j).tmod 2) == 1) = v.testBit j := by
 rw [Int.tmod_eq_emod_of_nonneg (Int.ediv_nonneg (Int.natCast_nonneg _) (Int.le_of_lt (Int.pow_pos (by decide))))]
 rw [Nat.testBit_eq_decide_div_mod_eq]
 have e : ((v : Int) / 2 ^ j % 2) = ((v / 2 ^ j % 2 : Nat) : Int) := by rw [Int.natCast_emod, Int.natCast_ediv, Int.natCast_pow]; rfl
 rw [e]
 by_cases h : v / 2 ^ j % 2 = 1
 ·rw [h]; rfl
 ·rw [decide_eq_false h, beq_eq_false_iff_ne]; omega
set_option maxHeartbeats 3200000 in
theorem refput_m (S : Nat -> Prop) (q : Nat) (L : List Bool) (v : Nat) (n : Int) (m : Nat) (w : World) (h : IsRW w S q L) (hL : L.length <= 90000000000000) (hv : v < 18446744073709551616) (hm : max 0 (min n 64) = (m : Int)) (hm2 : m <= 64) :
    Calls Tryz.prog 160 #[.pointer (some ⟨q, 0, none⟩), .int .u64 (v : Int), .int .i64 n] w fun e w' => e = .returned (.tuple #[]) /\ ObjStep (fun w S => IsRW w S q (L ++ bitsOf v m)) S w w' := by
  replace hL := Lib.hid hL
  have h0 : Hid (ObjStep (fun w S => IsRW w S q (L ++ (bitsOf v m).take (m - m))) S w w) := Lib.hid (by rw [Nat.sub_self, List.take_zero, List.append_nil]; exact ObjStep.refl (I := fun w S => IsRW w S q L) h)
  clear h
  have hv0 := Lib.hid hv
  clear hv
  obtain ⟨i0, hi, hz0, hz1, hz2⟩ := info_parts infoBool
  go_enter Tryz.func160, Tryz.ntmps160
  go_wp2_with fail
  all_goals
    go_loopw [6] (fun i wr => ∃ j : Nat, j <= m /\ i = .int .i64 ((j : Int) - 1) /\ ObjStep (fun w S => IsRW w S q (L ++ (bitsOf v m).take (m - j))) S w wr) (fun i _ => (intOf i + 1).toNat)
    case atStart => exact ⟨m, Nat.le_refl _, by congr 1; omega, h0.out⟩
    case round =>
      obtain ⟨j, hj, rfl, hst⟩ := hrel
      cases j with
      | zero =>
        have hs3 : Hid (ObjStep (fun w S => IsRW w S q (L ++ bitsOf v m)) S w wr) := Lib.hid (by
          rwa [Nat.sub_zero, List.take_of_length_le (by rw [bitsOf_length]; exact Nat.le_refl _)] at hst)
        clear hst h0
        rw [show ((0 : Nat) : Int) - 1 = -1 by rfl]
        go_wp2_with fail
        go_end0
        exact ⟨rfl, hs3.out⟩
      | succ j =>
        rw [show (((j + 1 : Nat)) : Int) - 1 = (j : Int) by omega]
        have hsn := bitsOf_snoc v m (m - (j + 1)) (by omega)
        rw [show m - (j + 1) + 1 = m - j by omega, show m - 1 - (m - (j + 1)) = j by omega] at hsn
        replace hsn := Lib.hid hsn
        obtain ⟨S', ⟨rv, hw⟩, hgo⟩ := hst.get
        replace hgo := Lib.hid hgo
        have hlen : Hid ((L ++ (bitsOf v m).take (m - (j + 1))).length <= 100000000000000) := Lib.hid (by
          have := hL.out
          rw [List.length_append, List.length_take, bitsOf_length]; omega)
        have hbit := bit_eq v j
        have k0 : wr.cell? ⟨q, 0, none⟩ = some rv := by rw [Lib.cell_of_heap hw.cell]; rfl
        have c0a := fun (o : Obj) => (World.cell?_alloc_lt wr o ⟨q, 0, none⟩ (hw.lt q hw.s_q)).trans k0
        replace hw := Lib.hid hw
        clear hst
        have hsn2 : Hid (L ++ (bitsOf v m).take (m - j) = (L ++ (bitsOf v m).take (m - (j + 1))) ++ [v.testBit j]) := Lib.hid (by rw [hsn.out, List.append_assoc])
        clear hsn
        generalize L ++ (bitsOf v m).take (m - (j + 1)) = M at *
        go_wp2_with fail
        go_region_law (first
          | (refine step_append_lies (o := ⟨some 26, _, _, _, _, _⟩) _ (by rfl) _ _ _ (by rfl) 0 4 i0 (.bool false) 1 1 Tryz.underlying200 hi hz0 hz1 hz2 rfl (by omega) _ M.length (boolCells M) (by rfl) (ownsRow_kept hw.out.row (fun b hb => Below.heap_alloc _ _ _ (hw.out.row.lt b hb).2)) ⟨wr.heap.size, 0, none⟩ 1 1 [_] (by rfl) rfl (World.news_of_block (cell_new _ _)) (by simp [Value.oneCell']) (by omega) (by have := hlen.out; unfold maxLen; omega) (by have := hlen.out; omega) (by omega) _ rfl ?_
             intro g cap w2 hown hgrow hat hlt
             obtain ⟨hq1, hst2⟩ := RwM.more (T := 204) (by decide) (w := wr) (b := v.testBit j) hw.out hown ⟨hgrow.os, hgrow.tape, hgrow.output, hgrow.size, hgrow.block⟩ (hat.imp id (fun e => by simpa using e))
             have d0 : w2.cell? ⟨q, 0, none⟩ = some rv := by rw [Lib.cell_of_heap hq1]; rfl
             have f0 := Lib.frozen_of_heap hq1 0
             have HG := Lib.hid (fun w3 e => hgo.out _ _ (hst2 w3 e))
             clear hown hgrow hat hlt hq1 hst2))
        all_goals
          go_wp2_with fail
          go_roundw
          case rel => exact ⟨j, by omega, rfl, by rw [hsn2.out]; exact HG.out _ rfl⟩
          case measure => simp [intOf]; try omega
theorem refput_any (S : Nat -> Prop) (q : Nat) (L : List Bool) (v : Nat) (n : Int) (w : World) (h : IsRW w S q L) (hL : L.length <= 90000000000000) (hv : v < 18446744073709551616) :
  Calls Tryz.prog 160 #[.pointer (some ⟨q, 0, none⟩), .int .u64 (v : Int), .int .i64 n] w fun e w' => e = .returned (.tuple #[]) /\ ObjStep (fun w S => IsRW w S q (L ++ bitsOf v (cnt n))) S w w' :=
 refput_m S q L v n (cnt n) w h hL hv (by unfold cnt; omega) (by unfold cnt; omega)
end Bit
end
section
open Go.RowKit
namespace Bit
open Dsk Ob
theorem pk_nil (j : Nat) : pk [] j = 0 := by unfold pk; rw [chunk_behind [] j (by simp)]; simp [numOf]
theorem packTo_nil (m : Nat) : Lib.byteCells (packTo m []) = List.replicate m (.int .u8 0) := by
 unfold packTo Lib.byteCells
 apply List.ext_getElem
 ·simp
 ·intro i h1 h2
  simp [pk_nil]
theorem packTo_false (m : Nat) (L : List Bool) : packTo m (L ++ [false]) = packTo m L := by
 unfold packTo
 apply List.map_congr_left
 intro j _
 by_cases h : j = L.length / 8
 ·subst h; rw [pk_at]; simp
 ·rw [pk_other L false j h]
theorem div_pow (k : Nat) (h : k < 8) : (128 : Nat) / 2 ^ k = 2 ^ (7 - k) := by
 have e : (128 : Nat) = 2 ^ (7 - k) * 2 ^ k := by rw [<- Nat.pow_add, show 7 - k + k = 7 by omega]
 rw [e, Nat.mul_div_cancel _ (Nat.two_pow_pos k)]
theorem add_bit (L : List Bool) : IntKind.u8.wrap (((pk L (L.length / 8) : Nat) : Int) + 128 / 2 ^ (L.length % 8)) = ((pk L (L.length / 8) + true.toNat * 2 ^ (7 - L.length % 8) : Nat) : Int) := by
 have h8 : L.length % 8 < 8 := Nat.mod_lt _ (by decide)
 have e1 : (128 : Int) / 2 ^ (L.length % 8) = ((2 ^ (7 - L.length % 8) : Nat) : Int) := by
  rw [<- div_pow _ h8]; rw [Int.natCast_ediv, Int.natCast_pow]; rfl
 have h := pk_lt (L ++ [true]) (L.length / 8)
 rw [pk_at] at h
 have e2 : true.toNat * 2 ^ (7 - L.length % 8) = 2 ^ (7 - L.length % 8) := by simp
 rw [e1, e2]
 rw [e2] at h
 generalize 2 ^ (7 - L.length % 8) = p at *
 rw [IntKind.wrap_u8]
 omega
theorem row_byte {w : World} {G m cap : Nat} {L : List Bool} (hm : L.length / 8 < m) (h : w.ownsRow 0 5 1 (.slice (some ⟨G, 0, none⟩) m cap) m (Lib.byteCells (packTo m L))) :
  w.cell? ⟨G, L.length / 8, none⟩ = some (.int .u8 ((pk L (L.length / 8) : Nat) : Int)) /\ w.frozen? ⟨G, L.length / 8, none⟩ = false := by
 obtain ⟨g, cap', hv, h1, h2, _⟩ := WrM.byte hm h
 cases hv
 exact ⟨h1, h2 _⟩
set_option maxHeartbeats 3200000 in
theorem reftext_any (S : Nat -> Prop) (q : Nat) (L : List Bool) (w : World) (h : IsRW w S q L) (hL : L.length <= 90000000000000) :
  Calls Tryz.prog 114 #[.pointer (some ⟨q, 0, none⟩)] w fun e w' => e = .returned (.string ⟨(pack L).toArray⟩) /\ Below w.heap.size w w' := by
 obtain ⟨rv, h⟩ := h
 obtain ⟨i0, hi, hz0, hz1, hz2⟩ := info_parts infoU8
 have k0 : w.cell? ⟨q, 0, none⟩ = some rv := by rw [Lib.cell_of_heap h.cell]; rfl
 have hql : Hid (q < w.heap.size) := Lib.hid (h.lt q h.s_q)
 have hslice : ∃ A c, rv = .slice A L.length c := by
  rcases h.row.2 with ⟨hv, h0⟩ | ⟨g, cap, cur, hv, _⟩
  ·exact ⟨none, 0, by rw [hv, h0]⟩
  ·exact ⟨_, _, hv⟩
 obtain ⟨A, c, rfl⟩ := hslice
 replace h := Lib.hid h
 have k0h := Lib.hid k0
 have hn : IntKind.i64.wrap (((L.length : Int) + 7).tdiv 8) = ((nb L.length : Nat) : Int) := by
  rw [IntWalk.i64_quo _ _ (by omega)]; unfold nb; omega
 go_enter Tryz.func114, Tryz.ntmps114
 go_wp2_with (refine wpList_make_full _ rfl _ _ 51 rfl 0 5 i0 (.int .u8 0) 1 Tryz.underlying51 hi hz0 hz1 .i64 .i64 _ _ (nb L.length) rfl rfl ?c1 ?c2 ?c3 ?c4 ?c5 ?_)
 case c1 => unfold nb; omega
 case c2 => unfold nb; omega
 case c3 => rw [hz2]; unfold nb; omega
 case c4 => unfold nb maxLen; omega
 case c5 => omega
 intro w1 hown hgrow
 rw [toList_madeCells_one, <- packTo_nil] at hown
 have hup : Hid (Upon (fun _ => False) w w1) := Lib.hid ((Upon.refl _ w).grown hgrow (fun k hk => by cases hk))
 have hgl : w.heap.size < w1.heap.size := by
  have := hown.lt w.heap.size
  rcases hown.2 with ⟨h0, _⟩ | ⟨g, cap, cur, hv, _, hgg, _⟩
  ·cases h0
  ·cases hv; exact (Array.getElem?_eq_some_iff.1 hgg).1
 have k1 := (World.cell?_of_block (w := w) (a := ⟨q, 0, none⟩) (hup.out.block q hql.out (fun f => f))).trans k0
 replace hown : Hid (w1.ownsRow 0 5 1 (.slice (some ⟨w.heap.size, 0, none⟩) (nb L.length) (nb L.length)) (nb L.length) (Lib.byteCells (packTo (nb L.length) (L.take 0)))) := Lib.hid hown
 clear hgrow k0
 replace hgl := Lib.hid hgl
 go_wp2_with fail
 clear hn hi hz0 hz1 hz2 k1
 go_loopw [4] (fun i wr => ∃ k : Nat, k <= L.length /\ i = .int .i64 k /\ wr.ownsRow 0 5 1 (.slice (some ⟨w.heap.size, 0, none⟩) (nb L.length) (nb L.length)) (nb L.length) (Lib.byteCells (packTo (nb L.length) (L.take k))) /\ Upon (fun _ => False) w wr) (fun i _ => L.length - (intOf i).toNat)
 case atStart => exact ⟨0, Nat.zero_le _, rfl, hown.out, hup.out⟩
 case round =>
  obtain ⟨k, hk, rfl, hrow, hu⟩ := hrel
  have k1 := (World.cell?_of_block (w := w) (a := ⟨q, 0, none⟩) (hu.block q hql.out (fun f => f))).trans k0h.out
  by_cases hlt : k < L.length
  ·obtain ⟨g, cap, hv, -, hgl2⟩ := h.out.row.form (show 0 < L.length by omega)
   cases hv
   have hc := h.out.row.cells (g := g) rfl k (.bool L[k]) (by simp [boolCells, hlt])
   rw [Arg.addr_plain, Nat.zero_add] at hc
   have k2 := (World.cell?_of_block (w := w) (a := ⟨g, k, none⟩) (hu.block g hgl2 (fun f => f))).trans hc
   have hts := List.take_succ_eq_append_getElem hlt
   replace hu := Lib.hid hu
   clear hc
   cases hb : L[k] with
   | false =>
    rw [hb] at k2 hts
    have hrow2 : Hid (wr.ownsRow 0 5 1 (.slice (some ⟨w.heap.size, 0, none⟩) (nb L.length) (nb L.length)) (nb L.length) (Lib.byteCells (packTo (nb L.length) (L.take (k + 1))))) := Lib.hid (by rw [hts, packTo_false]; exact hrow)
    clear hrow hts hb
    go_wp2_with fail
    go_roundw
    case rel => exact ⟨k + 1, by omega, by go_num, hrow2.out, hu.out⟩
    case measure => simp [intOf]; omega
   | true =>
    rw [hb] at k2 hts
    have htl : (L.take k).length = k := by rw [List.length_take]; omega
    have hkm : k / 8 < nb L.length := by unfold nb; omega
    obtain ⟨b1, b2⟩ := row_byte (L := L.take k) (by rw [htl]; exact hkm) hrow
    rw [htl] at b1 b2
    have hadd := add_bit (L.take k)
    rw [htl] at hadd
    obtain ⟨P, hP⟩ : ∃ P : Nat, P = pk (L.take k) (k / 8) + true.toNat * 2 ^ (7 - k % 8) := ⟨_, rfl⟩
    have hset : Hid (∀ w2 : World, w2.heap = wr.heap -> Upon (fun _ => False) w w2 -> (w2.setCell ⟨w.heap.size, k / 8, none⟩ (.int .u8 (P : Int))).ownsRow 0 5 1 (.slice (some ⟨w.heap.size, 0, none⟩) (nb L.length) (nb L.length)) (nb L.length) (Lib.byteCells (packTo (nb L.length) (L.take (k + 1)))) /\ Upon (fun _ => False) w (w2.setCell ⟨w.heap.size, k / 8, none⟩ (.int .u8 (P : Int)))) := Lib.hid (fun w2 e2 hu2 => by
     have hr2 : w2.ownsRow 0 5 1 (.slice (some ⟨w.heap.size, 0, none⟩) (nb L.length) (nb L.length)) (nb L.length) (Lib.byteCells (packTo (nb L.length) (L.take k))) := ownsRow_kept hrow fun b _ => by rw [e2]
     refine ⟨?_, hu2.setCell (p := ⟨w.heap.size, k / 8, none⟩) (.inr (Nat.le_refl _)) _⟩
     have hpl : P < 256 := by
      have := pk_lt (L.take k ++ [true]) ((L.take k).length / 8)
      rw [pk_at, htl] at this; omega
     have hs := row_set (j := k / 8) (b := UInt8.ofNat P) hr2
     rw [UInt8.toNat_ofNat', Nat.mod_eq_of_lt hpl] at hs
     rw [hts, packTo_snoc _ _ _ (by rw [htl]; exact hkm), htl, <- hP]
     exact hs)
    rw [<- hP] at hadd
    replace hts := Lib.hid hts
    clear hP hb hrow htl
    have i1 : IntKind.i64.wrap ((k : Int) / 8) = (k : Int) / 8 := IntWalk.i64_in _ (by omega)
    have i2 : ((k : Int) / 8).toNat = k / 8 := by omega
    have i3 : 0 <= (k : Int) / 8 := by omega
    have i4 : (k : Int) / 8 < (nb L.length : Nat) := by omega
    have i5 : ((k : Int) % 8).toNat = k % 8 := by omega
    have i6 : 0 <= (k : Int) % 8 := by omega
    have i7 : (k : Int).tmod 8 = (k : Int) % 8 := IntWalk.rem_in _ _ (by omega)
    go_wp2_with fail
    go_still_tail 13, (by kernel_rfl)
    change wpList _ _ _ _ _ wr.drew
    have hu2 : Hid (Upon (fun _ => False) w wr.drew) := Lib.hid hu.out.drew
    obtain ⟨n1, n2⟩ := hset.out wr.drew rfl hu2.out
    have f2 : wr.drew.frozen? ⟨w.heap.size, k / 8, none⟩ = false := b2
    have c2 : wr.drew.cell? ⟨w.heap.size, k / 8, none⟩ = some (.int .u8 ((pk (L.take k) (k / 8) : Nat) : Int)) := b1
    replace n1 := Lib.hid n1
    replace n2 := Lib.hid n2
    clear hset i1 i2 i3 i4 i5 i6 i7 hadd b1 b2 k1 k2 hu2
    generalize wr.drew = w2 at *
    go_wp2_with fail
    go_roundw
    case rel => exact ⟨k + 1, by omega, by go_num, n1.out, n2.out⟩
    case measure => simp [intOf]; omega
  ·obtain rfl : k = L.length := by omega
   rw [List.take_length] at hrow
   have hcv := run_text wr (.slice (some ⟨w.heap.size, 0, none⟩) (nb L.length) (nb L.length)) (pack L) (by rw [pack_length]; exact hrow)
   have hb : Hid (Below w.heap.size w wr) := Lib.hid (hu.below (Nat.le_refl _) fun _ f => f.elim)
   clear hrow hu hlt
   go_wp2_with fail
   go_ret
   exact ⟨rfl, hb.out⟩
end Bit
end
section
open Go.RowKit Go.Sort
namespace Bit
open Dsk Ob Arg
end Bit
end
section
open Go.RowKit
namespace Bit
open Dsk Ob
theorem bit_eq8 (s : ByteArray) (k : Nat) (h : k / 8 < s.size) : ((((s[k / 8]).toNat : Int) / 2 ^ (7 - k % 8)).tmod 2 == 1) = bitAt s.data.toList k := by
 rw [bit_eq]
 unfold bitAt
 rw [Nat.testBit_eq_decide_div_mod_eq, List.getD_eq_getElem?_getD, List.getElem?_eq_getElem (by simpa using h)]
 rfl
abbrev IsRR0 (w : World) (S : Nat -> Prop) (q : Nat) (L : List Bool) : Prop := ∃ v, RwM 202 w S q L v
set_option maxRecDepth 100000 in
set_option maxHeartbeats 3200000 in
theorem refNewReader_any (s : ByteArray) (n : Int) (hs : s.size <= 1000000000000) (hn0 : -9223372036854775808 <= n) (hn1 : n <= 9223372036854775807) (w : World) :
    Calls Tryz.prog 108 #[.string s, .int .i64 n] w fun e w' => ∃ q, e = .returned (.pointer (some ⟨q, 0, none⟩)) /\ Own (fun w S => IsRR0 w S q (bitsAt s.data.toList 0 (ends s n))) w w' /\ w.heap.size <= q := by
  obtain ⟨i0, hi, hz0, hz1, hz2⟩ := info_parts infoBool
  have h0 : Hid (Own (fun w' S => IsRR0 w' S w.heap.size (bitsAt s.data.toList 0 0)) w (w.alloc (.cells #[.slice none 0 0] 202 (0, 0)))) := Lib.hid
    ⟨⟨fun b => b = w.heap.size, ⟨_, cell_new w _, World.ownsRow_nil _ _ _ _, rfl, (fun b h => by cases h), fun b hb => by rw [hb]; simp⟩, fun b hb => by rw [hb]; exact Nat.le_refl _⟩, (Below.refl _ w).alloc (Nat.le_refl _) _⟩
  obtain ⟨E, hE⟩ : ∃ E, E = ends s n := ⟨_, rfl⟩
  have hEn : (E : Int) = max 0 (min n (8 * s.size)) := by rw [hE]; unfold ends; omega
  rw [<- hE]
  clear hE
  have hE8 : E <= 8 * s.size := by omega
  replace hEn := Lib.hid hEn
  go_enter Tryz.func108, Tryz.ntmps108
  go_wp2_with fail
  have hR := Lib.hid (Nat.le_refl w.heap.size)
  obtain ⟨R, hRe⟩ : ∃ R, R = w.heap.size := ⟨_, rfl⟩
  have hRl : Hid (w.heap.size <= R) := Lib.hid (by omega)
  rw [<- hRe] at h0 ⊢
  clear hR hRe
  generalize w.alloc (.cells #[.slice none 0 0] 202 (0, 0)) = w1 at *
  go_loopw [6] (fun i wr => ∃ k : Nat, k <= E /\ i = .int .i64 k /\ Own (fun w S => IsRR0 w S R (bitsAt s.data.toList 0 k)) w wr) (fun i _ => E - (intOf i).toNat)
  case atStart => exact ⟨0, Nat.zero_le _, rfl, h0.out⟩
  case round =>
    obtain ⟨k, hk, rfl, hst⟩ := hrel
    by_cases hlt : k < E
    · have hkn : (k : Int) < n := by have := hEn.out; omega
      have hks : (k : Int) < 8 * (s.size : Int) := by omega
      have hd1 : decide ((k : Int) < 8 * (s.size : Int)) = true := by simpa using hks
      have hd2 : decide ((k : Int) < n) = true := by simpa using hkn
      obtain ⟨S', ⟨rv, hw⟩, hgo⟩ := hst.get
      replace hgo := Lib.hid hgo
      have hidx : k / 8 < s.size := by omega
      have hbit := bit_eq8 s k hidx
      have hsn : Hid (bitsAt s.data.toList 0 (k + 1) = bitsAt s.data.toList 0 k ++ [bitAt s.data.toList k]) := Lib.hid (by rw [bitsAt_snoc, Nat.zero_add])
      have hlen : Hid ((bitsAt s.data.toList 0 k).length <= 100000000000000) := Lib.hid (by rw [bitsAt_length]; omega)
      have k0 : wr.cell? ⟨R, 0, none⟩ = some rv := by rw [Lib.cell_of_heap hw.cell]; rfl
      have c0a := fun (o : Go.Obj) => (World.cell?_alloc_lt wr o ⟨R, 0, none⟩ (hw.lt R hw.s_q)).trans k0
      replace hw := Lib.hid hw
      clear hst
      generalize bitsAt s.data.toList 0 k = M at *
      generalize bitAt s.data.toList k = B at *
      have i1 : IntKind.i64.wrap ((k : Int) / 8) = (k : Int) / 8 := IntWalk.i64_in _ (by omega)
      have i2 : ((k : Int) / 8).toNat = k / 8 := by omega
      have i3 : 0 <= (k : Int) / 8 := by omega
      have i4 : (k : Int) / 8 < (s.size : Nat) := by omega
      have i5 : (k : Int).tmod 8 = (k : Int) % 8 := IntWalk.rem_in _ _ (by omega)
      have i6 : IntKind.i64.wrap (7 - (k : Int) % 8) = ((7 - k % 8 : Nat) : Int) := by rw [IntWalk.i64_in _ (by omega)]; omega
      go_wp2_with fail
      go_region_law (first
        | (refine step_append_lies (o := ⟨some 37, _, _, _, _, _⟩) _ (by rfl) _ _ _ (by rfl) 0 4 i0 (.bool false) 1 1 Tryz.underlying200 hi hz0 hz1 hz2 rfl (by omega) _ M.length (boolCells M) (by rfl) (ownsRow_kept hw.out.row (fun b hb => Below.heap_alloc _ _ _ (hw.out.row.lt b hb).2)) ⟨wr.heap.size, 0, none⟩ 1 1 [_] (by rfl) rfl (World.news_of_block (cell_new _ _)) (by simp [Value.oneCell']) (by omega) (by have := hlen.out; unfold maxLen; omega) (by have := hlen.out; omega) (by omega) _ rfl ?_
           intro g cap w2 hown hgrow hat hlt2
           obtain ⟨hq1, hst2⟩ := RwM.more (T := 202) (by decide) (w := wr) (b := B) hw.out hown ⟨hgrow.os, hgrow.tape, hgrow.output, hgrow.size, hgrow.block⟩ (hat.imp id (fun e => by simpa using e))
           have d0 : w2.cell? ⟨R, 0, none⟩ = some rv := by rw [Lib.cell_of_heap hq1]; rfl
           have f0 := Lib.frozen_of_heap hq1 0
           have HG := Lib.hid (fun w3 e => hgo.out _ _ (hst2 w3 e))
           clear hown hgrow hat hlt2 hq1 hst2))
      all_goals
        go_wp2_with fail
        go_roundw
        case rel => exact ⟨k + 1, by omega, by go_num, by rw [hsn.out]; exact HG.out _ rfl⟩
        case measure => simp [intOf]; omega
    · obtain rfl : k = E := by omega
      have hcond : decide ((k : Int) < 8 * (s.size : Int)) = false \/ (decide ((k : Int) < 8 * (s.size : Int)) = true /\ decide ((k : Int) < n) = false) := by
        have := hEn.out
        by_cases h : (k : Int) < 8 * (s.size : Int)
        · right; simp; omega
        · left; simp; omega
      replace hst := Lib.hid hst
      rcases hcond with hc1 | ⟨hc1, hc2⟩
      all_goals
        go_wp2_with fail
        go_ret
        exact ⟨R, rfl, hst.out, hRl.out⟩
end Bit
end
section
open Go.RowKit
namespace Bit
open Dsk Ob
def ViewAt (w : World) (S : Nat -> Prop) (v : Value) (K : List Bool) : Prop :=
 (v = .slice none 0 0 /\ K = []) \/ ∃ g off cap, v = .slice (some ⟨g, off, none⟩) K.length cap /\ K.length <= cap /\ cap < 9223372036854775808 /\ S g /\ ∀ i (h : i < K.length), w.cell? ⟨g, off + i, none⟩ = some (.bool K[i])
structure RvM (w : World) (S : Nat -> Prop) (q : Nat) (K : List Bool) (v : Value) : Prop where
 cell : w.heap[q]? = some (.cells #[v] 202 (0, 0))
 view : ViewAt w S v K
 s_q : S q
 lt : ∀ b, S b -> b < w.heap.size
 ne : ∀ g off n cap, v = .slice (some ⟨g, off, none⟩) n cap -> g ≠ q
def IsRR (w : World) (S : Nat -> Prop) (q : Nat) (K : List Bool) : Prop := ∃ v, RvM w S q K v
theorem ViewAt.kept {w w' : World} {S : Nat -> Prop} {v : Value} {K : List Bool} (h : ViewAt w S v K) (hk : ∀ b, S b -> w'.heap[b]? = w.heap[b]?) : ViewAt w' S v K := by
 rcases h with h | ⟨g, off, cap, h1, h2, hc, h3, h4⟩
 ·exact .inl h
 ·exact .inr ⟨g, off, cap, h1, h2, hc, h3, fun i hi => (World.cell?_of_block (hk g h3)).trans (h4 i hi)⟩
theorem objRR (q : Nat) (K : List Bool) : Thing (fun w S => IsRR w S q K) where
 kept := fun w w' S ⟨v, h⟩ hk hs => ⟨v, { h with cell := (hk q h.s_q).trans h.cell, view := h.view.kept hk, lt := fun b hb => Nat.lt_of_lt_of_le (h.lt b hb) hs }⟩
 lt := fun _ _ ⟨_, h⟩ => h.lt
theorem IsRR.of_filled {w : World} {S : Nat -> Prop} {q : Nat} {L : List Bool} (h : IsRR0 w S q L) : IsRR w S q L := by
 obtain ⟨v, h⟩ := h
 refine ⟨v, h.cell, ?_, h.s_q, h.lt, ?_⟩
 ·rcases h.row.2 with ⟨hv, h0⟩ | ⟨g, cap, cur, hv, hb, hg, hmc, hcm, hcs, ht⟩
  ·exact .inl ⟨hv, List.length_eq_zero_iff.1 h0⟩
  ·refine .inr ⟨g, 0, cap, hv, hmc, ?_, h.s_v g (by rw [hv]; rfl), fun i hi => ?_⟩
   ·have := hcm; unfold maxLen at this; omega
   ·have hc := h.row.cells (g := g) (by rw [hv]; rfl) i (.bool L[i]) (by simp [boolCells, hi])
    rw [Arg.addr_plain] at hc
    exact hc
 ·rintro g off n cap rfl
  obtain ⟨c, hc⟩ := own_block_of h.row rfl
  exact ne_of_bool (by decide) h.cell hc
theorem refGet_no (S : Nat -> Prop) (q : Nat) (K : List Bool) (n : Int) (w : World) (h : IsRR w S q K) (hn : n < 0 \/ 64 < n \/ (K.length : Int) < n) :
  Calls Tryz.prog 157 #[.pointer (some ⟨q, 0, none⟩), .int .i64 n] w fun x w' => x = .returned (.tuple #[.int .u64 0, .bool false]) /\ w = w' := by
 obtain ⟨v, h⟩ := h
 have k0 : w.cell? ⟨q, 0, none⟩ = some v := by rw [Lib.cell_of_heap h.cell]; rfl
 have hv : ∃ A c, v = .slice A K.length c := by
  rcases h.view with ⟨h1, h2⟩ | ⟨g, off, cap, h1, _⟩
  ·exact ⟨none, 0, by rw [h1, h2]; rfl⟩
  ·exact ⟨_, _, h1⟩
 obtain ⟨A, c, rfl⟩ := hv
 clear h
 have hc : decide (n < 0) = true \/ (decide (n < 0) = false /\ decide (64 < n) = true) \/ (decide (n < 0) = false /\ decide (64 < n) = false /\ decide ((K.length : Int) < n) = true) := by
  by_cases h1 : n < 0
  ·left; simpa using h1
  ·by_cases h2 : 64 < n
   ·right; left; exact ⟨by simpa using h1, by simpa using h2⟩
   ·right; right; exact ⟨by simpa using h1, by simpa using h2, by simp; omega⟩
 rcases hc with h1 | ⟨h1, h2⟩ | ⟨h1, h2, h3⟩
 all_goals
  clear hn
  go_enter Tryz.func157, Tryz.ntmps157
  go_wp2_with fail
  go_ret2
  exact ⟨rfl, rfl⟩
theorem numOf_step (K : List Bool) (k : Nat) (h : k < K.length) : numOf (K.take (k + 1)) = 2 * numOf (K.take k) + (K[k]).toNat := by
 rw [List.take_succ_eq_append_getElem h, numOf_snoc]
theorem numOf_small (K : List Bool) (k : Nat) (h : k < 64) : numOf (K.take k) < 9223372036854775808 := by
 have h1 := numOf_lt (K.take k)
 have h2 : 2 ^ (K.take k).length <= 2 ^ 63 := Nat.pow_le_pow_right (by decide) (by rw [List.length_take]; omega)
 omega
theorem RvM.cut {w : World} {S : Nat -> Prop} {q g off off' cap cap' m : Nat} {K : List Bool} (h : RvM w S q K (.slice (some ⟨g, off, none⟩) K.length cap)) (hm : m <= K.length) (hc : K.length - m <= cap') (hc2 : cap' < 9223372036854775808) (hS : S g) (hall : ∀ i (h : i < K.length), w.cell? ⟨g, off + i, none⟩ = some (.bool K[i])) (ho : off' = off + m \/ m = K.length) :
  ObjStep (fun w S => IsRR w S q (K.drop m)) S w (w.setCell ⟨q, 0, none⟩ (.slice (some ⟨g, off', none⟩) (K.length - m) cap')) := by
 have hq : w.heap[q]? = some (.cells #[.slice (some ⟨g, off, none⟩) K.length cap] 202 (0, 0)) := h.cell
 have hne := h.ne g off _ _ rfl
 refine ⟨⟨S, ⟨.slice (some ⟨g, off', none⟩) (K.length - m) cap', ?_, .inr ⟨g, off', cap', by rw [List.length_drop], by rw [List.length_drop]; omega, by omega, hS, fun i hi => ?_⟩, h.s_q, fun b hb => ?_, ?_⟩, fun _ h => h, fun _ h => .inl h⟩, (Upon.refl S w).setCell (p := ⟨q, 0, none⟩) (.inl h.s_q) _⟩
 ·simp [World.setCell, Array.getElem?_modify, hq]
 ·rw [World.cell?_of_block (w := w) (Below.heap_setCell _ _ _ _ hne)]
  rw [List.length_drop] at hi
  rcases ho with ho | ho
  ·rw [List.getElem_drop, ho, Nat.add_assoc]
   exact hall (m + i) (by omega)
  ·omega
 ·have : (w.setCell ⟨q, 0, none⟩ (.slice (some ⟨g, off', none⟩) (K.length - m) cap')).heap.size = w.heap.size := by simp [World.setCell]
  rw [this]; exact h.lt b hb
 ·rintro g' off' n' cap' hv
  cases hv
  exact hne
set_option maxRecDepth 100000 in
set_option maxHeartbeats 1600000 in
theorem refGet_ok (S : Nat -> Prop) (q : Nat) (K : List Bool) (m : Nat) (w : World) (h : IsRR w S q K) (hm : m <= 64) (hle : m <= K.length) :
  Calls Tryz.prog 157 #[.pointer (some ⟨q, 0, none⟩), .int .i64 (m : Int)] w fun x w' => x = .returned (.tuple #[.int .u64 (numOf (K.take m) : Int), .bool true]) /\ ObjStep (fun w S => IsRR w S q (K.drop m)) S w w' := by
 obtain ⟨v, h⟩ := h
 have k0 : w.cell? ⟨q, 0, none⟩ = some v := by rw [Lib.cell_of_heap h.cell]; rfl
 have hf := Lib.frozen_of_heap h.cell 0
 have hd1 : decide ((m : Int) < 0) = false := by simp
 have hd2 : decide (64 < (m : Int)) = false := by simp; omega
 have hd3 : decide (K.length < m) = false := by simp; omega
 rcases h.view with ⟨rfl, rfl⟩ | ⟨g, off, cap, rfl, hcap, hcap2, hS, hall⟩
 ·obtain rfl : m = 0 := by simpa using hle
  have H : Hid (ObjStep (fun w S => IsRR w S q []) S w (w.setCell ⟨q, 0, none⟩ (.slice none 0 0))) := Lib.hid (by
   have hq := h.cell
   refine ⟨⟨S, ⟨.slice none 0 0, ?_, .inl ⟨rfl, rfl⟩, h.s_q, fun b hb => ?_, ?_⟩, fun _ h => h, fun _ h => .inl h⟩, (Upon.refl S w).setCell (p := ⟨q, 0, none⟩) (.inl h.s_q) _⟩
   ·simp [World.setCell, Array.getElem?_modify, hq]
   ·have : (w.setCell ⟨q, 0, none⟩ (.slice none 0 0)).heap.size = w.heap.size := by simp [World.setCell]
    rw [this]; exact h.lt b hb
   ·rintro g' off' n' cap' hv; cases hv)
  clear h hd3 hle hm
  go_enter Tryz.func157, Tryz.ntmps157
  go_wp2_with fail
  go_loopw [6, 7] (fun v i wr => v = .int .u64 0 /\ i = .int .i64 0 /\ w = wr) (fun _ i _ => (intOf i).toNat)
  case atStart => exact ⟨rfl, rfl, rfl⟩
  case round =>
   obtain ⟨rfl, rfl, rfl⟩ := hrel
   go_wp2_with fail
   go_ret2
   exact ⟨rfl, H.out⟩
 ·have HC : Hid (∀ off' cap', K.length - m <= cap' -> cap' < 9223372036854775808 -> (off' = off + m \/ m = K.length) -> ObjStep (fun w S => IsRR w S q (K.drop m)) S w (w.setCell ⟨q, 0, none⟩ (.slice (some ⟨g, off', none⟩) (K.length - m) cap'))) := Lib.hid fun off' cap' h1 h2 h3 => h.cut hle h1 h2 hS hall h3
  replace hall := Lib.hid hall
  have hKc : K.length < 9223372036854775808 := by omega
  clear h
  go_enter Tryz.func157, Tryz.ntmps157
  go_wp2_with fail
  clear hd1 hd2 hd3
  go_loopw [6, 7] (fun v i wr => ∃ k : Nat, k <= m /\ i = .int .i64 k /\ v = .int .u64 (numOf (K.take k) : Int) /\ w = wr) (fun _ i _ => m - (intOf i).toNat)
  case atStart => exact ⟨0, Nat.zero_le _, rfl, rfl, rfl⟩
  case round =>
   obtain ⟨k, hk, rfl, rfl, rfl⟩ := hrel
   by_cases hlt : k < m
   ·have hkl : k < K.length := by omega
    have c0 := hall.out k hkl
    have hV := numOf_small K k (by omega)
    have hnx : Hid (numOf (K.take (k + 1)) = 2 * numOf (K.take k) + (K[k]).toNat) := Lib.hid (numOf_step K k hkl)
    generalize numOf (K.take k) = V at *
    have w1 : IntKind.u64.wrap (2 * (V : Int)) = 2 * (V : Int) := by rw [IntKind.wrap_u64]; omega
    have w2 : IntKind.u64.wrap (2 * (V : Int) + 1) = 2 * (V : Int) + 1 := by rw [IntKind.wrap_u64]; omega
    cases hb : K[k] with
    | true =>
     rw [hb] at c0
     have hnx2 : Hid (numOf (K.take (k + 1)) = 2 * V + 1) := Lib.hid (by rw [hnx.out, hb]; rfl)
     clear hb hnx
     go_wp2_with fail
     go_roundw
     case rel => exact ⟨k + 1, by omega, by go_num, by rw [hnx2.out]; exact ⟨by go_num, trivial⟩⟩
     case measure => simp [intOf]; omega
    | false =>
     rw [hb] at c0
     have hnx2 : Hid (numOf (K.take (k + 1)) = 2 * V) := Lib.hid (by rw [hnx.out, hb]; rfl)
     clear hb hnx
     go_wp2_with fail
     go_roundw
     case rel => exact ⟨k + 1, by omega, by go_num, by rw [hnx2.out]; exact ⟨by go_num, trivial⟩⟩
     case measure => simp [intOf]; omega
   ·obtain rfl : k = m := by omega
    clear hlt
    by_cases hck : cap = k
    all_goals
     go_wp2_with fail
     go_ret2
     exact ⟨rfl, HC.out _ _ (by omega) (by omega) (by omega)⟩
end Bit
end
section
open Go.RowKit Go.Sort
namespace Bit
open Dsk Ob Arg
theorem bitsAt_take (s : List UInt8) (a d m : Nat) (h : m <= d) : (bitsAt s a d).take m = bitsAt s a m := by
 obtain ⟨r, rfl⟩ := Nat.exists_eq_add_of_le h
 rw [bitsAt_add, List.take_left' (bitsAt_length _ _ _)]
theorem bitsAt_drop (s : List UInt8) (a d m : Nat) (h : m <= d) : (bitsAt s a d).drop m = bitsAt s (a + m) (d - m) := by
 obtain ⟨r, rfl⟩ := Nat.exists_eq_add_of_le h
 rw [bitsAt_add, List.drop_left' (bitsAt_length _ _ _), Nat.add_sub_cancel_left]
end Bit
end
end
end Go.Proofs.YtgmnhodajngchaaGreatDoor
