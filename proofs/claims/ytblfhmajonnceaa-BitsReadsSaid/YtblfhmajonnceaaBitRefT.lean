/- The document's own writer of bits: its text. -/
import Derived.Test.YtblfhmajonnceaaBitRef
namespace Go.Proofs.Ytblfhmajonnceaa
open Go.RowKit
namespace Bit
open Dsk Ob
set_option linter.unusedVariables false

theorem pk_nil (j : Nat) : pk [] j = 0 := by unfold pk; rw [chunk_behind [] j (by simp)]; simp [numOf]
theorem packTo_nil (m : Nat) : Lib.byteCells (packTo m []) = List.replicate m (.int .u8 0) := by
  unfold packTo Lib.byteCells
  apply List.ext_getElem
  · simp
  · intro i h1 h2
    simp [pk_nil]
theorem packTo_false (m : Nat) (L : List Bool) : packTo m (L ++ [false]) = packTo m L := by
  unfold packTo
  apply List.map_congr_left
  intro j _
  by_cases h : j = L.length / 8
  · subst h; rw [pk_at]; simp
  · rw [pk_other L false j h]
theorem div_pow (k : Nat) (h : k < 8) : (128 : Nat) / 2 ^ k = 2 ^ (7 - k) := by
  have e : (128 : Nat) = 2 ^ (7 - k) * 2 ^ k := by rw [← Nat.pow_add, show 7 - k + k = 7 by omega]
  rw [e, Nat.mul_div_cancel _ (Nat.two_pow_pos k)]
theorem add_bit (L : List Bool) : IntKind.u8.wrap (((pk L (L.length / 8) : Nat) : Int) + 128 / 2 ^ (L.length % 8)) = ((pk L (L.length / 8) + true.toNat * 2 ^ (7 - L.length % 8) : Nat) : Int) := by
  have h8 : L.length % 8 < 8 := Nat.mod_lt _ (by decide)
  have e1 : (128 : Int) / 2 ^ (L.length % 8) = ((2 ^ (7 - L.length % 8) : Nat) : Int) := by
    rw [← div_pow _ h8]; rw [Int.natCast_ediv, Int.natCast_pow]; rfl
  have h := pk_lt (L ++ [true]) (L.length / 8)
  rw [pk_at] at h
  have e2 : true.toNat * 2 ^ (7 - L.length % 8) = 2 ^ (7 - L.length % 8) := by simp
  rw [e1, e2]
  rw [e2] at h
  generalize 2 ^ (7 - L.length % 8) = p at *
  rw [IntKind.wrap_u8]
  omega
theorem row_byte {w : World} {G m cap : Nat} {L : List Bool} (hm : L.length / 8 < m) (h : w.ownsRow 0 5 1 (.slice (some ⟨G, 0, none⟩) m cap) m (Lib.byteCells (packTo m L))) :
    w.cell? ⟨G, L.length / 8, none⟩ = some (.int .u8 ((pk L (L.length / 8) : Nat) : Int)) ∧ w.frozen? ⟨G, L.length / 8, none⟩ = false := by
  obtain ⟨g, cap', hv, h1, h2, _⟩ := WrM.byte hm h
  cases hv
  exact ⟨h1, h2 _⟩

set_option maxHeartbeats 3200000 in
theorem reftext_any (S : Nat → Prop) (q : Nat) (L : List Bool) (w : World) (h : IsRW w S q L) (hL : L.length ≤ 90000000000000) :
    Calls Try.prog 12 #[.pointer (some ⟨q, 0, none⟩)] w fun e w' => e = .returned (.string ⟨(pack L).toArray⟩) ∧ Below w.heap.size w w' := by
  obtain ⟨rv, h⟩ := h
  obtain ⟨i0, hi, hz0, hz1, hz2⟩ := info_parts infoU8
  have k0 : w.cell? ⟨q, 0, none⟩ = some rv := by rw [Lib.cell_of_heap h.cell]; rfl
  have hql : Hid (q < w.heap.size) := Lib.hid (h.lt q h.s_q)
  have hslice : ∃ A c, rv = .slice A L.length c := by
    rcases h.row.2 with ⟨hv, h0⟩ | ⟨g, cap, cur, hv, _⟩
    · exact ⟨none, 0, by rw [hv, h0]⟩
    · exact ⟨_, _, hv⟩
  obtain ⟨A, c, rfl⟩ := hslice
  replace h := Lib.hid h
  have k0h := Lib.hid k0
  have hn : IntKind.i64.wrap (((L.length : Int) + 7).tdiv 8) = ((nb L.length : Nat) : Int) := by
    rw [IntWalk.i64_quo _ _ (by omega)]; unfold nb; omega
  go_enter Try.func12, Try.ntmps12
  go_wp2_with (refine wpList_make_full _ rfl _ _ 47 rfl 0 5 i0 (.int .u8 0) 1 Try.underlying47 hi hz0 hz1 .i64 .i64 _ _ (nb L.length) rfl rfl ?c1 ?c2 ?c3 ?c4 ?c5 ?_)
  case c1 => unfold nb; omega
  case c2 => unfold nb; omega
  case c3 => rw [hz2]; unfold nb; omega
  case c4 => unfold nb maxLen; omega
  case c5 => omega
  intro w1 hown hgrow
  rw [toList_madeCells_one, ← packTo_nil] at hown
  have hup : Hid (Upon (fun _ => False) w w1) := Lib.hid ((Upon.refl _ w).grown hgrow (fun k hk => by cases hk))
  have hgl : w.heap.size < w1.heap.size := by
    have := hown.lt w.heap.size
    rcases hown.2 with ⟨h0, _⟩ | ⟨g, cap, cur, hv, _, hgg, _⟩
    · cases h0
    · cases hv; exact (Array.getElem?_eq_some_iff.1 hgg).1
  have k1 := (World.cell?_of_block (w := w) (a := ⟨q, 0, none⟩) (hup.out.block q hql.out (fun f => f))).trans k0
  replace hown : Hid (w1.ownsRow 0 5 1 (.slice (some ⟨w.heap.size, 0, none⟩) (nb L.length) (nb L.length)) (nb L.length) (Lib.byteCells (packTo (nb L.length) (L.take 0)))) := Lib.hid hown
  clear hgrow k0
  replace hgl := Lib.hid hgl
  go_wp2_with fail
  clear hn hi hz0 hz1 hz2 k1
  go_loopw [4] (fun i wr => ∃ k : Nat, k ≤ L.length ∧ i = .int .i64 k ∧ wr.ownsRow 0 5 1 (.slice (some ⟨w.heap.size, 0, none⟩) (nb L.length) (nb L.length)) (nb L.length) (Lib.byteCells (packTo (nb L.length) (L.take k))) ∧ Upon (fun _ => False) w wr) (fun i _ => L.length - (intOf i).toNat)
  case atStart => exact ⟨0, Nat.zero_le _, rfl, hown.out, hup.out⟩
  case round =>
    obtain ⟨k, hk, rfl, hrow, hu⟩ := hrel
    have k1 := (World.cell?_of_block (w := w) (a := ⟨q, 0, none⟩) (hu.block q hql.out (fun f => f))).trans k0h.out
    by_cases hlt : k < L.length
    · obtain ⟨g, cap, hv, -, hgl2⟩ := h.out.row.form (show 0 < L.length by omega)
      cases hv
      have hc := h.out.row.cells (g := g) rfl k (.bool L[k]) (by simp [boolCells, hlt])
      rw [Arg.addr_plain, Nat.zero_add] at hc
      have k2 := (World.cell?_of_block (w := w) (a := ⟨g, k, none⟩) (hu.block g hgl2 (fun f => f))).trans hc
      have hts := List.take_succ_eq_append_getElem hlt
      replace hu := Lib.hid hu
      clear hc
      cases hb : L[k] with
      | false =>
        rw [hb] at k2 hts
        have hrow2 : Hid (wr.ownsRow 0 5 1 (.slice (some ⟨w.heap.size, 0, none⟩) (nb L.length) (nb L.length)) (nb L.length) (Lib.byteCells (packTo (nb L.length) (L.take (k + 1))))) := Lib.hid (by rw [hts, packTo_false]; exact hrow)
        clear hrow hts hb
        go_wp2_with fail
        go_roundw
        case rel => exact ⟨k + 1, by omega, by go_num, hrow2.out, hu.out⟩
        case measure => simp [intOf]; omega
      | true =>
        rw [hb] at k2 hts
        have htl : (L.take k).length = k := by rw [List.length_take]; omega
        have hkm : k / 8 < nb L.length := by unfold nb; omega
        obtain ⟨b1, b2⟩ := row_byte (L := L.take k) (by rw [htl]; exact hkm) hrow
        rw [htl] at b1 b2
        have hadd := add_bit (L.take k)
        rw [htl] at hadd
        obtain ⟨P, hP⟩ : ∃ P : Nat, P = pk (L.take k) (k / 8) + true.toNat * 2 ^ (7 - k % 8) := ⟨_, rfl⟩
        have hset : Hid (∀ w2 : World, w2.heap = wr.heap → Upon (fun _ => False) w w2 → (w2.setCell ⟨w.heap.size, k / 8, none⟩ (.int .u8 (P : Int))).ownsRow 0 5 1 (.slice (some ⟨w.heap.size, 0, none⟩) (nb L.length) (nb L.length)) (nb L.length) (Lib.byteCells (packTo (nb L.length) (L.take (k + 1)))) ∧ Upon (fun _ => False) w (w2.setCell ⟨w.heap.size, k / 8, none⟩ (.int .u8 (P : Int)))) := Lib.hid (fun w2 e2 hu2 => by
          have hr2 : w2.ownsRow 0 5 1 (.slice (some ⟨w.heap.size, 0, none⟩) (nb L.length) (nb L.length)) (nb L.length) (Lib.byteCells (packTo (nb L.length) (L.take k))) := ownsRow_kept hrow fun b _ => by rw [e2]
          refine ⟨?_, hu2.setCell (p := ⟨w.heap.size, k / 8, none⟩) (.inr (Nat.le_refl _)) _⟩
          have hpl : P < 256 := by
            have := pk_lt (L.take k ++ [true]) ((L.take k).length / 8)
            rw [pk_at, htl] at this; omega
          have hs := row_set (j := k / 8) (b := UInt8.ofNat P) hr2
          rw [UInt8.toNat_ofNat', Nat.mod_eq_of_lt hpl] at hs
          rw [hts, packTo_snoc _ _ _ (by rw [htl]; exact hkm), htl, ← hP]
          exact hs)
        rw [← hP] at hadd
        replace hts := Lib.hid hts
        clear hP hb hrow htl
        have i1 : IntKind.i64.wrap ((k : Int) / 8) = (k : Int) / 8 := IntWalk.i64_in _ (by omega)
        have i2 : ((k : Int) / 8).toNat = k / 8 := by omega
        have i3 : 0 ≤ (k : Int) / 8 := by omega
        have i4 : (k : Int) / 8 < (nb L.length : Nat) := by omega
        have i5 : ((k : Int) % 8).toNat = k % 8 := by omega
        have i6 : 0 ≤ (k : Int) % 8 := by omega
        have i7 : (k : Int).tmod 8 = (k : Int) % 8 := IntWalk.rem_in _ _ (by omega)
        go_wp2_with fail
        go_still_tail 13, (by kernel_rfl)
        change wpList _ _ _ _ _ wr.drew
        have hu2 : Hid (Upon (fun _ => False) w wr.drew) := Lib.hid hu.out.drew
        obtain ⟨n1, n2⟩ := hset.out wr.drew rfl hu2.out
        have f2 : wr.drew.frozen? ⟨w.heap.size, k / 8, none⟩ = false := b2
        have c2 : wr.drew.cell? ⟨w.heap.size, k / 8, none⟩ = some (.int .u8 ((pk (L.take k) (k / 8) : Nat) : Int)) := b1
        replace n1 := Lib.hid n1
        replace n2 := Lib.hid n2
        clear hset i1 i2 i3 i4 i5 i6 i7 hadd b1 b2 k1 k2 hu2
        generalize wr.drew = w2 at *
        go_wp2_with fail
        go_roundw
        case rel => exact ⟨k + 1, by omega, by go_num, n1.out, n2.out⟩
        case measure => simp [intOf]; omega
    · obtain rfl : k = L.length := by omega
      rw [List.take_length] at hrow
      have hcv := run_text wr (.slice (some ⟨w.heap.size, 0, none⟩) (nb L.length) (nb L.length)) (pack L) (by rw [pack_length]; exact hrow)
      have hb : Hid (Below w.heap.size w wr) := Lib.hid (hu.below (Nat.le_refl _) fun _ f => f.elim)
      clear hrow hu hlt
      go_wp2_with fail
      go_ret
      exact ⟨rfl, hb.out⟩
end Bit
end Go.Proofs.Ytblfhmajonnceaa
