/- The document's own reader of bits (layer 6): NewReader. -/
import Derived.Test.YtblfhmajonnceaaBitRef
namespace Go.Proofs.Ytblfhmajonnceaa
open Go.RowKit
namespace Bit
open Dsk Ob
set_option linter.unusedVariables false

theorem bit_eq8 (s : ByteArray) (k : Nat) (h : k / 8 < s.size) : ((((s[k / 8]).toNat : Int) / 2 ^ (7 - k % 8)).tmod 2 == 1) = bitAt s.data.toList k := by
  rw [bit_eq]
  unfold bitAt
  rw [Nat.testBit_eq_decide_div_mod_eq, List.getD_eq_getElem?_getD, List.getElem?_eq_getElem (by simpa using h)]
  rfl
/-- The document's reader, while it is filled. -/
abbrev IsRR0 (w : World) (S : Nat → Prop) (q : Nat) (L : List Bool) : Prop := ∃ v, RwM 43 w S q L v
set_option maxRecDepth 100000 in
set_option maxHeartbeats 3200000 in
theorem refNewReader_any (s : ByteArray) (n : Int) (hs : s.size ≤ 1000000000000) (hn0 : -9223372036854775808 ≤ n) (hn1 : n ≤ 9223372036854775807) (w : World) :
    Calls Try.prog 14 #[.string s, .int .i64 n] w fun e w' => ∃ q, e = .returned (.pointer (some ⟨q, 0, none⟩)) ∧ Own (fun w S => IsRR0 w S q (bitsAt s.data.toList 0 (ends s n))) w w' ∧ w.heap.size ≤ q := by
  obtain ⟨i0, hi, hz0, hz1, hz2⟩ := info_parts infoBool
  have h0 : Hid (Own (fun w' S => IsRR0 w' S w.heap.size (bitsAt s.data.toList 0 0)) w (w.alloc (.cells #[.slice none 0 0] 43 (0, 0)))) := Lib.hid
    ⟨⟨fun b => b = w.heap.size, ⟨_, cell_new w _, World.ownsRow_nil _ _ _ _, rfl, (fun b h => by cases h), fun b hb => by rw [hb]; simp⟩, fun b hb => by rw [hb]; exact Nat.le_refl _⟩, (Below.refl _ w).alloc (Nat.le_refl _) _⟩
  obtain ⟨E, hE⟩ : ∃ E, E = ends s n := ⟨_, rfl⟩
  have hEn : (E : Int) = max 0 (min n (8 * s.size)) := by rw [hE]; unfold ends; omega
  rw [← hE]
  clear hE
  have hE8 : E ≤ 8 * s.size := by omega
  replace hEn := Lib.hid hEn
  go_enter Try.func14, Try.ntmps14
  go_wp2_with fail
  have hR := Lib.hid (Nat.le_refl w.heap.size)
  obtain ⟨R, hRe⟩ : ∃ R, R = w.heap.size := ⟨_, rfl⟩
  have hRl : Hid (w.heap.size ≤ R) := Lib.hid (by omega)
  rw [← hRe] at h0 ⊢
  clear hR hRe
  generalize w.alloc (.cells #[.slice none 0 0] 43 (0, 0)) = w1 at *
  go_loopw [6] (fun i wr => ∃ k : Nat, k ≤ E ∧ i = .int .i64 k ∧ Own (fun w S => IsRR0 w S R (bitsAt s.data.toList 0 k)) w wr) (fun i _ => E - (intOf i).toNat)
  case atStart => exact ⟨0, Nat.zero_le _, rfl, h0.out⟩
  case round =>
    obtain ⟨k, hk, rfl, hst⟩ := hrel
    by_cases hlt : k < E
    · have hkn : (k : Int) < n := by have := hEn.out; omega
      have hks : (k : Int) < 8 * (s.size : Int) := by omega
      have hd1 : decide ((k : Int) < 8 * (s.size : Int)) = true := by simpa using hks
      have hd2 : decide ((k : Int) < n) = true := by simpa using hkn
      obtain ⟨S', ⟨rv, hw⟩, hgo⟩ := hst.get
      replace hgo := Lib.hid hgo
      have hidx : k / 8 < s.size := by omega
      have hbit := bit_eq8 s k hidx
      have hsn : Hid (bitsAt s.data.toList 0 (k + 1) = bitsAt s.data.toList 0 k ++ [bitAt s.data.toList k]) := Lib.hid (by rw [bitsAt_snoc, Nat.zero_add])
      have hlen : Hid ((bitsAt s.data.toList 0 k).length ≤ 100000000000000) := Lib.hid (by rw [bitsAt_length]; omega)
      have k0 : wr.cell? ⟨R, 0, none⟩ = some rv := by rw [Lib.cell_of_heap hw.cell]; rfl
      have c0a := fun (o : Go.Obj) => (World.cell?_alloc_lt wr o ⟨R, 0, none⟩ (hw.lt R hw.s_q)).trans k0
      replace hw := Lib.hid hw
      clear hst
      generalize bitsAt s.data.toList 0 k = M at *
      generalize bitAt s.data.toList k = B at *
      have i1 : IntKind.i64.wrap ((k : Int) / 8) = (k : Int) / 8 := IntWalk.i64_in _ (by omega)
      have i2 : ((k : Int) / 8).toNat = k / 8 := by omega
      have i3 : 0 ≤ (k : Int) / 8 := by omega
      have i4 : (k : Int) / 8 < (s.size : Nat) := by omega
      have i5 : (k : Int).tmod 8 = (k : Int) % 8 := IntWalk.rem_in _ _ (by omega)
      have i6 : IntKind.i64.wrap (7 - (k : Int) % 8) = ((7 - k % 8 : Nat) : Int) := by rw [IntWalk.i64_in _ (by omega)]; omega
      go_wp2_with fail
      go_region_law (first
        | (refine step_append_lies (o := ⟨some 37, _, _, _, _, _⟩) _ (by rfl) _ _ _ (by rfl) 0 4 i0 (.bool false) 1 1 Try.underlying26 hi hz0 hz1 hz2 rfl (by omega) _ M.length (boolCells M) (by rfl) (ownsRow_kept hw.out.row (fun b hb => Below.heap_alloc _ _ _ (hw.out.row.lt b hb).2)) ⟨wr.heap.size, 0, none⟩ 1 1 [_] (by rfl) rfl (World.news_of_block (cell_new _ _)) (by simp [Value.oneCell']) (by omega) (by have := hlen.out; unfold maxLen; omega) (by have := hlen.out; omega) (by omega) _ rfl ?_
           intro g cap w2 hown hgrow hat hlt2
           obtain ⟨hq1, hst2⟩ := RwM.more (T := 43) (by decide) (w := wr) (b := B) hw.out hown ⟨hgrow.os, hgrow.tape, hgrow.output, hgrow.size, hgrow.block⟩ (hat.imp id (fun e => by simpa using e))
           have d0 : w2.cell? ⟨R, 0, none⟩ = some rv := by rw [Lib.cell_of_heap hq1]; rfl
           have f0 := Lib.frozen_of_heap hq1 0
           have HG := Lib.hid (fun w3 e => hgo.out _ _ (hst2 w3 e))
           clear hown hgrow hat hlt2 hq1 hst2))
      all_goals
        go_wp2_with fail
        go_roundw
        case rel => exact ⟨k + 1, by omega, by go_num, by rw [hsn.out]; exact HG.out _ rfl⟩
        case measure => simp [intOf]; omega
    · obtain rfl : k = E := by omega
      have hcond : decide ((k : Int) < 8 * (s.size : Int)) = false ∨ (decide ((k : Int) < 8 * (s.size : Int)) = true ∧ decide ((k : Int) < n) = false) := by
        have := hEn.out
        by_cases h : (k : Int) < 8 * (s.size : Int)
        · right; simp; omega
        · left; simp; omega
      replace hst := Lib.hid hst
      rcases hcond with hc1 | ⟨hc1, hc2⟩
      all_goals
        go_wp2_with fail
        go_ret
        exact ⟨R, rfl, hst.out, hRl.out⟩
end Bit
end Go.Proofs.Ytblfhmajonnceaa
