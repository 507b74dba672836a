/- For all inputs SumBursts returns true. Conditions: the table's two cells, a text no longer than a text can be. -/
import Derived.Test.YtcaienlejfijbaaDoorSumLaws
import Derived.RegionTactic
import Derived.BigRegion
import Derived.StillTailTactics
import Derived.Deep.QuietTactic
import Derived.BigQuiet
import Derived.Deep.Cut
import Derived.Outline
import Derived.Laws.IdiomStrings
namespace Go.Proofs.YtcaienlejfijbaaDoor
open Go.RowKit
namespace Crc

/-- Block B holds the bytes l, and they may be written. -/
structure Bts (B : Nat) (l : List UInt8) (w : World) : Prop where
  cell : ∀ j, j < l.length → w.cell? ⟨B, j, none⟩ = some (.int .u8 ((l.getD j 0).toNat : Int))
  thaw : ∀ j, j < l.length → w.frozen? ⟨B, j, none⟩ = false
theorem Bts.drew {B : Nat} {l : List UInt8} {w : World} (h : Bts B l w) : Bts B l w.drew := ⟨fun j hj => h.cell j hj, fun j hj => h.thaw j hj⟩
theorem Bts.set {B : Nat} {l : List UInt8} {w : World} (h : Bts B l w) (i : Nat) (hi : i < l.length) (b : UInt8) : Bts B (l.set i b) (w.setCell ⟨B, i, none⟩ (.int .u8 (b.toNat : Int))) := by
  refine ⟨fun j hj => ?_, fun j hj => ?_⟩
  · rw [List.length_set] at hj
    by_cases e : j = i
    · subst e
      rw [World.cell?_setCell_same w _ _ (h.cell j hj), List.getD_eq_getElem?_getD, List.getElem?_set_self hj]
      rfl
    · rw [World.cell?_setCell_other w _ _ _ (by intro e2; injection e2 with _ e3; exact e e3.symm), h.cell j hj, List.getD_eq_getElem?_getD, List.getD_eq_getElem?_getD, List.getElem?_set_ne (Ne.symm e)]
  · rw [List.length_set] at hj
    rw [World.frozen?_setCell, h.thaw j hj]
theorem bts_new (s : ByteArray) (c e : Nat) (w : World) : Bts w.heap.size s.data.toList (w.alloc (.cells (bytesRow s c) e ((bytesRow s c).size, (bytesRow s c).size + 1))).drew := by
  have hl : s.data.toList.length = s.data.size := by simp
  refine Bts.drew ⟨fun j hj => ?_, fun j hj => ?_⟩
  · rw [World.cell?_alloc_mark, bytesRow_at _ _ _ (by omega)]
    congr 3
    rw [List.getD_eq_getElem?_getD, List.getElem?_eq_getElem hj]
    simp
  · rw [World.frozen?_alloc_mark]
    have : (bytesRow s c).size = s.data.size + (c - s.size) := by simp [bytesRow]
    rw [decide_eq_false (by omega)]
    rfl

/-! The bits that are changed, step by step. -/
theorem step_set (l : List UInt8) (k n burst : Nat) (hm : k + n < 8 * l.length) (h : burst / 2 ^ n % 2 = 1) :
    turn (2 ^ k * (burst % 2 ^ (n + 1))) l = (turn (2 ^ k * (burst % 2 ^ n)) l).set ((k + n) / 8) ((turn (2 ^ k * (burst % 2 ^ n)) l).getD ((k + n) / 8) 0 ^^^ UInt8.ofNat (2 ^ ((k + n) % 8))) := by
  rw [← turn_bit (k + n) _ (by rw [turn_length]; exact hm), turn_xor]
  congr 1
  have e1 : burst % 2 ^ (n + 1) = burst % 2 ^ n + 2 ^ n := by rw [Nat.pow_succ, Nat.mod_mul, h, Nat.mul_one]
  have hlt : 2 ^ k * (burst % 2 ^ n) < 2 ^ (k + n) := by
    rw [Nat.pow_add]; exact Nat.mul_lt_mul_of_pos_left (Nat.mod_lt _ (Nat.two_pow_pos n)) (Nat.two_pow_pos k)
  rw [e1, Nat.mul_add, ← Nat.pow_add]
  apply Nat.eq_of_testBit_eq
  intro i
  rw [Nat.add_comm, ← Nat.mul_one (2 ^ (k + n)), Nat.testBit_two_pow_mul_add _ hlt, Nat.testBit_xor, Nat.mul_one, Nat.testBit_two_pow]
  by_cases hi : i < k + n
  · rw [if_pos hi, decide_eq_false (by omega)]; simp
  · rw [if_neg hi, Nat.testBit_lt_two_pow (Nat.lt_of_lt_of_le hlt (Nat.pow_le_pow_right (by decide) (by omega)))]
    by_cases he : k + n = i
    · subst he; simp
    · rw [decide_eq_false he, Bool.false_xor]
      exact Nat.testBit_lt_two_pow (Nat.lt_of_lt_of_le (show 1 < 2 ^ 1 by decide) (Nat.pow_le_pow_right (by decide) (by omega)))
theorem step_same (l : List UInt8) (k n burst : Nat) (h : ¬ burst / 2 ^ n % 2 = 1) : turn (2 ^ k * (burst % 2 ^ (n + 1))) l = turn (2 ^ k * (burst % 2 ^ n)) l := by
  have h0 : burst / 2 ^ n % 2 = 0 := by omega
  have e1 : burst % 2 ^ (n + 1) = burst % 2 ^ n := by rw [Nat.pow_succ, Nat.mod_mul, h0, Nat.mul_zero, Nat.add_zero]
  rw [e1]

theorem xor_byte (c : UInt8) (k n : Nat) : bits .xor .u8 (c.toNat : Int) (IntKind.u8.wrap (2 ^ (((k : Int) + (n : Int)) % 8).toNat)) = ((c ^^^ UInt8.ofNat (2 ^ ((k + n) % 8))).toNat : Int) := by
  have e : (((k : Int) + (n : Int)) % 8).toNat = (k + n) % 8 := by omega
  have hm : (k + n) % 8 < 8 := Nat.mod_lt _ (by decide)
  have hp : 2 ^ ((k + n) % 8) < 256 := Nat.lt_of_lt_of_le (Nat.pow_lt_pow_right (by decide) hm) (by decide)
  have hpi : ((2 : Int) ^ ((k + n) % 8)) = ((2 ^ ((k + n) % 8) : Nat) : Int) := by simp
  have hc := c.toNat_lt
  rw [e, hpi]
  clear hpi hm
  generalize 2 ^ ((k + n) % 8) = b at *
  rw [IntKind.wrap_u8, Int.emod_eq_of_lt (by omega) (by omega), xor_toNat, UInt8.toNat_ofNat', Nat.mod_eq_of_lt hp]
  have hx : c.toNat ^^^ b < 2 ^ 8 := Nat.xor_lt_two_pow (by omega) (by omega)
  have h1 : (BitVec.ofInt 8 (c.toNat : Int)).toNat = c.toNat := by
    rw [BitVec.ofInt_natCast, BitVec.toNat_ofNat]; exact Nat.mod_eq_of_lt (by omega)
  have h2 : (BitVec.ofInt 8 (b : Int)).toNat = b := by
    rw [BitVec.ofInt_natCast, BitVec.toNat_ofNat]; exact Nat.mod_eq_of_lt (by omega)
  show IntKind.u8.wrap ((BitVec.ofInt 8 (c.toNat : Int) ^^^ BitVec.ofInt 8 (b : Int)).toNat : Int) = _
  rw [BitVec.toNat_xor, h1, h2, IntKind.wrap_u8]
  omega

theorem pick_k (x : Int) (n : Nat) (h5 : 5 ≤ n) (h : n ≤ 3000) : ∃ k : Nat, k < 8 * (n - 4) ∧ wrap64 ((IntKind.u64.wrap x).tmod (8 * ((n : Int) - 4))) = (k : Int) := by
  have h0 : 0 ≤ IntKind.u64.wrap x := by rw [IntKind.wrap_u64]; omega
  rw [Int.tmod_eq_emod_of_nonneg h0]
  have h1 := Int.emod_nonneg (IntKind.u64.wrap x) (show (8 * ((n : Int) - 4)) ≠ 0 by omega)
  have h2 := Int.emod_lt_of_pos (IntKind.u64.wrap x) (show (0 : Int) < 8 * ((n : Int) - 4) by omega)
  refine ⟨(IntKind.u64.wrap x % (8 * ((n : Int) - 4))).toNat, by omega, ?_⟩
  rw [IntWalk.wrap64_in _ (by omega)]
  omega

theorem of_from {W : World} (ht : Tab W) (s : ByteArray) (hs : s.size ≤ 9223372036854775807) (w : World) (hb : Below W.heap.size W w) :
    Calls Tryd.prog 7 #[.string s] w fun e w' => e = .returned (.int .u32 (more 0 s.data.toList : Nat)) ∧ w = w' := of_any s hs w (ht.below hb)
theorem run_back (B : Nat) (l : List UInt8) (c : Nat) (w : World) (h : Bts B l w) :
    (convert 29 9 (.slice (some ⟨B, 0, none⟩) l.length c)).run Tryd.prog w = .ok (.string ⟨l.toArray⟩) w := by
  apply run_convert_bytes_back _ _ _ 5 _ _ _ (by kernel_rfl) (by kernel_rfl) (by kernel_rfl)
  intro j hj
  rw [addr_add, Nat.zero_add, h.cell j hj, List.getD_eq_getElem?_getD, List.getElem?_eq_getElem hj]
  rfl

set_option maxHeartbeats 400000 in
theorem bursts_any (s : ByteArray) (at_ : Int) (burst : Nat) (hs0 : 5 ≤ s.size) (hs : s.size ≤ 3000) (hb0 : 0 < burst) (hb1 : burst < 4294967296) (w : World) (ht : Tab w) :
    Calls Tryd.prog 5 #[.string s, .int .i64 at_, .int .u32 burst] w fun e w' => e = .returned (.bool true) ∧ Below w.heap.size w w' := by
  have hne : ((burst : Int) == 0) = false := beq_eq_false_iff_ne.2 (by omega)
  have hcv := fun (W : World) (t : ByteArray) => run_bytes_of_string (P := Tryd.prog) W 9 29 5 t (by kernel_rfl) (by kernel_rfl) (by kernel_rfl)
  obtain ⟨k, hk, hkk⟩ := pick_k at_ s.size hs0 hs
  go_enter Tryd.func5, Tryd.ntmps5
  go_wp2_with fail
  refine (works_true _ ht).mono ?_
  rintro e w1 ⟨rfl, hbl⟩
  have ht1 := Lib.hid (ht.below hbl)
  have hbt := bts_new s (grownCap w1 s.size 0 5) 5 w1
  replace hbt := Lib.hid hbt
  go_wp2_with fail
  clear hcv hne
  rw [hkk]
  clear hkk
  go_loopw [9] (fun i wr => ∃ n : Nat, n ≤ 32 ∧ i = .int .i64 n ∧ Below w1.heap.size w1 wr ∧ Bts w1.heap.size (turn (2 ^ k * (burst % 2 ^ n)) s.data.toList) wr) (fun i _ => 32 - (intOf i).toNat)
  case atStart => exact ⟨0, by omega, rfl, by go_grown, by rw [Nat.pow_zero, Nat.mod_one, Nat.mul_zero, turn_zero]; exact hbt.out⟩
  case round =>
    obtain ⟨n, hn, rfl, hbr, hbs⟩ := hrel
    replace hbr := Lib.hid hbr
    replace hbs := Lib.hid hbs
    by_cases hlt : n < 32
    · have hpos : 0 < 2 ^ n := Nat.two_pow_pos n
      have hq : burst / 2 ^ n < 4294967296 := Nat.lt_of_le_of_lt (Nat.div_le_self _ _) hb1
      have hand : bits .and .u32 ((burst : Int) / 2 ^ n) 1 = (((burst / 2 ^ n % 2 : Nat)) : Int) := by
        have := bits_low32 ((burst / 2 ^ n : Nat) : Int) (Int.natCast_nonneg _) (by omega)
        rw [Int.natCast_ediv, Int.natCast_pow] at this
        rw [Int.natCast_emod, Int.natCast_ediv, Int.natCast_pow]
        exact this
      by_cases hp : burst / 2 ^ n % 2 = 1
      · have hbit : (bits .and .u32 ((burst : Int) / 2 ^ n) 1 == 1) = true := by rw [hand, hp]; rfl
        have hst := Lib.hid (step_set s.data.toList k n burst (by simp; omega) hp)
        have hlen : (turn (2 ^ k * (burst % 2 ^ n)) s.data.toList).length = s.size := by rw [turn_length]; simp
        have hidx : (k + n) / 8 < s.size := by omega
        have hidx2 : ((k : Int) + (n : Int)) / 8 < (s.size : Int) := by omega
        have hc := hbs.out.cell ((k + n) / 8) (by omega)
        have hf := hbs.out.thaw ((k + n) / 8) (by omega)
        generalize (turn (2 ^ k * (burst % 2 ^ n)) s.data.toList) = L at *
        replace hlen := Lib.hid hlen
        generalize hcb : L.getD ((k + n) / 8) 0 = c at *
        replace hcb := Lib.hid hcb
        clear hand hp hq
        go_wp2_with fail
        have i1 : IntKind.i64.wrap ((k : Int) + (n : Int)) = (k : Int) + (n : Int) := IntWalk.i64_in _ (by omega)
        have i2 : IntKind.i64.wrap (((k : Int) + (n : Int)).tdiv 8) = ((k : Int) + (n : Int)) / 8 := IntWalk.i64_quo _ _ (by omega)
        have i3 : ((k : Int) + (n : Int)).tmod 8 = ((k : Int) + (n : Int)) % 8 := IntWalk.rem_in _ _ (by omega)
        have i4 : (((k : Int) + (n : Int)) / 8).toNat = (k + n) / 8 := by omega
        have i5 : 0 ≤ ((k : Int) + (n : Int)) / 8 := by omega
        have hxor := xor_byte c k n
        go_still_tail 19, (by kernel_rfl)
        change wpList _ _ _ _ _ wr.drew
        have hbd := hbs.out.drew
        have hbe : Below w1.heap.size w1 wr.drew := hbr.out.drew
        have hc' := hbd.cell ((k + n) / 8) (by rw [hlen.out]; exact hidx)
        rw [hcb.out] at hc'
        have hf' := hbd.thaw ((k + n) / 8) (by rw [hlen.out]; exact hidx)
        generalize wr.drew = w2 at *
        have hnew : Hid (Bts w1.heap.size (turn (2 ^ k * (burst % 2 ^ (n + 1))) s.data.toList) (w2.setCell ⟨w1.heap.size, (k + n) / 8, none⟩ (.int .u8 ((c ^^^ UInt8.ofNat (2 ^ ((k + n) % 8))).toNat : Int)))) := by
          rw [hst.out]; exact Lib.hid (hbd.set _ (by rw [hlen.out]; exact hidx) _)
        have hbel2 : Hid (Below w1.heap.size w1 (w2.setCell ⟨w1.heap.size, (k + n) / 8, none⟩ (.int .u8 ((c ^^^ UInt8.ofNat (2 ^ ((k + n) % 8))).toNat : Int)))) := Lib.hid (hbe.setCell (Nat.le_refl _) _)
        clear hc hf i1 i2 i3 i4 i5 hxor hst hcb hbs hbr hbd hbe
        go_wp2_with fail
        go_roundw
        case rel => exact ⟨n + 1, by omega, by go_num, hbel2.out, hnew.out⟩
        case measure => simp [intOf]; omega
      · have hbit : (bits .and .u32 ((burst : Int) / 2 ^ n) 1 == 1) = false := by rw [hand, beq_eq_false_iff_ne]; omega
        have hst := Lib.hid (step_same s.data.toList k n burst hp)
        clear hand hp hq
        go_wp2_with fail
        go_roundw
        case rel => exact ⟨n + 1, by omega, by go_num, hbr.out, by rw [hst.out]; exact hbs.out⟩
        case measure => simp [intOf]; omega
    · obtain rfl : n = 32 := by omega
      have hL : turn (2 ^ k * (burst % 2 ^ 32)) s.data.toList = turn (2 ^ k * burst) s.data.toList := by rw [Nat.mod_eq_of_lt (show burst < 2 ^ 32 by omega)]
      rw [hL] at hbs
      clear hL
      have hdiff := burst_differs 0 k burst s.data.toList hb0 hb1 (by simp; omega)
      have hlen : (turn (2 ^ k * burst) s.data.toList).length = s.size := by rw [turn_length]; simp
      have hsz : (⟨(turn (2 ^ k * burst) s.data.toList).toArray⟩ : ByteArray).size ≤ 9223372036854775807 := by
        show (turn (2 ^ k * burst) s.data.toList).toArray.size ≤ _
        rw [List.size_toArray, hlen]; omega
      have hcv := run_back w1.heap.size (turn (2 ^ k * burst) s.data.toList) (grownCap w1 s.size 0 5) wr hbs.out
      rw [hlen] at hcv
      have hof := of_from ht1.out ⟨(turn (2 ^ k * burst) s.data.toList).toArray⟩ hsz
      have hX := more_lt 0 (turn (2 ^ k * burst) s.data.toList)
      have hY := more_lt 0 s.data.toList
      simp only at hof
      have hof2 := of_from ht1.out s (by omega)
      generalize more 0 s.data.toList = Y at *
      generalize more 0 (turn (2 ^ k * burst) s.data.toList) = X at *
      replace hof := Lib.hid hof
      replace hof2 := Lib.hid hof2
      clear hlen hsz hbs hX hY
      have hne : (((X : Int)) != (Y : Int)) = true := by rw [bne_iff_ne]; omega
      clear hdiff
      go_wp2_with fail
      refine (hof.out _ hbr.out).mono ?_
      rintro e wq ⟨rfl, rfl⟩
      go_wp2_with fail
      refine (hof2.out _ hbr.out).mono ?_
      rintro e wq ⟨rfl, rfl⟩
      go_wp2_with fail
      go_ret
      exact ⟨rfl, hbl.trans (hbr.out.mono hbl.size)⟩

set_option maxHeartbeats 400000 in
theorem bursts_none (s : ByteArray) (at_ burst : Int) (hs : s.size ≤ 140737488351232) (h : s.size < 5 ∨ 3000 < s.size) (w : World) (ht : Tab w) :
    Calls Tryd.prog 5 #[.string s, .int .i64 at_, .int .u32 burst] w fun e w' => e = .returned (.bool true) ∧ Below w.heap.size w w' := by
  rcases h with h | h
  · go_enter Tryd.func5, Tryd.ntmps5
    go_wp2_with fail
    refine (works_true _ ht).mono ?_
    rintro e w1 ⟨rfl, hbl⟩
    go_wp2_with fail
    go_ret
    exact ⟨rfl, hbl⟩
  · go_enter Tryd.func5, Tryd.ntmps5
    go_wp2_with fail
    refine (works_true _ ht).mono ?_
    rintro e w1 ⟨rfl, hbl⟩
    go_wp2_with fail
    go_ret
    exact ⟨rfl, hbl⟩
set_option maxHeartbeats 400000 in
theorem bursts_zero (s : ByteArray) (at_ : Int) (h1 : 5 ≤ s.size) (h2 : s.size ≤ 3000) (w : World) (ht : Tab w) :
    Calls Tryd.prog 5 #[.string s, .int .i64 at_, .int .u32 0] w fun e w' => e = .returned (.bool true) ∧ Below w.heap.size w w' := by
  go_enter Tryd.func5, Tryd.ntmps5
  go_wp2_with fail
  refine (works_true _ ht).mono ?_
  rintro e w1 ⟨rfl, hbl⟩
  go_wp2_with fail
  go_ret
  exact ⟨rfl, hbl⟩
theorem bursts_true (s : ByteArray) (at_ burst : Int) (hs : s.size ≤ 140737488351232) (_ : -9223372036854775808 ≤ at_) (_ : at_ ≤ 9223372036854775807) (hb0 : 0 ≤ burst) (hb1 : burst ≤ 4294967295) (w : World) (ht : Tab w) :
    Calls Tryd.prog 5 #[.string s, .int .i64 at_, .int .u32 burst] w fun e w' => e = .returned (.bool true) ∧ Below w.heap.size w w' := by
  by_cases h : s.size < 5 ∨ 3000 < s.size
  · exact bursts_none s at_ burst hs h w ht
  · obtain ⟨b, rfl⟩ := Int.eq_ofNat_of_zero_le hb0
    by_cases h0 : b = 0
    · subst h0
      exact bursts_zero s at_ (by omega) (by omega) w ht
    · exact bursts_any s at_ b (by omega) (by omega) (by omega) (by omega) w ht
end Crc
end Go.Proofs.YtcaienlejfijbaaDoor
