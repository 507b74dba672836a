/- The reader of bits (layer 6) in memory as plain data, and what each of its calls does. -/
import Derived.Test.YtblfhmajonnceaaBitW2
namespace Go.Proofs.Ytblfhmajonnceaa
open Go.RowKit
namespace Bit
open Dsk Ob

structure RdM (w : World) (S : Nat → Prop) (q : Nat) (s : ByteArray) (a e : Nat) : Prop where
  cell : w.heap[q]? = some (.cells #[.string s, .int .i64 (a : Int), .int .i64 (e : Int)] 52 (0, 0))
  s_q : S q
  lt : ∀ b, S b → b < w.heap.size
  le : a ≤ e
  es : e ≤ 8 * s.size
  sz : s.size ≤ 140737488355328
/-- The reader at block q, of blocks S, reads s; bits a to e are left. -/
def IsR (w : World) (S : Nat → Prop) (q : Nat) (s : ByteArray) (a e : Nat) : Prop := RdM w S q s a e
theorem IsR.kept {w w' : World} {S : Nat → Prop} {q : Nat} {s : ByteArray} {a e : Nat} (h : IsR w S q s a e) (hk : ∀ b, S b → w'.heap[b]? = w.heap[b]?) (hs : w.heap.size ≤ w'.heap.size) : IsR w' S q s a e :=
  { h with cell := (hk q h.s_q).trans h.cell, lt := fun b hb => Nat.lt_of_lt_of_le (h.lt b hb) hs }
theorem IsR.upon {w w' : World} {S T : Nat → Prop} {q : Nat} {s : ByteArray} {a e : Nat} (h : IsR w S q s a e) (hu : Upon T w w') (ha : ∀ b, S b → ¬ T b) : IsR w' S q s a e :=
  h.kept (fun b hb => hu.block b (h.lt b hb) (ha b hb)) hu.size
theorem objR (q : Nat) (s : ByteArray) (a e : Nat) : Thing (fun w S => IsR w S q s a e) := ⟨fun _ _ _ h hk hs => h.kept hk hs, fun _ _ h => h.lt⟩
abbrev RStep (S : Nat → Prop) (q : Nat) (s : ByteArray) (a e : Nat) (w w' : World) : Prop := ObjStep (fun w S => IsR w S q s a e) S w w'
theorem cell3 {w : World} {q : Nat} {a b c : Value} {T : TypeId} (h : w.heap[q]? = some (.cells #[a, b, c] T (0, 0))) :
    w.cell? ⟨q, 0, none⟩ = some a ∧ w.cell? ⟨q, 1, none⟩ = some b ∧ w.cell? ⟨q, 2, none⟩ = some c ∧ ∀ o, w.frozen? ⟨q, o, none⟩ = false := by
  refine ⟨?_, ?_, ?_, fun o => Lib.frozen_of_heap h o⟩ <;> (rw [Lib.cell_of_heap h]; rfl)

/-! ### NewReader -/
def RMade (s : ByteArray) (e : Nat) (w : World) (x : Ending) (w' : World) : Prop :=
  ∃ S q, x = .returned (.pointer (some ⟨q, 0, none⟩)) ∧ IsR w' S q s 0 e ∧ (∀ b, S b → w.heap.size ≤ b) ∧ Upon (fun _ => False) w w'
theorem RMade.mk {s : ByteArray} {e : Nat} {w : World} (he : e ≤ 8 * s.size) (hs : s.size ≤ 140737488355328) :
    RMade s e w (.returned (.pointer (some ⟨w.heap.size, 0, none⟩))) (w.alloc (.cells #[.string s, .int .i64 0, .int .i64 (e : Int)] 52 (0, 0))) :=
  ⟨fun b => b = w.heap.size, w.heap.size, rfl, ⟨cell_new w _, rfl, fun b hb => by rw [hb]; simp, Nat.zero_le _, he, hs⟩, fun b hb => by rw [hb]; exact Nat.le_refl _, (Upon.refl _ w).alloc _⟩
/-- How many bits a reader is made for. -/
def ends (s : ByteArray) (n : Int) : Nat := (min n (8 * s.size)).toNat
set_option maxHeartbeats 1600000 in
theorem newReader_any (s : ByteArray) (n : Int) (hs : s.size ≤ 140737488355328) (hn : -9223372036854775808 ≤ n ∧ n ≤ 9223372036854775807) (w : World) :
    Calls Try.prog 13 #[.string s, .int .i64 n] w (RMade s (ends s n) w) := by
  obtain ⟨hn0, hn1⟩ := hn
  have H := fun e (he : e ≤ 8 * s.size) => RMade.mk (s := s) (e := e) (w := w) he hs
  have HE : Hid (∀ x : Int, x = (ends s n : Int) → RMade s (ends s n) w (.returned (.pointer (some ⟨w.heap.size, 0, none⟩))) (w.alloc (.cells #[.string s, .int .i64 0, .int .i64 x] 52 (0, 0)))) :=
    Lib.hid fun x hx => by rw [hx]; exact H _ (by unfold ends; omega)
  clear H
  have E : Hid (∀ x : Int, (n ≤ 0 → x = 0) → (0 < n → n / 8 < s.size → x = n) → (0 < n → s.size ≤ n / 8 → x = 8 * s.size) → x = (ends s n : Int)) := Lib.hid fun x h1 h2 h3 => by
    unfold ends; omega
  go_enter Try.func13, Try.ntmps13
  go_wp2_with fail
  all_goals
    go_ret
    exact HE.out _ (E.out _ (by omega) (by omega) (by omega))

/-! ### Left, getBit -/
set_option maxHeartbeats 1600000 in
theorem left_any (S : Nat → Prop) (q : Nat) (s : ByteArray) (a e : Nat) (w : World) (h : IsR w S q s a e) :
    Calls Try.prog 17 #[.pointer (some ⟨q, 0, none⟩)] w fun x w' => x = .returned (.int .i64 ((e - a : Nat) : Int)) ∧ ∃ n, w' = w.drewN n := by
  obtain ⟨-, k1, k2, -⟩ := cell3 h.cell
  have hle := h.le
  have hes := h.es
  have hsz := h.sz
  have he : (e : Int) ≤ 1125899906842624 := by omega
  have hi : IntKind.i64.wrap ((e : Int) - (a : Int)) = ((e - a : Nat) : Int) := by rw [IntWalk.i64_in _ (by omega)]; omega
  clear h hes hsz he
  go_enter Try.func17, Try.ntmps17
  go_wp2_with fail
  go_quiet (fail)
  go_wp2_with fail
  go_ret
  exact ⟨rfl, _, rfl⟩

theorem shift_q (n : Nat) (hn : n ≤ 2000000000000000) (w : World) : Calls Try.prog 21 #[.int .i64 (n : Int)] w fun e w' => e = .returned (.int .i64 ((7 - n % 8 : Nat) : Int)) ∧ w' = w :=
  (shift_any n hn w).mono fun _ _ ⟨he, hw⟩ => ⟨he, hw.symm⟩
/-! The bit. -/
theorem shr_and (c : UInt8) (k : Nat) : bits .and .u8 ((c.toNat : Int) / 2 ^ k) 1 = ((c.toNat / 2 ^ k % 2 : Nat) : Int) := by
  have h1 : c.toNat / 2 ^ k < 256 := Nat.lt_of_le_of_lt (Nat.div_le_self _ _) c.toNat_lt
  have e : (c.toNat : Int) / 2 ^ k = ((c.toNat / 2 ^ k : Nat) : Int) := by rw [Int.natCast_ediv, Int.natCast_pow]; rfl
  have := bits_mask .u8 8 (by decide) wraps_u8 1 (by decide) ((c.toNat / 2 ^ k : Nat) : Int) (Int.natCast_nonneg _) (by exact_mod_cast h1)
  rw [e, Int.natCast_emod]
  exact this
set_option maxHeartbeats 1600000 in
theorem getBit_any (S : Nat → Prop) (q : Nat) (s : ByteArray) (a e : Nat) (w : World) (h : IsR w S q s a e) (hlt : a < e) :
    Calls Try.prog 20 #[.pointer (some ⟨q, 0, none⟩)] w fun x w' => x = .returned (.int .u64 ((bitAt s.data.toList a).toNat : Int)) ∧ RStep S q s (a + 1) e w w' := by
  obtain ⟨k0, k1, -, kf⟩ := cell3 h.cell
  have hes := h.es
  have hsz := h.sz
  have ha : (a : Int) ≤ 1125899906842624 := by omega
  have hidx : a / 8 < s.size := by omega
  have HD : Hid (∀ n w', w' = (w.drewN n).setCell ⟨q, 1, none⟩ (.int .i64 ((a : Int) + 1)) → RStep S q s (a + 1) e w w') := Lib.hid fun n w' e1 => by
    subst e1
    refine ⟨⟨S, ⟨?_, h.s_q, fun b hb => by have := h.lt b hb; simpa [World.setCell] using this, by omega, hes, hsz⟩, fun _ h => h, fun _ h => .inl h⟩, (upon_drewN S w n).setCell (p := ⟨q, 1, none⟩) (.inl h.s_q) _⟩
    have hc2 : w.heap[q]? = some (.cells #[.string s, .int .i64 (a : Int), .int .i64 (e : Int)] 52 (0, 0)) := h.cell
    simp [World.setCell, Array.getElem?_modify, hc2]
  have kf1 := kf 1
  obtain ⟨B, hB⟩ : ∃ B : Nat, B = (bitAt s.data.toList a).toNat := ⟨_, rfl⟩
  have hB1 : B ≤ 1 := by rw [hB]; exact bool_le _
  have e1 : bits .and .u8 (((s[a / 8]'hidx).toNat : Int) / 2 ^ (7 - a % 8)) 1 = (B : Int) := by
    rw [shr_and, hB, bitAt_num, List.getD_eq_getElem?_getD, List.getElem?_eq_getElem (by simpa using hidx)]
    rfl
  rw [← hB]
  clear h kf hes hB
  go_enter Try.func20, Try.ntmps20
  go_wp2_with fail
  have i1 : IntKind.i64.wrap ((a : Int) / 8) = (a : Int) / 8 := IntWalk.i64_in _ (by omega)
  have i2 : (a : Int) / 8 < (s.size : Int) := by omega
  have i3 : 0 ≤ (a : Int) / 8 := by omega
  have i4 : ((a : Int) / 8).toNat = a / 8 := by omega
  have hb : a ≤ 2000000000000000 := by omega
  go_quiet ((go_at_call 21; exact Calls.quiet_of_same (shift_q a hb _)))
  clear i1 hb e1
  go_wp2_with fail
  go_ret
  exact ⟨rfl, HD.out _ _ rfl⟩

/-! ### Get -/
theorem or_bit (V B : Nat) (hV : V < 9223372036854775808) (hB : B ≤ 1) : bits .or .u64 ((V : Int) * 2) (B : Int) = ((2 * V + B : Nat) : Int) := by
  have := bits_join .u64 64 (by decide) (fun n h0 h1 => by rw [IntKind.wrap_u64]; omega) 1 ((V : Int) * 2) (B : Int) (by omega) (by omega) (by omega) (by omega) (by omega) (by omega)
  rw [this]; omega
set_option maxHeartbeats 1600000 in
theorem get_ok (S : Nat → Prop) (q : Nat) (s : ByteArray) (a e m : Nat) (w : World) (h : IsR w S q s a e) (hm : m ≤ 64) (hle : m ≤ e - a) :
    Calls Try.prog 15 #[.pointer (some ⟨q, 0, none⟩), .int .i64 (m : Int)] w fun x w' => x = .returned (.tuple #[.int .u64 (numOf (bitsAt s.data.toList a m) : Int), .bool true]) ∧ RStep S q s (a + m) e w w' := by
  have hleft := left_any S q s a e w h
  have hd1 : decide ((m : Int) < 0) = false := by simp
  have hd2 : decide (64 < (m : Int)) = false := by simp; omega
  have hd3 : decide (e - a < m) = false := by simp; omega
  have hle2 : a ≤ e := h.le
  have h0 : Hid (∀ n, RStep S q s (a + 0) e w (w.drewN n)) := Lib.hid fun n => ⟨⟨S, h.kept (fun _ _ => rfl) (Nat.le_refl _), fun _ h => h, fun _ h => .inl h⟩, upon_drewN S w n⟩
  clear h
  go_enter Try.func15, Try.ntmps15
  go_wp2_with fail
  refine hleft.mono ?_
  rintro x w1 ⟨rfl, n1, rfl⟩
  clear hleft
  go_wp2_with fail
  clear hd1 hd2 hd3
  go_loopw [6, 20] (fun v i wr => ∃ k : Nat, k ≤ m ∧ i = .int .i64 k ∧ v = .int .u64 (numOf (bitsAt s.data.toList a k) : Int) ∧ RStep S q s (a + k) e w wr) (fun _ i _ => m - (intOf i).toNat)
  case atStart => exact ⟨0, Nat.zero_le _, rfl, rfl, h0.out _⟩
  case round =>
    obtain ⟨k, hk, rfl, rfl, hst⟩ := hrel
    by_cases hlt : k < m
    · obtain ⟨S', hw, hgo⟩ := hst.get
      replace hgo := Lib.hid hgo
      have hbit := getBit_any S' q s (a + k) e wr hw (by omega)
      have hV : numOf (bitsAt s.data.toList a k) < 9223372036854775808 := by
        have h1 := numOf_lt (bitsAt s.data.toList a k)
        rw [bitsAt_length] at h1
        have h2 : 2 ^ k ≤ 2 ^ 63 := Nat.pow_le_pow_right (by decide) (by omega)
        omega
      have hnx : Hid (numOf (bitsAt s.data.toList a (k + 1)) = 2 * numOf (bitsAt s.data.toList a k) + (bitAt s.data.toList (a + k)).toNat) := Lib.hid (by rw [bitsAt_snoc, numOf_snoc])
      have hor := or_bit _ _ hV (bool_le (bitAt s.data.toList (a + k)))
      replace hor := Lib.hid hor
      generalize numOf (bitsAt s.data.toList a k) = V at *
      clear hst hw
      go_wp2_with fail
      refine hbit.mono ?_
      rintro x w1 ⟨rfl, hs2⟩
      replace hs2 := Lib.hid hs2
      clear hbit
      have hor' := hor.out
      go_wp2_with fail
      go_roundw
      case rel => exact ⟨k + 1, by omega, by go_num, by rw [hnx.out]; go_num, hgo.out _ _ hs2.out⟩
      case measure => simp [intOf]; omega
    · obtain rfl : k = m := by omega
      replace hst := Lib.hid hst
      clear h0
      go_wp2_with fail
      go_ret2
      exact ⟨rfl, hst.out⟩

set_option maxHeartbeats 1600000 in
theorem get_no (S : Nat → Prop) (q : Nat) (s : ByteArray) (a e : Nat) (n : Int) (w : World) (h : IsR w S q s a e) (hn : n < 0 ∨ 64 < n ∨ (e : Int) - a < n) :
    Calls Try.prog 15 #[.pointer (some ⟨q, 0, none⟩), .int .i64 n] w fun x w' => x = .returned (.tuple #[.int .u64 0, .bool false]) ∧ RStep S q s a e w w' := by
  have hleft := left_any S q s a e w h
  have hle2 : a ≤ e := h.le
  have h0 : Hid (∀ n, RStep S q s a e w (w.drewN n)) := Lib.hid fun n => ⟨⟨S, h.kept (fun _ _ => rfl) (Nat.le_refl _), fun _ h => h, fun _ h => .inl h⟩, upon_drewN S w n⟩
  have h00 : Hid (RStep S q s a e w w) := Lib.hid (ObjStep.refl h)
  clear h
  by_cases h1 : n < 0
  · have hd : decide (n < 0) = true := by simpa using h1
    clear hn
    go_enter Try.func15, Try.ntmps15
    go_wp2_with fail
    go_ret2
    exact ⟨rfl, h00.out⟩
  · by_cases h2 : 64 < n
    · have hd : decide (n < 0) = false := by simpa using h1
      have hd2 : decide (64 < n) = true := by simpa using h2
      clear hn
      go_enter Try.func15, Try.ntmps15
      go_wp2_with fail
      go_ret2
      exact ⟨rfl, h00.out⟩
    · obtain ⟨m, rfl⟩ := Int.eq_ofNat_of_zero_le (show 0 ≤ n by omega)
      have hd : decide ((m : Int) < 0) = false := by simp
      have hd2 : decide (64 < (m : Int)) = false := by simpa using h2
      have hd3 : decide (e - a < m) = true := by simp; omega
      clear hn
      go_enter Try.func15, Try.ntmps15
      go_wp2_with fail
      refine hleft.mono ?_
      rintro x w1 ⟨rfl, n1, rfl⟩
      clear hleft
      go_wp2_with fail
      go_ret2
      exact ⟨rfl, h0.out _⟩
end Bit
end Go.Proofs.Ytblfhmajonnceaa
