/- What sum.Of and sum.Bytes return, and what the document's own functions return; the statements' own check 'works' returns true. Conditions: the table's two cells, the bounds. -/
import Derived.Test.YtcjfnkgjjhlbnaaDoorSumCalls
namespace Go.Proofs.YtcjfnkgjjhlbnaaDoor
open Go.RowKit
namespace Crc

theorem of_any (s : ByteArray) (hs : s.size ≤ 9223372036854775807) (w : World) (ht : Tab w) :
    Calls Tryd.prog 18 #[.string s] w fun e w' => e = .returned (.int .u32 (more 0 s.data.toList : Nat)) ∧ w = w' := by
  go_enter Tryd.func18, Tryd.ntmps18
  go_wp2_with fail
  refine (more_any 0 s (by omega) hs _ ht).mono ?_
  rintro e w' ⟨rfl, rfl⟩
  go_wp2
  go_ret
  exact ⟨rfl, rfl⟩

theorem ret_u32 {a b : Int} (h : a = b) : Ending.returned (.int .u32 a) = .returned (.int .u32 b) := by rw [h]
theorem addr_add (b o j : Nat) : (⟨b, o, none⟩ : Addr).add j = ⟨b, o + j, none⟩ := by
  unfold Addr.add
  split <;> simp_all
theorem run_four_bytes (b0 b1 b2 b3 : UInt8) (c : Nat) (k : Nat) (W : World) (h0 : W.cell? ⟨k, 0, none⟩ = some (.int .u8 (b0.toNat : Int))) (h1 : W.cell? ⟨k, 1, none⟩ = some (.int .u8 (b1.toNat : Int)))
    (h2 : W.cell? ⟨k, 2, none⟩ = some (.int .u8 (b2.toNat : Int))) (h3 : W.cell? ⟨k, 3, none⟩ = some (.int .u8 (b3.toNat : Int))) :
    (convert 46 9 (.slice (some ⟨k, 0, none⟩) 4 c)).run Tryd.prog W = .ok (.string ⟨#[b0, b1, b2, b3]⟩) W := by
  have h := run_convert_bytes_back (P := Tryd.prog) W 46 9 5 ⟨k, 0, none⟩ c [b0, b1, b2, b3] (by kernel_rfl) (by kernel_rfl) (by kernel_rfl) (fun j hj => by
    have hj4 : j < 4 := hj
    rw [addr_add]
    match j, hj4 with
    | 0, _ => exact h0
    | 1, _ => exact h1
    | 2, _ => exact h2
    | 3, _ => exact h3)
  exact h

theorem run_four_new (b0 b1 b2 b3 : UInt8) (w : World) :
    (convert 46 9 (.slice (some ⟨w.heap.size, 0, none⟩) 4 4)).run Tryd.prog (w.alloc (.cells #[.int .u8 (b0.toNat : Int), .int .u8 (b1.toNat : Int), .int .u8 (b2.toNat : Int), .int .u8 (b3.toNat : Int)] 5)) =
      .ok (.string ⟨#[b0, b1, b2, b3]⟩) (w.alloc (.cells #[.int .u8 (b0.toNat : Int), .int .u8 (b1.toNat : Int), .int .u8 (b2.toNat : Int), .int .u8 (b3.toNat : Int)] 5)) := by
  apply run_four_bytes <;> (rw [World.cell?_alloc_at _ _ _ _ rfl]; rfl)

set_option maxHeartbeats 400000 in
theorem bytes_any (c : Nat) (hc : c < 4294967296) (w : World) :
    Calls Tryd.prog 17 #[.int .u32 c] w fun e w' => e = .returned (.string ⟨#[UInt8.ofNat (c / 16777216), UInt8.ofNat (c / 65536 % 256), UInt8.ofNat (c / 256 % 256), UInt8.ofNat (c % 256)]⟩) ∧ Below w.heap.size w w' := by
  have hw0 : IntKind.u8.wrap ((c : Int) / 16777216) = ((UInt8.ofNat (c / 16777216)).toNat : Int) := by rw [IntKind.wrap_u8, UInt8.toNat_ofNat']; omega
  have hw0' : (c : Int) / 16777216 = ((UInt8.ofNat (c / 16777216)).toNat : Int) := by rw [UInt8.toNat_ofNat']; omega
  have hw1 : IntKind.u8.wrap ((c : Int) / 65536) = ((UInt8.ofNat (c / 65536 % 256)).toNat : Int) := by rw [IntKind.wrap_u8, UInt8.toNat_ofNat']; omega
  have hw2 : IntKind.u8.wrap ((c : Int) / 256) = ((UInt8.ofNat (c / 256 % 256)).toNat : Int) := by rw [IntKind.wrap_u8, UInt8.toNat_ofNat']; omega
  have hw3 : IntKind.u8.wrap (c : Int) = ((UInt8.ofNat (c % 256)).toNat : Int) := by rw [IntKind.wrap_u8, UInt8.toNat_ofNat']; omega
  generalize UInt8.ofNat (c / 16777216) = b0 at *
  generalize UInt8.ofNat (c / 65536 % 256) = b1 at *
  generalize UInt8.ofNat (c / 256 % 256) = b2 at *
  generalize UInt8.ofNat (c % 256) = b3 at *
  have hcv := run_four_new b0 b1 b2 b3 w
  go_enter Tryd.func17, Tryd.ntmps17
  go_wp2
  go_ret
  exact ⟨rfl, by go_grown⟩

set_option maxHeartbeats 400000 in
theorem refbytes_any (c : Nat) (hc : c < 4294967296) (w : World) :
    Calls Tryd.prog 20 #[.int .u32 c] w fun e w' => e = .returned (.string ⟨#[UInt8.ofNat (c / 16777216), UInt8.ofNat (c / 65536 % 256), UInt8.ofNat (c / 256 % 256), UInt8.ofNat (c % 256)]⟩) ∧ Below w.heap.size w w' := by
  have hw0 : IntKind.u8.wrap ((c : Int) / 16777216) = ((UInt8.ofNat (c / 16777216)).toNat : Int) := by rw [IntKind.wrap_u8, UInt8.toNat_ofNat']; omega
  have hw0' : (c : Int) / 16777216 = ((UInt8.ofNat (c / 16777216)).toNat : Int) := by rw [UInt8.toNat_ofNat']; omega
  have hw1 : IntKind.u8.wrap ((c : Int) / 65536) = ((UInt8.ofNat (c / 65536 % 256)).toNat : Int) := by rw [IntKind.wrap_u8, UInt8.toNat_ofNat']; omega
  have hw2 : IntKind.u8.wrap ((c : Int) / 256) = ((UInt8.ofNat (c / 256 % 256)).toNat : Int) := by rw [IntKind.wrap_u8, UInt8.toNat_ofNat']; omega
  have hw3 : IntKind.u8.wrap (c : Int) = ((UInt8.ofNat (c % 256)).toNat : Int) := by rw [IntKind.wrap_u8, UInt8.toNat_ofNat']; omega
  generalize UInt8.ofNat (c / 16777216) = b0 at *
  generalize UInt8.ofNat (c / 65536 % 256) = b1 at *
  generalize UInt8.ofNat (c / 256 % 256) = b2 at *
  generalize UInt8.ofNat (c % 256) = b3 at *
  have hcv := run_four_new b0 b1 b2 b3 w
  go_enter Tryd.func20, Tryd.ntmps20
  go_wp2
  go_ret
  exact ⟨rfl, by go_grown⟩

/-! The document's own sum. -/
theorem T_even (x : Nat) (_ : x < 4294967296) (h : ¬ x % 2 = 1) : ((x : Int) / 2) = ((T x : Nat) : Int) := by
  unfold T; rw [if_neg h, Nat.xor_zero]; omega

set_option maxHeartbeats 400000 in
theorem refmore_any (c : Nat) (s : ByteArray) (hc : c < 4294967296) (hs : s.size ≤ 9223372036854775807) (w : World) :
    Calls Tryd.prog 28 #[.int .u32 c, .string s] w fun e w' => e = .returned (.int .u32 (more c s.data.toList : Nat)) ∧ w = w' := by
  have hr : ∀ k, run (4294967295 - c) (s.data.toList.take k) < 4294967296 := fun k => run_lt _ _ (by omega)
  have hnx : ∀ k (h : k < s.size), run (4294967295 - c) (s.data.toList.take (k + 1)) = byteStep (run (4294967295 - c) (s.data.toList.take k)) s[k].toNat := fun k h => run_take _ s k h
  replace hr := Lib.hid hr
  replace hnx := Lib.hid hnx
  go_enter Tryd.func28, Tryd.ntmps28
  go_wp2
  go_loop [0, 5, 6, 7] (fun x i _ _ => ∃ k : Nat, k ≤ s.size ∧ i = .int .i64 k ∧ x = .int .u32 (run (4294967295 - c) (s.data.toList.take k) : Nat)) (fun _ i _ _ => s.size - (intOf i).toNat)
  case atStart => exact ⟨0, by omega, rfl, by rw [show (4294967295 - (c : Int)) = ((4294967295 - c : Nat) : Int) by omega]; rfl⟩
  case round =>
    obtain ⟨k, hk, rfl, rfl⟩ := hrel
    have hrk := hr.out k
    by_cases hlt : k < s.size
    · have hnk := hnx.out k hlt
      have hb := s[k].toNat_lt
      have hw : IntKind.u32.wrap (s[k].toNat : Int) = s[k].toNat := IntWalk.u32_in _ (by omega)
      generalize hX : run (4294967295 - c) (s.data.toList.take k) = X at *
      replace hX := Lib.hid hX
      replace hnk := Lib.hid hnk
      have hx := bits_xor32 X s[k].toNat hrk (by omega)
      have hy := xor_lt X s[k].toNat hrk (by omega)
      have hn : ∀ j, TN (j + 1) (X ^^^ s[k].toNat) = T (TN j (X ^^^ s[k].toNat)) := fun j => TN_next j _
      have hl : ∀ j, TN j (X ^^^ s[k].toNat) < 4294967296 := fun j => TN_lt j _ hy
      replace hn := Lib.hid hn
      replace hl := Lib.hid hl
      go_wp2
      go_loop [0, 6, 7] (fun x i _ => ∃ j : Nat, j ≤ 8 ∧ i = .int .i64 j ∧ x = .int .u32 (TN j (X ^^^ s[k].toNat) : Nat)) (fun _ i _ => 8 - (intOf i).toNat)
      case atStart => exact ⟨0, by omega, rfl, rfl⟩
      case round =>
        obtain ⟨j, hj, rfl, rfl⟩ := hrel
        clear hx hw hy
        by_cases hlt8 : j < 8
        · have hnk := hn.out j
          have hlk := hl.out j
          have hone := T_one (TN j (X ^^^ s[k].toNat)) hlk
          have hnil := T_even (TN j (X ^^^ s[k].toNat)) hlk
          generalize hZ : TN j (X ^^^ s[k].toNat) = Z at *
          replace hZ := Lib.hid hZ
          replace hnk := Lib.hid hnk
          by_cases hp : Z % 2 = 1
          · have hT := hone hp
            have hp' : ((Z : Int) % 2 == 1) = true := by rw [beq_iff_eq]; omega
            clear hone hnil hp
            go_wp2
            go_round
            case rel => exact ⟨j + 1, by omega, by go_num, by rw [hnk.out]⟩
            case measure => simp [intOf]; omega
          · have hT := hnil hp
            have hp' : ((Z : Int) % 2 == 1) = false := by rw [beq_eq_false_iff_ne]; omega
            clear hone hnil hp
            go_wp2
            go_round
            case rel => exact ⟨j + 1, by omega, by go_num, by rw [hnk.out, ← hT]⟩
            case measure => simp [intOf]; omega
        · obtain rfl : j = 8 := by omega
          go_wp2
          go_round
          case rel => exact ⟨k + 1, by omega, by go_num, by rw [hnk.out]; rfl⟩
          case measure => simp [intOf]; omega
    · obtain rfl : k = s.size := by omega
      have e : s.data.toList.take s.size = s.data.toList := List.take_of_length_le (by simp)
      rw [e]
      rw [e] at hrk
      clear e
      go_wp2
      go_ret
      exact ⟨ret_u32 (by unfold more; omega), rfl⟩
theorem refof_any (s : ByteArray) (hs : s.size ≤ 9223372036854775807) (w : World) :
    Calls Tryd.prog 21 #[.string s] w fun e w' => e = .returned (.int .u32 (more 0 s.data.toList : Nat)) ∧ w = w' := by
  go_enter Tryd.func21, Tryd.ntmps21
  go_wp2_with fail
  refine (refmore_any 0 s (by omega) hs _).mono ?_
  rintro e w' ⟨rfl, rfl⟩
  go_wp2
  go_ret
  exact ⟨rfl, rfl⟩

/-! The statements' own check. -/
theorem of_is (s : ByteArray) (hs : s.size ≤ 9223372036854775807) (n : Nat) (hn : more 0 s.data.toList = n) (w : World) (ht : Tab w) :
    Calls Tryd.prog 18 #[.string s] w fun e w' => e = .returned (.int .u32 n) ∧ w = w' := by
  subst hn; exact of_any s hs w ht
theorem bytes_is (c : Nat) (hc : c < 4294967296) (t : ByteArray) (h : ⟨#[UInt8.ofNat (c / 16777216), UInt8.ofNat (c / 65536 % 256), UInt8.ofNat (c / 256 % 256), UInt8.ofNat (c % 256)]⟩ = t) (w : World) :
    Calls Tryd.prog 17 #[.int .u32 c] w fun e w' => e = .returned (.string t) ∧ Below w.heap.size w w' := by
  subst h; exact bytes_any c hc w

end Crc
end Go.Proofs.YtcjfnkgjjhlbnaaDoor
