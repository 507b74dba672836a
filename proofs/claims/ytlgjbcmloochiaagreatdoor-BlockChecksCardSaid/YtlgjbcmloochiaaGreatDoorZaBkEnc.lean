/- The program's blocks (layer 15): headData, rowData. -/
import Derived.Test.YtlgjbcmloochiaaGreatDoorZaBkRefE
import Derived.Test.YtlgjbcmloochiaaGreatDoorZaBkChk
import Derived.Test.YtlgjbcmloochiaaGreatDoorZaBkBld
import Derived.Test.YtlgjbcmloochiaaGreatDoorZaPCk2
import Derived.Test.YtlgjbcmloochiaaGreatDoorZaRcEnc2
set_option maxRecDepth 100000
namespace Go.Proofs.YtlgjbcmloochiaaGreatDoor
open Go.RowKit Go.Sort
namespace Bk
open Bit Dsk Ob Dig
set_option linter.unusedVariables false

theorem pnum (n : Nat) (h : n < 18446744073709551616) (w : World) : Calls Tryz.prog 109 #[.int .u64 (n : Int)] w fun e w' => e = .returned (.string (Mt.numA n)) ∧ Below w.heap.size w w' := Rc.pnum n h w
theorem psgn (x : Int) (h0 : -9223372036854775808 ≤ x) (h1 : x ≤ 9223372036854775807) (w : World) : Calls Tryz.prog 111 #[.int .i64 x] w fun e w' => e = .returned (.string (Mt.numA (zig x))) ∧ Below w.heap.size w w' := Rc.psgn x h0 h1 w
theorem four_at (F T n m : Int) (W : World) :
    (Instr.index 194 (.agg #[.int .i64 F, .int .i64 T, .int .i64 n, .int .i64 m]) (.int .i64 0)).run Tryz.prog W = .ok (.int .i64 F) W ∧
    (Instr.index 194 (.agg #[.int .i64 F, .int .i64 T, .int .i64 n, .int .i64 m]) (.int .i64 1)).run Tryz.prog W = .ok (.int .i64 T) W ∧
    (Instr.index 194 (.agg #[.int .i64 F, .int .i64 T, .int .i64 n, .int .i64 m]) (.int .i64 2)).run Tryz.prog W = .ok (.int .i64 n) W ∧
    (Instr.index 194 (.agg #[.int .i64 F, .int .i64 T, .int .i64 n, .int .i64 m]) (.int .i64 3)).run Tryz.prog W = .ok (.int .i64 m) W := ⟨by kernel_rfl, by kernel_rfl, by kernel_rfl, by kernel_rfl⟩
/-- The first numbers, one behind the other. -/
def hs (f t n m : Nat) : Nat → ByteArray
  | 0 => ⟨#[]⟩
  | 1 => ⟨#[]⟩ ++ Mt.numA f
  | 2 => ⟨#[]⟩ ++ Mt.numA f ++ Mt.numA t
  | 3 => ⟨#[]⟩ ++ Mt.numA f ++ Mt.numA t ++ Mt.numA n
  | _ => ⟨#[]⟩ ++ Mt.numA f ++ Mt.numA t ++ Mt.numA n ++ Mt.numA m
theorem hs_end (b : B) : hs b.first.toNat b.til.toNat b.rows.length b.dels.length 4 = bts (headL b) := by
  apply bts_eq
  simp only [hs, app_l, headL, List.append_assoc]
  simp only [show ∀ n, (Mt.numA n).data.toList = numL n from numA_l]
  rfl
theorem hs_size (f t n m : Nat) : ∀ i, (hs f t n m i).size ≤ 36
  | 0 => by show (⟨#[]⟩ : ByteArray).size ≤ 36; decide
  | 1 => by have := Mt.numA_few f; simp only [hs, ByteArray.size_append]; have : (⟨#[]⟩ : ByteArray).size = 0 := rfl; omega
  | 2 => by have := Mt.numA_few f; have := Mt.numA_few t; simp only [hs, ByteArray.size_append]; have : (⟨#[]⟩ : ByteArray).size = 0 := rfl; omega
  | 3 => by have := Mt.numA_few f; have := Mt.numA_few t; have := Mt.numA_few n; simp only [hs, ByteArray.size_append]; have : (⟨#[]⟩ : ByteArray).size = 0 := rfl; omega
  | i + 4 => by have := Mt.numA_few f; have := Mt.numA_few t; have := Mt.numA_few n; have := Mt.numA_few m; simp only [hs, ByteArray.size_append]; have : (⟨#[]⟩ : ByteArray).size = 0 := rfl; omega
set_option maxHeartbeats 6400000 in
theorem phead_any (w : World) (F T n m : Nat) (rv dv : Value) (A : Option Addr) (c : Nat) (A' : Option Addr) (c' : Nat) (hF : F < 1000000000000 ∧ T < 1000000000000 ∧ n < 1000000000000 ∧ m < 1000000000000) :
    Calls Tryz.prog 62 #[.agg #[.int .i64 (F : Int), .int .i64 (T : Int), .slice A n c, .slice A' m c']] w fun e w' => e = .returned (.string (hs F T n m 4)) ∧ New0 w w' := by
  obtain ⟨wb, hwb⟩ : ∃ wb, w.alloc (.cells #[.int .i64 (F : Int), .int .i64 (T : Int), .slice A n c, .slice A' m c'] 29 (0, 0)) = wb := ⟨_, rfl⟩
  have hB := box4 w (F : Int) (T : Int) (.slice A n c) (.slice A' m c') 29
  have hU := Lib.hid ((Upon.refl (fun _ => False) w).alloc (.cells #[.int .i64 (F : Int), .int .i64 (T : Int), .slice A n c, .slice A' m c'] 29 (0, 0)))
  rw [hwb] at hB hU
  replace hwb := Lib.hid hwb
  obtain ⟨k0, k1, k2, k3⟩ := hB
  obtain ⟨f1, f2, f3, f4⟩ := hF
  have HN := Lib.hid (fun n (h : n < 18446744073709551616) w => pnum n h w)
  have wr1 : IntKind.u64.wrap (F : Int) = (F : Int) := by rw [IntKind.wrap_u64]; omega
  have wr2 : IntKind.u64.wrap (T : Int) = (T : Int) := by rw [IntKind.wrap_u64]; omega
  have wr3 : IntKind.u64.wrap (n : Int) = (n : Int) := by rw [IntKind.wrap_u64]; omega
  have wr4 : IntKind.u64.wrap (m : Int) = (m : Int) := by rw [IntKind.wrap_u64]; omega
  have hsz := hs_size F T n m
  have q0 := fun W => (four_at F T n m W).1
  have q1 := fun W => (four_at F T n m W).2.1
  have q2 := fun W => (four_at F T n m W).2.2.1
  have q3 := fun W => (four_at F T n m W).2.2.2
  go_enter Tryz.func62, Tryz.ntmps62
  go_wp2_with fail
  rw [hwb.out]
  go_wp2_with fail
  clear k0 k1 k2 k3 hwb
  go_loopw [3, 17] (fun sv ov wr => ∃ i : Nat, sv = .string (hs F T n m i) ∧ ov = .int .i64 (i : Int) ∧ i ≤ 4 ∧ Hid (New0 wb wr)) (fun _ ov _ => 4 - (intOf ov).toNat)
  case atStart => exact ⟨0, rfl, rfl, by omega, Lib.hid (Upon.refl _ _)⟩
  case round =>
    obtain ⟨i, rfl, rfl, hi, hu⟩ := hrel
    have z := hsz i
    rcases (show i = 0 ∨ i = 1 ∨ i = 2 ∨ i = 3 ∨ i = 4 by omega) with rfl | rfl | rfl | rfl | rfl
    · have hnx : Hid (hs F T n m 0 ++ Mt.numA F = hs F T n m 1) := Lib.hid rfl
      have HN1 := Lib.hid (fun w => HN.out F (by omega) w)
      have zn := Mt.numA_few F
      obtain ⟨x, hx⟩ : ∃ x, Mt.numA F = x := ⟨_, rfl⟩
      obtain ⟨s, hs'⟩ : ∃ s, hs F T n m 0 = s := ⟨_, rfl⟩
      simp only [hx] at HN1 zn hnx
      simp only [hs'] at z hnx
      rw [hs']
      have hadd := fun W => run_string_add_sum (P := Tryz.prog) W s x (by omega)
      clear hx hs' HN zn z hsz wr2 wr3 wr4
      go_wp2_with fail
      refine (HN1.out _).mono ?_
      rintro e w4 ⟨rfl, hb4⟩
      have hu4 := Lib.hid (hu.out.trans (newOf hb4))
      clear HN1 hb4 hu
      go_wp2_with fail
      go_roundw
      case rel => exact ⟨1, by rw [hnx.out], rfl, by omega, hu4⟩
      case measure => simp [intOf]
    · have hnx : Hid (hs F T n m 1 ++ Mt.numA T = hs F T n m 2) := Lib.hid rfl
      have HN1 := Lib.hid (fun w => HN.out T (by omega) w)
      have zn := Mt.numA_few T
      obtain ⟨x, hx⟩ : ∃ x, Mt.numA T = x := ⟨_, rfl⟩
      obtain ⟨s, hs'⟩ : ∃ s, hs F T n m 1 = s := ⟨_, rfl⟩
      simp only [hx] at HN1 zn hnx
      simp only [hs'] at z hnx
      rw [hs']
      have hadd := fun W => run_string_add_sum (P := Tryz.prog) W s x (by omega)
      clear hx hs' HN zn z hsz wr1 wr3 wr4
      go_wp2_with fail
      refine (HN1.out _).mono ?_
      rintro e w4 ⟨rfl, hb4⟩
      have hu4 := Lib.hid (hu.out.trans (newOf hb4))
      clear HN1 hb4 hu
      go_wp2_with fail
      go_roundw
      case rel => exact ⟨2, by rw [hnx.out], rfl, by omega, hu4⟩
      case measure => simp [intOf]
    · have hnx : Hid (hs F T n m 2 ++ Mt.numA n = hs F T n m 3) := Lib.hid rfl
      have HN1 := Lib.hid (fun w => HN.out n (by omega) w)
      have zn := Mt.numA_few n
      obtain ⟨x, hx⟩ : ∃ x, Mt.numA n = x := ⟨_, rfl⟩
      obtain ⟨s, hs'⟩ : ∃ s, hs F T n m 2 = s := ⟨_, rfl⟩
      simp only [hx] at HN1 zn hnx
      simp only [hs'] at z hnx
      rw [hs']
      have hadd := fun W => run_string_add_sum (P := Tryz.prog) W s x (by omega)
      clear hx hs' HN zn z hsz wr1 wr2 wr4
      go_wp2_with fail
      refine (HN1.out _).mono ?_
      rintro e w4 ⟨rfl, hb4⟩
      have hu4 := Lib.hid (hu.out.trans (newOf hb4))
      clear HN1 hb4 hu
      go_wp2_with fail
      go_roundw
      case rel => exact ⟨3, by rw [hnx.out], rfl, by omega, hu4⟩
      case measure => simp [intOf]
    · have hnx : Hid (hs F T n m 3 ++ Mt.numA m = hs F T n m 4) := Lib.hid rfl
      have HN1 := Lib.hid (fun w => HN.out m (by omega) w)
      have zn := Mt.numA_few m
      obtain ⟨x, hx⟩ : ∃ x, Mt.numA m = x := ⟨_, rfl⟩
      obtain ⟨s, hs'⟩ : ∃ s, hs F T n m 3 = s := ⟨_, rfl⟩
      simp only [hx] at HN1 zn hnx
      simp only [hs'] at z hnx
      rw [hs']
      have hadd := fun W => run_string_add_sum (P := Tryz.prog) W s x (by omega)
      clear hx hs' HN zn z hsz wr1 wr2 wr3
      go_wp2_with fail
      refine (HN1.out _).mono ?_
      rintro e w4 ⟨rfl, hb4⟩
      have hu4 := Lib.hid (hu.out.trans (newOf hb4))
      clear HN1 hb4 hu
      go_wp2_with fail
      go_roundw
      case rel => exact ⟨4, by rw [hnx.out], rfl, by omega, hu4⟩
      case measure => simp [intOf]
    · have hu4 := Lib.hid (hU.out.trans hu.out)
      clear HN hsz z hu wr1 wr2 wr3 wr4
      go_wp2_with fail
      go_ret
      exact ⟨rfl, hu4.out⟩
/-- A part's chunk. -/
theorem ppart (w : World) (v : Value) (l : List Pt) (hT : Ck.Tab w) (hr : Ck.Rises l l.length) (hi : ∀ p ∈ l, Ck.PtIn p) {k : Nat} (hk : k < Ck.nparts l) (hv : Ck.View w Ck.All v (Ck.part l k)) :
    Calls Tryz.prog 113 #[v] w fun e w' => e = .returned (.tuple #[.string (bts (Ck.code (Ck.part l k))), .int .i64 0]) ∧ New0 w w' := by
  have h1 := Ck.part_len hk
  have := Ck.encode_any w Ck.All v _ hv (Ck.part_in hi k) hT
  rw [← Ck.encR_ok h1.1 h1.2 (Ck.part_rises hr k) rfl] at this
  exact this
end Bk
end Go.Proofs.YtlgjbcmloochiaaGreatDoor
