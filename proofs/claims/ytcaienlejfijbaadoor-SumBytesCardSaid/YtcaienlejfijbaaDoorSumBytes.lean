/- For all inputs SumBytes returns true. Conditions: the table's two cells, a text no longer than a text can be. -/
import Derived.Test.YtcaienlejfijbaaDoorSumLaws
import Derived.RegionTactic
import Derived.BigRegion
import Derived.Deep.QuietTactic
import Derived.BigQuiet
import Derived.Deep.RegionWith
import Derived.Deep.Cut
import Derived.Deep.DeepCutAuto
import Derived.Outline
namespace Go.Proofs.YtcaienlejfijbaaDoor
open Go.RowKit
namespace Crc

theorem of_from {W : World} (ht : Tab W) (s : ByteArray) (hs : s.size ≤ 9223372036854775807) (w : World) (hb : Below W.heap.size W w) :
    Calls Tryd.prog 7 #[.string s] w fun e w' => e = .returned (.int .u32 (more 0 s.data.toList : Nat)) ∧ w = w' := of_any s hs w (ht.below hb)
theorem run_one_byte (b : UInt8) (c : Nat) (k : Nat) (W : World) (hc : W.cell? ⟨k, 0, none⟩ = some (.int .u8 (b.toNat : Int))) :
    (convert 29 9 (.slice (some ⟨k, 0, none⟩) 1 c)).run Tryd.prog W = .ok (.string ⟨#[b]⟩) W := by
  have h := run_convert_bytes_back (P := Tryd.prog) W 29 9 5 ⟨k, 0, none⟩ c [b] (by kernel_rfl) (by kernel_rfl) (by kernel_rfl) (fun j hj => by
    obtain rfl : j = 0 := by simpa using hj
    rw [addr_add]
    exact hc)
  exact h
theorem size_one (s : ByteArray) (b : UInt8) (hs : s.size ≤ 3000) : (s ++ (⟨#[b]⟩ : ByteArray)).size ≤ 9223372036854775807 := by
  rw [ByteArray.size_append]
  have : (⟨#[b]⟩ : ByteArray).size = 1 := rfl
  omega

theorem join4 (b0 b1 b2 b3 : Nat) (h0 : b0 < 256) (h1 : b1 < 256) (h2 : b2 < 256) (h3 : b3 < 256) :
    bits .or .u32 (bits .or .u32 (bits .or .u32 ((b0 : Int) % 4294967296 * 16777216 % 4294967296) ((b1 : Int) % 4294967296 * 65536 % 4294967296)) ((b2 : Int) % 4294967296 * 256 % 4294967296)) ((b3 : Int) % 4294967296) =
      ((b0 * 16777216 + b1 * 65536 + b2 * 256 + b3 : Nat) : Int) := by
  rw [show (b0 : Int) % 4294967296 * 16777216 % 4294967296 = b0 * 16777216 by omega, show (b1 : Int) % 4294967296 * 65536 % 4294967296 = b1 * 65536 by omega,
    show (b2 : Int) % 4294967296 * 256 % 4294967296 = b2 * 256 by omega, show (b3 : Int) % 4294967296 = b3 by omega]
  rw [bits_join .u32 32 (by decide) wraps_u32 24 ((b0 : Int) * 16777216) ((b1 : Int) * 65536) (by omega) (by omega) (by omega) (by omega) (by omega) (by omega)]
  rw [bits_join .u32 32 (by decide) wraps_u32 16 ((b0 : Int) * 16777216 + (b1 : Int) * 65536) ((b2 : Int) * 256) (by omega) (by omega) (by omega) (by omega) (by omega) (by omega)]
  rw [bits_join .u32 32 (by decide) wraps_u32 8 ((b0 : Int) * 16777216 + (b1 : Int) * 65536 + (b2 : Int) * 256) (b3 : Int) (by omega) (by omega) (by omega) (by omega) (by omega) (by omega)]
  omega
theorem join_bytes (X : Nat) (h : X < 4294967296) :
    bits .or .u32 (bits .or .u32 (bits .or .u32 (((UInt8.ofNat (X / 16777216)).toNat : Int) % 4294967296 * 16777216 % 4294967296) (((UInt8.ofNat (X / 65536 % 256)).toNat : Int) % 4294967296 * 65536 % 4294967296)) (((UInt8.ofNat (X / 256 % 256)).toNat : Int) % 4294967296 * 256 % 4294967296)) (((UInt8.ofNat (X % 256)).toNat : Int) % 4294967296) = (X : Int) := by
  rw [join4 _ _ _ _ (UInt8.toNat_lt _) (UInt8.toNat_lt _) (UInt8.toNat_lt _) (UInt8.toNat_lt _)]
  simp only [UInt8.toNat_ofNat']
  omega

theorem same_iff (l : List UInt8) (a b : UInt8) : (((more 0 (l ++ [a]) : Nat) : Int) == ((more 0 (l ++ [b]) : Nat) : Int)) = (((a.toNat : Nat) : Int) == ((b.toNat : Nat) : Int)) := by
  by_cases h : a = b
  · subst h; simp
  · have h1 : ¬ more 0 (l ++ [a]) = more 0 (l ++ [b]) := fun e => h (last_differs 0 l a b e)
    have h2 : ¬ a.toNat = b.toNat := fun e => h (UInt8.toNat_inj.1 e)
    rw [beq_eq_false_iff_ne.2 (by omega), beq_eq_false_iff_ne.2 (by omega)]

theorem ret_same {x y : Bool} (h : x = y) : Ending.returned (.bool (x == y)) = .returned (.bool true) := by subst h; simp

set_option maxHeartbeats 8000000 in
theorem bytes_short (s : ByteArray) (a b : UInt8) (hs : s.size ≤ 3000) (w : World) (ht : Tab w) :
    Calls Tryd.prog 6 #[.string s, .int .u8 (a.toNat : Int), .int .u8 (b.toNat : Int)] w fun e w' => e = .returned (.bool true) ∧ Below w.heap.size w w' := by
  have za := Lib.hid (size_one s a hs)
  have zb := Lib.hid (size_one s b hs)
  have ca := fun c k W h => run_one_byte a c k W h
  have cb := fun c k W h => run_one_byte b c k W h
  go_enter Tryd.func6, Tryd.ntmps6
  go_wp2_with fail
  refine (works_true _ ht).mono ?_
  rintro e w1 ⟨rfl, hb1⟩
  have ht1 := Lib.hid (ht.below hb1)
  go_wp2_with fail
  have hb1' := Lib.hid hb1
  clear hb1
  go_cut [7, 8] (fun x y wx => x = .int .u32 (more 0 (s.data.toList ++ [a]) : Nat) ∧ y = .int .u32 (more 0 (s.data.toList ++ [b]) : Nat) ∧ Below w1.heap.size w1 wx)
  case first =>
    clear hs
    go_region_with (go_at_call 7; refine (of_from ht1.out _ (by first | exact za.out | exact zb.out) _ (by go_grown)).mono ?_; rintro e w' ⟨rfl, rfl⟩)
    all_goals (go_wp2_with fail; go_meet; exact ⟨rfl, rfl, by go_grown⟩)
  case rest =>
    obtain ⟨rfl, rfl, hbx⟩ := hcut
    obtain ⟨w2, rfl⟩ : ∃ w2 : World, w2 = wc := ⟨_, rfl⟩
    have hbw : Below w.heap.size w w2 := hb1'.out.trans (hbx.mono hb1'.out.size)
    have hX := more_lt 0 (s.data.toList ++ [a])
    have hY := more_lt 0 (s.data.toList ++ [b])
    have H := Lib.hid (same_iff s.data.toList a b)
    generalize more 0 (s.data.toList ++ [a]) = X at *
    generalize more 0 (s.data.toList ++ [b]) = Y at *
    clear ca cb za zb ht1 hb1' hs
    have hby := bytes_any X hX
    replace hby := Lib.hid hby
    go_wp2_with fail
    refine (hby.out _).mono ?_
    rintro e w3 ⟨rfl, hb3⟩
    clear hby
    have hjoin := Lib.hid (join_bytes X hX)
    generalize UInt8.ofNat (X / 16777216) = b0 at *
    generalize UInt8.ofNat (X / 65536 % 256) = b1 at *
    generalize UInt8.ofNat (X / 256 % 256) = b2 at *
    generalize UInt8.ofNat (X % 256) = b3 at *
    go_wp2_with fail
    go_cut [10] (fun x wx => x = .int .u32 (X : Nat) ∧ Below w3.heap.size w3 wx)
    case first =>
      go_quiet (fail)
      go_wp2_with fail
      go_meet
      exact ⟨by rw [← hjoin.out]; rfl, below_drewN (Below.refl _ _) _⟩
    case rest =>
      obtain ⟨rfl, hb5⟩ := hcut
      clear hjoin
      have hbel : Below w.heap.size w wc := (hbw.trans (hb3.mono hbw.size)).trans (hb5.mono (Nat.le_trans hbw.size hb3.size))
      go_wp2_with fail
      go_ret
      exact ⟨ret_same H.out, hbel⟩

theorem byte_of (x : Int) (h0 : 0 ≤ x) (h1 : x ≤ 255) : ∃ b : UInt8, x = (b.toNat : Int) := ⟨UInt8.ofNat x.toNat, by rw [UInt8.toNat_ofNat']; omega⟩
set_option maxHeartbeats 400000 in
theorem bytes_long (s : ByteArray) (a b : Int) (hs : s.size ≤ 140737488351232) (hl : 3000 < s.size) (w : World) (ht : Tab w) :
    Calls Tryd.prog 6 #[.string s, .int .u8 a, .int .u8 b] w fun e w' => e = .returned (.bool true) ∧ Below w.heap.size w w' := by
  go_enter Tryd.func6, Tryd.ntmps6
  go_wp2_with fail
  refine (works_true _ ht).mono ?_
  rintro e w1 ⟨rfl, hb1⟩
  go_wp2_with fail
  go_ret
  exact ⟨rfl, hb1⟩
theorem bytes_true (s : ByteArray) (a b : Int) (hs : s.size ≤ 140737488351232) (ha0 : 0 ≤ a) (ha1 : a ≤ 255) (hb0 : 0 ≤ b) (hb1 : b ≤ 255) (w : World) (ht : Tab w) :
    Calls Tryd.prog 6 #[.string s, .int .u8 a, .int .u8 b] w fun e w' => e = .returned (.bool true) ∧ Below w.heap.size w w' := by
  by_cases hl : 3000 < s.size
  · exact bytes_long s a b hs hl w ht
  · obtain ⟨a, rfl⟩ := byte_of a ha0 ha1
    obtain ⟨b, rfl⟩ := byte_of b hb0 hb1
    exact bytes_short s a b (by omega) w ht
end Crc
end Go.Proofs.YtcaienlejfijbaaDoor
