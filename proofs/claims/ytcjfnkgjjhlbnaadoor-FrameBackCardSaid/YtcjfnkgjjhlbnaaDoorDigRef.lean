/- What the document's own answers for numbers and texts as bytes (package barographref01) return; they leave alone what was there before. Conditions: numbers of 64 bits, texts no longer than a text can be. -/
import Derived.Test.YtcjfnkgjjhlbnaaDoorDigBack
namespace Go.Proofs.YtcjfnkgjjhlbnaaDoor
open Go.RowKit
namespace Dig

theorem bcell0 {B : Nat} {W w1 : World} (hb : Below B W w1) (k : Nat) (h : k < B) : w1.cell? ⟨k, 0, none⟩ = W.cell? ⟨k, 0, none⟩ := hb.cell (p := ⟨k, 0, none⟩) h
theorem ret_string {a b : ByteArray} (h : a = b) : Ending.returned (.string a) = .returned (.string b) := by rw [h]
theorem run_one_byte (b : UInt8) (c : Nat) (k : Nat) (W : World) (hc : W.cell? ⟨k, 0, none⟩ = some (.int .u8 (b.toNat : Int))) :
    (convert 46 9 (.slice (some ⟨k, 0, none⟩) 1 c)).run Tryd.prog W = .ok (.string ⟨#[b]⟩) W := by
  have h := run_convert_bytes_back (P := Tryd.prog) W 46 9 5 ⟨k, 0, none⟩ c [b] (by kernel_rfl) (by kernel_rfl) (by kernel_rfl) (fun j hj => by
    obtain rfl : j = 0 := by simpa using hj
    rw [addr_add]
    exact hc)
  exact h

set_option maxHeartbeats 400000 in
theorem refdigits_calls (n : Nat) : n < 18446744073709551616 → ∀ (w : World),
    Calls Tryd.prog 32 #[.int .u64 n] w fun e w' => e = .returned (.string ⟨(dig n).toArray⟩) ∧ Below w.heap.size w w' := by
  induction n using Nat.strongRecOn with
  | ind n ih =>
    intro hn w
    by_cases h0 : n = 0
    · subst h0
      go_enter Tryd.func32, Tryd.ntmps32
      go_wp2_with fail
      go_ret
      exact ⟨rfl, Below.refl _ _⟩
    · have hne : ((n : Int) == 0) = false := beq_eq_false_iff_ne.2 (by omega)
      have hr : ∀ (w : World), Calls Tryd.prog 32 #[.int .u64 ((n : Int) / 256)] w fun e w' => e = .returned (.string ⟨(dig (n / 256)).toArray⟩) ∧ Below w.heap.size w w' := ih (n / 256) (by omega) (by omega)
      replace hr := Lib.hid hr
      clear ih
      obtain ⟨b, hb, hb2⟩ : ∃ b : UInt8, IntKind.u8.wrap ((n : Int).tmod 256) = (b.toNat : Int) ∧ b = UInt8.ofNat (n % 256) := ⟨_, by rw [IntKind.wrap_u8, UInt8.toNat_ofNat', Int.tmod_eq_emod_of_nonneg (by omega)]; omega, rfl⟩
      have hl8 : ¬ 9223372036854775807 < (dig (n / 256)).length + 1 := by rw [dig_length]; have := nd_le (n / 256); omega
      have hw1 : IntKind.u64.wrap ((n : Int) / 256) = (n : Int) / 256 := IntWalk.u64_in _ (by omega)
      replace hb2 := Lib.hid hb2
      have hd := Lib.hid (dig_snoc n (by omega) hn)
      have hcv := fun c k W hc => run_one_byte b c k W hc
      go_enter Tryd.func32, Tryd.ntmps32
      go_wp2_with fail
      go_region_with (go_at_call 32; refine (hr.out _).mono ?_; rintro e w1 ⟨rfl, hb1⟩; have hc1 := bcell0 hb1 w.heap.size)
      all_goals (go_wp2; go_ret; refine ⟨ret_string (by rw [ByteArray.mk_append_mk, hd.out, hb2.out]), ?_⟩)
      · have h := chain2 (Below.refl _ w).drew hb1
        exact h.alloc h.size _
      · exact chain2 ((Below.refl _ w).alloc (Nat.le_refl _) _).drew hb1
      · exact chain2 ((Below.refl _ w).alloc (Nat.le_refl _) _).drew hb1
end Dig
end Go.Proofs.YtcjfnkgjjhlbnaaDoor
