/- sort.Search, walked (layer 13). -/
import Derived.Test.YtfheehlfodoimaaGreatPHd5
set_option maxRecDepth 100000
namespace Go.Proofs.YtfheehlfodoimaaGreat
open Go.RowKit Go.Sort
namespace Hd
open Bit Dsk Ob Dig Nm
set_option linter.unusedVariables false
/-- Where a question's answers turn. -/
structure Turn (p : Nat → Bool) (n r : Nat) : Prop where
  le : r ≤ n
  no : ∀ t, t < r → p t = false
  yes : ∀ t, r ≤ t → t < n → p t = true
set_option maxHeartbeats 3200000 in
theorem search_any (g : Nat) (cb : Array Value) (n : Nat) (p : Nat → Bool) (w : World) (eg : ∀ args W, (callFunc g args).run Tryz.prog W = .ok (.enter g args) W) (hsz : n ≤ 1000000000)
    (hf : ∀ w1, New0 w w1 → ∀ i : Nat, i < n → Calls Tryz.prog g (#[.int .i64 (i : Int)] ++ cb) w1 fun e w' => e = .returned (.bool (p i)) ∧ New0 w1 w') (hmono : ∀ a b, a ≤ b → b < n → p a = true → p b = true) :
    Calls Tryz.prog 81 #[.int .i64 (n : Int), .func (.func g) #[] cb] w fun e w' => ∃ r : Nat, e = .returned (.int .i64 (r : Int)) ∧ Turn p n r ∧ New0 w w' := by
  have HF := Lib.hid hf
  have M := Lib.hid hmono
  clear hf hmono
  go_enter Tryz.func81, Tryz.ntmps81
  go_wp2_with fail
  go_loopw [5, 6] (fun s5 s6 wr => ∃ (lo hi : Nat), s5 = .int .i64 (lo : Int) ∧ s6 = .int .i64 (hi : Int) ∧ lo ≤ hi ∧ hi ≤ n ∧ Hid ((∀ t, t < lo → p t = false) ∧ (∀ t, hi ≤ t → t < n → p t = true)) ∧ Hid (New0 w wr)) (fun s5 s6 _ => (intOf s6).toNat - (intOf s5).toNat)
  case atStart => exact ⟨0, n, rfl, rfl, Nat.zero_le _, Nat.le_refl _, Lib.hid ⟨fun t ht => absurd ht (Nat.not_lt_zero _), fun t h1 h2 => by omega⟩, Lib.hid (Upon.refl _ _)⟩
  case round =>
    obtain ⟨lo, hi, rfl, rfl, hlh, hin, I, hu⟩ := hrel
    by_cases hlt : lo < hi
    · have hc := HF.out wr hu.out ((lo + hi) / 2) (by omega)
      rw [show (((lo + hi) / 2 : Nat) : Int) = ((lo : Int) + (hi : Int)) / 2 by omega] at hc
      cases hp : p ((lo + hi) / 2) <;> rw [hp] at hc
      · have HP := Lib.hid hp
        replace hc := Lib.hid hc
        clear hp
        go_wp2_with fail
        refine hc.out.mono ?_
        rintro e w' ⟨rfl, hu2⟩
        have hn2 := Lib.hid (hu.out.trans hu2)
        clear hc hu2
        have I2 : Hid ((∀ t, t < (lo + hi) / 2 + 1 → p t = false) ∧ (∀ t, hi ≤ t → t < n → p t = true)) := Lib.hid ⟨fun t ht => (by
            cases h : p t with
            | false => rfl
            | true => have := M.out t ((lo + hi) / 2) (by omega) (by omega) h; rw [HP.out] at this; cases this), I.out.2⟩
        go_wp2_with fail
        go_roundw
        case rel => exact ⟨(lo + hi) / 2 + 1, hi, by rw [show ((lo : Int) + (hi : Int)) / 2 + 1 = (((lo + hi) / 2 + 1 : Nat) : Int) by omega], rfl, by omega, hin, I2, hn2⟩
        case measure => simp [intOf]; omega
      · have HP := Lib.hid hp
        replace hc := Lib.hid hc
        clear hp
        go_wp2_with fail
        refine hc.out.mono ?_
        rintro e w' ⟨rfl, hu2⟩
        have hn2 := Lib.hid (hu.out.trans hu2)
        clear hc hu2
        have I2 : Hid ((∀ t, t < lo → p t = false) ∧ (∀ t, (lo + hi) / 2 ≤ t → t < n → p t = true)) := Lib.hid ⟨I.out.1, fun t ht htn => M.out ((lo + hi) / 2) t ht htn HP.out⟩
        go_wp2_with fail
        go_roundw
        case rel => exact ⟨lo, (lo + hi) / 2, rfl, by rw [show ((lo : Int) + (hi : Int)) / 2 = (((lo + hi) / 2 : Nat) : Int) by omega], by omega, by omega, I2, hn2⟩
        case measure => simp [intOf]; omega
    · obtain rfl : hi = lo := by omega
      go_wp2_with fail
      go_ret
      exact ⟨hi, rfl, ⟨hin, I.out.1, I.out.2⟩, hu.out⟩
end Hd
end Go.Proofs.YtfheehlfodoimaaGreat
