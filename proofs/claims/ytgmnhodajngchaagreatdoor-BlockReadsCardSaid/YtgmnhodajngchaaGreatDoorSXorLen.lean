/- Parts: XorLen. -/
import Derived.Test.YtgmnhodajngchaaGreatDoorRows
import Derived.Lib.Strings
import Derived.Lib.Slices
import Derived.Lib.Small
import Derived.Lib.Walk
import Derived.Lib.BitFns
set_option maxRecDepth 100000
set_option linter.unusedVariables false
namespace Go.Proofs.YtgmnhodajngchaaGreatDoor
section
namespace Xr
theorem len_by {x : Int} (k : Nat) (h0 : 2 ^ k <= x.toNat) (h1 : x.toNat < 2 ^ 64) {b : Int} (hb0 : 0 <= b) (hb1 : b <= 255) (hb : b.toNat = x.toNat / 2 ^ k) : ∃ m : Nat, Lib.len8 b = (m : Int) /\ m <= 8 /\ Lib.bitLen x.toNat = k + m := by
 have s := Lib.bitLen_shift k x.toNat h0 h1
 rw [<- hb] at s
 exact ⟨_, Lib.len8_of b hb0 hb1, Lib.bitLen_le8' b hb0 hb1, s⟩
set_option maxHeartbeats 4000000 in
set_option maxRecDepth 100000 in
theorem len64_any (x : Int) (h0 : 0 <= x) (h1 : x <= 18446744073709551615) (w : World) : Calls Tryz.prog 247 #[.int .u64 x] w fun e w' => e = .returned (.int .i64 (Lib.bitLen x.toNat : Int)) /\ w' = w := by
 have hx : x.toNat < 2 ^ 64 := by omega
 go_enter Tryz.func247, Tryz.ntmps247
 go_wp2
 all_goals (go_ret; refine ⟨congrArg Ending.returned (congrArg (Value.int IntKind.i64) ?_), rfl⟩)
 ·obtain ⟨m, e, l, s⟩ := len_by (x := x) 56 (by omega) hx (b := x / 4294967296 / 65536 / 256 % 256) (by omega) (by omega) (by omega)
  rw [e, s]; omega
 ·obtain ⟨m, e, l, s⟩ := len_by (x := x) 48 (by omega) hx (b := x / 4294967296 / 65536 % 256) (by omega) (by omega) (by omega)
  rw [e, s]; omega
 ·obtain ⟨m, e, l, s⟩ := len_by (x := x) 40 (by omega) hx (b := x / 4294967296 / 256 % 256) (by omega) (by omega) (by omega)
  rw [e, s]; omega
 ·obtain ⟨m, e, l, s⟩ := len_by (x := x) 32 (by omega) hx (b := x / 4294967296 % 256) (by omega) (by omega) (by omega)
  rw [e, s]; omega
 ·obtain ⟨m, e, l, s⟩ := len_by (x := x) 24 (by omega) hx (b := x / 65536 / 256 % 256) (by omega) (by omega) (by omega)
  rw [e, s]; omega
 ·obtain ⟨m, e, l, s⟩ := len_by (x := x) 16 (by omega) hx (b := x / 65536 % 256) (by omega) (by omega) (by omega)
  rw [e, s]; omega
 ·obtain ⟨m, e, l, s⟩ := len_by (x := x) 8 (by omega) hx (b := x / 256 % 256) (by omega) (by omega) (by omega)
  rw [e, s]; omega
 ·have e := Lib.len8_of (x % 256) (by omega) (by omega)
  have l := Lib.bitLen_le8' (x % 256) (by omega) (by omega)
  have e2 : x % 256 = x := by omega
  rw [e2] at e l ⊢
  rw [e]; omega
end Xr
end
end Go.Proofs.YtgmnhodajngchaaGreatDoor
