/- The document's manifests (layer 17): Encode. -/
import Derived.Test.YtjpgglajcelllaaDoorEMfChk
import Derived.Test.YtjpgglajcelllaaDoorEPFrame
import Derived.Lib.QuietBelow
import Derived.BigQuiet
set_option maxRecDepth 100000
namespace Go.Proofs.YtjpgglajcelllaaDoor
open Go.RowKit Go.Sort
namespace Mf
open Bit Dsk Ob Dig
set_option linter.unusedVariables false
theorem encS_no {m : M} (h : chk m ≠ 0) : encS m = ⟨#[]⟩ := if_neg h
theorem encS_ok {m : M} (h : chk m = 0) : encS m = code m := if_pos h
theorem good_nat {m : M} (h : Good m) : ∃ E B P C : Nat, m.epoch = (E : Int) ∧ m.base = (B : Int) ∧ m.promise = (P : Int) ∧ m.check = (C : Int) ∧ E ≤ 99999999 ∧ B ≤ 99999999 ∧ P ≤ 99999999 ∧ C ≤ 99999999 := by
  have := h.e; have := h.b; have := h.p; have := h.c
  exact ⟨m.epoch.toNat, m.base.toNat, m.promise.toNat, m.check.toNat, by omega, by omega, by omega, by omega, by omega, by omega, by omega, by omega⟩
theorem ret_si {s s' : ByteArray} {a b : Int} (h1 : s = s') (h2 : a = b) : Ending.returned (.tuple #[.string s, .int .i64 a]) = .returned (.tuple #[.string s', .int .i64 b]) := by rw [h1, h2]
end Mf
end Go.Proofs.YtjpgglajcelllaaDoor
