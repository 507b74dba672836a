/- For all numbers n and m DigitsSizes returns true, and the arguments read as before. No condition. -/
import Derived.Test.YtcjfnkgjjhlbnaaDoorDigWorks
import Derived.Test.YtcjfnkgjjhlbnaaDoorDigOrder
import Derived.ProofKit
namespace Go.Proofs.YtcjfnkgjjhlbnaaDoor
open Go.RowKit
namespace Dig

theorem numA_size (n : Nat) : (⟨(numL n).toArray⟩ : ByteArray).size = nd n + 1 := by
  show (numL n).toArray.size = _
  rw [List.size_toArray, numL_length]

theorem numA_zero (n : Nat) (h : 0 < (⟨(numL n).toArray⟩ : ByteArray).size) : ((⟨(numL n).toArray⟩ : ByteArray)[0]'h).toNat = nd n := by
  have h2 := nd_le n
  have e : (UInt8.ofNat (nd n)).toNat = nd n := by rw [UInt8.toNat_ofNat']; omega
  exact e



end Dig
end Go.Proofs.YtcjfnkgjjhlbnaaDoor
