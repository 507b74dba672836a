/- For all numbers n and m and every text s DigitsBack returns true, and the arguments read as before. Condition: the text is within the form's own reach. -/
import Derived.Test.YtcjfnkgjjhlbnaaDoorDigSizes
import Derived.ProofKit
import Derived.Deep.QuietTactic
import Derived.BigQuiet
import Derived.Deep.RegionWith
import Derived.Lib.QuietBelow
import Derived.Lib.Strings
namespace Go.Proofs.YtcjfnkgjjhlbnaaDoor
open Go.RowKit
namespace Dig

theorem cat_list (l : List UInt8) (s : ByteArray) : ((⟨l.toArray⟩ : ByteArray) ++ s).data.toList = l ++ s.data.toList := by
  rw [ByteArray.data_append, Array.toList_append]
theorem cat_size (l : List UInt8) (s : ByteArray) : ((⟨l.toArray⟩ : ByteArray) ++ s).size = l.length + s.size := by
  rw [ByteArray.size_append]
  show l.toArray.size + _ = _
  rw [List.size_toArray]


theorem extract_list (s : ByteArray) (a b : Nat) : (s.extract a b).data.toList = (s.data.toList.take b).drop a := by
  rw [Lib.extract_data, List.drop_take]

end Dig
end Go.Proofs.YtcjfnkgjjhlbnaaDoor
