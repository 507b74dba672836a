/- The program's reader of bits as a row of bits that are left. -/
import Derived.Test.YtkachkoiajdhgaaPBit2
import Derived.Test.YtkachkoiajdhgaaObj2
set_option maxRecDepth 100000
namespace Go.Proofs.Ytkachkoiajdhgaa
open Go.RowKit Go.Sort
namespace Bit
open Dsk Ob
set_option linter.unusedVariables false

end Bit
end Go.Proofs.Ytkachkoiajdhgaa
