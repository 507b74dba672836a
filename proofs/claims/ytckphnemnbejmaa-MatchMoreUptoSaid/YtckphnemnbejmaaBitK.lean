/- The program's reader of bits as a row of bits that are left. -/
import Derived.Test.YtckphnemnbejmaaPBit2
import Derived.Test.YtckphnemnbejmaaObj2
set_option maxRecDepth 100000
namespace Go.Proofs.Ytckphnemnbejmaa
open Go.RowKit Go.Sort
namespace Bit
open Dsk Ob
set_option linter.unusedVariables false

end Bit
end Go.Proofs.Ytckphnemnbejmaa
