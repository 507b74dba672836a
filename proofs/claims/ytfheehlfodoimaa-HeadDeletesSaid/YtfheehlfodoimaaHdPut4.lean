/- The document's head (layer 13): put, walked: the first row of all. -/
import Derived.Test.YtfheehlfodoimaaHdPut3
set_option maxRecDepth 100000
namespace Go.Proofs.Ytfheehlfodoimaa
open Go.RowKit Go.Sort
open Bit Dsk Ob Dig
namespace Hd
set_option linter.unusedVariables false
set_option linter.unusedSimpArgs false
end Hd
end Go.Proofs.Ytfheehlfodoimaa
