/- The program's records (layer 12): Check, Encode, Span, Decode. -/
import Derived.Test.YtkachkoiajdhgaaRcDcd
import Derived.Test.YtkachkoiajdhgaaRcEnc2
import Derived.Test.YtkachkoiajdhgaaRcRef4
import Derived.Test.YtkachkoiajdhgaaRcDecA
set_option maxRecDepth 100000
