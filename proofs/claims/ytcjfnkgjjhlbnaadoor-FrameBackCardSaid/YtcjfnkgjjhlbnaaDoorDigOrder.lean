/- For all numbers a and b of 64 bits without a sign DigitsOrder returns true, and the arguments read as before. No condition. -/
import Derived.Test.YtcjfnkgjjhlbnaaDoorDigWorks
import Derived.Test.YtcjfnkgjjhlbnaaDoorDigOrdPure
import Derived.ProofKit
namespace Go.Proofs.YtcjfnkgjjhlbnaaDoor
open Go.RowKit
namespace Dig

theorem chain2 {w w1 w2 : World} (h1 : Below w.heap.size w w1) (h2 : Below w1.heap.size w1 w2) : Below w.heap.size w w2 := h1.trans (h2.mono h1.size)
theorem chain3 {w w1 w2 w3 : World} (h1 : Below w.heap.size w w1) (h2 : Below w1.heap.size w1 w2) (h3 : Below w2.heap.size w2 w3) : Below w.heap.size w w3 := chain2 (chain2 h1 h2) h3
theorem chain4 {w w1 w2 w3 w4 : World} (h1 : Below w.heap.size w w1) (h2 : Below w1.heap.size w1 w2) (h3 : Below w2.heap.size w2 w3) (h4 : Below w3.heap.size w3 w4) : Below w.heap.size w w4 := chain2 (chain3 h1 h2 h3) h4
theorem chain5 {w w1 w2 w3 w4 w5 : World} (h1 : Below w.heap.size w w1) (h2 : Below w1.heap.size w1 w2) (h3 : Below w2.heap.size w2 w3) (h4 : Below w3.heap.size w3 w4) (h5 : Below w4.heap.size w4 w5) : Below w.heap.size w w5 := chain2 (chain4 h1 h2 h3 h4) h5



end Dig
end Go.Proofs.YtcjfnkgjjhlbnaaDoor
