/- The document's own records (layer 12): Decode. -/
import Derived.Test.YtkachkoiajdhgaaRcDecC
import Derived.Test.YtkachkoiajdhgaaRcDecD
set_option maxRecDepth 100000
namespace Go.Proofs.Ytkachkoiajdhgaa
open Go.RowKit Go.Sort
namespace Rc
open Bit Dsk Ob Dig Lb
set_option linter.unusedVariables false

theorem refdec_any (w : World) (s : ByteArray) (hs : s.size ≤ 140737488355328) :
    Calls Try.prog 18 #[.string s] w fun e w' => DecE w s.data.toList e w' := by
  obtain ⟨k, kk, x, hg⟩ : ∃ k kk x, gotN s.data.toList = (k, kk, x) := ⟨_, _, _, rfl⟩
  by_cases hk : k = 1
  · exact refdec_com w s hs hg hk
  · exact refdec_del w s hs hg hk
end Rc
end Go.Proofs.Ytkachkoiajdhgaa
