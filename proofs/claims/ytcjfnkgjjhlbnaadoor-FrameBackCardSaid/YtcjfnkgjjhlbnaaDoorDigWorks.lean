/- The statements' own check 'works' returns true and leaves alone what was there before. No condition. -/
import Derived.Test.YtcjfnkgjjhlbnaaDoorDigMore
namespace Go.Proofs.YtcjfnkgjjhlbnaaDoor
open Go.RowKit
namespace Dig

theorem num_is (x : Int) (h0 : 0 ≤ x) (h1 : x ≤ 18446744073709551615) (l : List UInt8) (hl : numL x.toNat = l) (w : World) :
    Calls Tryd.prog 25 #[.int .u64 x] w fun e w' => e = .returned (.string ⟨l.toArray⟩) ∧ Below w.heap.size w w' := by
  subst hl; exact num_any x h0 h1 w
theorem get_is (s : ByteArray) (hs : s.size ≤ 9223372036854775807) (n k x : Nat) (hg : gotN s.data.toList = (n, k, x)) (w : World) :
    Calls Tryd.prog 29 #[.string s] w fun e w' => e = .returned (.tuple #[.int .u64 (n : Int), .int .i64 (k : Int), .int .i64 (x : Int)]) ∧ Below w.heap.size w w' := by
  have := get_any s hs w
  rw [hg] at this
  exact this
theorem text_is (s : ByteArray) (hs : s.size ≤ 4611686018427387904) (t : ByteArray) (ht : textA s = t) (w : World) :
    Calls Tryd.prog 16 #[.string s] w fun e w' => e = .returned (.string t) ∧ Below w.heap.size w w' := by
  subst ht; exact text_any s hs w

end Dig
end Go.Proofs.YtcjfnkgjjhlbnaaDoor
