/- For all texts t and s DigitsTextBack returns true, and the arguments read as before. Condition: each text is within the form's own reach. -/
import Derived.Test.YtcjfnkgjjhlbnaaDoorDigBack
namespace Go.Proofs.YtcjfnkgjjhlbnaaDoor
open Go.RowKit
namespace Dig

theorem gettext_is (s : ByteArray) (most : Int) (hs : s.size ≤ 9223372036854775807) (hm1 : most ≤ 9223372036854775807) (n k x : Nat) (hg : gotT s.data.toList most = (n, k, x)) (t : ByteArray) (ht : s.extract k (k + n) = t) (w : World) :
    Calls Tryd.prog 22 #[.string s, .int .i64 most] w fun e w' => e = .returned (.tuple #[.string t, .int .i64 ((k : Int) + (n : Int)), .int .i64 (x : Int)]) ∧ Below w.heap.size w w' := by
  have := gettext_any s most hs hm1 w
  rw [hg] at this
  simp only at this
  rw [ht] at this
  exact this

end Dig
end Go.Proofs.YtcjfnkgjjhlbnaaDoor
