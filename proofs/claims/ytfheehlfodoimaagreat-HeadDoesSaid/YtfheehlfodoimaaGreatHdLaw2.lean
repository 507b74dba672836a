/- Layer 13: the law HeadTops. -/
import Derived.Test.YtfheehlfodoimaaGreatHdLaw1
set_option maxRecDepth 100000
namespace Go.Proofs.YtfheehlfodoimaaGreat
open Go.RowKit Go.Sort
namespace Hd
open Bit Dsk Ob Dig
set_option linter.unusedVariables false
set_option linter.unusedSimpArgs false

theorem top_app {g : H} {r : Rc.R} (hs : Srt g) (ht : tr g r = 0) : top (app g r) = r.smp.foldl topf (top g) := by
  obtain ⟨hc, gf, hp, -⟩ := tr_zero ht
  rcases Rc.chk_zero.1 hc with h | h
  · rw [app_com ht (by rw [h.kind]; decide) hp]; exact top_puts hs hp
  · rw [app_del ht h.kind, top_del, h.smp]; rfl
theorem topf_step {l : List Rc.Smp} {j : Nat} (h : j < l.length) (x : Int × Bool) : (l.take (j + 1)).foldl topf x = topf ((l.take j).foldl topf x) l[j] := by
  rw [List.take_succ_eq_append_getElem h, List.foldl_append]; rfl
/-- A new head of the program's, at the law's beginning. -/
theorem phStart {w0 w w' : World} {p : Nat} {S : Nat → Prop} {J : Ob.Rel} (hJ : Thing J) (h : Ob.Own J w0 w) (hp : IsPH p [] w' S) (hS : ∀ b, S b → w.heap.size ≤ b) (hu : New0 w w') : Ob.Own (Tens (IsPH p []) J) w0 w' := (Ob.Own.new hJ h hp hS hu).swap
theorem noStart {w w' : World} (hu : New0 w w') : Ob.Own Mt.NoO w w' := (Rc.own0 w).upon0 Mt.thingNo hu
/-- Room for what is still to come. -/
theorem room_next {g : H} {r : Rc.R} {j : Nat} (hg : SaneN (1000 * (50 - j)) g) (hj : j < 50) (hr : Small r) : SaneN r.smp.length g ∧ SaneN (1000 * (50 - (j + 1))) (app g r) := by
  have h1 := hr.2.1
  exact ⟨hg.less (by omega), SaneN.app (hg.less (by omega)) hr.lab⟩
end Hd
end Go.Proofs.YtfheehlfodoimaaGreat
