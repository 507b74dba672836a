/- The program's head (layer 13): a series' copy, Copy. -/
import Derived.Test.YtfheehlfodoimaaGreatHdAcc
import Derived.Test.YtfheehlfodoimaaGreatHdIns
import Derived.Test.YtfheehlfodoimaaGreatPHeld
set_option maxRecDepth 100000
namespace Go.Proofs.YtfheehlfodoimaaGreat
open Go.RowKit Go.Sort
namespace Hd
open Bit Dsk Ob Dig Go.Proofs.YtfheehlfodoimaaGreat.Nm
set_option linter.unusedVariables false
set_option linter.unusedSimpArgs false
theorem step_putS (w : World) {ops : Array Oper} {o : Oper} {a : Act} {K : Act → World → Prop} {Q : Exit → Act → World → Prop} {E : Prop}
    (hgd : o.guard = none) (m x y : Operand) (hop : o.op = Op.mapUpdate 48 m x y) (b : Nat) (N : Nms)
    (hm : a.eval m = .map (some b)) (h : MapS w b N) (hn : N.length < maxLen) (k : ByteArray) (hx : a.eval x = .string k) (hk : k.size ≤ maxLen) (s : Nat) (hy : a.eval y = .pointer (some ⟨s, 0, none⟩))
    (hK : ∀ w', MapS w' b (putN N k.data.toList (s : Int)) → w.grownBy w' (some b) → K (a.put o.dst undef) w') :
    if Region.wanted o (yielded ops a.tmps) = true then Oper.wp Tryz.prog o a w K Q else E := by
  have hw : Region.wanted o (yielded ops a.tmps) = true := by simp [Region.wanted, hgd]
  rw [if_pos hw]
  obtain ⟨w', hrun, r1, r2⟩ := World.ownsMap.update h keyedS Tryz.underlying48 hn (WideMaps.keyOf_string_mk Tryz.underlying9 hk) (val := .pointer (some ⟨s, 0, none⟩)) (d := .lit (.int .i64 (s : Int))) (ps := []) rfl
  unfold Oper.wp
  simp [execOp, hop, hm, hx, hy, hrun, Result.andThen]
  exact hK w' (fit_len (by rw [← toD_put]; exact r1)) r2
/-- A head that a copy makes, since w. -/
structure Cpy (w wr : World) (q b it : Nat) (g : H) : Prop where
  obj : ∃ A R N bs rs, HeadP wr A R q b N bs rs g ∧ ∀ k, A k ∨ R k → w.heap.size ≤ k ∧ k ≠ it
  new : New0 w wr
theorem Inv.sub {h g : H} (hi : Inv h) (hs : ∀ r ∈ g, r ∈ h) : Inv g := ⟨fun r hr => hi.ok r (hs r hr), fun r hr => hi.rise r (hs r hr), fun r hr => hi.most r (hs r hr), fun r hr => hi.wf r (hs r hr)⟩
section
variable {A R : Nat → Prop} {p b : Nat} {N : Nms} {bs : List Nat} {rs : List RR} {h : H}
theorem HeadP.look_fin {w : World} {g : H} (hg : HeadP w A R p b N bs rs g) {left : Left} (hsub : ∀ r ∈ g, fin left r = true) {l : List Lb.Pr} (hl : left (.string (Lb.encB l)) = true) : lookN N (Lb.encB l) = none := by
  cases e : lookN N (Lb.encB l) with
  | none => rfl
  | some s =>
    obtain ⟨i, hi, hb, e1, -⟩ := hg.look_inv e
    have := hsub _ (List.getElem_mem hi)
    rw [e1] at hl
    rw [fin, hl] at this
    cases this
end
end Hd
end Go.Proofs.YtfheehlfodoimaaGreat
