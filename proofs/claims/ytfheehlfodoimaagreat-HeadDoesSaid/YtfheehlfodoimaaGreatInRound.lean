/- A region that draws its order, inside a round of a loop over a function, from its walk outside of one (HeldS). Plain: no word of a program. -/
import Derived.Test.YtfheehlfodoimaaGreatPHeld
import Derived.OrdersIn
import Derived.RangeFuncCalls
import Derived.TacticsIn
set_option maxRecDepth 100000
namespace Go.Proofs.YtfheehlfodoimaaGreat
open Go
namespace InR
section
variable {P : Program} {ops : Array Oper} {Q : Exit → Act → World → Prop} {md : Region.Mode}
/-- Only the normal way out. -/
def Only (Q : Exit → Act → World → Prop) : Exit → Act → World → Prop := fun e a w => e = .normal ∧ Q .normal a w
theorem only_not_out : ¬ LetsOut (Only Q) := fun ⟨_, _, h, _⟩ => by cases h
def plainOps (ops : Array Oper) : Bool := ops.all fun o => match o.op with | .defer _ => false | _ => true
theorem plain_at (h : plainOps ops = true) {i : Nat} {o : Oper} (ho : ops[i]? = some o) (c : Call) : o.op ≠ .defer c := fun e => by
  obtain ⟨hi, rfl⟩ := Array.getElem?_eq_some_iff.1 ho
  have := Array.all_eq_true.1 h i hi
  rw [e] at this
  cases this
theorem upon_in {l n : Nat} {o : Oper} {a : Act} {next next' : Act → World → Prop} (hn : ∀ a w, next a w → next' a w) {r : Result Next} (h : o.upon P a next (Only Q) r) : o.uponIn (Fence.wide.inRound l) n P a next' (Only Q) r := by
  cases r with
  | ok x w' =>
    cases x with
    | value v => exact hn _ _ h
    | skip => exact hn _ _ h
    | defer d => exact hn _ _ h
    | enter f args =>
      refine ⟨fun h => (by cases h), CallsIn.inRound l (callsIn_wide.2 (Calls.mono h ?_))⟩
      intro e w'' he
      cases e with
      | returned v => exact hn _ _ he
      | panicked ch => exact he
      | outgrown => exact he
    | row row args =>
      refine ⟨fun h => (by cases h), ?_⟩
      intro c cs _
      obtain ⟨v, w'', hr, hs⟩ := h c cs
      exact ⟨v, w'', hn _ _ hr, stepsIn_wide.2 hs⟩
    | _ => exact h.elim
  | halt x w' => cases x <;> exact h
theorem op_in (hp : plainOps ops = true) {l n i : Nat} {K K' : Act → World → Prop} (hn : ∀ a w, K a w → K' a w) {a : Act} {w : World} (h : wpOp P ops (Only Q) i K a w) : wpOpIn (Fence.wide.inRound l) n P ops (Only Q) i K' a w := by
  unfold wpOp at h
  unfold wpOpIn
  cases ho : ops[i]? with
  | none => rw [ho] at h; exact hn _ _ h
  | some o =>
    rw [ho] at h
    simp only at h ⊢
    split
    · rename_i hw
      rw [if_pos hw] at h
      rcases h with h | ⟨-, h⟩
      · refine ⟨fun _ _ => trivial, ?_⟩
        have e : o.semAt (Fence.wide.inRound l).round a.eval = execOp a.eval o := Oper.semAt_some l a.eval o (plain_at hp ho)
        rw [e]
        exact upon_in hn h
      · exact absurd h only_not_out
    · rename_i hw
      rw [if_neg hw] at h
      exact ⟨fun _ _ => trivial, hn _ _ h⟩
theorem any_in (hp : plainOps ops = true) {l n : Nat} : ∀ (fuel : Nat) (listed : Array Bool) (a : Act) (w : World), wpAny P md ops (Only Q) fuel listed a w → wpAnyIn (Fence.wide.inRound l) n P md ops (Only Q) fuel listed a w
  | 0, _, _, _, h => h
  | fuel + 1, _, _, _, h => ⟨h.1, fun i hi => op_in hp (fun a w => any_in hp fuel _ a w) (h.2 i hi)⟩
/-- The beginning. -/
theorem region_S {S : World → Prop} (s : Nat) {l n id : Nat} {a : Act} {w : World} (hp : plainOps ops = true) (hm : P.follows .mixedOrders = true) (hS : S w.drew)
    (h : S w.drew → HeldS.wpAnyS P .any ops (Only Q) S s ops.size (Array.replicate ops.size false) a w.drew) : (Code.region id ops true).wpIn (Fence.wide.inRound l) n P Q a w :=
  wpIn_mono (Q := Only Q) (wpIn_region_any hm (any_in hp _ _ _ _ (HeldS.wpAny_of_S _ _ _ _ (h hS)))) fun e a w ⟨h1, h2⟩ => by subst h1; exact h2
end
end InR
end Go.Proofs.YtfheehlfodoimaaGreat
