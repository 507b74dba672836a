/- The document's head (layer 13): put, walked: the labels are not in. -/
import Derived.Test.YtfheehlfodoimaaPHd2
import Derived.Test.YtfheehlfodoimaaPHeld
set_option maxRecDepth 100000
namespace Go.Proofs.Ytfheehlfodoimaa
open Go.RowKit Go.Sort
open Bit Dsk Ob Dig
namespace Rw
/-- 'append' to a row that is new since W: what is beside it stays. -/
theorem step_new5 {α : Type} {L : Lay α} {sT T : TypeId} {bytes : Nat} (ty : Typ L sT T bytes) {W w : World} {ops : Array Oper} {o : Oper} {a : Act} {K : Act → World → Prop} {Q : Exit → Act → World → Prop} {E : Prop} (hgd : o.guard = none) (sl x : Operand)
    (ho : o.op = .call { callee := .builtin .append, args := #[sl, x], argTypes := #[sT, sT] })
    (v xv : Value) (l m : List α) (S : Nat → Prop) (hs : a.eval sl = v) (hx : a.eval x = xv) (hown : Mine L T w v l) (hbase : ∀ b, v.ownBlock = some b → W.heap.size ≤ b) (hW : Bit.New0 W w) (hxv : View L w S xv m) (hlen : (l.length + m.length) * bytes ≤ 140737488355328) (hcount : l.length + m.length ≤ 140737488355328)
    (h : ∀ A k c w', Hid (k = (l ++ m).length) → Mine L T w' (.slice A k c) (l ++ m) → (∀ b, (Value.slice A k c).ownBlock = some b → W.heap.size ≤ b) → Bit.New0 W w' → (∀ {β : Type} {L' : Lay β} {T' : TypeId} {v' : Value} {l' : List β}, T' ≠ T → Mine L' T' w v' l' → Mine L' T' w' v' l') → K (a.put o.dst (.slice A k c)) w') :
    if Region.wanted o (yielded ops a.tmps) = true then Oper.wp Try.prog o a w K Q else E := by
  refine step_append ty hgd sl x ho v xv l m S hs hx hown hxv hlen hcount ?_
  intro v' w' hm hg hb
  obtain ⟨A, c, rfl, -, -⟩ := hm.view.shape
  refine h A _ c w' (Lib.hid rfl) hm (fun b hk => ?_) (Rw.grown_new (v' := .slice A (l ++ m).length c) hg (fun g hk => hbase g hk) W (Nat.le_refl _) hW) (fun {β L' T' v2 l'} hT h2 => ?_)
  · rcases hb with hb | hb
    · exact hbase b (hb.symm.trans hk)
    · rw [hb] at hk
      injection hk with hk
      have := hW.size
      omega
  · refine h2.upon (Upon.grown (Upon.refl _ w) hg (fun k hk => .inl hk)) (fun b hb2 hk => ?_)
    obtain ⟨cs, e1⟩ := h2.typ hb2
    obtain ⟨cs2, e2⟩ := hown.typ hk
    exact Hd.typ_ne hT e1 e2 rfl
end Rw
namespace Hd
set_option linter.unusedVariables false
set_option linter.unusedSimpArgs false

theorem cell_two (W : World) (a b : Obj) : ((W.alloc a).alloc b).drew.heap[W.heap.size]? = some a ∧ ((W.alloc a).alloc b).drew.heap[W.heap.size + 1]? = some b := by
  have h1 := cell_new (W.alloc a) b
  have h2 : (W.alloc a).heap.size = W.heap.size + 1 := Array.size_push _
  refine ⟨?_, by rw [h2] at h1; exact h1⟩
  have h3 := ((Upon.refl (fun _ => False) (W.alloc a)).alloc b).block W.heap.size (by omega) (fun f => f)
  exact h3.trans (cell_new W a)
theorem upon_comp {A B : Nat → Prop} {w w1 w2 : World} (h1 : Upon A w w1) (h2 : Upon B w1 w2) (hB : ∀ b, B b → A b ∨ w.heap.size ≤ b) : Upon A w w2 := h1.trans' h2 (fun b hb k => (hB b k).elim id (fun k2 => by omega))
theorem ne_SP : (52 : TypeId) ≠ 58 := by decide
end Hd
end Go.Proofs.Ytfheehlfodoimaa
