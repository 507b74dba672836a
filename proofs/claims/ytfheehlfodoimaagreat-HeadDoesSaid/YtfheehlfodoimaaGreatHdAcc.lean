/- What Query has told so far (layer 13): a box, the row in it, the series' own rows. -/
import Derived.Test.YtfheehlfodoimaaGreatHdBtw
import Derived.Test.YtfheehlfodoimaaGreatPHd1
import Derived.Test.YtfheehlfodoimaaGreatHdClone
import Derived.Test.YtfheehlfodoimaaGreatHdColl
import Derived.Test.YtfheehlfodoimaaGreatHdIterF
set_option maxRecDepth 100000
namespace Go.Proofs.YtfheehlfodoimaaGreat
open Go.RowKit Go.Sort
namespace Hd
open Bit Dsk Ob Dig Go.Proofs.YtfheehlfodoimaaGreat.Nm
set_option linter.unusedVariables false
structure Acc (o : Nat) (w0 w : World) (u : Value) (qs : List RQ) (l : List Ser) : Prop where
  box : w.heap[o]? = some (.cells #[u] 69 (0, 0))
  old : o < w0.heap.size
  row : Rw.Mine layQ 93 w u qs
  base : ∀ g, u.ownBlock = some g → w0.heap.size ≤ g
  len : qs.length = l.length
  els : ∀ i (h1 : i < qs.length) (h2 : i < l.length), Lb.Mine w qs[i].1.v l[i].1 ∧ PMine w qs[i].2.v l[i].2 ∧ ∀ x, (qs[i].1.v.ownBlock = some x ∨ qs[i].2.v.ownBlock = some x) → w0.heap.size ≤ x ∧ u.ownBlock ≠ some x
  upon : Upon (fun k => k = o) w0 w
section
variable {o : Nat} {w0 w w' : World} {u u' : Value} {qs : List RQ} {l : List Ser}
theorem Acc.start {w0 : World} (h : w0.heap[o]? = some (.cells #[.slice none 0 0] 69 (0, 0))) : Acc o w0 w0 (.slice none 0 0) [] [] :=
  ⟨h, (Array.getElem?_eq_some_iff.1 h).1, Rw.Mine.nil _ _ _, fun g hg => (by cases hg), rfl, fun i h1 => absurd h1 (by simp), Upon.refl _ _⟩
theorem Acc.lt (h : Acc o w0 w u qs l) {i : Nat} (h1 : i < qs.length) (h2 : i < l.length) {x : Nat} (hx : qs[i].1.v.ownBlock = some x ∨ qs[i].2.v.ownBlock = some x) : x < w.heap.size := by
  obtain ⟨k1, k2, -⟩ := h.els i h1 h2
  rcases hx with hx | hx
  · exact Rw.Mine.lt k1 hx
  · exact Rw.Mine.lt k2 hx
/-- What is not the row's turns: blocks that are not cells, or new ones. -/
theorem Acc.keep (h : Acc o w0 w u qs l) (hk : ∀ (x : Nat) (c : Go.Obj), w.heap[x]? = some c → c.isCells = true → w'.heap[x]? = w.heap[x]?) (hu : Upon (fun k => k = o) w0 w') : Acc o w0 w' u qs l := by
  have hx : ∀ {x : Nat} {cs : Array Value} {T : TypeId}, w.heap[x]? = some (.cells cs T (0, 0)) → w'.heap[x]? = w.heap[x]? := fun hc => hk _ _ hc rfl
  refine ⟨(hx h.box).trans h.box, h.old, h.row.kept fun g hg => ?_, h.base, h.len, fun i h1 h2 => ?_, hu⟩
  · obtain ⟨cs, hc⟩ := Rw.Mine.typ h.row hg; exact hx hc
  · obtain ⟨k1, k2, k3⟩ := h.els i h1 h2
    refine ⟨k1.kept fun g hg => ?_, k2.kept fun g hg => ?_, k3⟩
    · obtain ⟨cs, hc⟩ := Rw.Mine.typ k1 hg; exact hx hc
    · obtain ⟨cs, hc⟩ := Rw.Mine.typ k2 hg; exact hx hc
theorem Acc.new (h : Acc o w0 w u qs l) (hu : New0 w w') : Acc o w0 w' u qs l :=
  h.keep (fun x c hc _ => hu.block x (Array.getElem?_eq_some_iff.1 hc).1 fun f => f) (h.upon.trans (hu.mono fun _ _ f => f.elim))
theorem Acc.grown (h : Acc o w0 w u qs l) {row : Option Nat} (hg : w.grownBy w' row) (hr : ∀ r, row = some r → w0.heap.size ≤ r ∧ ∃ ob : Go.Obj, w.heap[r]? = some ob ∧ ob.isCells = false) : Acc o w0 w' u qs l := by
  refine h.keep (fun x c hc hi => ?_) ?_
  · refine hg.block x (Array.getElem?_eq_some_iff.1 hc).1 fun e => ?_
    obtain ⟨-, ob, h1, h2⟩ := hr x e.symm
    rw [hc] at h1; cases h1; rw [hi] at h2; cases h2
  · refine (Upon.grown h.upon hg fun k hk => ?_)
    exact .inr (by have := (hr k hk).1; omega)
/-- One more series, ahead of the store. -/
structure Nxt (o : Nat) (w0 w : World) (u : Value) (qs : List RQ) (l : List Ser) : Prop where
  old : o < w0.heap.size
  row : Rw.Mine layQ 93 w u qs
  base : ∀ g, u.ownBlock = some g → w0.heap.size ≤ g
  len : qs.length = l.length
  els : ∀ i (h1 : i < qs.length) (h2 : i < l.length), Lb.Mine w qs[i].1.v l[i].1 ∧ PMine w qs[i].2.v l[i].2 ∧ ∀ x, (qs[i].1.v.ownBlock = some x ∨ qs[i].2.v.ownBlock = some x) → w0.heap.size ≤ x ∧ u.ownBlock ≠ some x
  upon : Upon (fun k => k = o) w0 w
  box : ∃ v, w.heap[o]? = some (.cells #[v] 69 (0, 0))
theorem Acc.app (h : Acc o w0 w u qs l) {a : RQ} {b : Ser} (ha : Lb.Mine w a.1.v b.1) (hb : PMine w a.2.v b.2) (hS : ∀ x, (a.1.v.ownBlock = some x ∨ a.2.v.ownBlock = some x) → w0.heap.size ≤ x ∧ u.ownBlock ≠ some x)
    (hown : Rw.Mine layQ 93 w' u' (qs ++ [a])) (hg : w.grownBy w' u.ownBlock) (hbl : u'.ownBlock = u.ownBlock ∨ u'.ownBlock = some w.heap.size) : Nxt o w0 w' u' (qs ++ [a]) (l ++ [b]) := by
  have hup : Upon (fun x => u.ownBlock = some x) w w' := Upon.grown (Upon.refl _ w) hg (fun k hk => .inl hk)
  have hne : ∀ x, x < w.heap.size → u.ownBlock ≠ some x → u'.ownBlock ≠ some x := fun x hx hn e => by
    rcases hbl with hb | hb
    · exact hn (hb.symm.trans e)
    · rw [hb] at e
      injection e with e
      omega
  have q := h.upon.size
  refine ⟨h.old, hown, fun g hk => ?_, by simp [h.len], fun i k1 k2 => ?_, h.upon.trans' hup fun x k1 k2 => ?_, u, (hup.block o (Nat.lt_of_lt_of_le h.old q) fun e => ?_).trans h.box⟩
  · rcases hbl with hb | hb
    · exact h.base g (hb.symm.trans hk)
    · rw [hb] at hk
      injection hk with hk
      omega
  · by_cases hi : i < qs.length
    · have hi2 : i < l.length := by have := h.len; omega
      rw [List.getElem_append_left hi, List.getElem_append_left hi2]
      obtain ⟨e1, e2, e3⟩ := h.els i hi hi2
      exact ⟨Rw.Mine.upon e1 hup (fun y hy e => (e3 y (.inl hy)).2 e), Rw.Mine.upon e2 hup (fun y hy e => (e3 y (.inr hy)).2 e), fun x hx => ⟨(e3 x hx).1, hne x (h.lt hi hi2 hx) (e3 x hx).2⟩⟩
    · have e : i = qs.length := by rw [List.length_append, List.length_singleton] at k1; omega
      subst e
      have e1 : (qs ++ [a])[qs.length]'k1 = a := by simp
      have e2 : (l ++ [b])[qs.length]'k2 = b := by
        have : (l ++ [b])[l.length]'(by simp) = b := by simp
        simp only [h.len]; exact this
      rw [e1, e2]
      refine ⟨Rw.Mine.upon ha hup (fun y hy e => (hS y (.inl hy)).2 e), Rw.Mine.upon hb hup (fun y hy e => (hS y (.inr hy)).2 e), fun x hx => ⟨(hS x hx).1, hne x ?_ (hS x hx).2⟩⟩
      rcases hx with hx | hx
      · exact Rw.Mine.lt ha hx
      · exact Rw.Mine.lt hb hx
  · have := h.base x k2; omega
  · have := h.base o e; have := h.old; omega
/-- The store. -/
theorem Nxt.put (h : Nxt o w0 w u qs l) : Acc o w0 (w.setCell ⟨o, 0, none⟩ u) u qs l := by
  obtain ⟨v, hv⟩ := h.box
  have hn : Go.Boxed w o 69 v := hv
  have hup : Upon (fun k => k = o) w (w.setCell ⟨o, 0, none⟩ u) := Upon.setCell (S := fun k => k = o) (p := ⟨o, 0, none⟩) (Upon.refl _ w) (.inl rfl) u
  have ho := h.old
  refine ⟨hn.set u, h.old, h.row.kept fun g hg => ?_, h.base, h.len, fun i h1 h2 => ?_, h.upon.trans hup⟩
  · have := h.base g hg
    exact hup.block g (Rw.Mine.lt h.row hg) (by omega)
  · obtain ⟨k1, k2, k3⟩ := h.els i h1 h2
    refine ⟨k1.kept fun g hg => ?_, k2.kept fun g hg => ?_, k3⟩
    · have := (k3 g (.inl hg)).1
      exact hup.block g (Rw.Mine.lt k1 hg) (by omega)
    · have := (k3 g (.inr hg)).1
      exact hup.block g (Rw.Mine.lt k2 hg) (by omega)
theorem Acc.view (h : Acc o w0 w u qs l) : QView w (fun b => w0.heap.size ≤ b) u l :=
  ⟨qs, h.row.view.mono fun b _ hb => h.base b hb, h.len, fun i h1 h2 => by
    obtain ⟨k1, k2, k3⟩ := h.els i h1 h2
    exact ⟨k1.view.mono fun b _ hb => (k3 b (.inl hb)).1, k2.view.mono fun b _ hb => (k3 b (.inr hb)).1⟩⟩
end
end Hd
end Go.Proofs.YtfheehlfodoimaaGreat
