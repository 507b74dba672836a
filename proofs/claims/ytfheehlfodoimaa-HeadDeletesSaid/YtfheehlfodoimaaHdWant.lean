/- Layer 13's law on deletes: what is wanted, row by row; a series in a box; a growing answer. Names no function of the program. -/
import Derived.Test.YtfheehlfodoimaaHdLess
import Derived.Test.YtfheehlfodoimaaPHd1
set_option maxRecDepth 100000
namespace Go.Proofs.Ytfheehlfodoimaa
open Go.RowKit Go.Sort
namespace Hd
open Bit Dsk Ob Dig
set_option linter.unusedVariables false

theorem cutB_take (gone : List Ser) (lab : List Lb.Pr) (ps : List Pt) {k : Nat} (hk : k < gone.length) : cutB (gone.take (k + 1)) lab ps = if gone[k].1 = lab then lessL (cutB (gone.take k) lab ps) gone[k].2 else cutB (gone.take k) lab ps := by
  rw [List.take_succ_eq_append_getElem hk, cutB_app]
  rfl
theorem lessL_len (l b : List Pt) : (lessL l b).length ≤ l.length := List.length_filter_le _ _
theorem cutB_len : ∀ (gone : List Ser) (lab : List Lb.Pr) (ps : List Pt), (cutB gone lab ps).length ≤ ps.length
  | [], _, _ => Nat.le_refl _
  | y :: gone, lab, ps => by
    have e : cutB (y :: gone) lab ps = cutB gone lab (if y.1 = lab then lessL ps y.2 else ps) := rfl
    rw [e]
    refine Nat.le_trans (cutB_len gone lab _) ?_
    split
    · exact lessL_len _ _
    · exact Nat.le_refl _
theorem wantL_take (was gone : List Ser) {j : Nat} (hj : j < was.length) : wantL (was.take (j + 1)) gone = wantL (was.take j) gone ++ (if cutB gone was[j].1 was[j].2 ≠ [] then [(was[j].1, cutB gone was[j].1 was[j].2)] else []) := by
  rw [List.take_succ_eq_append_getElem hj, wantL, List.map_append, List.filter_append, wantL]
  congr 1
  by_cases h : cutB gone was[j].1 was[j].2 = []
  · rw [if_neg (by simp [h])]
    simp [h]
  · rw [if_pos h]
    simp [h]
theorem wantL_le (was gone : List Ser) (j : Nat) : (wantL (was.take j) gone).length ≤ was.length := by
  unfold wantL
  refine Nat.le_trans (List.length_filter_le _ _) ?_
  rw [List.length_map, List.length_take]; omega
theorem query_pts {h : H} (hs : Sane h) {ms : List Mt.M} {a b : Int} {y : Ser} (hy : y ∈ query h ms a b) : y.2.length ≤ 1000000000 := by
  unfold query at hy
  obtain ⟨r, hr, h1⟩ := List.mem_flatMap.1 hy
  unfold ask1 at h1
  split at h1
  · rw [List.mem_singleton] at h1
    rw [h1]
    exact Nat.le_trans (List.length_filter_le _ _) (hs.pts r hr)
  · cases h1
/-- A series in a box. -/
def Two (g : Nat) (a b : Value) (w : World) : Prop := w.heap[g]? = some (.cells #[a, b] 45 (0, 0))
theorem Two.cells {g : Nat} {a b : Value} {w : World} (h : Two g a b w) : w.cell? ⟨g, 0, none⟩ = some a ∧ w.cell? ⟨g, 1, none⟩ = some b :=
  ⟨by rw [Lib.cell_of_heap h]; rfl, by rw [Lib.cell_of_heap h]; rfl⟩
theorem Two.frozen {g : Nat} {a b : Value} {w : World} (h : Two g a b w) (i : Nat) : w.frozen? ⟨g, i, none⟩ = false := by
  unfold Two at h
  simp [World.frozen?, h]
theorem Two.set0 {g : Nat} {a b : Value} {w : World} (h : Two g a b w) (x : Value) : Two g x b (w.setCell ⟨g, 0, none⟩ x) := by unfold Two at *; simp [World.setCell, Array.getElem?_modify, h]
theorem Two.set1 {g : Nat} {a b : Value} {w : World} (h : Two g a b w) (x : Value) : Two g a x (w.setCell ⟨g, 1, none⟩ x) := by unfold Two at *; simp [World.setCell, Array.getElem?_modify, h]
theorem Two.new {g : Nat} {a b : Value} {w w' : World} (h : Two g a b w) (hu : New0 w w') : Two g a b w' := (hu.block g (Array.getElem?_eq_some_iff.1 h).1 fun f => f).trans h
/-- A growing answer: its own row is new since w0; what its elements lead to lies beside it. -/
structure WantE (w0 w : World) (u : Value) (rs : List RQ) (l : List Ser) : Prop where
  row : Rw.Mine layQ 45 w u rs
  base : ∀ g, u.ownBlock = some g → w0.heap.size ≤ g
  len : rs.length = l.length
  els : ∃ S : Nat → Prop, (∀ i (h1 : i < rs.length) (h2 : i < l.length), innQ.rel w S rs[i] l[i]) ∧ ∀ x, S x → x < w.heap.size ∧ u.ownBlock ≠ some x
  new : New0 w0 w
section
variable {w0 w w' : World} {u u' : Value} {rs : List RQ} {l : List Ser}
theorem WantE.start (w : World) : WantE w w (.slice none 0 0) [] [] :=
  ⟨Rw.Mine.nil _ _ _, fun g hg => (by cases hg), rfl, ⟨fun _ => False, fun i h1 => absurd h1 (by simp), fun x f => f.elim⟩, Upon.refl _ _⟩
theorem WantE.step (h : WantE w0 w u rs l) (hu : New0 w w') : WantE w0 w' u rs l :=
  let ⟨S, h1, h2⟩ := h.els
  ⟨h.row.new hu, h.base, h.len, ⟨S, fun i k1 k2 => innQ.upon (h1 i k1 k2) hu fun _ _ f => f, fun x hx => ⟨Nat.lt_of_lt_of_le (h2 x hx).1 hu.size, (h2 x hx).2⟩⟩, h.new.trans hu⟩
theorem WantE.app (h : WantE w0 w u rs l) {a : RQ} {b : Ser} {S' : Nat → Prop} (hx : innQ.rel w S' a b) (hS : ∀ x, S' x → x < w.heap.size ∧ u.ownBlock ≠ some x)
    (hown : Rw.Mine layQ 45 w' u' (rs ++ [a])) (hg : w.grownBy w' u.ownBlock) (hb : u'.ownBlock = u.ownBlock ∨ u'.ownBlock = some w.heap.size) : WantE w0 w' u' (rs ++ [a]) (l ++ [b]) := by
  obtain ⟨S, h1, h2⟩ := h.els
  have hu : Upon (fun x => u.ownBlock = some x) w w' := Upon.grown (Upon.refl _ w) hg (fun k hk => .inl hk)
  have hne : ∀ x, x < w.heap.size → u.ownBlock ≠ some x → u'.ownBlock ≠ some x := fun x hx hn e => by
    rcases hb with hb | hb
    · exact hn (hb.symm.trans e)
    · rw [hb] at e
      injection e with e
      omega
  refine ⟨hown, fun g hk => ?_, by simp [h.len], ⟨fun x => S x ∨ S' x, fun i k1 k2 => ?_, fun x hx => ?_⟩, Rw.grown_new (v' := u') hg (fun g hk => h.base g hk) w0 (Nat.le_refl _) h.new⟩
  · rcases hb with hb | hb
    · exact h.base g (hb.symm.trans hk)
    · rw [hb] at hk
      injection hk with hk
      have := h.new.size
      omega
  · by_cases hi : i < rs.length
    · rw [List.getElem_append_left hi, List.getElem_append_left (by have := h.len; omega)]
      exact innQ.mono (innQ.upon (h1 i hi (by have := h.len; omega)) hu fun y hy e => (h2 y hy).2 e) fun y _ hy => .inl hy
    · have e : i = rs.length := by rw [List.length_append, List.length_singleton] at k1; omega
      subst e
      have e1 : (rs ++ [a])[rs.length]'k1 = a := by simp
      have e2 : (l ++ [b])[rs.length]'k2 = b := by
        have : (l ++ [b])[l.length]'(by simp) = b := by simp
        simp only [h.len]; exact this
      rw [e1, e2]
      exact innQ.mono (innQ.upon hx hu fun y hy e => (hS y hy).2 e) fun y _ hy => .inr hy
  · rcases hx with hx | hx
    · exact ⟨Nat.lt_of_lt_of_le (h2 x hx).1 hg.size, hne x (h2 x hx).1 (h2 x hx).2⟩
    · exact ⟨Nat.lt_of_lt_of_le (hS x hx).1 hg.size, hne x (hS x hx).1 (hS x hx).2⟩
theorem WantE.view (h : WantE w0 w u rs l) : QView w All u l := by
  obtain ⟨S, h1, h2⟩ := h.els
  exact ⟨rs, h.row.view.mono fun b _ hb => trivial, h.len, fun i k1 k2 => innQ.mono (h1 i k1 k2) fun x _ hx => trivial⟩
end
end Hd
end Go.Proofs.Ytfheehlfodoimaa
