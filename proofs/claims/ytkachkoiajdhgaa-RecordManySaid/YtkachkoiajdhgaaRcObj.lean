/- Objects for the document's Decode (layer 12): a record in a box, a row of samples, the labels' rows. -/
import Derived.Test.YtkachkoiajdhgaaRcIn
import Derived.Test.YtkachkoiajdhgaaRcRef
set_option maxRecDepth 100000
namespace Go.Proofs.Ytkachkoiajdhgaa
open Go.RowKit Go.Sort
namespace Rc
open Bit Dsk Ob Dig Lb
set_option linter.unusedVariables false

/-- Five cells in a block. -/
structure Fv where
  a : Value
  b : Value
  c : Value
  d : Value
  e : Value
def Five (T : TypeId) (g : Nat) (v : Fv) (w : World) : Prop := w.heap[g]? = some (.cells #[v.a, v.b, v.c, v.d, v.e] T (0, 0))
theorem Five.cells {T : TypeId} {g : Nat} {v : Fv} {w : World} (h : Five T g v w) : w.cell? ⟨g, 0, none⟩ = some v.a ∧ w.cell? ⟨g, 1, none⟩ = some v.b ∧ w.cell? ⟨g, 2, none⟩ = some v.c ∧ w.cell? ⟨g, 3, none⟩ = some v.d ∧ w.cell? ⟨g, 4, none⟩ = some v.e :=
  ⟨by rw [Lib.cell_of_heap h]; rfl, by rw [Lib.cell_of_heap h]; rfl, by rw [Lib.cell_of_heap h]; rfl, by rw [Lib.cell_of_heap h]; rfl, by rw [Lib.cell_of_heap h]; rfl⟩
theorem Five.frozen {T : TypeId} {g : Nat} {v : Fv} {w : World} (h : Five T g v w) (i : Nat) : w.frozen? ⟨g, i, none⟩ = false := by
  unfold Five at h
  simp [World.frozen?, h]
theorem Five.set0 {T : TypeId} {g : Nat} {v : Fv} {w : World} (h : Five T g v w) (x : Value) : Five T g { v with a := x } (w.setCell ⟨g, 0, none⟩ x) := by unfold Five at *; simp [World.setCell, Array.getElem?_modify, h]
theorem Five.set1 {T : TypeId} {g : Nat} {v : Fv} {w : World} (h : Five T g v w) (x : Value) : Five T g { v with b := x } (w.setCell ⟨g, 1, none⟩ x) := by unfold Five at *; simp [World.setCell, Array.getElem?_modify, h]
theorem Five.set2 {T : TypeId} {g : Nat} {v : Fv} {w : World} (h : Five T g v w) (x : Value) : Five T g { v with c := x } (w.setCell ⟨g, 2, none⟩ x) := by unfold Five at *; simp [World.setCell, Array.getElem?_modify, h]
theorem Five.set3 {T : TypeId} {g : Nat} {v : Fv} {w : World} (h : Five T g v w) (x : Value) : Five T g { v with d := x } (w.setCell ⟨g, 3, none⟩ x) := by unfold Five at *; simp [World.setCell, Array.getElem?_modify, h]
theorem Five.set4 {T : TypeId} {g : Nat} {v : Fv} {w : World} (h : Five T g v w) (x : Value) : Five T g { v with e := x } (w.setCell ⟨g, 4, none⟩ x) := by unfold Five at *; simp [World.setCell, Array.getElem?_modify, h]
/-- All five, written one after the other. -/
def setFive (g : Nat) (v : Fv) (w : World) : World := ((((w.setCell ⟨g, 0, none⟩ v.a).setCell ⟨g, 1, none⟩ v.b).setCell ⟨g, 2, none⟩ v.c).setCell ⟨g, 3, none⟩ v.d).setCell ⟨g, 4, none⟩ v.e
theorem Five.setAll {T : TypeId} {g : Nat} {v : Fv} {w : World} (h : Five T g v w) (x : Fv) : Five T g x (setFive g x w) := ((((h.set0 x.a).set1 x.b).set2 x.c).set3 x.d).set4 x.e
/-- What a walk that writes all five asks. -/
theorem Five.roads {T : TypeId} {g : Nat} {v : Fv} {w : World} (h : Five T g v w) (x : Fv) :
    ((w.setCell ⟨g, 0, none⟩ x.a).cell? ⟨g, 1, none⟩ = some v.b ∧ (w.setCell ⟨g, 0, none⟩ x.a).frozen? ⟨g, 1, none⟩ = false) ∧
    (((w.setCell ⟨g, 0, none⟩ x.a).setCell ⟨g, 1, none⟩ x.b).cell? ⟨g, 2, none⟩ = some v.c ∧ ((w.setCell ⟨g, 0, none⟩ x.a).setCell ⟨g, 1, none⟩ x.b).frozen? ⟨g, 2, none⟩ = false) ∧
    ((((w.setCell ⟨g, 0, none⟩ x.a).setCell ⟨g, 1, none⟩ x.b).setCell ⟨g, 2, none⟩ x.c).cell? ⟨g, 3, none⟩ = some v.d ∧ (((w.setCell ⟨g, 0, none⟩ x.a).setCell ⟨g, 1, none⟩ x.b).setCell ⟨g, 2, none⟩ x.c).frozen? ⟨g, 3, none⟩ = false) ∧
    (((((w.setCell ⟨g, 0, none⟩ x.a).setCell ⟨g, 1, none⟩ x.b).setCell ⟨g, 2, none⟩ x.c).setCell ⟨g, 3, none⟩ x.d).cell? ⟨g, 4, none⟩ = some v.e ∧ ((((w.setCell ⟨g, 0, none⟩ x.a).setCell ⟨g, 1, none⟩ x.b).setCell ⟨g, 2, none⟩ x.c).setCell ⟨g, 3, none⟩ x.d).frozen? ⟨g, 4, none⟩ = false) := by
  have h1 := h.set0 x.a
  have h2 := h1.set1 x.b
  have h3 := h2.set2 x.c
  have h4 := h3.set3 x.d
  exact ⟨⟨h1.cells.2.1, h1.frozen 1⟩, ⟨h2.cells.2.2.1, h2.frozen 2⟩, ⟨h3.cells.2.2.2.1, h3.frozen 3⟩, ⟨h4.cells.2.2.2.2, h4.frozen 4⟩⟩
theorem upon_setFive {S : Nat → Prop} {g : Nat} {v : Fv} {w0 w : World} (h : Upon S w0 w) (hg : S g ∨ w0.heap.size ≤ g) : Upon S w0 (setFive g v w) :=
  Upon.setCell (p := ⟨g, 4, none⟩) (Upon.setCell (p := ⟨g, 3, none⟩) (Upon.setCell (p := ⟨g, 2, none⟩) (Upon.setCell (p := ⟨g, 1, none⟩) (Upon.setCell (p := ⟨g, 0, none⟩) h hg _) hg _) hg _) hg _) hg _
/-- A record in a box, as an object. -/
def BoxO (g : Nat) (v : Fv) : Ob.Rel := fun w S => Five 25 g v w ∧ ∀ x, S x ↔ x = g
theorem thingBox (g : Nat) (v : Fv) : Thing (BoxO g v) := ⟨fun w w' S h hk _ => ⟨(hk g ((h.2 g).2 rfl)).trans h.1, h.2⟩, fun w S h x hx => by rw [(h.2 x).1 hx]; exact (Array.getElem?_eq_some_iff.1 h.1).1⟩
theorem boxMade {I : Ob.Rel} (hI : Thing I) {w0 w : World} (H : Own I w0 w) (v : Fv) : Own (Tens I (BoxO w.heap.size v)) w0 (w.alloc (.cells #[v.a, v.b, v.c, v.d, v.e] 25 (0, 0))) :=
  Own.new hI H (T := fun x => x = w.heap.size) ⟨cell_new w _, fun _ => Iff.rfl⟩ (fun x hx => by rw [hx]; exact Nat.le_refl _) ((Upon.refl _ w).alloc _)
theorem boxStep {g : Nat} {v v' : Fv} {w : World} {S : Nat → Prop} (h : BoxO g v w S) {i : Nat} {x : Value} (hn : Five 25 g v' (w.setCell ⟨g, i, none⟩ x)) : ObjStep (BoxO g v') S w (w.setCell ⟨g, i, none⟩ x) :=
  ⟨⟨S, ⟨hn, h.2⟩, fun _ h => h, fun _ h => .inl h⟩, Upon.setCell (p := ⟨g, i, none⟩) (Upon.refl S w) (.inl ((h.2 g).2 rfl)) x⟩
/-- The labels' row of one sample. -/
def LabO (s : Rw.Sl) (l : List Pr) : Ob.Rel := fun w S => Lb.View w S s.v l ∧ ∀ x, S x → x < w.heap.size
theorem upon_keep {w w' : World} {S : Nat → Prop} (hk : ∀ b, S b → w'.heap[b]? = w.heap[b]?) {s : Rw.Sl} {l : List Pr} (h : Lb.View w S s.v l) : Lb.View w' S s.v l :=
  let ⟨A, c, h1, h2, h3, h4⟩ := h
  ⟨A, c, h1, h2, h3, fun hp => let ⟨b, off, k1, k2, k3⟩ := h4 hp
    ⟨b, off, k1, k2, fun i hi t u ht => by rw [← k3 i hi t u ht, World.cell?, World.cell?, hk b k2]⟩⟩
theorem thingLab (s : Rw.Sl) (l : List Pr) : Thing (LabO s l) := ⟨fun w w' S h hk hs => ⟨upon_keep hk h.1, fun x hx => Nat.lt_of_lt_of_le (h.2 x hx) hs⟩, fun w S h x hx => h.2 x hx⟩
/-- The labels' rows of samples. -/
def LabsO (rs : List RS) (l : List Smp) : Ob.Rel := fun w S => rs.length = l.length ∧ (∀ i (h1 : i < rs.length) (h2 : i < l.length), innS.rel w S rs[i] l[i]) ∧ ∀ x, S x → x < w.heap.size
theorem thingLabs (rs : List RS) (l : List Smp) : Thing (LabsO rs l) := ⟨fun w w' S h hk hs => ⟨h.1, fun i h1 h2 => ⟨(h.2.1 i h1 h2).1, (h.2.1 i h1 h2).2.1, upon_keep hk (h.2.1 i h1 h2).2.2⟩, fun x hx => Nat.lt_of_lt_of_le (h.2.2 x hx) hs⟩, fun w S h x hx => h.2.2 x hx⟩
theorem labsNone {I : Ob.Rel} (hI : Thing I) {w0 w : World} (H : Own I w0 w) : Own (Tens I (LabsO [] [])) w0 w :=
  Own.new hI H (T := fun _ => False) ⟨rfl, fun i h1 => absurd h1 (by simp), fun x hx => hx.elim⟩ (fun x hx => hx.elim) (Upon.refl _ w)
theorem labMade {I : Ob.Rel} (hI : Thing I) {w0 w w' : World} (H : Own I w0 w) {s : Rw.Sl} {l : List Pr} (hv : Lb.View w' (Nw w) s.v l) (hu : New0 w w') : Own (Tens I (LabO s l)) w0 w' :=
  Own.new hI H (T := fun x => w.heap.size ≤ x ∧ x < w'.heap.size) ⟨hv.mono fun b hb h => ⟨h, hb⟩, fun x hx => hx.2⟩ (fun x hx => hx.1) hu
/-- One more. -/
theorem labs_add {rs : List RS} {l : List Smp} {s : Rw.Sl} {ls : List Pr} {t : Int} {u : Nat} {w : World} {S : Nat → Prop} (h : Tens (LabsO rs l) (LabO s ls) w S) : LabsO (rs ++ [(s, t, u)]) (l ++ [(ls, t, u)]) w S := by
  obtain ⟨A, B, ⟨h1, h2, h3⟩, ⟨k1, k2⟩, -, hS⟩ := h
  refine ⟨by simp [h1], fun i hi hi' => ?_, fun x hx => ?_⟩
  · by_cases hlt : i < l.length
    · have e1 : (rs ++ [(s, t, u)])[i] = rs[i]'(by omega) := List.getElem_append_left (by omega)
      have e2 : (l ++ [(ls, t, u)])[i] = l[i] := List.getElem_append_left hlt
      rw [e1, e2]
      exact innS.mono (h2 i (by omega) hlt) fun x _ hx => (hS x).2 (.inl hx)
    · have hil : i = l.length := by rw [List.length_append, List.length_singleton] at hi'; omega
      subst hil
      have e1 : (rs ++ [(s, t, u)])[l.length] = (s, t, u) := by rw [List.getElem_append_right (by omega)]; simp [h1]
      have e2 : (l ++ [(ls, t, u)])[l.length] = (ls, t, u) := by rw [List.getElem_append_right (by omega)]; simp
      rw [e1, e2]
      exact ⟨rfl, rfl, Rw.View.mono k1 fun x _ hx => (hS x).2 (.inr hx)⟩
  · rcases (hS x).1 hx with h | h
    · exact h3 x h
    · exact k2 x h
/-- The samples so far read as they should. -/
theorem labs_view {rs : List RS} {l : List Smp} {u : Value} {w : World} {S S' : Nat → Prop} (h : LabsO rs l w S) (hm : Rw.Mine layS 43 w u rs) : SView w All u l :=
  ⟨rs, hm.view.all, h.1, fun i h1 h2 => innS.mono (h.2.1 i h1 h2) fun _ _ _ => trivial⟩
end Rc
end Go.Proofs.Ytkachkoiajdhgaa
