/- The document's own records (layer 12): Decode. -/
import Derived.Test.YtkachkoiajdhgaaRcObj
import Derived.Test.YtkachkoiajdhgaaRcRef2
set_option maxRecDepth 100000
namespace Go.Proofs.Ytkachkoiajdhgaa
open Go.RowKit Go.Sort
namespace Rc
open Bit Dsk Ob Dig Lb
set_option linter.unusedVariables false
set_option linter.unusedSimpArgs false

/-- What Decode's end is. -/
def DecE (w : World) (sl : List UInt8) (e : Ending) (w' : World) : Prop := ∃ v, e = .returned (.tuple #[v, .int .i64 ((dec sl).2 : Int)]) ∧ RView w' All v (dec sl).1 ∧ Rng (dec sl).1 ∧ New0 w w'
abbrev zeroV : Fv := ⟨.int .i64 0, .slice none 0 0, .slice none 0 0, .int .i64 0, .int .i64 0⟩
theorem rng_zero : Rng zero := ⟨fun x hx => (by cases hx), ⟨by decide, by decide⟩, ⟨by decide, by decide⟩⟩
theorem view_zero (w : World) : RView w All (.agg #[.int .i64 0, .slice none 0 0, .slice none 0 0, .int .i64 0, .int .i64 0]) zero := ⟨⟨none, 0, 0⟩, ⟨none, 0, 0⟩, rfl, Rw.DView.noth _ _ _ _, Rw.View.noth _ _ _⟩
theorem DecE.no {w w' : World} {sl : List UInt8} {x : Nat} (h : dec sl = (zero, x)) (hu : New0 w w') : DecE w sl (.returned (.tuple #[.agg #[.int .i64 0, .slice none 0 0, .slice none 0 0, .int .i64 0, .int .i64 0], .int .i64 (x : Int)])) w' := by
  unfold DecE
  rw [h]
  exact ⟨_, rfl, view_zero _, rng_zero, hu⟩
theorem DecE.yes {w w' : World} {sl : List UInt8} {r : R} {v : Value} (h : dec sl = (r, 0)) (hv : RView w' All v r) (hr : Rng r) (hu : New0 w w') : DecE w sl (.returned (.tuple #[v, .int .i64 0])) w' := by
  unfold DecE
  rw [h]
  exact ⟨v, rfl, hv, hr, hu⟩
theorem bnd_of {r : R} (h : chk r = 0) (hr : Rng r) : Bnd r := by
  rcases chk_zero.1 h with hc | hd
  · refine ⟨by rw [hc.kind]; decide, fun x hx => ?_, by rw [hc.ms]; exact fun m hm => (by cases hm), hr.frm, hr.til⟩
    have ho := hc.ok x hx
    have hf := ho.few
    obtain ⟨h1, h2, h3⟩ := hr.smp x hx
    exact ⟨fun p hp => by have := ho.good.small p hp; omega, by omega, h1, h2, h3⟩
  · refine ⟨by rw [hd.kind]; decide, by rw [hd.smp]; exact fun x hx => (by cases hx), fun m hm => ?_, hr.frm, hr.til⟩
    have h1 := (Mt.chk_zero.1 hd.ms).2 m hm
    have h2 := Mt.right_small h1
    obtain ⟨h3, h4, -, -⟩ := Mt.right_zero.1 h1
    exact ⟨by omega, by omega, by omega, by omega⟩
/-- The result's block stays while the call's own objects turn. -/
theorem five_keep {I : Ob.Rel} {wA w' : World} {g : Nat} {v : Fv} (h : Five 25 g v wA) (H : Own I wA w') : Five 25 g v w' := by
  unfold Five at *
  rw [H.bel.block g (Array.getElem?_eq_some_iff.1 h).1]; exact h
/-- What the end of a reading says. -/
theorem end_err {sl : List UInt8} {e : Nat} (h : allR sl = .error e) : dec sl = (zero, e) := dec_err h
theorem noBox {g : Nat} {v : Fv} {w : World} {S : Nat → Prop} (h : Tens Mt.NoO (BoxO g v) w S) : BoxO g v w S := by
  obtain ⟨A, B, h1, ⟨h2, h3⟩, -, h4⟩ := h
  exact ⟨h2, fun x => by rw [h4 x, ← h3 x]; exact ⟨fun h => h.elim (fun h => absurd h (h1 x)) id, .inr⟩⟩
theorem seeBox {I J : Ob.Rel} {g : Nat} {v : Fv} {w0 w : World} (H : Own (Tens I (Tens (BoxO g v) J)) w0 w) : Five 25 g v w := by
  obtain ⟨S, h⟩ := H.dropl.seeL
  exact h.1
theorem seeBox1 {I : Ob.Rel} {g : Nat} {v : Fv} {w0 w : World} (H : Own (Tens I (BoxO g v)) w0 w) : Five 25 g v w := by
  obtain ⟨S, h⟩ := H.seeR
  exact h.1
theorem boxSet {I J : Ob.Rel} (hI : Thing I) (hJ : Thing J) {g : Nat} {v v' : Fv} {w0 w : World} (H : Own (Tens I (Tens (BoxO g v) J)) w0 w) {i : Nat} {x : Value} (hn : Five 25 g v' (w.setCell ⟨g, i, none⟩ x)) : Own (Tens I (Tens (BoxO g v') J)) w0 (w.setCell ⟨g, i, none⟩ x) := by
  obtain ⟨B, hB, go⟩ := H.right hI
  obtain ⟨A, hA, go2⟩ := Tens.left hJ hB
  exact go _ _ (go2 _ _ (boxStep hA hn))
theorem sview_own {I B : Ob.Rel} {u : Value} {rs : List RS} {l : List Smp} {w0 w : World} (H : Own (Tens I (Tens B (Tens (Rw.RowO layS 43 u rs) (LabsO rs l)))) w0 w) : SView w (Nw w0) u l := by
  obtain ⟨⟨S, ⟨A, S1, -, ⟨B1, S2, -, ⟨S3, S4, k1, k2, -, k3⟩, -, k4⟩, -, k5⟩, h5⟩, -⟩ := H
  have hs3 : ∀ x, S3 x → Nw w0 x := fun x hx => h5 x ((k5 x).2 (.inr ((k4 x).2 (.inr ((k3 x).2 (.inl hx))))))
  have hs4 : ∀ x, S4 x → Nw w0 x := fun x hx => h5 x ((k5 x).2 (.inr ((k4 x).2 (.inr ((k3 x).2 (.inr hx))))))
  exact ⟨rs, (Rw.Mine.view k1.1).mono fun b _ hb => hs3 b (k1.2.1 b hb), k2.1, fun i h1 h2 => innS.mono (k2.2.1 i h1 h2) fun x _ hx => hs4 x hx⟩
theorem mview_own {I B : Ob.Rel} {u : Value} {l : List Mt.M} {w0 w : World} (H : Own (Tens I (Tens B (Rw.RowO Mt.layM 76 u l))) w0 w) : Mt.View w (Nw w0) u l := by
  obtain ⟨⟨S, ⟨A, S1, -, ⟨B1, S2, -, k1, -, k4⟩, -, k5⟩, h5⟩, -⟩ := H
  have hs2 : ∀ x, S2 x → Nw w0 x := fun x hx => h5 x ((k5 x).2 (.inr ((k4 x).2 (.inr hx))))
  exact (Rw.Mine.view k1.1).mono fun b _ hb => hs2 b (k1.2.1 b hb)
theorem rowMine {I B : Ob.Rel} {u : Value} {rs : List RS} {l : List Smp} {D : Ob.Rel} {w0 w : World} (H : Own (Tens I (Tens B (Tens (Tens (Rw.RowO layS 43 u rs) (LabsO rs l)) D))) w0 w) : Rw.Mine layS 43 w u rs := by
  obtain ⟨S, h⟩ := H.dropl.dropl.dropr.seeL
  exact h.1
theorem permOut {I B R0 L D : Ob.Rel} {w0 w : World} (H : Own (Tens I (Tens B (Tens (Tens R0 L) D))) w0 w) : Own (Tens (Tens I (Tens B (Tens L D))) R0) w0 w :=
  H.mono fun S h => Tens.cossa (Tens.mapR (fun A h => Tens.cossa (Tens.mapR (fun A h => Tens.swap (Tens.assoc h)) h)) h)
theorem permIn {I B R0 L D L' : Ob.Rel} {w0 w : World} (H : Own (Tens (Tens I (Tens B (Tens L D))) R0) w0 w) (k : ∀ w S, Tens L D w S → L' w S) : Own (Tens I (Tens B (Tens R0 L'))) w0 w :=
  H.mono fun S h => Tens.mapR (fun A h => Tens.mapR (fun A h => Tens.swap (Tens.mapL (fun A h => k _ _ h) h)) (Tens.assoc h)) (Tens.assoc h)
theorem labIn {I B RL D : Ob.Rel} {w0 w : World} (H : Own (Tens (Tens I (Tens B RL)) D) w0 w) : Own (Tens I (Tens B (Tens RL D))) w0 w :=
  H.assoc.mono fun S h => Tens.mapR (fun A h => Tens.assoc h) h
theorem dec_bnd {t : List UInt8} {ls : List Pr} {e : Nat} (h : Lb.dec t = (ls, e)) : Lb.Sml ls ∧ ls.length * 32 ≤ 140737488351232 := by
  by_cases he : e = 0
  · subst he
    have ho := (Lb.dec_back h).1
    have hf := ho.few
    exact ⟨fun p hp => by have := ho.good.small p hp; omega, by omega⟩
  · rw [Lb.dec_none h he]
    exact ⟨fun p hp => (by cases hp), by simp⟩
theorem bnds_snoc {l : List Smp} {x : Smp} (h : ∀ y ∈ l, BndS y) (hx : BndS x) : ∀ y ∈ l ++ [x], BndS y := fun y hy => by
  rcases List.mem_append.1 hy with hy | hy
  · exact h y hy
  · rw [List.mem_singleton.1 hy]; exact hx
theorem rngS_of {x : Smp} (h : BndS x) : RngS x := ⟨h.2.2.1, h.2.2.2.1, h.2.2.2.2⟩
/-- A sample, laid alone. -/
theorem view_smp (w : World) (a : Rw.Sl) (t : Int) (u : Nat) : Rw.View layS (w.alloc (.cells #[.slice a.a a.n a.c, .int .i64 t, .int .u64 (u : Int)] 43 (0, 0))) Rw.All (.slice (some ⟨w.heap.size, 0, none⟩) 1 1) [(a, t, u)] := by
  have h := cell_new w (.cells #[.slice a.a a.n a.c, .int .i64 t, .int .u64 (u : Int)] 43 (0, 0))
  refine ⟨_, 1, rfl, Nat.le_refl _, by unfold maxLen; decide, fun _ => ⟨_, 0, rfl, trivial, fun i hi t' u' ht => ?_⟩⟩
  have : i = 0 := by simpa using hi
  subst this
  match t', ht with
  | 0, ht => obtain rfl : a.v = u' := by simpa [layS] using ht
             rw [Lib.cell_of_heap h]; rfl
  | 1, ht => obtain rfl : Value.int .i64 t = u' := by simpa [layS] using ht
             rw [Lib.cell_of_heap h]; rfl
  | 2, ht => obtain rfl : Value.int .u64 (u : Int) = u' := by simpa [layS] using ht
             rw [Lib.cell_of_heap h]; rfl
  | t'' + 3, ht => simp [layS] at ht
abbrev comF (l : List Smp) : Rd R := retR ⟨1, l, [], 0, 0⟩
theorem comR_is : comR = bnd numR fun n => bnd (mustR (decide (1 ≤ n) && decide (n ≤ 32)) 2) fun _ => manyK comF n [] := rfl
theorem mustE_err {b : Bool} {e y : Nat} (he : e ≠ 0) : mustE b e y = e := by simp [mustE, he]
end Rc
end Go.Proofs.Ytkachkoiajdhgaa
