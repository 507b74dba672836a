/- Layer 13: works. -/
import Derived.Test.YtfheehlfodoimaaGreatHdLaw0
set_option maxRecDepth 100000
namespace Go.Proofs.YtfheehlfodoimaaGreat
open Go.RowKit Go.Sort
namespace Hd
open Bit Dsk Ob Dig
set_option linter.unusedVariables false
set_option linter.unusedSimpArgs false

def prA : Lb.Pr := (⟨#[97]⟩, ⟨#[49]⟩)
def oneR (t : Int) (v : Nat) : Rc.R := ⟨1, [([prA], t, v)], [], 0, 0⟩
theorem row_one {α : Type} {L : Rw.Lay α} {T : TypeId} {w : World} {S : Nat → Prop} {b : Nat} {x : α} {cs : Array Value} (h : w.heap[b]? = some (.cells cs T (0, 0))) (hc : cs.toList = L.enc x) (hS : S b) : Rw.View L w S (.slice (some ⟨b, 0, none⟩) 1 1) [x] := by
  refine ⟨_, 1, rfl, Nat.le_refl _, by unfold maxLen; decide, fun _ => ⟨b, 0, rfl, hS, fun i hi t' u hu => ?_⟩⟩
  have : i = 0 := by simpa using hi
  subst this
  have hu2 : (L.enc x)[t']? = some u := hu
  rw [← hc] at hu2
  rw [Lib.cell_of_heap h]
  simpa using hu2
theorem heap_past (w : World) (o : Go.Obj) {b : Nat} {x : Go.Obj} (h : w.heap[b]? = some x) : (w.alloc o).heap[b]? = some x :=
  (((Upon.refl (fun _ => False) w).alloc o).block b (Array.getElem?_eq_some_iff.1 h).1 (fun f => f)).trans h
theorem okA : Lb.Ok [prA] := ⟨by decide, by decide, fun p hp => by
  rw [List.mem_singleton.1 hp]; exact ⟨by decide, by decide⟩, List.pairwise_singleton _ _⟩
theorem chk_one (t : Int) (v : Nat) : Rc.chk (oneR t v) = 0 := Rc.chk_zero.2 (.inl ⟨rfl, rfl, rfl, rfl, (show 1 ≤ 1 by decide), (show 1 ≤ 32 by decide), fun x hx => by rw [List.mem_singleton.1 hx]; exact okA⟩)
theorem bnd_one (t : Int) (v : Nat) (h0 : -9223372036854775808 ≤ t) (h1 : t ≤ 9223372036854775807) (hv : v < 18446744073709551616) : Rc.Bnd (oneR t v) := ⟨(show (-9223372036854775808 : Int) ≤ 1 ∧ (1 : Int) ≤ 9223372036854775807 by decide), fun x hx => by
  rw [List.mem_singleton.1 hx]
  exact ⟨fun p hp => by rw [List.mem_singleton.1 hp]; exact ⟨by decide, by decide⟩, (show 1 * 32 ≤ 140737488351232 by decide), h0, h1, hv⟩, fun m hm => (by cases hm), (show (-9223372036854775808 : Int) ≤ 0 ∧ (0 : Int) ≤ 9223372036854775807 by decide), (show (-9223372036854775808 : Int) ≤ 0 ∧ (0 : Int) ≤ 9223372036854775807 by decide)⟩
/-- All up to 9. -/
def delR : Rc.R := ⟨2, [], [], 0, 9⟩
theorem chk_del : Rc.chk delR = 0 := Rc.chk_zero.2 (.inr ⟨rfl, rfl, rfl, by decide⟩)
theorem bnd_delR : Rc.Bnd delR := ⟨by decide, fun x hx => (by cases hx), fun m hm => (by cases hm), by decide, by decide⟩
def hA (l : List Pt) (t : Int) : H := [⟨[prA], l, t⟩]
theorem cmpA : Lb.cmp [prA] [prA] = 0 := Lb.cmp_self _
theorem srtA (l : List Pt) (t : Int) : Srt (hA l t) := List.pairwise_singleton _ _
theorem tr_first (t : Int) (v : Nat) : tr [] (oneR t v) = 0 ∧ app [] (oneR t v) = hA [(t, v)] t := by
  have hp : puts [] (oneR t v).smp = some (hA [(t, v)] t) := rfl
  have ht : tr [] (oneR t v) = 0 := by
    rw [tr, if_neg (by simp [chk_one]), hp]
    rfl
  exact ⟨ht, app_com ht (by decide : (1 : Int) ≠ 2) hp⟩
theorem tr_old {l : List Pt} {u t : Int} {v : Nat} (h : t ≤ u) : tr (hA l u) (oneR t v) = 14 ∧ app (hA l u) (oneR t v) = hA l u := by
  have hold : old (hA l u) ([prA], t, v) = true := (old_is (srtA l u)).2 ⟨⟨[prA], l, u⟩, List.mem_singleton.2 rfl, rfl, h⟩
  have hp : puts (hA l u) (oneR t v).smp = none := by simp only [oneR, puts]; rw [if_pos hold]
  have ht : tr (hA l u) (oneR t v) = 14 := by rw [tr, if_neg (by simp [chk_one]), hp]
  exact ⟨ht, app_no (by rw [ht]; decide)⟩
theorem tr_next {l : List Pt} {u t : Int} {v : Nat} (h : u < t) : tr (hA l u) (oneR t v) = 0 := by
  have hold : old (hA l u) ([prA], t, v) = false := by
    cases ho : old (hA l u) ([prA], t, v) with
    | false => rfl
    | true =>
      obtain ⟨r, hr, -, h2⟩ := (old_is (srtA l u)).1 ho
      simp only [hA, List.mem_singleton] at hr
      subst hr
      simp only at h2; omega
  have hp : puts (hA l u) (oneR t v).smp = some (add (hA l u) ([prA], t, v)) := by simp only [oneR, puts]; rw [if_neg (by rw [hold]; decide)]
  rw [tr, if_neg (by simp [chk_one]), hp]
  have := add_len (hA l u) ([prA], t, v)
  simp only [hA, List.length_singleton] at this
  exact if_neg (by simp only [hA]; omega)
theorem tr_delA (l : List Pt) (t : Int) : tr (hA l t) delR = 0 ∧ app (hA l t) delR = hA (without l 0 9) t := by
  have ht : tr (hA l t) delR = 0 := by
    rw [tr, if_neg (by simp [chk_del])]
    rfl
  refine ⟨ht, (app_del ht rfl).trans ?_⟩
  rfl
theorem saneA (l : List Pt) (t : Int) {k : Nat} (hl : l.length + k ≤ 1000000) : SaneN k (hA l t) := ⟨by simp only [hA, List.length_singleton]; omega, fun r hr => by simp only [hA, List.mem_singleton] at hr; subst hr; simp only; omega, fun r hr => by simp only [hA, List.mem_singleton] at hr; subst hr; exact (show 1 ≤ 1000000000 by decide)⟩
section
variable {J : Ob.Rel} {p : Nat} {g : H} {w0 w : World}
/-- Apply, of a record that was made just before. -/
theorem pappNew {w' : World} {u : Value} {r : Rc.R} (hJ : Thing J) (h : Ob.Own (Tens (IsPH p g) J) w0 w) (hv : Rc.RView w' (Lb.Nw w) u r) (hu : New0 w w') (hs : Srt g) (hb : Rc.Bnd r) (hsane : SaneN r.smp.length g) (hsl : ∀ x ∈ r.smp, x.1.length ≤ 1000000000) :
    Calls Tryz.prog 9 #[.pointer (some ⟨p, 0, none⟩), u] w' fun e w'' => e = .returned (.int .i64 (tr g r : Int)) ∧ Ob.Own (Tens (IsPH p (app g r)) J) w0 w'' :=
  (pappOwn hJ ((rcMade (Tens.ob (thingPH _ _) hJ) h hv hu).assoc.mono fun S k => Tens.mapR (fun A k => Tens.swap k) k) hs hb hsane hsl).mono fun e w'' ⟨a, b⟩ => ⟨a, (b.mono fun S k => Tens.cossa (Tens.mapR (fun A k => Tens.swap k) k)).dropr⟩
/-- Apply, of a record that lies in no blocks. -/
theorem pappNone {u : Value} {r : Rc.R} (hJ : Thing J) (h : Ob.Own (Tens (IsPH p g) J) w0 w) (hv : Rc.RView w (fun _ => False) u r) (hs : Srt g) (hb : Rc.Bnd r) (hsane : SaneN r.smp.length g) (hsl : ∀ x ∈ r.smp, x.1.length ≤ 1000000000) :
    Calls Tryz.prog 9 #[.pointer (some ⟨p, 0, none⟩), u] w fun e w'' => e = .returned (.int .i64 (tr g r : Int)) ∧ Ob.Own (Tens (IsPH p (app g r)) J) w0 w'' :=
  ownL (Q := fun e => e = .returned (.int .i64 (tr g r : Int))) hJ h fun A _ hA => papp_any w hA hs _ u r hv (fun _ f => f.elim) hb hsane hsl
/-- Query, beside the head. -/
theorem pqueryOwn (hJ : Thing J) (h : Ob.Own (Tens (IsPH p g) J) w0 w) (hs : Srt g) (hsane : Sane g) (T : Nat → Prop) (v : Value) (ms : List Mt.M) (hv : Mt.View w T v ms) (hb : Mt.Bnd ms) (a b : Int) (ha : -9223372036854775808 ≤ a ∧ a ≤ 9223372036854775807) (hb2 : -9223372036854775808 ≤ b ∧ b ≤ 9223372036854775807) :
    Calls Tryz.prog 32 #[.pointer (some ⟨p, 0, none⟩), v, .int .i64 a, .int .i64 b] w fun e w' => ∃ u, e = .returned u ∧ Ob.Own (Tens (IsPH p g) (Tens J (QB u (query g ms a b)))) w0 w' ∧ New0 w w' := by
  obtain ⟨A, hA⟩ := h.seeL
  exact (pquery_any w hA hs hsane T v ms hv hb a b ha hb2).mono fun e w' ⟨u, k1, k2, k3⟩ => ⟨u, k1, (qMade (Tens.ob (thingPH _ _) hJ) h k2 k3).assoc, k3⟩
end
theorem one_lab {t : Int} {v : Nat} : ∀ x ∈ (oneR t v).smp, x.1.length ≤ 1000000000 := fun x hx => by rw [List.mem_singleton.1 hx]; exact (show 1 ≤ 1000000000 by decide)
theorem view_del (w : World) : Rc.RView w (fun _ => False) (.agg #[.int .i64 2, .slice none 0 0, .slice none 0 0, .int .i64 0, .int .i64 9]) delR := ⟨⟨none, 0, 0⟩, ⟨none, 0, 0⟩, rfl, Rw.DView.noth _ _ _ _, Rw.View.noth _ _ _⟩
theorem q_first : query (hA [(5, 7)] 5) [] 0 9 = [([prA], [(5, 7)])] := rfl
theorem q_gone : query (hA (without [(5, 7)] 0 9) 5) [] 0 9 = [] := rfl
end Hd
end Go.Proofs.YtfheehlfodoimaaGreat
