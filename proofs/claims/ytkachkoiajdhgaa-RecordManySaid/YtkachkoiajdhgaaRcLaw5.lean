/- Layer 12: the law RecordSpans. -/
import Derived.Test.YtkachkoiajdhgaaRcLaw4
set_option maxRecDepth 100000
namespace Go.Proofs.Ytkachkoiajdhgaa
open Go.RowKit Go.Sort
namespace Rc
open Bit Dsk Ob Dig Lb
set_option linter.unusedVariables false

/-! ### plainly -/
theorem mn_mono (l : List Smp) : ∀ a : Int, mn a l ≤ a := by
  induction l with
  | nil => intro a; exact Int.le_refl _
  | cons x l ih => intro a; exact Int.le_trans (ih (min a x.2.1)) (by omega)
theorem mx_mono (l : List Smp) : ∀ a : Int, a ≤ mx a l := by
  induction l with
  | nil => intro a; exact Int.le_refl _
  | cons x l ih => intro a; exact Int.le_trans (by omega) (ih (max a x.2.1))
theorem mn_mem : ∀ (l : List Smp) (a : Int), ∀ x ∈ l, mn a l ≤ x.2.1
  | [], _, x, h => by cases h
  | y :: l, a, x, h => by
    rcases List.mem_cons.1 h with rfl | h
    · exact Int.le_trans (mn_mono l (min a x.2.1)) (by omega)
    · exact mn_mem l (min a y.2.1) x h
theorem mx_mem : ∀ (l : List Smp) (a : Int), ∀ x ∈ l, x.2.1 ≤ mx a l
  | [], _, x, h => by cases h
  | y :: l, a, x, h => by
    rcases List.mem_cons.1 h with rfl | h
    · exact Int.le_trans (by omega) (mx_mono l (max a x.2.1))
    · exact mx_mem l (max a y.2.1) x h
theorem mn_snoc (l : List Smp) (x : Smp) (a : Int) : mn a (l ++ [x]) = min (mn a l) x.2.1 := by simp [mn, List.foldl_append]
theorem mx_snoc (l : List Smp) (x : Smp) (a : Int) : mx a (l ++ [x]) = max (mx a l) x.2.1 := by simp [mx, List.foldl_append]
theorem T0_app {l : List Smp} (h : 1 ≤ l.length) (m : List Smp) : T0 (l ++ m) = T0 l := by
  cases l with
  | nil => simp at h
  | cons x l => rfl
theorem mn_bnd {l : List Smp} (h : ∀ x ∈ l, BndS x) (h1 : 1 ≤ l.length) : -9223372036854775808 ≤ mn (T0 l) l ∧ mn (T0 l) l ≤ 9223372036854775807 ∧ -9223372036854775808 ≤ mx (T0 l) l ∧ mx (T0 l) l ≤ 9223372036854775807 := by
  have h0 : -9223372036854775808 ≤ T0 l ∧ T0 l ≤ 9223372036854775807 := by
    cases l with
    | nil => simp at h1
    | cons x l => exact ⟨(h x (by simp)).2.2.1, (h x (by simp)).2.2.2.1⟩
  have g : ∀ (l : List Smp) (a : Int), (∀ x ∈ l, BndS x) → -9223372036854775808 ≤ a → a ≤ 9223372036854775807 → (-9223372036854775808 ≤ mn a l ∧ mn a l ≤ 9223372036854775807) ∧ (-9223372036854775808 ≤ mx a l ∧ mx a l ≤ 9223372036854775807) := by
    intro l
    induction l with
    | nil => intro a _ h1 h2; exact ⟨⟨h1, h2⟩, h1, h2⟩
    | cons x l ih =>
      intro a hh k1 k2
      have hx := hh x (by simp)
      have e1 := (ih (min a x.2.1) (fun y hy => hh y (by simp [hy])) (by have := hx.2.2.1; omega) (by omega)).1
      have e2 := (ih (max a x.2.1) (fun y hy => hh y (by simp [hy])) (by omega) (by have := hx.2.2.2.1; omega)).2
      exact ⟨e1, e2⟩
  obtain ⟨⟨a, b⟩, c, d⟩ := g l (T0 l) h h0.1 h0.2
  exact ⟨a, b, c, d⟩
/-- A record with a sample more. -/
def more (r : R) (x : Smp) : R := ⟨r.kind, r.smp ++ [x], r.ms, r.frm, r.til⟩
theorem more_bnd {r : R} {x : Smp} (h : Bnd r) (hx : BndS x) : Bnd (more r x) := ⟨h.kind, bnds_snoc h.smp hx, h.ms, h.frm, h.til⟩
/-- The row of samples is appended to: the record reads as with a sample more, out of blocks other than g. -/
theorem own_app {n0 : Nat} {w w' : World} {r : R} {A : Option Addr} {c : Nat} {rs : List RS} {m : Rw.Sl} {T : Nat → Prop} {s : Rw.Sl} {x : Smp} {v' : Value} {g : Nat}
    (h2 : ∀ g, (Value.slice A rs.length c).ownBlock = some g → n0 ≤ g ∧ ¬ T g) (h3 : rs.length = r.smp.length) (h4 : ∀ i (h1 : i < rs.length) (h2 : i < r.smp.length), innS.rel w T rs[i] r.smp[i]) (h5 : Mt.View w T m.v r.ms)
    (hT : ∀ x, T x → x ≠ g) (hx : Lb.View w (fun b => b < n0) s.v x.1) (h0 : n0 ≤ g)
    (hown : Rw.Mine layS 43 w' v' (rs ++ [(s, x.2.1, x.2.2)])) (hg : w.grownBy w' (Value.slice A rs.length c).ownBlock) (hv : ∀ b, v'.ownBlock = some b → b ≠ g) :
    SView w' (fun b => b ≠ g) v' (r.smp ++ [x]) ∧ Mt.View w' (fun b => b ≠ g) m.v r.ms := by
  have hu : Upon (fun b => (Value.slice A rs.length c).ownBlock = some b) w w' := Upon.grown (Upon.refl _ w) hg (fun k hk => .inl hk)
  refine ⟨⟨rs ++ [(s, x.2.1, x.2.2)], hown.view.mono fun b _ hb => hv b hb, by simp [h3], fun i k1 k2 => ?_⟩, (Rw.View.upon h5 hu fun b hb e => (h2 b e).2 hb).mono fun b _ hb => hT b hb⟩
  by_cases hi : i < rs.length
  · rw [List.getElem_append_left hi, List.getElem_append_left (by omega)]
    exact innS.mono (innS.upon (h4 i hi (by omega)) hu fun b hb e => (h2 b e).2 hb) fun b _ hb => hT b hb
  · have e : i = rs.length := by rw [List.length_append, List.length_singleton] at k1; omega
    subst e
    have e2 : (r.smp ++ [x])[rs.length]'k2 = x := by
      have : (r.smp ++ [x])[r.smp.length]'(by simp) = x := by simp
      simp only [h3]; exact this
    rw [e2]
    have e1 : (rs ++ [(s, x.2.1, x.2.2)])[rs.length]'k1 = (s, x.2.1, x.2.2) := by simp
    rw [e1]
    exact ⟨rfl, rfl, (Rw.View.upon hx hu fun b hb e => by have := (h2 b e).1; omega).mono fun b _ hb => by omega⟩
end Rc
end Go.Proofs.Ytkachkoiajdhgaa
