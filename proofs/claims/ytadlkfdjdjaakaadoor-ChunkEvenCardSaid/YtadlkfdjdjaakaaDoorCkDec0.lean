/- What Decode is to tell (layer 9), plainly. Names no function of the program. -/
import Derived.Test.YtadlkfdjdjaakaaDoorCkPure
set_option maxRecDepth 100000
namespace Go.Proofs.YtadlkfdjdjaakaaDoor
namespace Ck
open Bit Dig
set_option linter.unusedVariables false

/-- What was read of a longer row is a beginning of it, and the next point is read. -/
theorem rd_more : ∀ {i n : Nat} {c : C2} {K Q R : List Bool} {l l' : List Pt}, i < n → rd i c K = some (l, R) → rd n c K = some (l', Q) → ∃ p R', rd1 (stps c l) R = some (p, R') ∧ l'.take (i + 1) = l ++ [p]
  | 0, n, c, K, Q, R, l, l', hi, h, h' => by
    simp only [rd, Option.some.injEq, Prod.mk.injEq] at h
    obtain ⟨rfl, rfl⟩ := h
    obtain ⟨m, rfl⟩ : ∃ m, n = m + 1 := ⟨n - 1, by omega⟩
    simp only [rd] at h'
    cases h1 : rd1 c K with
    | none => rw [h1] at h'; cases h'
    | some x =>
      obtain ⟨p, R'⟩ := x
      rw [h1] at h'
      simp only at h'
      cases h2 : rd m (stp c p) R' with
      | none => rw [h2] at h'; cases h'
      | some y =>
        obtain ⟨l2, Q2⟩ := y
        rw [h2] at h'
        simp only [Option.some.injEq, Prod.mk.injEq] at h'
        obtain ⟨rfl, rfl⟩ := h'
        exact ⟨p, R', h1, by simp⟩
  | i + 1, n, c, K, Q, R, l, l', hi, h, h' => by
    obtain ⟨m, rfl⟩ : ∃ m, n = m + 1 := ⟨n - 1, by omega⟩
    rw [rd] at h h'
    cases h1 : rd1 c K with
    | none => rw [h1] at h; cases h
    | some x =>
      obtain ⟨p, S⟩ := x
      rw [h1] at h h'
      simp only at h h'
      cases h2 : rd i (stp c p) S with
      | none => rw [h2] at h; cases h
      | some y =>
        obtain ⟨l2, Q2⟩ := y
        rw [h2] at h
        simp only [Option.some.injEq, Prod.mk.injEq] at h
        obtain ⟨rfl, rfl⟩ := h
        cases h3 : rd m (stp c p) S with
        | none => rw [h3] at h'; cases h'
        | some z =>
          obtain ⟨l3, Q3⟩ := z
          rw [h3] at h'
          simp only [Option.some.injEq, Prod.mk.injEq] at h'
          obtain ⟨rfl, rfl⟩ := h'
          obtain ⟨q, R', g1, g2⟩ := rd_more (by omega) h2 h3
          exact ⟨q, R', g1, by simp [g2]⟩
theorem dec_none {s : List UInt8} {e : Nat} (he : e ≠ 0) (h100 : e < 100) (h : ∀ l', (∀ p ∈ l', PtIn p) → enc l' = (s, 0) → False) : Dec s [] e := .inr ⟨he, h100, rfl, fun l' hl hh => h l' hl hh⟩
theorem dec_one {s : List UInt8} {n k e : Nat} (h : gotN s = (n, k, e)) (he : e ≠ 0) (h100 : e < 100) : Dec s [] e := dec_none he h100 fun l' hl hh => by
  obtain ⟨m, j, R, f, _⟩ := of_enc hl hh
  have := h.symm.trans f.one
  simp only [Prod.mk.injEq] at this
  exact he this.2.2
theorem dec_range {s : List UInt8} {n k : Nat} (h : gotN s = (n, k, 0)) (hn : n < 1 ∨ 64 < n) : Dec s [] 2 := dec_none (by decide) (by decide) fun l' hl hh => by
  obtain ⟨m, j, R, f, h1, h2, _⟩ := of_enc hl hh
  have := h.symm.trans f.one
  simp only [Prod.mk.injEq] at this
  omega
theorem dec_two {s : List UInt8} {n k m j e : Nat} (h : gotN s = (n, k, 0)) (h2 : gotN (s.drop k) = (m, j, e)) (he : e ≠ 0) (h100 : e < 100) : Dec s [] e := dec_none he h100 fun l' hl hh => by
  obtain ⟨m', j', R, f, _⟩ := of_enc hl hh
  have h3 := h.symm.trans f.one
  simp only [Prod.mk.injEq] at h3
  obtain ⟨-, rfl, -⟩ := h3
  have := h2.symm.trans f.two
  simp only [Prod.mk.injEq] at this
  exact he this.2.2
/-- What must be so of the bytes of points. -/
structure Whole (n m : Nat) (R : List UInt8) (l : List Pt) : Prop where
  len : l.length = n
  le : m ≤ 8 * R.length
  few : R.length ≤ (m + 7) / 8
  fill : Filled R m
  got : rd n c0 (bitsAt R 0 m) = some (l, [])
  rise : Rises l n
theorem dec_rest {s R : List UInt8} {n k m j e : Nat} (f : Found s n k m j R) (he : e ≠ 0) (h100 : e < 100) (h : ∀ l, ¬ Whole n m R l) : Dec s [] e := dec_none he h100 fun l' hl hh => by
  obtain ⟨m', j', R', f', h1, h2, h3, h4, h5, h6, h7⟩ := of_enc hl hh
  have g1 := f.one.symm.trans f'.one
  simp only [Prod.mk.injEq, and_true] at g1
  obtain ⟨rfl, rfl⟩ := g1
  have g2 := f.two.symm.trans f'.two
  simp only [Prod.mk.injEq, and_true] at g2
  obtain ⟨rfl, rfl⟩ := g2
  have g3 := f.rest.symm.trans f'.rest
  subst g3
  exact h l' ⟨rfl, h3, h4, h5, h6, h7⟩
theorem dec_ok {s R : List UInt8} {n k m j : Nat} {l : List Pt} (f : Found s n k m j R) (hn : 1 ≤ n) (hn64 : n ≤ 64) (h : Whole n m R l) : Dec s l 0 := by
  obtain ⟨h1, h2, h3⟩ := enc_of f hn hn64 h.le h.few h.fill h.got (by rw [h.len]; exact h.rise)
  exact .inl ⟨rfl, h1, h2⟩
/-- The points so far. -/
structure Half (i : Nat) (K0 : List Bool) (l : List Pt) (K : List Bool) : Prop where
  got : rd i c0 K0 = some (l, K)
  len : l.length = i
  rise : Rises l i
  ok : Ok2 (stps c0 l)
  all : ∀ p ∈ l, PtIn p
theorem Half.start (K0 : List Bool) : Half 0 K0 [] K0 := ⟨rfl, rfl, Rises.zero _, ok0, fun p hp => by simp at hp⟩
theorem T_left {l m : List Pt} {i : Nat} (h : i < l.length) : T (l ++ m) i = T l i := by
  unfold T; rw [List.getD_eq_getElem?_getD, List.getD_eq_getElem?_getD, List.getElem?_append_left h]
theorem T_last (l : List Pt) (p : Pt) : T (l ++ [p]) l.length = p.1 := by unfold T; simp
theorem Half.next {i : Nat} {K0 K K' : List Bool} {l : List Pt} {p : Pt} (h : Half i K0 l K) (h1 : rd1 (stps c0 l) K = some (p, K')) (hr : ∀ k, i = k + 1 → T l k < p.1) : Half (i + 1) K0 (l ++ [p]) K' := by
  have hp := (rd1_is h.ok h1).2
  have hlen := h.len
  refine ⟨rd_step h.got h1, by simp [h.len], ?_, ?_, ?_⟩
  · cases i with
    | zero => exact Rises.one _
    | succ k =>
      refine Rises.next (fun j hj => ?_) ?_
      · rw [T_left (by omega), T_left (by omega)]
        exact h.rise j hj
      · rw [T_left (by omega)]
        have := T_last l p
        rw [hlen] at this
        rw [this]
        exact hr k rfl
  · rw [stps_snoc]; exact h.ok.put hp
  · intro q hq
    rcases List.mem_append.1 hq with hq | hq
    · exact h.all q hq
    · rw [List.mem_singleton.1 hq]; exact hp
theorem Half.stop {i n m : Nat} {R : List UInt8} {K : List Bool} {l : List Pt} (h : Half i (bitsAt R 0 m) l K) (hi : i < n) (h1 : rd1 (stps c0 l) K = none) : ∀ l', ¬ Whole n m R l' := fun l' hw => by
  obtain ⟨p, R', g, _⟩ := rd_more hi h.got hw.got
  rw [h1] at g; cases g
theorem take_T {l' l : List Pt} {p : Pt} {k : Nat} (h : l'.take (k + 1 + 1) = l ++ [p]) (hl : l.length = k + 1) : T l' k = T l k ∧ T l' (k + 1) = p.1 := by
  have e : ∀ i, i < k + 2 → T l' i = T (l ++ [p]) i := fun i hi => by
    rw [← h]; unfold T; rw [List.getD_eq_getElem?_getD, List.getD_eq_getElem?_getD, List.getElem?_take_of_lt (by omega)]
  refine ⟨by rw [e k (by omega), T_left (by omega)], ?_⟩
  rw [e (k + 1) (by omega), ← hl, T_last]
theorem Half.fall {k n m : Nat} {R : List UInt8} {K K' : List Bool} {l : List Pt} {p : Pt} (h : Half (k + 1) (bitsAt R 0 m) l K) (hi : k + 1 < n) (h1 : rd1 (stps c0 l) K = some (p, K')) (hle : p.1 ≤ T l k) : ∀ l', ¬ Whole n m R l' := fun l' hw => by
  obtain ⟨q, R', g, gt⟩ := rd_more hi h.got hw.got
  rw [h1] at g
  simp only [Option.some.injEq, Prod.mk.injEq] at g
  obtain ⟨rfl, rfl⟩ := g
  obtain ⟨e1, e2⟩ := take_T gt h.len
  have := hw.rise k (by omega)
  omega
theorem Half.left {n m : Nat} {R : List UInt8} {K : List Bool} {l : List Pt} (h : Half n (bitsAt R 0 m) l K) (hK : K ≠ []) : ∀ l', ¬ Whole n m R l' := fun l' hw => by
  have := h.got.symm.trans hw.got
  simp only [Option.some.injEq, Prod.mk.injEq] at this
  exact hK this.2
theorem Half.whole {n m : Nat} {R : List UInt8} {l : List Pt} (h : Half n (bitsAt R 0 m) l []) (h1 : m ≤ 8 * R.length) (h2 : R.length ≤ (m + 7) / 8) (hf : Filled R m) : Whole n m R l := ⟨h.len, h1, h2, hf, h.got, h.rise⟩
theorem rd1_t {c : C2} {K : List Bool} (h : Tm.getR c.1 K = none) : rd1 c K = none := by unfold rd1; rw [h]
theorem rd1_v {c : C2} {K : List Bool} {t : Int} {k : Nat} (h : Tm.getR c.1 K = some (t, k)) (h2 : Xr.getR c.2 (K.drop k) = none) : rd1 c K = none := by unfold rd1; rw [h]; simp only; rw [h2]
theorem rd1_yes {c : C2} {K : List Bool} {t : Int} {k x j : Nat} (h : Tm.getR c.1 K = some (t, k)) (h2 : Xr.getR c.2 (K.drop k) = some (x, j)) : rd1 c K = some ((t, x), (K.drop k).drop j) := by unfold rd1; rw [h]; simp only; rw [h2]
end Ck
end Go.Proofs.YtadlkfdjdjaakaaDoor
