/- What is read of a pattern, case by case, plainly. Names no function of the program. -/
import Derived.Test.YtiimdinefkbhlaaDoorXorPure
namespace Go.Proofs.YtiimdinefkbhlaaDoor
namespace Xr
open Bit
set_option linter.unusedVariables false

theorem xor_back (a b : Nat) : a ^^^ (a ^^^ b) = b := by rw [← Nat.xor_assoc, Nat.xor_self, Nat.zero_xor]
theorem xor_back2 (a b : Nat) : (a ^^^ b) ^^^ a = b := by rw [Nat.xor_comm (a ^^^ b), xor_back]
theorem getR_first {c : Cd} (hb : c.begun = false) (K : List Bool) : getR c K = if 64 ≤ K.length then some (numOf (K.take 64), 64) else none := by
  unfold getR guess putB
  rw [if_pos hb]
  by_cases h : 64 ≤ K.length
  · rw [if_pos h]
    have e : bitsOf (numOf (K.take 64)) 64 = K.take 64 := by
      have := bitsOf_numOf (K.take 64)
      rwa [List.length_take, Nat.min_eq_left h] at this
    simp only [if_pos hb, e, if_true]
  · rw [if_neg h]
theorem getR_yes {c : Cd} {K : List Bool} {v n : Nat} (hg : guess c K = some (v, n)) (e : putB c v = K.take n) : getR c K = some (v, n) := by
  unfold getR; rw [hg]; exact if_pos e
theorem getR_no {c : Cd} {K : List Bool} {v n : Nat} (hg : guess c K = some (v, n)) (e : putB c v ≠ K.take n) : getR c K = none := by
  unfold getR; rw [hg]; exact if_neg e
theorem begun_not {c : Cd} (hb : c.begun = true) : ¬ c.begun = false := by simp [hb]
theorem getR_same {c : Cd} (hb : c.begun = true) (R : List Bool) : getR c (false :: R) = some (c.v, 1) := by
  unfold getR guess putB
  simp [hb]
theorem getR_one {c : Cd} (hb : c.begun = true) : getR c [true] = none := by
  unfold getR guess
  simp [hb]
theorem getR_none {c : Cd} (hb : c.begun = true) (hw : c.win = false) (R : List Bool) : getR c (true :: false :: R) = none := by
  unfold getR guess
  simp [hb, hw]
theorem lead_ge' {d l : Nat} (hl : l ≤ 31) (h : d < 2 ^ (64 - l)) : l ≤ lead d := by
  refine Nat.le_of_not_lt fun hlt => ?_
  have h1 := lead_stop (d := d) (by omega)
  have h2 : 2 ^ (64 - l) ≤ 2 ^ (63 - lead d) := Nat.pow_le_pow_right (by decide) (by omega)
  omega
theorem tail_ge {d t : Nat} (hd : d < 2 ^ 64) (h0 : d ≠ 0) (h : 2 ^ t ∣ d) : t ≤ tail d := by
  refine Nat.le_of_not_lt fun hlt => ?_
  have h1 := tail_odd hd (by omega)
  obtain ⟨q, rfl⟩ := h
  have e : 2 ^ t * q = 2 ^ tail (2 ^ t * q) * (2 * (2 ^ (t - tail (2 ^ t * q) - 1) * q)) := by
    rw [← Nat.mul_assoc 2, ← Nat.pow_succ', ← Nat.mul_assoc, ← Nat.pow_add]
    congr 2; omega
  generalize tail (2 ^ t * q) = k at *
  rw [e, Nat.mul_div_cancel_left _ (Nat.two_pow_pos k)] at h1
  omega
/-- What stands between lead and tail, as a difference. -/
theorem mid_of {l t n : Nat} (X : List Bool) (hX : X.length = n) (hn : n = 64 - l - t) (hlt : l + t ≤ 64) : numOf X * 2 ^ t < 2 ^ (64 - l) := by
  have h := numOf_lt X
  have e : 64 - l = (64 - l - t) + t := by omega
  rw [e, Nat.pow_add, ← hn, ← hX]
  exact Nat.mul_lt_mul_of_pos_right h (Nat.two_pow_pos _)
theorem getR_within {c : Cd} (hc : c.Ok) (hb : c.begun = true) (hw : c.win = true) (R : List Bool) (n : Nat) (hn : n = 64 - c.lead - c.tail) :
    getR c (true :: false :: R) = if n ≤ R.length ∧ numOf (R.take n) ≠ 0 then some (c.v ^^^ (numOf (R.take n) * 2 ^ c.tail), n + 2) else none := by
  have hsum := hc.sum
  have hl := hc.lead
  have hlen : n ≤ R.length → (R.take n).length = n := fun h => by rw [List.length_take, Nat.min_eq_left h]
  by_cases h : n ≤ R.length
  · have hm : numOf (R.take n) * 2 ^ c.tail < 2 ^ (64 - c.lead) := mid_of _ (hlen h) hn (by omega)
    have hm64 : numOf (R.take n) * 2 ^ c.tail < 2 ^ 64 := Nat.lt_of_lt_of_le hm (Nat.pow_le_pow_right (by decide) (by omega))
    have eg : guess c (true :: false :: R) = some (c.v ^^^ (numOf (R.take n) * 2 ^ c.tail), n + 2) := by
      unfold guess
      rw [if_neg (begun_not hb)]
      simp only [hw, true_and, ← hn]
      rw [if_pos h, Nat.mod_eq_of_lt hm64, show 66 - c.lead - c.tail = n + 2 by omega]
    have et : (true :: false :: R).take (n + 2) = true :: false :: R.take n := rfl
    by_cases h0 : numOf (R.take n) = 0
    · rw [if_neg (fun hh => hh.2 h0)]
      refine getR_no eg ?_
      rw [et]
      have e : putB c (c.v ^^^ (numOf (R.take n) * 2 ^ c.tail)) = [false] := by
        unfold putB
        rw [if_neg (begun_not hb), xor_back2, h0, Nat.zero_mul, if_pos rfl]
      rw [e]
      simp
    · rw [if_pos ⟨h, h0⟩]
      refine getR_yes eg ?_
      rw [et]
      have e : putB c (c.v ^^^ (numOf (R.take n) * 2 ^ c.tail)) = true :: false :: R.take n := by
        have hd0 : numOf (R.take n) * 2 ^ c.tail ≠ 0 := Nat.ne_of_gt (Nat.mul_pos (Nat.pos_of_ne_zero h0) (Nat.two_pow_pos _))
        unfold putB
        rw [if_neg (begun_not hb), xor_back2, if_neg hd0, if_pos ⟨hw, lead_ge' hl hm, tail_ge hm64 hd0 (Nat.dvd_mul_left _ _)⟩, Nat.mul_div_cancel _ (Nat.two_pow_pos _), ← hn]
        have := bitsOf_numOf (R.take n)
        rw [hlen h] at this
        rw [this]; rfl
      exact e
  · rw [if_neg (fun hh => h hh.1)]
    have eg : guess c (true :: false :: R) = none := by
      unfold guess
      rw [if_neg (begun_not hb)]
      simp only [hw, true_and, ← hn]
      rw [if_neg h]
    unfold getR
    rw [eg]
theorem bits_inj {n a b : Nat} (ha : a < 2 ^ n) (hb : b < 2 ^ n) (h : bitsOf a n = bitsOf b n) : a = b := by
  have := congrArg numOf h
  rw [numOf_bitsOf, numOf_bitsOf, Nat.mod_eq_of_lt ha, Nat.mod_eq_of_lt hb] at this
  exact this
/-- Two bits 1: a window of its own. -/
theorem getR_new {c : Cd} (hc : c.Ok) (hb : c.begun = true) (R : List Bool) (P Q x d : Nat) (hP : numOf (R.take 5) = P) (hQ : numOf ((R.drop 5).take 6) = Q) (hx : numOf ((R.drop 11).take (Q + 1)) = x) (hd : d = x * 2 ^ (63 - P - Q)) :
    getR c (true :: true :: R) = if 11 ≤ R.length ∧ P + Q + 1 ≤ 64 ∧ Q + 1 ≤ (R.drop 11).length ∧ x ≠ 0 ∧ lead d = P ∧ tail d = 63 - P - Q ∧ ¬ (c.win = true ∧ c.lead ≤ lead d ∧ c.tail ≤ tail d) then some (c.v ^^^ d, 14 + Q) else none := by
  have eg : guess c (true :: true :: R) = if 11 ≤ R.length ∧ P + Q + 1 ≤ 64 ∧ Q + 1 ≤ (R.drop 11).length then some (c.v ^^^ (d % 2 ^ 64), 14 + Q) else none := by
    unfold guess
    rw [if_neg (begun_not hb)]
    simp only [hP, hQ, hx, ← hd]
  by_cases h : 11 ≤ R.length ∧ P + Q + 1 ≤ 64 ∧ Q + 1 ≤ (R.drop 11).length
  · obtain ⟨h1, h2, h3⟩ := h
    rw [if_pos ⟨h1, h2, h3⟩] at eg
    have hXl : ((R.drop 11).take (Q + 1)).length = Q + 1 := by rw [List.length_take, Nat.min_eq_left h3]
    have hm : d < 2 ^ (64 - P) := by
      have := mid_of (l := P) (t := 63 - P - Q) (n := Q + 1) _ hXl (by omega) (by omega)
      rw [hx, ← hd] at this
      exact this
    have hm64 : d < 2 ^ 64 := Nat.lt_of_lt_of_le hm (Nat.pow_le_pow_right (by decide) (by omega))
    rw [Nat.mod_eq_of_lt hm64] at eg
    have ht : (true :: true :: R).take (14 + Q) = true :: true :: (R.take 5 ++ ((R.drop 5).take 6 ++ (R.drop 11).take (Q + 1))) := by
      rw [show 14 + Q = (5 + (6 + (Q + 1))) + 2 by omega]
      simp only [List.take_succ_cons]
      rw [List.take_add, List.take_add, List.drop_drop]
    have hR5 : bitsOf P 5 = R.take 5 := by
      have := bitsOf_numOf (R.take 5)
      rwa [hP, List.length_take, Nat.min_eq_left (by omega)] at this
    have hR6 : bitsOf Q 6 = (R.drop 5).take 6 := by
      have := bitsOf_numOf ((R.drop 5).take 6)
      rwa [hQ, List.length_take, List.length_drop, Nat.min_eq_left (by omega)] at this
    have hRx : bitsOf x (Q + 1) = (R.drop 11).take (Q + 1) := by
      have := bitsOf_numOf ((R.drop 11).take (Q + 1))
      rwa [hx, hXl] at this
    have hPl : P < 2 ^ 5 := by
      have := numOf_lt (R.take 5)
      rwa [hP, List.length_take, Nat.min_eq_left (by omega)] at this
    have hQl : Q < 2 ^ 6 := by
      have := numOf_lt ((R.drop 5).take 6)
      rwa [hQ, List.length_take, List.length_drop, Nat.min_eq_left (by omega)] at this
    by_cases hg : x ≠ 0 ∧ lead d = P ∧ tail d = 63 - P - Q ∧ ¬ (c.win = true ∧ c.lead ≤ lead d ∧ c.tail ≤ tail d)
    · obtain ⟨h4, h5, h6, h7⟩ := hg
      have hd0 : d ≠ 0 := by rw [hd]; exact Nat.ne_of_gt (Nat.mul_pos (Nat.pos_of_ne_zero h4) (Nat.two_pow_pos _))
      have e : putB c (c.v ^^^ d) = true :: true :: (R.take 5 ++ ((R.drop 5).take 6 ++ (R.drop 11).take (Q + 1))) := by
        unfold putB
        rw [if_neg (begun_not hb), xor_back2, if_neg hd0, if_neg h7, h5, h6, show 63 - P - (63 - P - Q) = Q by omega, show 64 - P - (63 - P - Q) = Q + 1 by omega]
        have e3 : d / 2 ^ (63 - P - Q) = x := by rw [hd, Nat.mul_div_cancel _ (Nat.two_pow_pos _)]
        rw [e3, hR5, hR6, hRx]
        simp
      rw [if_pos ⟨h1, h2, h3, h4, h5, h6, h7⟩]
      exact getR_yes eg (by rw [ht]; exact e)
    · rw [if_neg (fun hh => hg hh.2.2.2)]
      refine getR_no eg ?_
      rw [ht]
      intro e
      apply hg
      unfold putB at e
      rw [if_neg (begun_not hb), xor_back2] at e
      by_cases hd0 : d = 0
      · rw [if_pos hd0] at e; simp at e
      · rw [if_neg hd0] at e
        by_cases h7 : c.win = true ∧ c.lead ≤ lead d ∧ c.tail ≤ tail d
        · rw [if_pos h7] at e; simp at e
        · rw [if_neg h7] at e
          have hs := sum_le hm64 (Nat.pos_of_ne_zero hd0)
          have hl31 := lead_le d
          simp only [List.cons_append, List.nil_append, List.cons.injEq, true_and, List.append_assoc] at e
          have e5 := List.append_inj e (by rw [bitsOf_length, List.length_take, Nat.min_eq_left (by omega)])
          have p5 : lead d = P := bits_inj (n := 5) (by omega) hPl (by rw [e5.1, hR5])
          have e6 := List.append_inj e5.2 (by rw [bitsOf_length, List.length_take, List.length_drop, Nat.min_eq_left (by omega)])
          have p6 : 63 - lead d - tail d = Q := bits_inj (n := 6) (by omega) hQl (by rw [e6.1, hR6])
          exact ⟨fun h0 => hd0 (by rw [hd, h0, Nat.zero_mul]), p5, by omega, h7⟩
  · rw [if_neg h] at eg
    rw [if_neg (fun hh => h ⟨hh.1, hh.2.1, hh.2.2.1⟩)]
    unfold getR; rw [eg]
end Xr
end Go.Proofs.YtiimdinefkbhlaaDoor
