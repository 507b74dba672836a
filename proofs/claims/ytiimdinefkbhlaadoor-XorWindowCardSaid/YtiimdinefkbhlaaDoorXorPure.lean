/- Patterns as plain data (layer 7): lead and tail, what is written of a pattern, what is read. Names no function of the program. -/
import Derived.Test.YtiimdinefkbhlaaDoorPBit2
namespace Go.Proofs.YtiimdinefkbhlaaDoor
namespace Xr
open Bit
set_option linter.unusedVariables false

/-! ### lead, tail -/
def upTo (p : Nat → Bool) : Nat → Nat → Nat
  | 0, n => n
  | m + 1, n => if p n then upTo p m (n + 1) else n
theorem upTo_le (p : Nat → Bool) : ∀ m n, upTo p m n ≤ n + m
  | 0, n => Nat.le_refl _
  | m + 1, n => by
    unfold upTo
    split
    · have := upTo_le p m (n + 1); omega
    · omega
theorem upTo_ge (p : Nat → Bool) : ∀ m n, n ≤ upTo p m n
  | 0, n => Nat.le_refl _
  | m + 1, n => by
    unfold upTo
    split
    · have := upTo_ge p m (n + 1); omega
    · omega
theorem upTo_all (p : Nat → Bool) : ∀ m n i, n ≤ i → i < upTo p m n → p i = true
  | 0, n, i, h1, h2 => by unfold upTo at h2; omega
  | m + 1, n, i, h1, h2 => by
    unfold upTo at h2
    split at h2
    · rename_i hp
      by_cases e : i = n
      · rw [e]; exact hp
      · exact upTo_all p m (n + 1) i (by omega) h2
    · omega
theorem upTo_stop (p : Nat → Bool) : ∀ m n, upTo p m n < n + m → p (upTo p m n) = false
  | 0, n, h => by unfold upTo at h; omega
  | m + 1, n, h => by
    unfold upTo at h ⊢
    split at h
    · rename_i hp
      rw [if_pos hp]
      exact upTo_stop p m (n + 1) (by omega)
    · rename_i hp
      rw [if_neg hp]
      simpa using hp
theorem upTo_is (p : Nat → Bool) (m k : Nat) (hk : k ≤ m) (h1 : ∀ i, i < k → p i = true) (h2 : k < m → p k = false) : upTo p m 0 = k := by
  have ha := upTo_all p m 0
  have hs := upTo_stop p m 0
  have hl := upTo_le p m 0
  rcases Nat.lt_trichotomy (upTo p m 0) k with h | h | h
  · have := hs (by omega); rw [h1 _ h] at this; cases this
  · exact h
  · have := ha k (by omega) h; rw [h2 (by omega)] at this; cases this
/-- How many bits 0 a number of 64 bits begins with, 31 at most. -/
def lead (d : Nat) : Nat := upTo (fun n => d / 2 ^ (63 - n) == 0) 31 0
/-- How many it ends with, 63 at most. -/
def tail (d : Nat) : Nat := upTo (fun n => d / 2 ^ n % 2 == 0) 63 0
theorem lead_le (d : Nat) : lead d ≤ 31 := by have := upTo_le (fun n => d / 2 ^ (63 - n) == 0) 31 0; unfold lead; omega
theorem tail_le (d : Nat) : tail d ≤ 63 := by have := upTo_le (fun n => d / 2 ^ n % 2 == 0) 63 0; unfold tail; omega
theorem lead_lt {d : Nat} (hd : d < 2 ^ 64) : d < 2 ^ (64 - lead d) := by
  by_cases h : lead d = 0
  · rw [h]; exact hd
  · have := upTo_all (fun n => d / 2 ^ (63 - n) == 0) 31 0 (lead d - 1) (Nat.zero_le _) (by unfold lead at h ⊢; omega)
    have h2 : d / 2 ^ (63 - (lead d - 1)) = 0 := by simpa using this
    have h3 : 63 - (lead d - 1) = 64 - lead d := by omega
    rw [h3] at h2
    exact (Nat.div_eq_zero_iff_lt (Nat.two_pow_pos _)).1 h2
theorem lead_stop {d : Nat} (h : lead d < 31) : 2 ^ (63 - lead d) ≤ d := by
  have := upTo_stop (fun n => d / 2 ^ (63 - n) == 0) 31 0 (by unfold lead at h; omega)
  have h2 : ¬ d / 2 ^ (63 - lead d) = 0 := by unfold lead; simpa using this
  rw [Nat.div_eq_zero_iff_lt (Nat.two_pow_pos _)] at h2
  omega
/-- Bit by bit: all that is below the tail is 0. -/
theorem tail_low (d i : Nat) (h : i < tail d) : d / 2 ^ i % 2 = 0 := by
  have := upTo_all (fun n => d / 2 ^ n % 2 == 0) 63 0 i (Nat.zero_le _) h
  simpa using this
theorem dvd_of_low (d : Nat) : ∀ t, (∀ i, i < t → d / 2 ^ i % 2 = 0) → 2 ^ t ∣ d
  | 0, _ => Nat.one_dvd _
  | t + 1, h => by
    obtain ⟨q, hq⟩ := dvd_of_low d t fun i hi => h i (by omega)
    have h1 := h t (by omega)
    rw [hq, Nat.mul_div_cancel_left _ (Nat.two_pow_pos t)] at h1
    refine ⟨q / 2, ?_⟩
    have : q = 2 * (q / 2) := by omega
    rw [Nat.pow_succ, Nat.mul_assoc, ← this]
    exact hq
theorem tail_dvd (d : Nat) : 2 ^ tail d ∣ d := dvd_of_low d _ (tail_low d)
theorem dvd_le {d t u : Nat} (h : 2 ^ u ∣ d) (htu : t ≤ u) : 2 ^ t ∣ d := Nat.dvd_trans (Nat.pow_dvd_pow 2 htu) h
theorem tail_odd {d : Nat} (hd : d < 2 ^ 64) (h0 : 0 < d) : d / 2 ^ tail d % 2 = 1 := by
  by_cases h : tail d < 63
  · have := upTo_stop (fun n => d / 2 ^ n % 2 == 0) 63 0 (by unfold tail at h; omega)
    have h2 : ¬ d / 2 ^ tail d % 2 = 0 := by unfold tail; simpa using this
    omega
  · have h63 : tail d = 63 := by have := tail_le d; omega
    obtain ⟨q, hq⟩ := tail_dvd d
    rw [h63] at hq ⊢
    rw [hq, Nat.mul_div_cancel_left _ (Nat.two_pow_pos 63)]
    have : q < 2 := by
      rw [hq] at hd
      have : (2 : Nat) ^ 64 = 2 ^ 63 * 2 := by decide
      rw [this] at hd
      exact Nat.lt_of_mul_lt_mul_left hd
    have : q ≠ 0 := by rintro rfl; simp at hq; omega
    omega
theorem sum_le {d : Nat} (hd : d < 2 ^ 64) (h0 : 0 < d) : lead d + tail d ≤ 63 := by
  obtain ⟨q, hq⟩ := tail_dvd d
  have hq0 : 0 < q := by
    rcases Nat.eq_zero_or_pos q with h | h
    · rw [h] at hq; simp at hq; omega
    · exact h
  have h1 : 2 ^ tail d ≤ d := Nat.le_of_dvd h0 (tail_dvd d)
  have h2 := lead_lt hd
  have h3 : 2 ^ tail d < 2 ^ (64 - lead d) := Nat.lt_of_le_of_lt h1 h2
  have h4 := (Nat.pow_lt_pow_iff_right (by decide : 1 < 2)).1 h3
  have := lead_le d
  omega
/-- What stands between lead and tail. -/
theorem mid_lt {d l t : Nat} (h : d < 2 ^ (64 - l)) (hlt : l + t ≤ 64) : d / 2 ^ t < 2 ^ (64 - l - t) := by
  rw [Nat.div_lt_iff_lt_mul (Nat.two_pow_pos _), ← Nat.pow_add]
  have : 64 - l - t + t = 64 - l := by omega
  rw [this]; exact h
theorem mid_back {d t : Nat} (h : 2 ^ t ∣ d) : d / 2 ^ t * 2 ^ t = d := Nat.div_mul_cancel h

/-! ### the coder -/
structure Cd where
  begun : Bool
  v : Nat
  win : Bool
  lead : Nat
  tail : Nat
def newC : Cd := ⟨false, 0, false, 0, 0⟩
/-- What is written of a pattern. -/
def putB (c : Cd) (v : Nat) : List Bool :=
  if c.begun = false then bitsOf v 64 else
  if v ^^^ c.v = 0 then [false] else
  if c.win = true ∧ c.lead ≤ lead (v ^^^ c.v) ∧ c.tail ≤ tail (v ^^^ c.v) then [true, false] ++ bitsOf ((v ^^^ c.v) / 2 ^ c.tail) (64 - c.lead - c.tail) else
  [true, true] ++ bitsOf (lead (v ^^^ c.v)) 5 ++ bitsOf (63 - lead (v ^^^ c.v) - tail (v ^^^ c.v)) 6 ++ bitsOf ((v ^^^ c.v) / 2 ^ tail (v ^^^ c.v)) (64 - lead (v ^^^ c.v) - tail (v ^^^ c.v))
def putC (c : Cd) (v : Nat) : Cd :=
  if c.begun = false then { c with begun := true, v := v } else
  if v ^^^ c.v = 0 then { c with v := v } else
  if c.win = true ∧ c.lead ≤ lead (v ^^^ c.v) ∧ c.tail ≤ tail (v ^^^ c.v) then { c with v := v } else
  { begun := true, v := v, win := true, lead := lead (v ^^^ c.v), tail := tail (v ^^^ c.v) }
structure Cd.Ok (c : Cd) : Prop where
  v : c.v < 2 ^ 64
  lead : c.lead ≤ 31
  sum : c.lead + c.tail ≤ 63
theorem ok_new : newC.Ok := ⟨by decide, by decide, by decide⟩
theorem xor_lt {a b : Nat} (ha : a < 2 ^ 64) (hb : b < 2 ^ 64) : a ^^^ b < 2 ^ 64 := Nat.xor_lt_two_pow ha hb
theorem xor_pos {a b : Nat} (h : ¬ a ^^^ b = 0) : 0 < a ^^^ b := Nat.pos_of_ne_zero h
theorem Cd.Ok.put {c : Cd} (h : c.Ok) {v : Nat} (hv : v < 2 ^ 64) : (putC c v).Ok := by
  unfold putC
  split
  · exact ⟨hv, h.lead, h.sum⟩
  split
  · exact ⟨hv, h.lead, h.sum⟩
  split
  · exact ⟨hv, h.lead, h.sum⟩
  · rename_i h0 _
    exact ⟨hv, lead_le _, sum_le (xor_lt hv h.v) (xor_pos h0)⟩
theorem putB_len {c : Cd} (v : Nat) : (putB c v).length ≤ 77 := by
  unfold putB
  split
  · rw [bitsOf_length]; omega
  split
  · simp
  split
  · rw [List.length_append, bitsOf_length]; simp; omega
  · simp only [List.length_append, bitsOf_length]; simp; omega
theorem putB_pos {c : Cd} (v : Nat) : 0 < (putB c v).length := by
  unfold putB
  split
  · rw [bitsOf_length]; omega
  split
  · simp
  split
  · simp
  · simp

/-- What the next bits tell, if they are what is written of a pattern: the pattern, how many bits. -/
def guess (c : Cd) (K : List Bool) : Option (Nat × Nat) :=
  if c.begun = false then (if 64 ≤ K.length then some (numOf (K.take 64), 64) else none) else
  match K with
  | [] => none
  | false :: _ => some (c.v, 1)
  | [true] => none
  | true :: false :: R => if c.win = true ∧ 64 - c.lead - c.tail ≤ R.length then some (c.v ^^^ (numOf (R.take (64 - c.lead - c.tail)) * 2 ^ c.tail % 2 ^ 64), 66 - c.lead - c.tail) else none
  | true :: true :: R =>
    if 11 ≤ R.length ∧ numOf (R.take 5) + numOf ((R.drop 5).take 6) + 1 ≤ 64 ∧ numOf ((R.drop 5).take 6) + 1 ≤ (R.drop 11).length then
      some (c.v ^^^ (numOf ((R.drop 11).take (numOf ((R.drop 5).take 6) + 1)) * 2 ^ (63 - numOf (R.take 5) - numOf ((R.drop 5).take 6)) % 2 ^ 64), 14 + numOf ((R.drop 5).take 6)) else none
/-- What is read. -/
def getR (c : Cd) (K : List Bool) : Option (Nat × Nat) :=
  match guess c K with
  | none => none
  | some (v, n) => if putB c v = K.take n then some (v, n) else none
theorem guess_put {c : Cd} (hc : c.Ok) {v : Nat} (hv : v < 2 ^ 64) (R : List Bool) : guess c (putB c v ++ R) = some (v, (putB c v).length) := by
  unfold guess putB
  by_cases h1 : c.begun = false
  · rw [if_pos h1, if_pos h1, if_pos (by rw [List.length_append, bitsOf_length]; omega), List.take_left' (bitsOf_length v 64), numOf_bitsOf, bitsOf_length, Nat.mod_eq_of_lt hv]
  · rw [if_neg h1, if_neg h1]
    by_cases h2 : v ^^^ c.v = 0
    · rw [if_pos h2]
      have : c.v = v := by
        have e : c.v ^^^ (v ^^^ c.v) = v := by rw [Nat.xor_comm v, ← Nat.xor_assoc, Nat.xor_self, Nat.zero_xor]
        rw [h2, Nat.xor_zero] at e
        exact e
      rw [← this]
      rfl
    · rw [if_neg h2]
      have hd := xor_lt hv hc.v
      have hp := xor_pos h2
      have hback : c.v ^^^ (v ^^^ c.v) = v := by rw [Nat.xor_comm v, ← Nat.xor_assoc, Nat.xor_self, Nat.zero_xor]
      generalize v ^^^ c.v = d at *
      have hl := lead_lt hd
      have hs := sum_le hd hp
      have hsum := hc.sum
      by_cases h3 : c.win = true ∧ c.lead ≤ lead d ∧ c.tail ≤ tail d
      · rw [if_pos h3]
        have hm : d / 2 ^ c.tail < 2 ^ (64 - c.lead - c.tail) := mid_lt (Nat.lt_of_lt_of_le hl (Nat.pow_le_pow_right (by decide) (by omega))) (by omega)
        have hb := mid_back (dvd_le (tail_dvd d) h3.2.2)
        have hcut : [true, false] ++ bitsOf (d / 2 ^ c.tail) (64 - c.lead - c.tail) ++ R = true :: false :: (bitsOf (d / 2 ^ c.tail) (64 - c.lead - c.tail) ++ R) := by simp
        rw [hcut]
        show (if c.win = true ∧ 64 - c.lead - c.tail ≤ (bitsOf (d / 2 ^ c.tail) (64 - c.lead - c.tail) ++ R).length then some (c.v ^^^ (numOf ((bitsOf (d / 2 ^ c.tail) (64 - c.lead - c.tail) ++ R).take (64 - c.lead - c.tail)) * 2 ^ c.tail % 2 ^ 64), 66 - c.lead - c.tail) else none) = _
        rw [if_pos ⟨h3.1, by rw [List.length_append, bitsOf_length]; omega⟩, List.take_left' (bitsOf_length _ _), numOf_bitsOf, Nat.mod_eq_of_lt hm, hb, Nat.mod_eq_of_lt hd, hback]
        simp only [List.length_append, bitsOf_length, List.length_cons, List.length_nil]
        congr 2
        omega
      · rw [if_neg h3]
        have hm : d / 2 ^ tail d < 2 ^ (64 - lead d - tail d) := mid_lt hl (by omega)
        have hb := mid_back (tail_dvd d)
        have hll := lead_le d
        generalize lead d = a at *
        generalize tail d = b at *
        have e5 : numOf (bitsOf a 5) = a := by rw [numOf_bitsOf, Nat.mod_eq_of_lt (by omega)]
        have e6 : numOf (bitsOf (63 - a - b) 6) = 63 - a - b := by rw [numOf_bitsOf, Nat.mod_eq_of_lt (by omega)]
        obtain ⟨Q, hQ⟩ : ∃ Q, Q = bitsOf a 5 ++ (bitsOf (63 - a - b) 6 ++ (bitsOf (d / 2 ^ b) (64 - a - b) ++ R)) := ⟨_, rfl⟩
        have hcut : [true, true] ++ bitsOf a 5 ++ bitsOf (63 - a - b) 6 ++ bitsOf (d / 2 ^ b) (64 - a - b) ++ R = true :: true :: Q := by rw [hQ]; simp
        have t5 : Q.take 5 = bitsOf a 5 := by rw [hQ, List.take_left' (bitsOf_length _ _)]
        have d5 : Q.drop 5 = bitsOf (63 - a - b) 6 ++ (bitsOf (d / 2 ^ b) (64 - a - b) ++ R) := by rw [hQ, List.drop_left' (bitsOf_length _ _)]
        have d11 : Q.drop 11 = bitsOf (d / 2 ^ b) (64 - a - b) ++ R := by
          rw [show (11 : Nat) = 5 + 6 by rfl, ← List.drop_drop, d5, List.drop_left' (bitsOf_length _ _)]
        have hlen : Q.length = 11 + (64 - a - b) + R.length := by rw [hQ]; simp only [List.length_append, bitsOf_length]; omega
        rw [hcut]
        show (if 11 ≤ Q.length ∧ numOf (Q.take 5) + numOf ((Q.drop 5).take 6) + 1 ≤ 64 ∧ numOf ((Q.drop 5).take 6) + 1 ≤ (Q.drop 11).length then _ else _) = _
        have t6 : numOf ((Q.drop 5).take 6) = 63 - a - b := by rw [d5, List.take_left' (bitsOf_length _ _), e6]
        rw [t6, t5, e5, d11]
        rw [if_pos ⟨by omega, by omega, by rw [List.length_append, bitsOf_length]; omega⟩]
        rw [show 63 - a - b + 1 = 64 - a - b by omega, List.take_left' (bitsOf_length _ _), numOf_bitsOf, Nat.mod_eq_of_lt hm, show 63 - a - (63 - a - b) = b by omega, hb, Nat.mod_eq_of_lt hd, hback]
        simp only [List.length_append, bitsOf_length, List.length_cons, List.length_nil]
        congr 2
        omega
/-- What is written is read again. -/
theorem get_put {c : Cd} (hc : c.Ok) {v : Nat} (hv : v < 2 ^ 64) (R : List Bool) : getR c (putB c v ++ R) = some (v, (putB c v).length) := by
  unfold getR
  rw [guess_put hc hv R]
  simp
theorem get_nil (c : Cd) : getR c [] = none := by
  unfold getR guess
  split
  · rfl
  · rename_i h
    split at h
    · simp at h
    · simp at h
theorem get_le {c : Cd} {K : List Bool} {v n : Nat} (h : getR c K = some (v, n)) : n ≤ K.length ∧ (putB c v).length = n ∧ K.take n = putB c v := by
  unfold getR at h
  cases hg : guess c K with
  | none => rw [hg] at h; simp at h
  | some x =>
    obtain ⟨v', n'⟩ := x
    rw [hg] at h
    simp only at h
    split at h
    · rename_i he
      simp at h
      obtain ⟨rfl, rfl⟩ := h
      have hn : n' ≤ K.length := by
        unfold guess at hg
        split at hg
        · split at hg
          · simp at hg; omega
          · simp at hg
        · split at hg
          · simp at hg
          · simp at hg; simp; omega
          · simp at hg
          · split at hg
            · rename_i hh; simp at hg; simp; omega
            · simp at hg
          · split at hg
            · rename_i hh; simp at hg hh; simp; omega
            · simp at hg
      exact ⟨hn, by rw [he, List.length_take]; omega, he.symm⟩
    · simp at h
theorem guess_lt {c : Cd} (hc : c.Ok) {K : List Bool} {v n : Nat} (h : guess c K = some (v, n)) : v < 2 ^ 64 := by
  unfold guess at h
  split at h
  · split at h
    · simp at h
      have := numOf_lt (K.take 64)
      rw [List.length_take, Nat.min_eq_left (by omega)] at this
      rw [← h.1]; exact this
    · simp at h
  · split at h
    · simp at h
    · simp at h; rw [← h.1]; exact hc.v
    · simp at h
    · split at h
      · simp only [Option.some.injEq, Prod.mk.injEq] at h
        rw [← h.1]; exact xor_lt hc.v (Nat.mod_lt _ (by decide))
      · simp at h
    · split at h
      · simp only [Option.some.injEq, Prod.mk.injEq] at h
        rw [← h.1]; exact xor_lt hc.v (Nat.mod_lt _ (by decide))
      · simp at h
end Xr
end Go.Proofs.YtiimdinefkbhlaaDoor
