/- Rows of patterns, plainly: what is written, and what it costs. Names no function of the program. -/
import Derived.Test.YtiimdinefkbhlaaDoorXorPure
namespace Go.Proofs.YtiimdinefkbhlaaDoor
namespace Xr
open Bit
set_option linter.unusedVariables false

/-- The coder behind a row of patterns. -/
def putsC (c : Cd) : List Nat → Cd
  | [] => c
  | v :: l => putsC (putC c v) l
/-- What is written of a row of patterns. -/
def putsB (c : Cd) : List Nat → List Bool
  | [] => []
  | v :: l => putB c v ++ putsB (putC c v) l
theorem putsC_snoc (v : Nat) : ∀ (l : List Nat) (c : Cd), putsC c (l ++ [v]) = putC (putsC c l) v
  | [], _ => rfl
  | _ :: l, c => putsC_snoc v l _
theorem putsB_snoc (v : Nat) : ∀ (l : List Nat) (c : Cd), putsB c (l ++ [v]) = putsB c l ++ putB (putsC c l) v
  | [], c => by simp [putsB, putsC]
  | a :: l, c => by simp only [List.cons_append, putsB, putsC, putsB_snoc v l, List.append_assoc]
theorem putsC_ok : ∀ (l : List Nat) {c : Cd}, c.Ok → (∀ v ∈ l, v < 2 ^ 64) → (putsC c l).Ok
  | [], _, h, _ => h
  | v :: l, _, h, k => putsC_ok l (h.put (k v (by simp))) fun u hu => k u (by simp [hu])
theorem putsB_len : ∀ (l : List Nat) (c : Cd), (putsB c l).length ≤ 77 * l.length
  | [], _ => by simp [putsB]
  | v :: l, c => by
    have h1 := putB_len (c := c) v
    have h2 := putsB_len l (putC c v)
    simp only [putsB, List.length_append, List.length_cons]
    omega
theorem putsB_drop {l : List Nat} {j : Nat} (h : j < l.length) (c : Cd) : putsB (putsC c (l.take j)) (l.drop j) = putB (putsC c (l.take j)) l[j] ++ putsB (putsC c (l.take (j + 1))) (l.drop (j + 1)) := by
  rw [List.drop_eq_getElem_cons h, List.take_succ_eq_append_getElem h, putsC_snoc]
  rfl
/-- The next pattern is got. -/
theorem get_next {l : List Nat} {j : Nat} (h : j < l.length) {c : Cd} (hc : c.Ok) (hl : ∀ v ∈ l, v < 2 ^ 64) :
    getR (putsC c (l.take j)) (putsB (putsC c (l.take j)) (l.drop j)) = some (l[j], (putB (putsC c (l.take j)) l[j]).length) ∧ (putsB (putsC c (l.take j)) (l.drop j)).drop (putB (putsC c (l.take j)) l[j]).length = putsB (putsC c (l.take (j + 1))) (l.drop (j + 1)) ∧ putC (putsC c (l.take j)) l[j] = putsC c (l.take (j + 1)) := by
  rw [putsB_drop h]
  refine ⟨get_put (putsC_ok _ hc fun v hv => hl v (List.mem_of_mem_take hv)) (hl _ (List.getElem_mem h)) _, by simp, ?_⟩
  rw [List.take_succ_eq_append_getElem h, putsC_snoc]

/-! ### what it costs -/
theorem put_one (v : Nat) : putB newC v = bitsOf v 64 ∧ putC newC v = ⟨true, v, false, 0, 0⟩ := ⟨rfl, rfl⟩
theorem bitsOf_len (v n : Nat) : (bitsOf v n).length = n := bitsOf_length _ _
/-- A pattern once more. -/
theorem put_again {c : Cd} (hb : c.begun = true) : putB c c.v = [false] ∧ putC c c.v = c := by
  constructor
  · unfold putB; rw [if_neg (by simp [hb]), if_pos (Nat.xor_self _)]
  · unfold putC; rw [if_neg (by simp [hb]), if_pos (Nat.xor_self _)]
/-- Patterns that stay the same. -/
theorem puts_same (v : Nat) : ∀ n, (putsB newC (List.replicate (n + 1) v)).length = 64 + n ∧ putsC newC (List.replicate (n + 1) v) = ⟨true, v, false, 0, 0⟩
  | 0 => ⟨by simp [putsB, put_one, bitsOf_len], rfl⟩
  | n + 1 => by
    obtain ⟨h1, h2⟩ := puts_same v n
    have e : List.replicate (n + 1 + 1) v = List.replicate (n + 1) v ++ [v] := List.replicate_succ'
    obtain ⟨k1, k2⟩ := put_again (c := ⟨true, v, false, 0, 0⟩) rfl
    rw [e, putsB_snoc, putsC_snoc, h2]
    refine ⟨?_, k2⟩
    rw [List.length_append, h1]
    have : (putB ⟨true, v, false, 0, 0⟩ v) = [false] := k1
    rw [this]
    rfl
theorem lead_ge {d l : Nat} (hl : l ≤ 31) (h : d < 2 ^ (64 - l)) : l ≤ lead d := by
  refine Nat.le_of_not_lt fun hlt => ?_
  have h1 := lead_stop (d := d) (by omega)
  have h2 : 2 ^ (64 - l) ≤ 2 ^ (63 - lead d) := Nat.pow_le_pow_right (by decide) (by omega)
  omega
/-- A number with bits 40 and 0. -/
theorem big_or {a : Nat} (ha : a < 2 ^ 64) : (a ||| 2 ^ 40 ||| 1) < 2 ^ 64 ∧ lead (a ||| 2 ^ 40 ||| 1) ≤ 23 ∧ tail (a ||| 2 ^ 40 ||| 1) = 0 ∧ (a ||| 2 ^ 40 ||| 1) ≠ 0 := by
  have h1 : (a ||| 2 ^ 40 ||| 1) < 2 ^ 64 := Nat.or_lt_two_pow (Nat.or_lt_two_pow ha (by decide)) (by decide)
  have h2 : (a ||| 2 ^ 40 ||| 1).testBit 40 = true := by rw [Nat.testBit_or, Nat.testBit_or, Nat.testBit_two_pow_self]; simp
  have h3 : 2 ^ 40 ≤ (a ||| 2 ^ 40 ||| 1) := Nat.ge_two_pow_of_testBit h2
  have h4 : (a ||| 2 ^ 40 ||| 1).testBit 0 = true := by simp
  generalize (a ||| 2 ^ 40 ||| 1) = A at *
  refine ⟨h1, ?_, ?_, by omega⟩
  · refine Nat.le_of_not_lt fun hlt => ?_
    have h5 := lead_lt h1
    have h6 : 2 ^ (64 - lead A) ≤ 2 ^ 40 := Nat.pow_le_pow_right (by decide) (by omega)
    omega
  · refine Nat.eq_zero_of_not_pos fun hp => ?_
    have h5 := tail_low A 0 hp
    rw [Nat.testBit_zero] at h4
    simp at h4 h5
    omega
theorem xor_left (a b : Nat) : (a ^^^ b) ^^^ a = b := by rw [Nat.xor_comm (a ^^^ b), ← Nat.xor_assoc, Nat.xor_self, Nat.zero_xor]
/-- The second pattern. -/
theorem put_two {v A : Nat} (hA : A ≠ 0) (h : tail A = 0) : (putB ⟨true, v, false, 0, 0⟩ (v ^^^ A)).length = 13 + 64 - lead A ∧ putC ⟨true, v, false, 0, 0⟩ (v ^^^ A) = ⟨true, v ^^^ A, true, lead A, 0⟩ := by
  have hl := lead_le A
  constructor
  · unfold putB
    rw [if_neg (by simp), xor_left, if_neg hA, if_neg (by simp), h]
    simp only [List.length_append, bitsOf_len, List.length_cons, List.length_nil]
    omega
  · unfold putC
    rw [if_neg (by simp), xor_left, if_neg hA, if_neg (by simp), h]
/-- The third one lies within the window. -/
theorem put_three {V l d : Nat} (hl : l ≤ 31) (hd : d < 2 ^ (64 - l)) : (putB ⟨true, V, true, l, 0⟩ (V ^^^ d)).length = if d = 0 then 1 else 2 + 64 - l := by
  have h1 := lead_ge hl hd
  unfold putB
  rw [if_neg (by simp), xor_left]
  by_cases h0 : d = 0
  · rw [if_pos h0, if_pos h0]; rfl
  · rw [if_neg h0, if_pos ⟨rfl, h1, Nat.zero_le _⟩, if_neg h0]
    simp only [List.length_append, bitsOf_len, List.length_cons, List.length_nil]
    omega
/-- The row that the law's 'works' writes. -/
theorem works_puts : (putsB newC [0, 0]).length = 65 ∧ (putsB newC [0, 0, 1]).length = 111 := by decide +kernel
end Xr
end Go.Proofs.YtiimdinefkbhlaaDoor
