/- Plain facts on numbers as bytes (layer digits): a number's digits in the base 256, got again, in order. No condition but those that each lemma states. No Go text is named here. -/
import Derived.IntWalk
namespace Go.Proofs.YtcjfnkgjjhlbnaaDoor
namespace Dig

/-- The k low digits of n in the base 256, the highest first. -/
def low : Nat → Nat → List UInt8
  | 0, _ => []
  | k + 1, n => UInt8.ofNat (n / 256 ^ k % 256) :: low k n
/-- How many digits n has. -/
def nd (n : Nat) : Nat :=
  if n < 1 then 0 else if n < 256 then 1 else if n < 65536 then 2 else if n < 16777216 then 3 else if n < 4294967296 then 4
  else if n < 1099511627776 then 5 else if n < 281474976710656 then 6 else if n < 72057594037927936 then 7 else 8
def dig (n : Nat) : List UInt8 := low (nd n) n
/-- A number's bytes. -/
def numL (n : Nat) : List UInt8 := UInt8.ofNat (nd n) :: dig n
/-- What digits are worth. -/
def valL (l : List UInt8) : Nat := l.foldl (fun a b => 256 * a + b.toNat) 0

theorem nd_le (n : Nat) : nd n ≤ 8 := by unfold nd; repeat' split <;> try omega
theorem low_length (k n : Nat) : (low k n).length = k := by
  induction k with
  | zero => rfl
  | succ k ih => simp [low, ih]
theorem dig_length (n : Nat) : (dig n).length = nd n := low_length _ _
theorem numL_length (n : Nat) : (numL n).length = nd n + 1 := by simp [numL, dig_length]
theorem nd_lt (n : Nat) (h : n < 18446744073709551616) : n < 256 ^ nd n := by
  unfold nd
  repeat' split
  all_goals first | (simp; omega) | omega
theorem nd_pos_ge (n : Nat) (h : 0 < nd n) : 256 ^ (nd n - 1) ≤ n := by
  revert h
  unfold nd
  repeat' split
  all_goals intro h
  all_goals first | (simp at h; done) | (simp; omega)
theorem nd_zero (n : Nat) (h : nd n = 0) : n = 0 := by
  unfold nd at h
  repeat' (split at h)
  all_goals first | omega | (simp at h)
/-- nd from the bounds. -/
theorem nd_eq (n k : Nat) (hk : k ≤ 8) (h1 : n < 256 ^ k) (h2 : 0 < k → 256 ^ (k - 1) ≤ n) : nd n = k := by
  have : k = 0 ∨ k = 1 ∨ k = 2 ∨ k = 3 ∨ k = 4 ∨ k = 5 ∨ k = 6 ∨ k = 7 ∨ k = 8 := by omega
  unfold nd
  rcases this with rfl | rfl | rfl | rfl | rfl | rfl | rfl | rfl | rfl <;> simp at h1 h2 <;> (repeat' split) <;> omega

theorem foldl_val (l : List UInt8) (a : Nat) : l.foldl (fun a b => 256 * a + b.toNat) a = a * 256 ^ l.length + valL l := by
  induction l generalizing a with
  | nil => simp [valL]
  | cons d l ih =>
    simp only [List.foldl_cons, valL, List.length_cons]
    rw [ih, ih (256 * 0 + d.toNat)]
    simp only [Nat.pow_succ, Nat.mul_zero, Nat.zero_add, Nat.add_mul]
    have : a * (256 ^ l.length * 256) = 256 * a * 256 ^ l.length := by rw [Nat.mul_comm (256 ^ l.length), ← Nat.mul_assoc, Nat.mul_comm a]
    omega
theorem val_cons (d : UInt8) (l : List UInt8) : valL (d :: l) = d.toNat * 256 ^ l.length + valL l := by
  have := foldl_val l (256 * 0 + d.toNat)
  simp only [Nat.mul_zero, Nat.zero_add] at this
  simpa [valL] using this
theorem val_snoc (l : List UInt8) (d : UInt8) : valL (l ++ [d]) = 256 * valL l + d.toNat := by simp [valL]
theorem val_lt (l : List UInt8) : valL l < 256 ^ l.length := by
  induction l with
  | nil => simp [valL]
  | cons d l ih =>
    rw [val_cons, List.length_cons, Nat.pow_succ]
    have hd : d.toNat ≤ 255 := by have := d.toNat_lt; omega
    have := Nat.mul_le_mul_right (256 ^ l.length) hd
    omega
theorem toNat_digit (n k : Nat) : (UInt8.ofNat (n / 256 ^ k % 256)).toNat = n / 256 ^ k % 256 := by
  rw [UInt8.toNat_ofNat']
  exact Nat.mod_eq_of_lt (by have := Nat.mod_lt (n / 256 ^ k) (show 0 < 256 by omega); simpa using this)
theorem val_low (k n : Nat) : valL (low k n) = n % 256 ^ k := by
  induction k with
  | zero => simp [low, valL, Nat.mod_one]
  | succ k ih =>
    rw [low, val_cons, ih, low_length, toNat_digit, Nat.mod_pow_succ, Nat.mul_comm]
    omega
theorem val_dig (n : Nat) (h : n < 18446744073709551616) : valL (dig n) = n := by
  rw [dig, val_low, Nat.mod_eq_of_lt (nd_lt n h)]
theorem low_val (l : List UInt8) : low l.length (valL l) = l := by
  have key : ∀ (l : List UInt8) (m : Nat), low l.length (m * 256 ^ l.length + valL l) = l := by
    intro l
    induction l with
    | nil => intro m; rfl
    | cons d l ih =>
      intro m
      rw [List.length_cons, low, val_cons]
      have hl := val_lt l
      have e1 : m * 256 ^ (l.length + 1) + (d.toNat * 256 ^ l.length + valL l) = (m * 256 + d.toNat) * 256 ^ l.length + valL l := by
        rw [Nat.pow_succ, Nat.add_mul, Nat.mul_assoc m 256, Nat.mul_comm 256]
        omega
      rw [e1, ih]
      congr 1
      rw [Nat.add_comm, Nat.add_mul_div_right _ _ (Nat.pow_pos (by omega)), Nat.div_eq_of_lt hl, Nat.zero_add]
      have hd := d.toNat_lt
      have : (m * 256 + d.toNat) % 256 = d.toNat := by omega
      rw [this]
      simp
  have := key l 0
  simpa using this
/-- Digits of which the first is not 0 are those of what they are worth. -/
theorem nd_val (d : UInt8) (l : List UInt8) (hd : d ≠ 0) (hl : l.length < 8) : nd (valL (d :: l)) = l.length + 1 := by
  apply nd_eq _ _ (by omega)
  · simpa using val_lt (d :: l)
  · intro _
    rw [val_cons, Nat.add_sub_cancel]
    have : 1 ≤ d.toNat := by
      have : d.toNat ≠ 0 := fun h => hd (by rw [← UInt8.toNat_inj]; simpa using h)
      omega
    have := Nat.mul_le_mul_right (256 ^ l.length) this
    omega
theorem dig_val (d : UInt8) (l : List UInt8) (hd : d ≠ 0) (hl : l.length < 8) : dig (valL (d :: l)) = d :: l := by
  rw [dig, nd_val d l hd hl]
  exact low_val (d :: l)
/-- The first digit is not 0. -/
theorem dig_head (n : Nat) (h : n < 18446744073709551616) (hp : 0 < nd n) : ∃ d l, dig n = d :: l ∧ d ≠ 0 ∧ l.length + 1 = nd n := by
  obtain ⟨k, hk⟩ : ∃ k, nd n = k + 1 := ⟨nd n - 1, by omega⟩
  refine ⟨UInt8.ofNat (n / 256 ^ k % 256), low k n, by rw [dig, hk]; rfl, ?_, by rw [low_length, hk]⟩
  have h1 := nd_lt n h
  have h2 := nd_pos_ge n hp
  rw [hk] at h1 h2
  rw [Nat.add_sub_cancel] at h2
  have h3 : n / 256 ^ k < 256 := by
    rw [Nat.div_lt_iff_lt_mul (Nat.pow_pos (by omega))]
    rw [Nat.pow_succ] at h1
    omega
  have h4 : 0 < n / 256 ^ k := Nat.div_pos h2 (Nat.pow_pos (by omega))
  intro he
  have h5 := congrArg UInt8.toNat he
  rw [toNat_digit] at h5
  simp at h5
  omega
theorem low_snoc (k n : Nat) : low (k + 1) n = low k (n / 256) ++ [UInt8.ofNat (n % 256)] := by
  induction k with
  | zero => simp [low]
  | succ k ih =>
    rw [low, ih, low]
    simp only [List.cons_append, List.cons.injEq, and_true]
    rw [Nat.pow_succ, Nat.mul_comm, ← Nat.div_div_eq_div_mul]
theorem nd_le7 (n : Nat) (h : n < 72057594037927936) : nd n ≤ 7 := by
  unfold nd
  repeat' split
  all_goals omega
theorem nd_step (n : Nat) (h0 : 0 < n) (h : n < 18446744073709551616) : nd n = nd (n / 256) + 1 := by
  have h7 := nd_le7 (n / 256) (by omega)
  have h1 := nd_lt (n / 256) (by omega)
  have h2 := nd_pos_ge (n / 256)
  have h3 := nd_zero (n / 256)
  generalize nd (n / 256) = k at *
  apply nd_eq _ _ (by omega)
  · rw [Nat.pow_succ]
    omega
  · intro _
    rw [Nat.add_sub_cancel]
    cases k with
    | zero => simp; omega
    | succ k =>
      have := h2 (by omega)
      rw [Nat.add_sub_cancel] at this
      rw [Nat.pow_succ]
      omega
theorem dig_snoc (n : Nat) (h0 : 0 < n) (h : n < 18446744073709551616) : dig n = dig (n / 256) ++ [UInt8.ofNat (n % 256)] := by
  rw [dig, nd_step n h0 h, low_snoc]; rfl
theorem dig_zero : dig 0 = [] := rfl

/-- What stands at the front of bytes: the number, in how many bytes, and the error (0: none; 1: short; 2: range; 3: field). -/
def gotN : List UInt8 → Nat × Nat × Nat
  | [] => (0, 0, 1)
  | c :: r => if 8 < c.toNat then (0, 0, 2) else if r.length < c.toNat then (0, 0, 1) else if 0 < c.toNat ∧ r.head? = some 0 then (0, 0, 3)
    else (valL (r.take c.toNat), c.toNat + 1, 0)
theorem gotN_cons (c : UInt8) (r : List UInt8) : gotN (c :: r) = if 8 < c.toNat then (0, 0, 2) else if r.length < c.toNat then (0, 0, 1) else if 0 < c.toNat ∧ r.head? = some 0 then (0, 0, 3)
    else (valL (r.take c.toNat), c.toNat + 1, 0) := rfl
theorem gotN_range {c : UInt8} {r : List UInt8} (h : 8 < c.toNat) : gotN (c :: r) = (0, 0, 2) := by rw [gotN_cons, if_pos h]
theorem gotN_short {c : UInt8} {r : List UInt8} (h : ¬ 8 < c.toNat) (h2 : r.length < c.toNat) : gotN (c :: r) = (0, 0, 1) := by rw [gotN_cons, if_neg h, if_pos h2]
theorem gotN_field {c : UInt8} {r : List UInt8} (h : ¬ 8 < c.toNat) (h2 : ¬ r.length < c.toNat) (h3 : 0 < c.toNat ∧ r.head? = some 0) : gotN (c :: r) = (0, 0, 3) := by rw [gotN_cons, if_neg h, if_neg h2, if_pos h3]
theorem gotN_ok {c : UInt8} {r : List UInt8} (h : ¬ 8 < c.toNat) (h2 : ¬ r.length < c.toNat) (h3 : ¬ (0 < c.toNat ∧ r.head? = some 0)) : gotN (c :: r) = (valL (r.take c.toNat), c.toNat + 1, 0) := by rw [gotN_cons, if_neg h, if_neg h2, if_neg h3]
theorem gotN_lt (l : List UInt8) : (gotN l).1 < 18446744073709551616 ∧ (gotN l).2.1 ≤ 9 ∧ (gotN l).2.1 ≤ l.length ∧ (gotN l).2.2 ≤ 3 := by
  cases l with
  | nil => simp [gotN]
  | cons c r =>
    by_cases h1 : 8 < c.toNat
    · rw [gotN_range h1]; simp
    · by_cases h2 : r.length < c.toNat
      · rw [gotN_short h1 h2]; simp
      · by_cases h3 : 0 < c.toNat ∧ r.head? = some 0
        · rw [gotN_field h1 h2 h3]; simp
        · rw [gotN_ok h1 h2 h3]
          have h := val_lt (r.take c.toNat)
          have h5 : (r.take c.toNat).length ≤ 8 := by rw [List.length_take]; omega
          have h4 : 256 ^ (r.take c.toNat).length ≤ 256 ^ 8 := Nat.pow_le_pow_right (by omega) h5
          simp only [show (256 : Nat) ^ 8 = 18446744073709551616 by decide] at h4
          refine ⟨?_, ?_, ?_, ?_⟩
          · show valL (r.take c.toNat) < _
            omega
          · show c.toNat + 1 ≤ 9
            omega
          · show c.toNat + 1 ≤ (c :: r).length
            rw [List.length_cons]
            omega
          · show 0 ≤ 3
            omega
theorem got_err (l : List UInt8) (h : (gotN l).2.2 ≠ 0) : gotN l = (0, 0, (gotN l).2.2) := by
  cases l with
  | nil => rfl
  | cons c r =>
    by_cases h1 : 8 < c.toNat
    · rw [gotN_range h1]
    · by_cases h2 : r.length < c.toNat
      · rw [gotN_short h1 h2]
      · by_cases h3 : 0 < c.toNat ∧ r.head? = some 0
        · rw [gotN_field h1 h2 h3]
        · rw [gotN_ok h1 h2 h3] at h
          exact absurd rfl h
/-- A number that is written is got again, whatever follows. -/
theorem got_num (n : Nat) (h : n < 18446744073709551616) (r : List UInt8) : gotN (numL n ++ r) = (n, nd n + 1, 0) := by
  have hn := nd_le n
  have e : (UInt8.ofNat (nd n)).toNat = nd n := by rw [UInt8.toNat_ofNat']; omega
  have hl := dig_length n
  show gotN (UInt8.ofNat (nd n) :: (dig n ++ r)) = _
  rw [gotN_ok (by omega) (by rw [e, List.length_append]; omega), e, List.take_left' hl, val_dig n h]
  rw [e]
  rintro ⟨h1, h2⟩
  obtain ⟨d, l, hd, hd0, _⟩ := dig_head n h h1
  rw [hd] at h2
  simp at h2
  exact hd0 h2
/-- What is got is written as the bytes that it was. -/
theorem num_got (l : List UInt8) (h : (gotN l).2.2 = 0) : numL (gotN l).1 = l.take (gotN l).2.1 ∧ 0 < (gotN l).2.1 := by
  cases l with
  | nil => simp [gotN] at h
  | cons c r =>
    by_cases h1 : 8 < c.toNat
    · rw [gotN_range h1] at h; simp at h
    · by_cases h2 : r.length < c.toNat
      · rw [gotN_short h1 h2] at h; simp at h
      · by_cases h3 : 0 < c.toNat ∧ r.head? = some 0
        · rw [gotN_field h1 h2 h3] at h; simp at h
        · rw [gotN_ok h1 h2 h3]
          refine ⟨?_, Nat.succ_pos _⟩
          show numL (valL (r.take c.toNat)) = (c :: r).take (c.toNat + 1)
          rw [List.take_succ_cons]
          cases hr : r.take c.toNat with
          | nil =>
            have hc0 : c.toNat = 0 := by
              have := congrArg List.length hr
              rw [List.length_take, List.length_nil] at this
              omega
            have hc : c = 0 := by rw [← UInt8.toNat_inj]; simpa using hc0
            subst hc
            rfl
          | cons d t =>
            have hlen := congrArg List.length hr
            rw [List.length_take, List.length_cons] at hlen
            have hpos : 0 < c.toNat := by omega
            have hd : d ≠ 0 := by
              intro hd
              apply h3
              refine ⟨hpos, ?_⟩
              cases r with
              | nil => simp at hr
              | cons d' r' =>
                obtain ⟨m, hm⟩ : ∃ m, c.toNat = m + 1 := ⟨c.toNat - 1, by omega⟩
                rw [hm, List.take_succ_cons] at hr
                simp only [List.cons.injEq] at hr
                simp [hr.1, hd]
            rw [numL, nd_val d t hd (by omega), dig_val d t hd (by omega), show t.length + 1 = c.toNat by omega]
            simp
/-- Too few bytes: short. -/
theorem got_cut (n : Nat) (k : Nat) (hk : k < nd n + 1) : gotN ((numL n).take k) = (0, 0, 1) := by
  have hn := nd_le n
  have e : (UInt8.ofNat (nd n)).toNat = nd n := by rw [UInt8.toNat_ofNat']; omega
  cases k with
  | zero => rfl
  | succ k =>
    rw [numL, List.take_succ_cons, gotN_short (by omega) (by rw [e, List.length_take, dig_length]; omega)]
end Dig
end Go.Proofs.YtcjfnkgjjhlbnaaDoor
