/- Parts, put together: DigPure, DigNum, DigGet, DigMore, DigWorks, DigOrdPure, DigOrder, DigSizes, DigBack, DigTextBack, DigCuts, DigRef, DigRef2, DigAll. -/
import Derived.IntWalk
import Derived.Test.YtklgdllllboipaaRows
import Derived.WalkKit
import Derived.WalkSpells
import Derived.WalkLawsBesides
import Derived.Handy
import Derived.Lib.Hide
import Derived.Laws.IdiomStrings
import GoSem.Op.String
import Derived.ProofKit
import Derived.Deep.QuietTactic
import Derived.BigQuiet
import Derived.Deep.RegionWith
import Derived.Lib.QuietBelow
import Derived.Lib.Strings
set_option maxRecDepth 100000

/- Plain facts on numbers as bytes (layer digits): a number's digits in the base 256, got again, in order. No condition but those that each lemma states. No Go text is named here. -/
section
namespace Go.Proofs.Ytklgdllllboipaa
namespace Dig

/-- The k low digits of n in the base 256, the highest first. -/
def low : Nat → Nat → List UInt8
  | 0, _ => []
  | k + 1, n => UInt8.ofNat (n / 256 ^ k % 256) :: low k n
/-- How many digits n has. -/
def nd (n : Nat) : Nat :=
  if n < 1 then 0 else if n < 256 then 1 else if n < 65536 then 2 else if n < 16777216 then 3 else if n < 4294967296 then 4
  else if n < 1099511627776 then 5 else if n < 281474976710656 then 6 else if n < 72057594037927936 then 7 else 8
def dig (n : Nat) : List UInt8 := low (nd n) n
/-- A number's bytes. -/
def numL (n : Nat) : List UInt8 := UInt8.ofNat (nd n) :: dig n
/-- What digits are worth. -/
def valL (l : List UInt8) : Nat := l.foldl (fun a b => 256 * a + b.toNat) 0

theorem nd_le (n : Nat) : nd n ≤ 8 := by unfold nd; repeat' split <;> try omega
theorem low_length (k n : Nat) : (low k n).length = k := by
  induction k with
  | zero => rfl
  | succ k ih => simp [low, ih]
theorem dig_length (n : Nat) : (dig n).length = nd n := low_length _ _
theorem numL_length (n : Nat) : (numL n).length = nd n + 1 := by simp [numL, dig_length]
theorem nd_lt (n : Nat) (h : n < 18446744073709551616) : n < 256 ^ nd n := by
  unfold nd
  repeat' split
  all_goals first | (simp; omega) | omega
theorem nd_pos_ge (n : Nat) (h : 0 < nd n) : 256 ^ (nd n - 1) ≤ n := by
  revert h
  unfold nd
  repeat' split
  all_goals intro h
  all_goals first | (simp at h; done) | (simp; omega)
theorem nd_zero (n : Nat) (h : nd n = 0) : n = 0 := by
  unfold nd at h
  repeat' (split at h)
  all_goals first | omega | (simp at h)
/-- nd from the bounds. -/
theorem nd_eq (n k : Nat) (hk : k ≤ 8) (h1 : n < 256 ^ k) (h2 : 0 < k → 256 ^ (k - 1) ≤ n) : nd n = k := by
  have : k = 0 ∨ k = 1 ∨ k = 2 ∨ k = 3 ∨ k = 4 ∨ k = 5 ∨ k = 6 ∨ k = 7 ∨ k = 8 := by omega
  unfold nd
  rcases this with rfl | rfl | rfl | rfl | rfl | rfl | rfl | rfl | rfl <;> simp at h1 h2 <;> (repeat' split) <;> omega

theorem foldl_val (l : List UInt8) (a : Nat) : l.foldl (fun a b => 256 * a + b.toNat) a = a * 256 ^ l.length + valL l := by
  induction l generalizing a with
  | nil => simp [valL]
  | cons d l ih =>
    simp only [List.foldl_cons, valL, List.length_cons]
    rw [ih, ih (256 * 0 + d.toNat)]
    simp only [Nat.pow_succ, Nat.mul_zero, Nat.zero_add, Nat.add_mul]
    have : a * (256 ^ l.length * 256) = 256 * a * 256 ^ l.length := by rw [Nat.mul_comm (256 ^ l.length), ← Nat.mul_assoc, Nat.mul_comm a]
    omega
theorem val_cons (d : UInt8) (l : List UInt8) : valL (d :: l) = d.toNat * 256 ^ l.length + valL l := by
  have := foldl_val l (256 * 0 + d.toNat)
  simp only [Nat.mul_zero, Nat.zero_add] at this
  simpa [valL] using this
theorem val_snoc (l : List UInt8) (d : UInt8) : valL (l ++ [d]) = 256 * valL l + d.toNat := by simp [valL]
theorem val_lt (l : List UInt8) : valL l < 256 ^ l.length := by
  induction l with
  | nil => simp [valL]
  | cons d l ih =>
    rw [val_cons, List.length_cons, Nat.pow_succ]
    have hd : d.toNat ≤ 255 := by have := d.toNat_lt; omega
    have := Nat.mul_le_mul_right (256 ^ l.length) hd
    omega
theorem toNat_digit (n k : Nat) : (UInt8.ofNat (n / 256 ^ k % 256)).toNat = n / 256 ^ k % 256 := by
  rw [UInt8.toNat_ofNat']
  exact Nat.mod_eq_of_lt (by have := Nat.mod_lt (n / 256 ^ k) (show 0 < 256 by omega); simpa using this)
theorem val_low (k n : Nat) : valL (low k n) = n % 256 ^ k := by
  induction k with
  | zero => simp [low, valL, Nat.mod_one]
  | succ k ih =>
    rw [low, val_cons, ih, low_length, toNat_digit, Nat.mod_pow_succ, Nat.mul_comm]
    omega
theorem val_dig (n : Nat) (h : n < 18446744073709551616) : valL (dig n) = n := by
  rw [dig, val_low, Nat.mod_eq_of_lt (nd_lt n h)]
theorem low_val (l : List UInt8) : low l.length (valL l) = l := by
  have key : ∀ (l : List UInt8) (m : Nat), low l.length (m * 256 ^ l.length + valL l) = l := by
    intro l
    induction l with
    | nil => intro m; rfl
    | cons d l ih =>
      intro m
      rw [List.length_cons, low, val_cons]
      have hl := val_lt l
      have e1 : m * 256 ^ (l.length + 1) + (d.toNat * 256 ^ l.length + valL l) = (m * 256 + d.toNat) * 256 ^ l.length + valL l := by
        rw [Nat.pow_succ, Nat.add_mul, Nat.mul_assoc m 256, Nat.mul_comm 256]
        omega
      rw [e1, ih]
      congr 1
      rw [Nat.add_comm, Nat.add_mul_div_right _ _ (Nat.pow_pos (by omega)), Nat.div_eq_of_lt hl, Nat.zero_add]
      have hd := d.toNat_lt
      have : (m * 256 + d.toNat) % 256 = d.toNat := by omega
      rw [this]
      simp
  have := key l 0
  simpa using this
/-- Digits of which the first is not 0 are those of what they are worth. -/
theorem nd_val (d : UInt8) (l : List UInt8) (hd : d ≠ 0) (hl : l.length < 8) : nd (valL (d :: l)) = l.length + 1 := by
  apply nd_eq _ _ (by omega)
  · simpa using val_lt (d :: l)
  · intro _
    rw [val_cons, Nat.add_sub_cancel]
    have : 1 ≤ d.toNat := by
      have : d.toNat ≠ 0 := fun h => hd (by rw [← UInt8.toNat_inj]; simpa using h)
      omega
    have := Nat.mul_le_mul_right (256 ^ l.length) this
    omega
theorem dig_val (d : UInt8) (l : List UInt8) (hd : d ≠ 0) (hl : l.length < 8) : dig (valL (d :: l)) = d :: l := by
  rw [dig, nd_val d l hd hl]
  exact low_val (d :: l)
/-- The first digit is not 0. -/
theorem dig_head (n : Nat) (h : n < 18446744073709551616) (hp : 0 < nd n) : ∃ d l, dig n = d :: l ∧ d ≠ 0 ∧ l.length + 1 = nd n := by
  obtain ⟨k, hk⟩ : ∃ k, nd n = k + 1 := ⟨nd n - 1, by omega⟩
  refine ⟨UInt8.ofNat (n / 256 ^ k % 256), low k n, by rw [dig, hk]; rfl, ?_, by rw [low_length, hk]⟩
  have h1 := nd_lt n h
  have h2 := nd_pos_ge n hp
  rw [hk] at h1 h2
  rw [Nat.add_sub_cancel] at h2
  have h3 : n / 256 ^ k < 256 := by
    rw [Nat.div_lt_iff_lt_mul (Nat.pow_pos (by omega))]
    rw [Nat.pow_succ] at h1
    omega
  have h4 : 0 < n / 256 ^ k := Nat.div_pos h2 (Nat.pow_pos (by omega))
  intro he
  have h5 := congrArg UInt8.toNat he
  rw [toNat_digit] at h5
  simp at h5
  omega
theorem low_snoc (k n : Nat) : low (k + 1) n = low k (n / 256) ++ [UInt8.ofNat (n % 256)] := by
  induction k with
  | zero => simp [low]
  | succ k ih =>
    rw [low, ih, low]
    simp only [List.cons_append, List.cons.injEq, and_true]
    rw [Nat.pow_succ, Nat.mul_comm, ← Nat.div_div_eq_div_mul]
theorem nd_le7 (n : Nat) (h : n < 72057594037927936) : nd n ≤ 7 := by
  unfold nd
  repeat' split
  all_goals omega
theorem nd_step (n : Nat) (h0 : 0 < n) (h : n < 18446744073709551616) : nd n = nd (n / 256) + 1 := by
  have h7 := nd_le7 (n / 256) (by omega)
  have h1 := nd_lt (n / 256) (by omega)
  have h2 := nd_pos_ge (n / 256)
  have h3 := nd_zero (n / 256)
  generalize nd (n / 256) = k at *
  apply nd_eq _ _ (by omega)
  · rw [Nat.pow_succ]
    omega
  · intro _
    rw [Nat.add_sub_cancel]
    cases k with
    | zero => simp; omega
    | succ k =>
      have := h2 (by omega)
      rw [Nat.add_sub_cancel] at this
      rw [Nat.pow_succ]
      omega
theorem dig_snoc (n : Nat) (h0 : 0 < n) (h : n < 18446744073709551616) : dig n = dig (n / 256) ++ [UInt8.ofNat (n % 256)] := by
  rw [dig, nd_step n h0 h, low_snoc]; rfl
theorem dig_zero : dig 0 = [] := rfl

/-- What stands at the front of bytes: the number, in how many bytes, and the error (0: none; 1: short; 2: range; 3: field). -/
def gotN : List UInt8 → Nat × Nat × Nat
  | [] => (0, 0, 1)
  | c :: r => if 8 < c.toNat then (0, 0, 2) else if r.length < c.toNat then (0, 0, 1) else if 0 < c.toNat ∧ r.head? = some 0 then (0, 0, 3)
    else (valL (r.take c.toNat), c.toNat + 1, 0)
theorem gotN_cons (c : UInt8) (r : List UInt8) : gotN (c :: r) = if 8 < c.toNat then (0, 0, 2) else if r.length < c.toNat then (0, 0, 1) else if 0 < c.toNat ∧ r.head? = some 0 then (0, 0, 3)
    else (valL (r.take c.toNat), c.toNat + 1, 0) := rfl
theorem gotN_range {c : UInt8} {r : List UInt8} (h : 8 < c.toNat) : gotN (c :: r) = (0, 0, 2) := by rw [gotN_cons, if_pos h]
theorem gotN_short {c : UInt8} {r : List UInt8} (h : ¬ 8 < c.toNat) (h2 : r.length < c.toNat) : gotN (c :: r) = (0, 0, 1) := by rw [gotN_cons, if_neg h, if_pos h2]
theorem gotN_field {c : UInt8} {r : List UInt8} (h : ¬ 8 < c.toNat) (h2 : ¬ r.length < c.toNat) (h3 : 0 < c.toNat ∧ r.head? = some 0) : gotN (c :: r) = (0, 0, 3) := by rw [gotN_cons, if_neg h, if_neg h2, if_pos h3]
theorem gotN_ok {c : UInt8} {r : List UInt8} (h : ¬ 8 < c.toNat) (h2 : ¬ r.length < c.toNat) (h3 : ¬ (0 < c.toNat ∧ r.head? = some 0)) : gotN (c :: r) = (valL (r.take c.toNat), c.toNat + 1, 0) := by rw [gotN_cons, if_neg h, if_neg h2, if_neg h3]
theorem gotN_lt (l : List UInt8) : (gotN l).1 < 18446744073709551616 ∧ (gotN l).2.1 ≤ 9 ∧ (gotN l).2.1 ≤ l.length ∧ (gotN l).2.2 ≤ 3 := by
  cases l with
  | nil => simp [gotN]
  | cons c r =>
    by_cases h1 : 8 < c.toNat
    · rw [gotN_range h1]; simp
    · by_cases h2 : r.length < c.toNat
      · rw [gotN_short h1 h2]; simp
      · by_cases h3 : 0 < c.toNat ∧ r.head? = some 0
        · rw [gotN_field h1 h2 h3]; simp
        · rw [gotN_ok h1 h2 h3]
          have h := val_lt (r.take c.toNat)
          have h5 : (r.take c.toNat).length ≤ 8 := by rw [List.length_take]; omega
          have h4 : 256 ^ (r.take c.toNat).length ≤ 256 ^ 8 := Nat.pow_le_pow_right (by omega) h5
          simp only [show (256 : Nat) ^ 8 = 18446744073709551616 by decide] at h4
          refine ⟨?_, ?_, ?_, ?_⟩
          · show valL (r.take c.toNat) < _
            omega
          · show c.toNat + 1 ≤ 9
            omega
          · show c.toNat + 1 ≤ (c :: r).length
            rw [List.length_cons]
            omega
          · show 0 ≤ 3
            omega
theorem got_err (l : List UInt8) (h : (gotN l).2.2 ≠ 0) : gotN l = (0, 0, (gotN l).2.2) := by
  cases l with
  | nil => rfl
  | cons c r =>
    by_cases h1 : 8 < c.toNat
    · rw [gotN_range h1]
    · by_cases h2 : r.length < c.toNat
      · rw [gotN_short h1 h2]
      · by_cases h3 : 0 < c.toNat ∧ r.head? = some 0
        · rw [gotN_field h1 h2 h3]
        · rw [gotN_ok h1 h2 h3] at h
          exact absurd rfl h
/-- A number that is written is got again, whatever follows. -/
theorem got_num (n : Nat) (h : n < 18446744073709551616) (r : List UInt8) : gotN (numL n ++ r) = (n, nd n + 1, 0) := by
  have hn := nd_le n
  have e : (UInt8.ofNat (nd n)).toNat = nd n := by rw [UInt8.toNat_ofNat']; omega
  have hl := dig_length n
  show gotN (UInt8.ofNat (nd n) :: (dig n ++ r)) = _
  rw [gotN_ok (by omega) (by rw [e, List.length_append]; omega), e, List.take_left' hl, val_dig n h]
  rw [e]
  rintro ⟨h1, h2⟩
  obtain ⟨d, l, hd, hd0, _⟩ := dig_head n h h1
  rw [hd] at h2
  simp at h2
  exact hd0 h2
/-- What is got is written as the bytes that it was. -/
theorem num_got (l : List UInt8) (h : (gotN l).2.2 = 0) : numL (gotN l).1 = l.take (gotN l).2.1 ∧ 0 < (gotN l).2.1 := by
  cases l with
  | nil => simp [gotN] at h
  | cons c r =>
    by_cases h1 : 8 < c.toNat
    · rw [gotN_range h1] at h; simp at h
    · by_cases h2 : r.length < c.toNat
      · rw [gotN_short h1 h2] at h; simp at h
      · by_cases h3 : 0 < c.toNat ∧ r.head? = some 0
        · rw [gotN_field h1 h2 h3] at h; simp at h
        · rw [gotN_ok h1 h2 h3]
          refine ⟨?_, Nat.succ_pos _⟩
          show numL (valL (r.take c.toNat)) = (c :: r).take (c.toNat + 1)
          rw [List.take_succ_cons]
          cases hr : r.take c.toNat with
          | nil =>
            have hc0 : c.toNat = 0 := by
              have := congrArg List.length hr
              rw [List.length_take, List.length_nil] at this
              omega
            have hc : c = 0 := by rw [← UInt8.toNat_inj]; simpa using hc0
            subst hc
            rfl
          | cons d t =>
            have hlen := congrArg List.length hr
            rw [List.length_take, List.length_cons] at hlen
            have hpos : 0 < c.toNat := by omega
            have hd : d ≠ 0 := by
              intro hd
              apply h3
              refine ⟨hpos, ?_⟩
              cases r with
              | nil => simp at hr
              | cons d' r' =>
                obtain ⟨m, hm⟩ : ∃ m, c.toNat = m + 1 := ⟨c.toNat - 1, by omega⟩
                rw [hm, List.take_succ_cons] at hr
                simp only [List.cons.injEq] at hr
                simp [hr.1, hd]
            rw [numL, nd_val d t hd (by omega), dig_val d t hd (by omega), show t.length + 1 = c.toNat by omega]
            simp
/-- Too few bytes: short. -/
theorem got_cut (n : Nat) (k : Nat) (hk : k < nd n + 1) : gotN ((numL n).take k) = (0, 0, 1) := by
  have hn := nd_le n
  have e : (UInt8.ofNat (nd n)).toNat = nd n := by rw [UInt8.toNat_ofNat']; omega
  cases k with
  | zero => rfl
  | succ k =>
    rw [numL, List.take_succ_cons, gotN_short (by omega) (by rw [e, List.length_take, dig_length]; omega)]
end Dig
end Go.Proofs.Ytklgdllllboipaa
end

/- What digits.Num returns: a number's bytes, and it leaves alone what was there before. Condition: the number is one of 64 bits without a sign. -/
section
namespace Go.Proofs.Ytklgdllllboipaa
open Go.RowKit
namespace Dig

theorem addr_add (b o j : Nat) : (⟨b, o, none⟩ : Addr).add j = ⟨b, o + j, none⟩ := by
  unfold Addr.add
  split <;> simp_all
/-- The array of nine bytes when k digits of n are put into it from its end. -/
def room (n k : Nat) : Array Value := ((List.replicate (9 - k) (0 : UInt8) ++ low k n).map fun b => Value.int .u8 (b.toNat : Int)).toArray
theorem room_size (n k : Nat) (hk : k ≤ 9) : (room n k).size = 9 := by simp [room, low_length]; omega

theorem room_get (n k i : Nat) (hk : k ≤ 9) (hi : i < 9) : (room n k)[i]? = some (.int .u8 (((List.replicate (9 - k) (0 : UInt8) ++ low k n).getD i 0).toNat : Int)) := by
  unfold room
  have hl : (List.replicate (9 - k) (0 : UInt8) ++ low k n).length = 9 := by simp [low_length]; omega
  rw [List.getElem?_toArray, List.getElem?_map, List.getD_eq_getElem?_getD, List.getElem?_eq_getElem (by omega)]
  rfl
theorem room_next (n k m : Nat) (hkm : k + m = 8) (b : UInt8) (hb : b = UInt8.ofNat (n / 256 ^ k % 256)) :
    (room n k).setIfInBounds m (.int .u8 (b.toNat : Int)) = room n (k + 1) := by
  unfold room
  rw [List.setIfInBounds_toArray, ← List.map_set]
  congr 2
  subst hb
  rw [show 9 - k = m + 1 by omega, show 9 - (k + 1) = m by omega, List.replicate_succ', low, List.append_assoc, List.set_append_right _ _ (by simp)]
  simp
theorem room_end (n k m : Nat) (hkm : k + m = 8) (b : UInt8) :
    (room n k).setIfInBounds m (.int .u8 (b.toNat : Int)) = ((List.replicate m (0 : UInt8) ++ b :: low k n).map fun b => Value.int .u8 (b.toNat : Int)).toArray := by
  unfold room
  rw [List.setIfInBounds_toArray, ← List.map_set]
  congr 2
  rw [show 9 - k = m + 1 by omega, List.replicate_succ', List.append_assoc, List.set_append_right _ _ (by simp)]
  simp
theorem q_pos (n k : Nat) (hk : k < nd n) : 0 < n / 256 ^ k := by
  apply Nat.div_pos _ (Nat.pow_pos (by omega))
  have := nd_pos_ge n (by omega)
  exact Nat.le_trans (Nat.pow_le_pow_right (by omega) (by omega)) this
theorem q_zero (n : Nat) (hn : n < 18446744073709551616) : n / 256 ^ nd n = 0 := Nat.div_eq_of_lt (nd_lt n hn)
theorem q_next (n k : Nat) : n / 256 ^ (k + 1) = n / 256 ^ k / 256 := by rw [Nat.pow_succ, Nat.div_div_eq_div_mul]

end Dig
end Go.Proofs.Ytklgdllllboipaa
end

/- What digits.GetNum returns: the number at the front of the bytes, or why there is none; it leaves alone what was there before. Condition: the text is no longer than a text can be. -/
section
namespace Go.Proofs.Ytklgdllllboipaa
open Go.RowKit
namespace Dig

theorem ret3_eq {k1 k2 k3 : IntKind} {a a' b b' c : Int} (h1 : a = a') (h2 : b = b') : Ending.returned (.tuple #[.int k1 a, .int k2 b, .int k3 c]) = .returned (.tuple #[.int k1 a', .int k2 b', .int k3 c]) := by rw [h1, h2]
/-- The k bytes behind the first. -/
def digs (s : ByteArray) (k : Nat) : List UInt8 := (s.data.toList.drop 1).take k
theorem digs_length (s : ByteArray) (k : Nat) (h : k < s.size) : (digs s k).length = k := by
  have : s.data.size = s.size := rfl
  simp [digs]; omega
theorem digs_cell (s : ByteArray) (k c e : Nat) (h : k < s.size) (w : World) (j : Nat) (hj : j < k) :
    (w.alloc (.cells (bytesRow (s.extract 1 (1 + k)) c) e ((bytesRow (s.extract 1 (1 + k)) c).size, (bytesRow (s.extract 1 (1 + k)) c).size + 1))).cell? ⟨w.heap.size, j, none⟩ = some (.int .u8 (((digs s k).getD j 0).toNat : Int)) := by
  have hsz : s.data.size = s.size := rfl
  have hd : (s.extract 1 (1 + k)).data.size = k := by
    have : (s.extract 1 (1 + k)).data.size = (s.extract 1 (1 + k)).size := rfl
    rw [this, ByteArray.size_extract]; omega
  rw [World.cell?_alloc_mark, bytesRow_at _ _ _ (by omega)]
  congr 3
  rw [List.getD_eq_getElem?_getD, List.getElem?_eq_getElem (by rw [digs_length s k h]; exact hj), Option.getD_some]
  simp [digs, Nat.add_comm]
theorem digs_take (s : ByteArray) (k j : Nat) (h : k < s.size) (hj : j < k) : (digs s k).take (j + 1) = (digs s k).take j ++ [(digs s k).getD j 0] := by
  have hl := digs_length s k h
  rw [List.take_succ_eq_append_getElem (by omega), List.getD_eq_getElem?_getD, List.getElem?_eq_getElem (by omega), Option.getD_some]
theorem or_shift (v d : Nat) (hv : v < 72057594037927936) (hd : d < 256) : bits .or .u64 ((v : Int) * 256) (IntKind.u64.wrap (d : Int)) = ((256 * v + d : Nat) : Int) := by
  have hw : ∀ n : Int, 0 ≤ n → n < 2 ^ 64 → IntKind.u64.wrap n = n := fun n h0 h1 => IntWalk.u64_in n ⟨h0, by omega⟩
  rw [hw _ (by omega) (by omega), bits_join .u64 64 (by decide) hw 8 _ _ (by omega) (by omega) (by omega) (by omega) (by omega) (by omega)]
  omega







theorem size_cons (s : ByteArray) {c : UInt8} {r : List UInt8} (h : s.data.toList = c :: r) : s.size = r.length + 1 := by
  have := congrArg List.length h
  simpa using this
theorem byte_at (s : ByteArray) (i : Nat) (h : i < s.size) {c : UInt8} (hc : s.data.toList[i]? = some c) : s[i] = c := by
  have h2 : i < s.data.toList.length := by simpa using h
  have e : s[i] = s.data.toList[i] := rfl
  rw [List.getElem?_eq_getElem h2] at hc
  rw [e]
  exact Option.some.inj hc
end Dig
end Go.Proofs.Ytklgdllllboipaa
end

/- What digits.Signed, GetSigned, Text and GetText return; they leave alone what was there before. Conditions: numbers of 64 bits, texts no longer than a text can be. -/
section
namespace Go.Proofs.Ytklgdllllboipaa
open Go.RowKit
namespace Dig

/-- A number with a sign, as a number. -/
def zig (m : Int) : Nat := if m < 0 then (-2 * m - 1).toNat else (2 * m).toNat
def unz (n : Nat) : Int := if n % 2 = 1 then -((n / 2 : Nat) : Int) - 1 else ((n / 2 : Nat) : Int)
theorem zig_lt (m : Int) (h0 : -9223372036854775808 ≤ m) (h1 : m ≤ 9223372036854775807) : zig m < 18446744073709551616 := by unfold zig; split <;> omega
theorem unz_zig (m : Int) : unz (zig m) = m := by unfold unz zig; split <;> split <;> omega
theorem zig_unz (n : Nat) : zig (unz n) = n := by unfold unz zig; split <;> split <;> omega
theorem unz_bd (n : Nat) (h : n < 18446744073709551616) : -9223372036854775808 ≤ unz n ∧ unz n ≤ 9223372036854775807 := by unfold unz; split <;> omega




/-- A text's bytes. -/
def textA (s : ByteArray) : ByteArray := ⟨(numL s.size).toArray⟩ ++ s
theorem textA_list (s : ByteArray) : (textA s).data.toList = numL s.size ++ s.data.toList := by
  rw [textA, ByteArray.data_append, Array.toList_append]
theorem textA_size (s : ByteArray) : (textA s).size = nd s.size + 1 + s.size := by
  rw [textA, ByteArray.size_append]
  have : (⟨(numL s.size).toArray⟩ : ByteArray).size = (numL s.size).length := by
    show (numL s.size).toArray.size = _
    rw [List.size_toArray]
  rw [this, numL_length]


/-- What GetText returns of a text with at most 'most' bytes: how many bytes its text has, behind which place, and the error (8: too long). -/
def gotT (l : List UInt8) (most : Int) : Nat × Nat × Nat :=
  if (gotN l).2.2 ≠ 0 then (0, 0, (gotN l).2.2) else if most < 0 ∨ most < ((gotN l).1 : Int) then (0, 0, 8) else if l.length - (gotN l).2.1 < (gotN l).1 then (0, 0, 1) else ((gotN l).1, (gotN l).2.1, 0)

theorem ret3s_eq {k2 k3 : IntKind} {a a' : ByteArray} {b b' c : Int} (h1 : a = a') (h2 : b = b') : Ending.returned (.tuple #[.string a, .int k2 b, .int k3 c]) = .returned (.tuple #[.string a', .int k2 b', .int k3 c]) := by rw [h1, h2]






end Dig
end Go.Proofs.Ytklgdllllboipaa
end

/- The statements' own check 'works' returns true and leaves alone what was there before. No condition. -/
section
namespace Go.Proofs.Ytklgdllllboipaa
open Go.RowKit
namespace Dig


end Dig
end Go.Proofs.Ytklgdllllboipaa
end

/- Plain facts: of two numbers below 2^64 the greater one's bytes are, byte by byte, the greater ones; equal bytes are of equal numbers. -/
section
namespace Go.Proofs.Ytklgdllllboipaa
namespace Dig

theorem nd_mono_lt (a b : Nat) (ha : a < 18446744073709551616) (h : nd a < nd b) : a < b := by
  have h1 := nd_lt a ha
  have h2 := nd_pos_ge b (by omega)
  have h3 : 256 ^ nd a ≤ 256 ^ (nd b - 1) := Nat.pow_le_pow_right (by omega) (by omega)
  omega
theorem numL_inj (a b : Nat) (ha : a < 18446744073709551616) (hb : b < 18446744073709551616) (h : numL a = numL b) : a = b := by
  unfold numL at h
  simp only [List.cons.injEq] at h
  rw [← val_dig a ha, ← val_dig b hb, h.2]
theorem less_digit (x y p q P : Nat) (hx : x < P) (hy : y < P) : x + P * p < y + P * q ↔ (p < q ∨ p = q ∧ x < y) := by
  rcases Nat.lt_trichotomy p q with h | h | h
  · have := Nat.mul_le_mul_left P (show p + 1 ≤ q from h)
    rw [Nat.mul_add] at this
    constructor
    · intro _; exact Or.inl h
    · intro _; omega
  · subst h
    constructor
    · intro h; exact Or.inr ⟨rfl, by omega⟩
    · rintro (h | ⟨_, h⟩) <;> omega
  · have := Nat.mul_le_mul_left P (show q + 1 ≤ p from h)
    rw [Nat.mul_add] at this
    constructor
    · intro _; omega
    · rintro (h | ⟨h, _⟩) <;> omega
theorem less_low (k a b : Nat) : Op.bytesLess (low k a) (low k b) = decide (a % 256 ^ k < b % 256 ^ k) := by
  induction k with
  | zero => simp [low, Op.bytesLess, Nat.mod_one]
  | succ k ih =>
    have hd := less_digit (a % 256 ^ k) (b % 256 ^ k) (a / 256 ^ k % 256) (b / 256 ^ k % 256) (256 ^ k) (Nat.mod_lt _ (Nat.pow_pos (by omega))) (Nat.mod_lt _ (Nat.pow_pos (by omega)))
    simp only [low, Op.bytesLess]
    rw [ih, Nat.mod_pow_succ, Nat.mod_pow_succ, Bool.eq_iff_iff]
    simp only [Bool.or_eq_true, Bool.and_eq_true, decide_eq_true_eq, beq_iff_eq, UInt8.lt_iff_toNat_lt, ← UInt8.toNat_inj, toNat_digit]
    exact hd.symm
theorem less_num (a b : Nat) (ha : a < 18446744073709551616) (hb : b < 18446744073709551616) : Op.bytesLess (numL a) (numL b) = decide (a < b) := by
  have na := nd_le a
  have nb := nd_le b
  have ea : (UInt8.ofNat (nd a)).toNat = nd a := by rw [UInt8.toNat_ofNat']; omega
  have eb : (UInt8.ofNat (nd b)).toNat = nd b := by rw [UInt8.toNat_ofNat']; omega
  simp only [numL, Op.bytesLess]
  rw [Bool.eq_iff_iff]
  simp only [Bool.or_eq_true, Bool.and_eq_true, decide_eq_true_eq, beq_iff_eq, UInt8.lt_iff_toNat_lt, ← UInt8.toNat_inj, ea, eb]
  rcases Nat.lt_trichotomy (nd a) (nd b) with h | h | h
  · have := nd_mono_lt a b ha h
    constructor
    · intro _; exact this
    · intro _; exact Or.inl h
  · have h1 : Op.bytesLess (dig a) (dig b) = decide (a < b) := by
      unfold dig
      rw [← h, less_low, Nat.mod_eq_of_lt (nd_lt a ha), Nat.mod_eq_of_lt (by rw [h]; exact nd_lt b hb)]
    rw [h1]
    constructor
    · rintro (h2 | ⟨_, h2⟩)
      · omega
      · simpa using h2
    · intro h2
      exact Or.inr ⟨h, by simpa using h2⟩
  · have := nd_mono_lt b a hb h
    constructor
    · rintro (h2 | ⟨h2, _⟩) <;> omega
    · intro _; omega
end Dig
end Go.Proofs.Ytklgdllllboipaa
end

/- For all numbers a and b of 64 bits without a sign DigitsOrder returns true, and the arguments read as before. No condition. -/
section
namespace Go.Proofs.Ytklgdllllboipaa
open Go.RowKit
namespace Dig

theorem chain2 {w w1 w2 : World} (h1 : Below w.heap.size w w1) (h2 : Below w1.heap.size w1 w2) : Below w.heap.size w w2 := h1.trans (h2.mono h1.size)
theorem chain3 {w w1 w2 w3 : World} (h1 : Below w.heap.size w w1) (h2 : Below w1.heap.size w1 w2) (h3 : Below w2.heap.size w2 w3) : Below w.heap.size w w3 := chain2 (chain2 h1 h2) h3
theorem chain4 {w w1 w2 w3 w4 : World} (h1 : Below w.heap.size w w1) (h2 : Below w1.heap.size w1 w2) (h3 : Below w2.heap.size w2 w3) (h4 : Below w3.heap.size w3 w4) : Below w.heap.size w w4 := chain2 (chain3 h1 h2 h3) h4
theorem chain5 {w w1 w2 w3 w4 w5 : World} (h1 : Below w.heap.size w w1) (h2 : Below w1.heap.size w1 w2) (h3 : Below w2.heap.size w2 w3) (h4 : Below w3.heap.size w3 w4) (h5 : Below w4.heap.size w4 w5) : Below w.heap.size w w5 := chain2 (chain4 h1 h2 h3 h4) h5



end Dig
end Go.Proofs.Ytklgdllllboipaa
end

/- For all numbers n and m DigitsSizes returns true, and the arguments read as before. No condition. -/
section
namespace Go.Proofs.Ytklgdllllboipaa
open Go.RowKit
namespace Dig

theorem numA_size (n : Nat) : (⟨(numL n).toArray⟩ : ByteArray).size = nd n + 1 := by
  show (numL n).toArray.size = _
  rw [List.size_toArray, numL_length]

theorem numA_zero (n : Nat) (h : 0 < (⟨(numL n).toArray⟩ : ByteArray).size) : ((⟨(numL n).toArray⟩ : ByteArray)[0]'h).toNat = nd n := by
  have h2 := nd_le n
  have e : (UInt8.ofNat (nd n)).toNat = nd n := by rw [UInt8.toNat_ofNat']; omega
  exact e



end Dig
end Go.Proofs.Ytklgdllllboipaa
end

/- For all numbers n and m and every text s DigitsBack returns true, and the arguments read as before. Condition: the text is within the form's own reach. -/
section
namespace Go.Proofs.Ytklgdllllboipaa
open Go.RowKit
namespace Dig

theorem cat_list (l : List UInt8) (s : ByteArray) : ((⟨l.toArray⟩ : ByteArray) ++ s).data.toList = l ++ s.data.toList := by
  rw [ByteArray.data_append, Array.toList_append]
theorem cat_size (l : List UInt8) (s : ByteArray) : ((⟨l.toArray⟩ : ByteArray) ++ s).size = l.length + s.size := by
  rw [ByteArray.size_append]
  show l.toArray.size + _ = _
  rw [List.size_toArray]


theorem extract_list (s : ByteArray) (a b : Nat) : (s.extract a b).data.toList = (s.data.toList.take b).drop a := by
  rw [Lib.extract_data, List.drop_take]

end Dig
end Go.Proofs.Ytklgdllllboipaa
end

/- For all texts t and s DigitsTextBack returns true, and the arguments read as before. Condition: each text is within the form's own reach. -/
section
namespace Go.Proofs.Ytklgdllllboipaa
open Go.RowKit
namespace Dig


end Dig
end Go.Proofs.Ytklgdllllboipaa
end

/- For all numbers n, texts t and places at DigitsCuts returns true, and the arguments read as before. Condition: the text is within the form's own reach. -/
section
namespace Go.Proofs.Ytklgdllllboipaa
open Go.RowKit
namespace Dig

theorem numA_list (n : Nat) (j : Nat) : ((⟨(numL n).toArray⟩ : ByteArray).extract 0 j).data.toList = (numL n).take j := by
  rw [Lib.extract_data]
  simp
theorem textA_cut (t : ByteArray) (j : Nat) : ((textA t).extract 0 j).data.toList = (numL t.size ++ t.data.toList).take j := by
  rw [Lib.extract_data, textA_list]
  simp
/-- A text that is cut off is too short. -/
theorem gotT_cut (t : ByteArray) (ht : t.size ≤ 140737488351232) (j : Nat) (hj : j < nd t.size + 1 + t.size) : gotT ((numL t.size ++ t.data.toList).take j) (t.size : Int) = (0, 0, 1) := by
  have hl := numL_length t.size
  have ht2 : t.data.toList.length = t.size := by simp
  by_cases h : j < nd t.size + 1
  · rw [List.take_append_of_le_length (by omega)]
    unfold gotT
    rw [got_cut _ _ h]
    simp
  · have e : (numL t.size ++ t.data.toList).take j = numL t.size ++ t.data.toList.take (j - (nd t.size + 1)) := by
      rw [List.take_append, List.take_of_length_le (by omega), hl]
    unfold gotT
    rw [e, got_num _ (by omega)]
    simp only [ne_eq, not_true_eq_false, if_false]
    rw [if_neg (by omega), if_pos (by rw [List.length_append, hl, List.length_take]; omega)]

theorem cut_size (s : ByteArray) (j : Nat) : (s.extract 0 j).size ≤ s.size := by
  rw [ByteArray.size_extract]
  exact Nat.le_trans (Nat.sub_le _ _) (Nat.min_le_right _ _)
theorem no_lt1 {i n : Nat} (h : (n : Int) + 1 < (i : Int)) (h2 : i < n + 1) : False := by omega
theorem no_lt2 {i n m : Nat} (h : (n : Int) + 1 + (m : Int) < (i : Int)) (h2 : i < n + 1 + m) : False := by omega
theorem mod_nat (a b : Nat) (hb : 0 < b) (hb2 : b ≤ 4611686018427387904) : ∃ i : Nat, wrap64 ((a : Int) % (b : Int)) = (i : Int) ∧ i < b := by
  have h := Nat.mod_lt a hb
  have e : (a : Int) % (b : Int) = ((a % b : Nat) : Int) := (Int.natCast_emod a b).symm
  exact ⟨a % b, by rw [e]; exact IntWalk.wrap64_in _ ⟨by omega, by omega⟩, h⟩

end Dig
end Go.Proofs.Ytklgdllllboipaa
end

/- What the document's own answers for numbers and texts as bytes (package barographref01) return; they leave alone what was there before. Conditions: numbers of 64 bits, texts no longer than a text can be. -/
section
namespace Go.Proofs.Ytklgdllllboipaa
open Go.RowKit
namespace Dig

theorem bcell0 {B : Nat} {W w1 : World} (hb : Below B W w1) (k : Nat) (h : k < B) : w1.cell? ⟨k, 0, none⟩ = W.cell? ⟨k, 0, none⟩ := hb.cell (p := ⟨k, 0, none⟩) h
theorem ret_string {a b : ByteArray} (h : a = b) : Ending.returned (.string a) = .returned (.string b) := by rw [h]

end Dig
end Go.Proofs.Ytklgdllllboipaa
end

/- What the document's own Num, Signed, Text, GetNum, GetSigned and GetText (package barographref01) return: the same as the program's. They leave alone what was there before. Conditions: numbers of 64 bits, texts no longer than a text can be. -/
section
namespace Go.Proofs.Ytklgdllllboipaa
open Go.RowKit
namespace Dig





theorem digs_get (s : ByteArray) (k j : Nat) (_h : k < s.size) (hj : j < k) (h2 : j + 1 < s.size) : s[j + 1]'h2 = (digs s k).getD j 0 := by
  have hsz : s.data.size = s.size := rfl
  apply byte_at s (j + 1) h2
  have e : (digs s k)[j]? = s.data.toList[j + 1]? := by
    simp only [digs]
    rw [List.getElem?_take_of_lt hj, List.getElem?_drop, Nat.add_comm]
  rw [List.getD_eq_getElem?_getD, e, List.getElem?_eq_getElem (by simp; omega)]
  rfl







end Dig
end Go.Proofs.Ytklgdllllboipaa
end

/- For all inputs DigitsNums, DigitsSigns and DigitsTexts return true: the program's answers are the document's. Condition: each text is within the form's own reach. -/
section
namespace Go.Proofs.Ytklgdllllboipaa
open Go.RowKit
namespace Dig










end Dig
end Go.Proofs.Ytklgdllllboipaa
end
