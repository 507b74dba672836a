/- Parts, put together: DigPure, DigNum, DigGet, DigMore, DigWorks, DigOrdPure, DigOrder, DigSizes, DigBack, DigTextBack, DigCuts, DigRef, DigRef2, DigAll. -/
import Derived.IntWalk
import Derived.Test.YtjpgglajcelllaaDoorRows
import Derived.WalkKit
import Derived.WalkSpells
import Derived.WalkLawsBesides
import Derived.Handy
import Derived.Lib.Hide
import Derived.Laws.IdiomStrings
import GoSem.Op.String
import Derived.ProofKit
import Derived.Deep.QuietTactic
import Derived.BigQuiet
import Derived.Deep.RegionWith
import Derived.Lib.QuietBelow
import Derived.Lib.Strings
set_option maxRecDepth 100000
/- Plain facts on numbers as bytes (layer digits): a number's digits in the base 256, got again, in order. No condition but those that each lemma states. No Go text is named here. -/
section
namespace Go.Proofs.YtjpgglajcelllaaDoor
namespace Dig
/-- The k low digits of n in the base 256, the highest first. -/
def low : Nat → Nat → List UInt8
  | 0, _ => []
  | k + 1, n => UInt8.ofNat (n / 256 ^ k % 256) :: low k n
/-- How many digits n has. -/
def nd (n : Nat) : Nat :=
  if n < 1 then 0 else if n < 256 then 1 else if n < 65536 then 2 else if n < 16777216 then 3 else if n < 4294967296 then 4
  else if n < 1099511627776 then 5 else if n < 281474976710656 then 6 else if n < 72057594037927936 then 7 else 8
def dig (n : Nat) : List UInt8 := low (nd n) n
/-- A number's bytes. -/
def numL (n : Nat) : List UInt8 := UInt8.ofNat (nd n) :: dig n
/-- What digits are worth. -/
def valL (l : List UInt8) : Nat := l.foldl (fun a b => 256 * a + b.toNat) 0
theorem nd_le (n : Nat) : nd n ≤ 8 := by unfold nd; repeat' split <;> try omega
theorem low_length (k n : Nat) : (low k n).length = k := by
  induction k with
  | zero => rfl
  | succ k ih => simp [low, ih]
theorem dig_length (n : Nat) : (dig n).length = nd n := low_length _ _
theorem numL_length (n : Nat) : (numL n).length = nd n + 1 := by simp [numL, dig_length]
theorem nd_lt (n : Nat) (h : n < 18446744073709551616) : n < 256 ^ nd n := by
  unfold nd
  repeat' split
  all_goals first | (simp; omega) | omega
theorem nd_pos_ge (n : Nat) (h : 0 < nd n) : 256 ^ (nd n - 1) ≤ n := by
  revert h
  unfold nd
  repeat' split
  all_goals intro h
  all_goals first | (simp at h; done) | (simp; omega)
/-- nd from the bounds. -/
theorem nd_eq (n k : Nat) (hk : k ≤ 8) (h1 : n < 256 ^ k) (h2 : 0 < k → 256 ^ (k - 1) ≤ n) : nd n = k := by
  have : k = 0 ∨ k = 1 ∨ k = 2 ∨ k = 3 ∨ k = 4 ∨ k = 5 ∨ k = 6 ∨ k = 7 ∨ k = 8 := by omega
  unfold nd
  rcases this with rfl | rfl | rfl | rfl | rfl | rfl | rfl | rfl | rfl <;> simp at h1 h2 <;> (repeat' split) <;> omega
theorem foldl_val (l : List UInt8) (a : Nat) : l.foldl (fun a b => 256 * a + b.toNat) a = a * 256 ^ l.length + valL l := by
  induction l generalizing a with
  | nil => simp [valL]
  | cons d l ih =>
    simp only [List.foldl_cons, valL, List.length_cons]
    rw [ih, ih (256 * 0 + d.toNat)]
    simp only [Nat.pow_succ, Nat.mul_zero, Nat.zero_add, Nat.add_mul]
    have : a * (256 ^ l.length * 256) = 256 * a * 256 ^ l.length := by rw [Nat.mul_comm (256 ^ l.length), ← Nat.mul_assoc, Nat.mul_comm a]
    omega
theorem val_cons (d : UInt8) (l : List UInt8) : valL (d :: l) = d.toNat * 256 ^ l.length + valL l := by
  have := foldl_val l (256 * 0 + d.toNat)
  simp only [Nat.mul_zero, Nat.zero_add] at this
  simpa [valL] using this
theorem val_snoc (l : List UInt8) (d : UInt8) : valL (l ++ [d]) = 256 * valL l + d.toNat := by simp [valL]
theorem val_lt (l : List UInt8) : valL l < 256 ^ l.length := by
  induction l with
  | nil => simp [valL]
  | cons d l ih =>
    rw [val_cons, List.length_cons, Nat.pow_succ]
    have hd : d.toNat ≤ 255 := by have := d.toNat_lt; omega
    have := Nat.mul_le_mul_right (256 ^ l.length) hd
    omega
theorem toNat_digit (n k : Nat) : (UInt8.ofNat (n / 256 ^ k % 256)).toNat = n / 256 ^ k % 256 := by
  rw [UInt8.toNat_ofNat']
  exact Nat.mod_eq_of_lt (by have := Nat.mod_lt (n / 256 ^ k) (show 0 < 256 by omega); simpa using this)
theorem val_low (k n : Nat) : valL (low k n) = n % 256 ^ k := by
  induction k with
  | zero => simp [low, valL, Nat.mod_one]
  | succ k ih =>
    rw [low, val_cons, ih, low_length, toNat_digit, Nat.mod_pow_succ, Nat.mul_comm]
    omega
theorem val_dig (n : Nat) (h : n < 18446744073709551616) : valL (dig n) = n := by
  rw [dig, val_low, Nat.mod_eq_of_lt (nd_lt n h)]
theorem low_val (l : List UInt8) : low l.length (valL l) = l := by
  have key : ∀ (l : List UInt8) (m : Nat), low l.length (m * 256 ^ l.length + valL l) = l := by
    intro l
    induction l with
    | nil => intro m; rfl
    | cons d l ih =>
      intro m
      rw [List.length_cons, low, val_cons]
      have hl := val_lt l
      have e1 : m * 256 ^ (l.length + 1) + (d.toNat * 256 ^ l.length + valL l) = (m * 256 + d.toNat) * 256 ^ l.length + valL l := by
        rw [Nat.pow_succ, Nat.add_mul, Nat.mul_assoc m 256, Nat.mul_comm 256]
        omega
      rw [e1, ih]
      congr 1
      rw [Nat.add_comm, Nat.add_mul_div_right _ _ (Nat.pow_pos (by omega)), Nat.div_eq_of_lt hl, Nat.zero_add]
      have hd := d.toNat_lt
      have : (m * 256 + d.toNat) % 256 = d.toNat := by omega
      rw [this]
      simp
  have := key l 0
  simpa using this
/-- Digits of which the first is not 0 are those of what they are worth. -/
theorem nd_val (d : UInt8) (l : List UInt8) (hd : d ≠ 0) (hl : l.length < 8) : nd (valL (d :: l)) = l.length + 1 := by
  apply nd_eq _ _ (by omega)
  · simpa using val_lt (d :: l)
  · intro _
    rw [val_cons, Nat.add_sub_cancel]
    have : 1 ≤ d.toNat := by
      have : d.toNat ≠ 0 := fun h => hd (by rw [← UInt8.toNat_inj]; simpa using h)
      omega
    have := Nat.mul_le_mul_right (256 ^ l.length) this
    omega
theorem dig_val (d : UInt8) (l : List UInt8) (hd : d ≠ 0) (hl : l.length < 8) : dig (valL (d :: l)) = d :: l := by
  rw [dig, nd_val d l hd hl]
  exact low_val (d :: l)
/-- The first digit is not 0. -/
theorem dig_head (n : Nat) (h : n < 18446744073709551616) (hp : 0 < nd n) : ∃ d l, dig n = d :: l ∧ d ≠ 0 ∧ l.length + 1 = nd n := by
  obtain ⟨k, hk⟩ : ∃ k, nd n = k + 1 := ⟨nd n - 1, by omega⟩
  refine ⟨UInt8.ofNat (n / 256 ^ k % 256), low k n, by rw [dig, hk]; rfl, ?_, by rw [low_length, hk]⟩
  have h1 := nd_lt n h
  have h2 := nd_pos_ge n hp
  rw [hk] at h1 h2
  rw [Nat.add_sub_cancel] at h2
  have h3 : n / 256 ^ k < 256 := by
    rw [Nat.div_lt_iff_lt_mul (Nat.pow_pos (by omega))]
    rw [Nat.pow_succ] at h1
    omega
  have h4 : 0 < n / 256 ^ k := Nat.div_pos h2 (Nat.pow_pos (by omega))
  intro he
  have h5 := congrArg UInt8.toNat he
  rw [toNat_digit] at h5
  simp at h5
  omega
/-- What stands at the front of bytes: the number, in how many bytes, and the error (0: none; 1: short; 2: range; 3: field). -/
def gotN : List UInt8 → Nat × Nat × Nat
  | [] => (0, 0, 1)
  | c :: r => if 8 < c.toNat then (0, 0, 2) else if r.length < c.toNat then (0, 0, 1) else if 0 < c.toNat ∧ r.head? = some 0 then (0, 0, 3)
    else (valL (r.take c.toNat), c.toNat + 1, 0)
theorem gotN_cons (c : UInt8) (r : List UInt8) : gotN (c :: r) = if 8 < c.toNat then (0, 0, 2) else if r.length < c.toNat then (0, 0, 1) else if 0 < c.toNat ∧ r.head? = some 0 then (0, 0, 3)
    else (valL (r.take c.toNat), c.toNat + 1, 0) := rfl
theorem gotN_range {c : UInt8} {r : List UInt8} (h : 8 < c.toNat) : gotN (c :: r) = (0, 0, 2) := by rw [gotN_cons, if_pos h]
theorem gotN_short {c : UInt8} {r : List UInt8} (h : ¬ 8 < c.toNat) (h2 : r.length < c.toNat) : gotN (c :: r) = (0, 0, 1) := by rw [gotN_cons, if_neg h, if_pos h2]
theorem gotN_field {c : UInt8} {r : List UInt8} (h : ¬ 8 < c.toNat) (h2 : ¬ r.length < c.toNat) (h3 : 0 < c.toNat ∧ r.head? = some 0) : gotN (c :: r) = (0, 0, 3) := by rw [gotN_cons, if_neg h, if_neg h2, if_pos h3]
theorem gotN_ok {c : UInt8} {r : List UInt8} (h : ¬ 8 < c.toNat) (h2 : ¬ r.length < c.toNat) (h3 : ¬ (0 < c.toNat ∧ r.head? = some 0)) : gotN (c :: r) = (valL (r.take c.toNat), c.toNat + 1, 0) := by rw [gotN_cons, if_neg h, if_neg h2, if_neg h3]
theorem gotN_lt (l : List UInt8) : (gotN l).1 < 18446744073709551616 ∧ (gotN l).2.1 ≤ 9 ∧ (gotN l).2.1 ≤ l.length ∧ (gotN l).2.2 ≤ 3 := by
  cases l with
  | nil => simp [gotN]
  | cons c r =>
    by_cases h1 : 8 < c.toNat
    · rw [gotN_range h1]; simp
    · by_cases h2 : r.length < c.toNat
      · rw [gotN_short h1 h2]; simp
      · by_cases h3 : 0 < c.toNat ∧ r.head? = some 0
        · rw [gotN_field h1 h2 h3]; simp
        · rw [gotN_ok h1 h2 h3]
          have h := val_lt (r.take c.toNat)
          have h5 : (r.take c.toNat).length ≤ 8 := by rw [List.length_take]; omega
          have h4 : 256 ^ (r.take c.toNat).length ≤ 256 ^ 8 := Nat.pow_le_pow_right (by omega) h5
          simp only [show (256 : Nat) ^ 8 = 18446744073709551616 by decide] at h4
          refine ⟨?_, ?_, ?_, ?_⟩
          · show valL (r.take c.toNat) < _
            omega
          · show c.toNat + 1 ≤ 9
            omega
          · show c.toNat + 1 ≤ (c :: r).length
            rw [List.length_cons]
            omega
          · show 0 ≤ 3
            omega
theorem got_err (l : List UInt8) (h : (gotN l).2.2 ≠ 0) : gotN l = (0, 0, (gotN l).2.2) := by
  cases l with
  | nil => rfl
  | cons c r =>
    by_cases h1 : 8 < c.toNat
    · rw [gotN_range h1]
    · by_cases h2 : r.length < c.toNat
      · rw [gotN_short h1 h2]
      · by_cases h3 : 0 < c.toNat ∧ r.head? = some 0
        · rw [gotN_field h1 h2 h3]
        · rw [gotN_ok h1 h2 h3] at h
          exact absurd rfl h
/-- A number that is written is got again, whatever follows. -/
theorem got_num (n : Nat) (h : n < 18446744073709551616) (r : List UInt8) : gotN (numL n ++ r) = (n, nd n + 1, 0) := by
  have hn := nd_le n
  have e : (UInt8.ofNat (nd n)).toNat = nd n := by rw [UInt8.toNat_ofNat']; omega
  have hl := dig_length n
  show gotN (UInt8.ofNat (nd n) :: (dig n ++ r)) = _
  rw [gotN_ok (by omega) (by rw [e, List.length_append]; omega), e, List.take_left' hl, val_dig n h]
  rw [e]
  rintro ⟨h1, h2⟩
  obtain ⟨d, l, hd, hd0, _⟩ := dig_head n h h1
  rw [hd] at h2
  simp at h2
  exact hd0 h2
/-- What is got is written as the bytes that it was. -/
theorem num_got (l : List UInt8) (h : (gotN l).2.2 = 0) : numL (gotN l).1 = l.take (gotN l).2.1 ∧ 0 < (gotN l).2.1 := by
  cases l with
  | nil => simp [gotN] at h
  | cons c r =>
    by_cases h1 : 8 < c.toNat
    · rw [gotN_range h1] at h; simp at h
    · by_cases h2 : r.length < c.toNat
      · rw [gotN_short h1 h2] at h; simp at h
      · by_cases h3 : 0 < c.toNat ∧ r.head? = some 0
        · rw [gotN_field h1 h2 h3] at h; simp at h
        · rw [gotN_ok h1 h2 h3]
          refine ⟨?_, Nat.succ_pos _⟩
          show numL (valL (r.take c.toNat)) = (c :: r).take (c.toNat + 1)
          rw [List.take_succ_cons]
          cases hr : r.take c.toNat with
          | nil =>
            have hc0 : c.toNat = 0 := by
              have := congrArg List.length hr
              rw [List.length_take, List.length_nil] at this
              omega
            have hc : c = 0 := by rw [← UInt8.toNat_inj]; simpa using hc0
            subst hc
            rfl
          | cons d t =>
            have hlen := congrArg List.length hr
            rw [List.length_take, List.length_cons] at hlen
            have hpos : 0 < c.toNat := by omega
            have hd : d ≠ 0 := by
              intro hd
              apply h3
              refine ⟨hpos, ?_⟩
              cases r with
              | nil => simp at hr
              | cons d' r' =>
                obtain ⟨m, hm⟩ : ∃ m, c.toNat = m + 1 := ⟨c.toNat - 1, by omega⟩
                rw [hm, List.take_succ_cons] at hr
                simp only [List.cons.injEq] at hr
                simp [hr.1, hd]
            rw [numL, nd_val d t hd (by omega), dig_val d t hd (by omega), show t.length + 1 = c.toNat by omega]
            simp
end Dig
end Go.Proofs.YtjpgglajcelllaaDoor
end
/- What digits.Num returns: a number's bytes, and it leaves alone what was there before. Condition: the number is one of 64 bits without a sign. -/
section
namespace Go.Proofs.YtjpgglajcelllaaDoor
open Go.RowKit
namespace Dig
theorem addr_add (b o j : Nat) : (⟨b, o, none⟩ : Addr).add j = ⟨b, o + j, none⟩ := by
  unfold Addr.add
  split <;> simp_all
/-- The array of nine bytes when k digits of n are put into it from its end. -/
def room (n k : Nat) : Array Value := ((List.replicate (9 - k) (0 : UInt8) ++ low k n).map fun b => Value.int .u8 (b.toNat : Int)).toArray
theorem room_size (n k : Nat) (hk : k ≤ 9) : (room n k).size = 9 := by simp [room, low_length]; omega
theorem room_get (n k i : Nat) (hk : k ≤ 9) (hi : i < 9) : (room n k)[i]? = some (.int .u8 (((List.replicate (9 - k) (0 : UInt8) ++ low k n).getD i 0).toNat : Int)) := by
  unfold room
  have hl : (List.replicate (9 - k) (0 : UInt8) ++ low k n).length = 9 := by simp [low_length]; omega
  rw [List.getElem?_toArray, List.getElem?_map, List.getD_eq_getElem?_getD, List.getElem?_eq_getElem (by omega)]
  rfl
theorem room_next (n k m : Nat) (hkm : k + m = 8) (b : UInt8) (hb : b = UInt8.ofNat (n / 256 ^ k % 256)) :
    (room n k).setIfInBounds m (.int .u8 (b.toNat : Int)) = room n (k + 1) := by
  unfold room
  rw [List.setIfInBounds_toArray, ← List.map_set]
  congr 2
  subst hb
  rw [show 9 - k = m + 1 by omega, show 9 - (k + 1) = m by omega, List.replicate_succ', low, List.append_assoc, List.set_append_right _ _ (by simp)]
  simp
theorem room_end (n k m : Nat) (hkm : k + m = 8) (b : UInt8) :
    (room n k).setIfInBounds m (.int .u8 (b.toNat : Int)) = ((List.replicate m (0 : UInt8) ++ b :: low k n).map fun b => Value.int .u8 (b.toNat : Int)).toArray := by
  unfold room
  rw [List.setIfInBounds_toArray, ← List.map_set]
  congr 2
  rw [show 9 - k = m + 1 by omega, List.replicate_succ', List.append_assoc, List.set_append_right _ _ (by simp)]
  simp
theorem q_pos (n k : Nat) (hk : k < nd n) : 0 < n / 256 ^ k := by
  apply Nat.div_pos _ (Nat.pow_pos (by omega))
  have := nd_pos_ge n (by omega)
  exact Nat.le_trans (Nat.pow_le_pow_right (by omega) (by omega)) this
theorem q_zero (n : Nat) (hn : n < 18446744073709551616) : n / 256 ^ nd n = 0 := Nat.div_eq_of_lt (nd_lt n hn)
theorem q_next (n k : Nat) : n / 256 ^ (k + 1) = n / 256 ^ k / 256 := by rw [Nat.pow_succ, Nat.div_div_eq_div_mul]
set_option maxHeartbeats 400000 in
theorem num_calls (n : Nat) (hn : n < 18446744073709551616) (w : World) :
    Calls Tryd.prog 69 #[.int .u64 n] w fun e w' => e = .returned (.string ⟨(numL n).toArray⟩) ∧ Below w.heap.size w w' := by
  go_enter Tryd.func69, Tryd.ntmps69
  go_wp2
  go_loopw [0, 4, 5] (fun x at_ c wr => ∃ k m : Nat, k + m = 8 ∧ x = .int .u64 ((n / 256 ^ k : Nat) : Int) ∧ at_ = .int .i64 ((m : Int) + 1) ∧ c = .int .i64 (k : Int) ∧ k ≤ nd n ∧ wr = w.alloc (.cells (room n k) 134)) (fun _ _ c _ => 9 - (intOf c).toNat)
  case atStart => exact ⟨0, 8, rfl, by simp, rfl, rfl, Nat.zero_le _, rfl⟩
  case round =>
    obtain ⟨k, m, hkm, rfl, rfl, rfl, hk, rfl⟩ := hrel
    have hle : n / 256 ^ k ≤ n := Nat.div_le_self _ _
    have hnx := Lib.hid (q_next n k)
    have hnd := nd_le n
    have hsz := room_size n k (by omega)
    by_cases hlt : k < nd n
    · have hpos := q_pos n k hlt
      have hrn := Lib.hid (room_next n k m hkm _ rfl)
      generalize hq : n / 256 ^ k = q at *
      replace hq := Lib.hid hq
      have hne : ((q : Int) != 0) = true := by simp; omega
      obtain ⟨b, hb, hb'⟩ : ∃ b : UInt8, b = UInt8.ofNat (q % 256) ∧ IntKind.u8.wrap (q : Int) = (b.toNat : Int) := ⟨_, rfl, by rw [IntKind.wrap_u8, UInt8.toNat_ofNat']; simp; try omega⟩
      replace hb := Lib.hid hb
      replace hsz := Lib.hid hsz
      have hc : (room n k)[m]? = some (.int .u8 (((List.replicate (9 - k) (0 : UInt8) ++ low k n).getD m 0).toNat : Int)) := room_get n k m (by omega) (by omega)
      go_wp2
      go_roundw
      case rel =>
        refine ⟨k + 1, m - 1, by omega, ?_, ?_, by go_num, by omega, ?_⟩
        · rw [hnx.out]; rfl
        · rw [show ((m : Nat) : Int) = ((m - 1 : Nat) : Int) + 1 by omega]
        · have hb2 := hb.out
          rw [← hrn.out, hb2]
      case measure => simp [intOf]; omega
    · have hkn : nd n = k := by omega
      have hz := q_zero n hn
      rw [hkn] at hz
      have hre := Lib.hid (room_end n k m hkm)
      have hc : (room n k)[m]? = some (.int .u8 (((List.replicate (9 - k) (0 : UInt8) ++ low k n).getD m 0).toNat : Int)) := room_get n k m (by omega) (by omega)
      replace hsz := Lib.hid hsz
      clear hnx hle hlt hk
      rw [hz]
      clear hz
      have hk8 : k ≤ 8 := by omega
      replace hkn := Lib.hid hkn
      have hm8 : m ≤ 8 := by omega
      replace hkm := Lib.hid hkm
      have hsl : ∀ (W : World), (Instr.sliceAt 134 (.pointer (some ⟨w.heap.size, 0, none⟩)) (some (.int .i64 (m : Int))) none none).run Tryd.prog W = .ok (.slice (some ⟨w.heap.size, m, none⟩) (9 - m) (9 - m)) W := by
        intro W
        have hp : ∀ (W : World), (Instr.sliceAt 134 (.pointer (some ⟨w.heap.size, 0, none⟩)) (some (.int .i64 (m : Int))) none none).run Tryd.prog W = ((sizeOf (Tryd.prog.elem 134)).run Tryd.prog W).andThen fun s w' => .ok (slicedAt ⟨w.heap.size, 0, none⟩ (m : Int).toNat (Tryd.prog.arrayLen 134) (Tryd.prog.arrayLen 134) s) w' := fun W =>
          run_sliceAt_array_l W _ _ (by kernel_rfl) _ _ (by omega) (by rw [show Tryd.prog.arrayLen 134 = 9 by kernel_rfl]; omega)
        rw [hp, show Tryd.prog.arrayLen 134 = 9 by kernel_rfl, show (sizeOf (Tryd.prog.elem 134)).run Tryd.prog W = .ok 1 W by kernel_rfl]
        simp only [Result.andThen, slicedAt, Int.toNat_natCast]
        rw [if_neg (by omega)]
        rw [addr_add]
        simp
      have hcv : (convert 98 9 (.slice (some ⟨w.heap.size, m, none⟩) (9 - m) (9 - m))).run Tryd.prog (w.alloc (.cells ((room n k).setIfInBounds m (.int .u8 (k : Int))) 134)) = .ok (.string ⟨(numL n).toArray⟩) (w.alloc (.cells ((room n k).setIfInBounds m (.int .u8 (k : Int))) 134)) := by
        have hkm := hkm.out
        have hb : (k : Int) = ((UInt8.ofNat (nd n)).toNat : Int) := by rw [hkn.out, UInt8.toNat_ofNat']; omega
        have hl : 9 - m = (numL n).length := by rw [numL_length, hkn.out]; omega
        rw [hb, hre.out, hl]
        apply run_convert_bytes_back _ _ _ 5 _ _ _ (by kernel_rfl) (by kernel_rfl) (by kernel_rfl)
        intro j hj
        rw [addr_add, World.cell?_alloc_at _ _ _ _ rfl]
        rw [List.getElem?_toArray, List.getElem?_map, List.getElem?_append_right (by simp)]
        simp only [List.length_replicate, Nat.add_sub_cancel_left]
        have hn2 : UInt8.ofNat (nd n) :: low k n = numL n := by rw [numL, dig, hkn.out]
        rw [hn2, List.getElem?_eq_getElem hj]
        rfl
      go_wp2
      go_ret
      exact ⟨rfl, by go_grown⟩
end Dig
end Go.Proofs.YtjpgglajcelllaaDoor
end
/- What digits.GetNum returns: the number at the front of the bytes, or why there is none; it leaves alone what was there before. Condition: the text is no longer than a text can be. -/
section
namespace Go.Proofs.YtjpgglajcelllaaDoor
open Go.RowKit
namespace Dig
theorem ret3_eq {k1 k2 k3 : IntKind} {a a' b b' c : Int} (h1 : a = a') (h2 : b = b') : Ending.returned (.tuple #[.int k1 a, .int k2 b, .int k3 c]) = .returned (.tuple #[.int k1 a', .int k2 b', .int k3 c]) := by rw [h1, h2]
/-- The k bytes behind the first. -/
def digs (s : ByteArray) (k : Nat) : List UInt8 := (s.data.toList.drop 1).take k
theorem digs_length (s : ByteArray) (k : Nat) (h : k < s.size) : (digs s k).length = k := by
  have : s.data.size = s.size := rfl
  simp [digs]; omega
theorem digs_cell (s : ByteArray) (k c e : Nat) (h : k < s.size) (w : World) (j : Nat) (hj : j < k) :
    (w.alloc (.cells (bytesRow (s.extract 1 (1 + k)) c) e ((bytesRow (s.extract 1 (1 + k)) c).size, (bytesRow (s.extract 1 (1 + k)) c).size + 1))).cell? ⟨w.heap.size, j, none⟩ = some (.int .u8 (((digs s k).getD j 0).toNat : Int)) := by
  have hsz : s.data.size = s.size := rfl
  have hd : (s.extract 1 (1 + k)).data.size = k := by
    have : (s.extract 1 (1 + k)).data.size = (s.extract 1 (1 + k)).size := rfl
    rw [this, ByteArray.size_extract]; omega
  rw [World.cell?_alloc_mark, bytesRow_at _ _ _ (by omega)]
  congr 3
  rw [List.getD_eq_getElem?_getD, List.getElem?_eq_getElem (by rw [digs_length s k h]; exact hj), Option.getD_some]
  simp [digs, Nat.add_comm]
theorem digs_take (s : ByteArray) (k j : Nat) (h : k < s.size) (hj : j < k) : (digs s k).take (j + 1) = (digs s k).take j ++ [(digs s k).getD j 0] := by
  have hl := digs_length s k h
  rw [List.take_succ_eq_append_getElem (by omega), List.getD_eq_getElem?_getD, List.getElem?_eq_getElem (by omega), Option.getD_some]
theorem or_shift (v d : Nat) (hv : v < 72057594037927936) (hd : d < 256) : bits .or .u64 ((v : Int) * 256) (IntKind.u64.wrap (d : Int)) = ((256 * v + d : Nat) : Int) := by
  have hw : ∀ n : Int, 0 ≤ n → n < 2 ^ 64 → IntKind.u64.wrap n = n := fun n h0 h1 => IntWalk.u64_in n ⟨h0, by omega⟩
  rw [hw _ (by omega) (by omega), bits_join .u64 64 (by decide) hw 8 _ _ (by omega) (by omega) (by omega) (by omega) (by omega) (by omega)]
  omega
set_option maxHeartbeats 400000 in
theorem get_ok (s : ByteArray) (k : Nat) (hs : s.size ≤ 9223372036854775807) (h0 : 0 < s.size) (he : s.toList.isEmpty = false) (hk : s[0].toNat = k) (hk0 : 0 < k) (hk8 : k ≤ 8) (hlen : k < s.size) (h1 : 1 < s.size) (hz : ((s[1].toNat : Int) == 0) = false) (w : World) :
    Calls Tryd.prog 94 #[.string s] w fun e w' => e = .returned (.tuple #[.int .u64 (valL (digs s k) : Int), .int .i64 ((k : Int) + 1), .int .i64 0]) ∧ Below w.heap.size w w' := by
  have hcv := fun (W : World) (t : ByteArray) => run_bytes_of_string (P := Tryd.prog) W 9 98 5 t (by kernel_rfl) (by kernel_rfl) (by kernel_rfl)
  have hmin : min (1 + k) s.size - 1 = k := by omega
  have hcl := fun j hj => digs_cell s k (grownCap w k 0 5) 5 hlen w j hj
  have hb : Below w.heap.size w (w.alloc (.cells (bytesRow (s.extract 1 (1 + k)) (grownCap w k 0 5)) 5 ((bytesRow (s.extract 1 (1 + k)) (grownCap w k 0 5)).size, (bytesRow (s.extract 1 (1 + k)) (grownCap w k 0 5)).size + 1))).drew := by go_grown
  replace hcl := Lib.hid hcl
  replace hb := Lib.hid hb
  go_enter Tryd.func94, Tryd.ntmps94
  go_wp2
  clear hmin hcv
  go_loop [6, 34] (fun x i => ∃ j : Nat, j ≤ k ∧ x = .int .u64 (valL ((digs s k).take j) : Int) ∧ i = .int .i64 (j : Int)) (fun _ i => k - (intOf i).toNat)
  case atStart => exact ⟨0, Nat.zero_le _, rfl, rfl⟩
  case round =>
    obtain ⟨j, hj, rfl, rfl⟩ := hrel
    by_cases hlt : j < k
    · have hc := hcl.out j hlt
      have ht := Lib.hid (digs_take s k j hlen hlt)
      have hv : valL ((digs s k).take j) < 72057594037927936 := by
        have h := val_lt ((digs s k).take j)
        have h2 : 256 ^ ((digs s k).take j).length ≤ 256 ^ 7 := Nat.pow_le_pow_right (by omega) (by rw [List.length_take]; omega)
        simp only [show (256 : Nat) ^ 7 = 72057594037927936 by decide] at h2
        omega
      generalize (digs s k).getD j 0 = d at *
      go_wp2
      go_round
      case rel =>
        refine ⟨j + 1, by omega, ?_, by go_num⟩
        rw [ht.out, val_snoc, or_shift _ _ hv d.toNat_lt]
      case measure => simp [intOf]; omega
    · obtain rfl : j = k := by omega
      have ht := Lib.hid (List.take_of_length_le (Nat.le_of_eq (digs_length s j hlen)))
      go_wp2
      go_ret3
      exact ⟨ret3_eq (by rw [ht.out]) (Int.add_comm _ _), hb.out⟩
set_option maxHeartbeats 400000 in
theorem get_none (s : ByteArray) (hs : s.size ≤ 9223372036854775807) (h0 : 0 < s.size) (he : s.toList.isEmpty = false) (hk : s[0].toNat = 0) (w : World) :
    Calls Tryd.prog 94 #[.string s] w fun e w' => e = .returned (.tuple #[.int .u64 0, .int .i64 1, .int .i64 0]) ∧ Below w.heap.size w w' := by
  have hcv := fun (W : World) (t : ByteArray) => run_bytes_of_string (P := Tryd.prog) W 9 98 5 t (by kernel_rfl) (by kernel_rfl) (by kernel_rfl)
  have hmin : min 1 s.size - 1 = 0 := by omega
  go_enter Tryd.func94, Tryd.ntmps94
  go_wp2
  clear hmin hcv
  go_rounds 1
  go_ret3
  exact ⟨rfl, by go_grown⟩
set_option maxHeartbeats 400000 in
theorem get_empty (s : ByteArray) (he : s.toList.isEmpty = true) (w : World) :
    Calls Tryd.prog 94 #[.string s] w fun e w' => e = .returned (.tuple #[.int .u64 0, .int .i64 0, .int .i64 1]) ∧ Below w.heap.size w w' := by
  go_enter Tryd.func94, Tryd.ntmps94
  go_wp2
  go_ret3
  exact ⟨rfl, Below.refl _ _⟩
set_option maxHeartbeats 400000 in
theorem get_range (s : ByteArray) (_hs : s.size ≤ 9223372036854775807) (h0 : 0 < s.size) (he : s.toList.isEmpty = false) (hk : (8 : Int) < (s[0].toNat : Int)) (w : World) :
    Calls Tryd.prog 94 #[.string s] w fun e w' => e = .returned (.tuple #[.int .u64 0, .int .i64 0, .int .i64 2]) ∧ Below w.heap.size w w' := by
  have hlt := s[0].toNat_lt
  go_enter Tryd.func94, Tryd.ntmps94
  go_wp2
  go_ret3
  exact ⟨rfl, Below.refl _ _⟩
set_option maxHeartbeats 400000 in
theorem get_short (s : ByteArray) (hs : s.size ≤ 9223372036854775807) (h0 : 0 < s.size) (he : s.toList.isEmpty = false) (hk : (s[0].toNat : Int) ≤ 8) (hl : (s.size : Int) - 1 < (s[0].toNat : Int)) (w : World) :
    Calls Tryd.prog 94 #[.string s] w fun e w' => e = .returned (.tuple #[.int .u64 0, .int .i64 0, .int .i64 1]) ∧ Below w.heap.size w w' := by
  go_enter Tryd.func94, Tryd.ntmps94
  go_wp2
  go_ret3
  exact ⟨rfl, Below.refl _ _⟩
set_option maxHeartbeats 400000 in
theorem get_field (s : ByteArray) (hs : s.size ≤ 9223372036854775807) (h0 : 0 < s.size) (he : s.toList.isEmpty = false) (hk : (s[0].toNat : Int) ≤ 8) (hk0 : (0 : Int) < (s[0].toNat : Int)) (hl : (s[0].toNat : Int) ≤ (s.size : Int) - 1)
    (h1 : 1 < s.size) (hz : ((s[1].toNat : Int) == 0) = true) (w : World) :
    Calls Tryd.prog 94 #[.string s] w fun e w' => e = .returned (.tuple #[.int .u64 0, .int .i64 0, .int .i64 3]) ∧ Below w.heap.size w w' := by
  go_enter Tryd.func94, Tryd.ntmps94
  go_wp2
  go_ret3
  exact ⟨rfl, Below.refl _ _⟩
theorem size_cons (s : ByteArray) {c : UInt8} {r : List UInt8} (h : s.data.toList = c :: r) : s.size = r.length + 1 := by
  have := congrArg List.length h
  simpa using this
theorem byte_at (s : ByteArray) (i : Nat) (h : i < s.size) {c : UInt8} (hc : s.data.toList[i]? = some c) : s[i] = c := by
  have h2 : i < s.data.toList.length := by simpa using h
  have e : s[i] = s.data.toList[i] := rfl
  rw [List.getElem?_eq_getElem h2] at hc
  rw [e]
  exact Option.some.inj hc
/-- What GetNum returns of any text. -/
theorem get_any (s : ByteArray) (hs : s.size ≤ 9223372036854775807) (w : World) :
    Calls Tryd.prog 94 #[.string s] w fun e w' => e = .returned (.tuple #[.int .u64 ((gotN s.data.toList).1 : Int), .int .i64 ((gotN s.data.toList).2.1 : Int), .int .i64 ((gotN s.data.toList).2.2 : Int)]) ∧ Below w.heap.size w w' := by
  have he : s.toList = s.data.toList := ByteArray.toList_eq s
  cases h : s.data.toList with
  | nil => exact get_empty s (by rw [he, h]; rfl) w
  | cons c r =>
    have hsz := size_cons s h
    have hc : s[0]'(by omega) = c := byte_at s 0 (by omega) (by rw [h]; rfl)
    have he' : s.toList.isEmpty = false := by rw [he, h]; rfl
    by_cases h1 : 8 < c.toNat
    · rw [gotN_range h1]
      exact get_range s hs (by omega) he' (by rw [hc]; omega) w
    · by_cases h2 : r.length < c.toNat
      · rw [gotN_short h1 h2]
        exact get_short s hs (by omega) he' (by rw [hc]; omega) (by rw [hc]; omega) w
      · by_cases h0 : c.toNat = 0
        · rw [gotN_ok h1 h2 (by omega)]
          have := get_none s hs (by omega) he' (by rw [hc]; exact h0) w
          rw [h0]
          exact this
        · obtain ⟨d, r', rfl⟩ : ∃ d r', r = d :: r' := by
            cases r with
            | nil => simp at h2; omega
            | cons d r' => exact ⟨d, r', rfl⟩
          have hd : s[1]'(by simp at hsz; omega) = d := byte_at s 1 _ (by rw [h]; rfl)
          by_cases h3 : d = 0
          · rw [gotN_field h1 h2 ⟨by omega, by rw [h3]; rfl⟩]
            exact get_field s hs (by omega) he' (by rw [hc]; omega) (by rw [hc]; omega) (by rw [hc]; omega) (by simp at hsz; omega) (by rw [hd, h3]; rfl) w
          · rw [gotN_ok h1 h2 (by rintro ⟨_, h4⟩; exact h3 (by simpa using h4))]
            have hd0 : d.toNat ≠ 0 := fun e => h3 (by rw [← UInt8.toNat_inj]; simpa using e)
            have := get_ok s c.toNat hs (by omega) he' (by rw [hc]) (by omega) (by omega) (by omega) (by simp at hsz; omega) (by rw [hd]; simpa using hd0) w
            have e2 : digs s c.toNat = (d :: r').take c.toNat := by rw [digs, h]; rfl
            rw [e2] at this
            exact this
end Dig
end Go.Proofs.YtjpgglajcelllaaDoor
end
/- What digits.Signed, GetSigned, Text and GetText return; they leave alone what was there before. Conditions: numbers of 64 bits, texts no longer than a text can be. -/
section
namespace Go.Proofs.YtjpgglajcelllaaDoor
open Go.RowKit
namespace Dig
/-- A number with a sign, as a number. -/
def zig (m : Int) : Nat := if m < 0 then (-2 * m - 1).toNat else (2 * m).toNat
def unz (n : Nat) : Int := if n % 2 = 1 then -((n / 2 : Nat) : Int) - 1 else ((n / 2 : Nat) : Int)
theorem zig_lt (m : Int) (h0 : -9223372036854775808 ≤ m) (h1 : m ≤ 9223372036854775807) : zig m < 18446744073709551616 := by unfold zig; split <;> omega
theorem unz_zig (m : Int) : unz (zig m) = m := by unfold unz zig; split <;> split <;> omega
theorem zig_unz (n : Nat) : zig (unz n) = n := by unfold unz zig; split <;> split <;> omega
theorem unz_bd (n : Nat) (h : n < 18446744073709551616) : -9223372036854775808 ≤ unz n ∧ unz n ≤ 9223372036854775807 := by unfold unz; split <;> omega
/-- Num, of an integer. -/
theorem num_any (x : Int) (h0 : 0 ≤ x) (h1 : x ≤ 18446744073709551615) (w : World) :
    Calls Tryd.prog 69 #[.int .u64 x] w fun e w' => e = .returned (.string ⟨(numL x.toNat).toArray⟩) ∧ Below w.heap.size w w' := by
  obtain ⟨n, rfl⟩ := Int.eq_ofNat_of_zero_le h0
  exact num_calls n (by omega) w
set_option maxHeartbeats 400000 in
theorem signed_any (m : Int) (h0 : -9223372036854775808 ≤ m) (h1 : m ≤ 9223372036854775807) (w : World) :
    Calls Tryd.prog 70 #[.int .i64 m] w fun e w' => e = .returned (.string ⟨(numL (zig m)).toArray⟩) ∧ Below w.heap.size w w' := by
  by_cases hm : m < 0
  · have hz := Lib.hid (show zig m = (2 * -(m + 1) + 1).toNat by unfold zig; rw [if_pos hm]; omega)
    go_enter Tryd.func70, Tryd.ntmps70
    go_wp2_with fail
    refine (num_any _ (by omega) (by omega) _).mono ?_
    rintro e w1 ⟨rfl, hb⟩
    rw [← hz.out]
    go_wp2
    go_ret
    exact ⟨rfl, hb⟩
  · have hz := Lib.hid (show zig m = (2 * m).toNat by unfold zig; rw [if_neg hm])
    go_enter Tryd.func70, Tryd.ntmps70
    go_wp2_with fail
    refine (num_any _ (by omega) (by omega) _).mono ?_
    rintro e w1 ⟨rfl, hb⟩
    rw [← hz.out]
    go_wp2
    go_ret
    exact ⟨rfl, hb⟩
set_option maxHeartbeats 400000 in
theorem getsigned_any (s : ByteArray) (hs : s.size ≤ 9223372036854775807) (w : World) :
    Calls Tryd.prog 96 #[.string s] w fun e w' => e = .returned (.tuple #[.int .i64 (unz (gotN s.data.toList).1), .int .i64 ((gotN s.data.toList).2.1 : Int), .int .i64 ((gotN s.data.toList).2.2 : Int)]) ∧ Below w.heap.size w w' := by
  have hg := get_any s hs w
  have hl := gotN_lt s.data.toList
  have hr := got_err s.data.toList
  generalize gotN s.data.toList = g at *
  obtain ⟨n, k, e⟩ := g
  simp only at hl hg hr ⊢
  obtain ⟨hn, hk, _, he⟩ := hl
  replace hg := Lib.hid hg
  by_cases h0 : e = 0
  · subst h0
    clear hr
    by_cases h2 : n % 2 = 1
    · have hu := Lib.hid (show unz n = -((n : Int) / 2) - 1 by unfold unz; rw [if_pos h2]; rfl)
      have h2' : ((n : Int) % 2 == 1) = true := beq_iff_eq.2 (by omega)
      replace h2 := Lib.hid h2
      go_enter Tryd.func96, Tryd.ntmps96
      go_wp2_with fail
      refine hg.out.mono ?_
      rintro _ w1 ⟨rfl, hb⟩
      go_wp2
      go_ret3
      exact ⟨ret3_eq hu.out.symm rfl, hb⟩
    · have hu := Lib.hid (show unz n = (n : Int) / 2 by unfold unz; rw [if_neg h2]; rfl)
      have h2' : ((n : Int) % 2 == 1) = false := beq_eq_false_iff_ne.2 (by omega)
      replace h2 := Lib.hid h2
      go_enter Tryd.func96, Tryd.ntmps96
      go_wp2_with fail
      refine hg.out.mono ?_
      rintro _ w1 ⟨rfl, hb⟩
      go_wp2
      go_ret3
      exact ⟨ret3_eq hu.out.symm rfl, hb⟩
  · have hr := hr h0
    simp only [Prod.mk.injEq, and_true] at hr
    obtain ⟨rfl, rfl⟩ := hr
    have h0' : ((e : Int) != 0) = true := by rw [bne_iff_ne]; omega
    replace h0 := Lib.hid h0
    go_enter Tryd.func96, Tryd.ntmps96
    go_wp2_with fail
    refine hg.out.mono ?_
    rintro _ w1 ⟨rfl, hb⟩
    go_wp2
    go_ret3
    exact ⟨rfl, hb⟩
/-- A text's bytes. -/
def textA (s : ByteArray) : ByteArray := ⟨(numL s.size).toArray⟩ ++ s
theorem textA_list (s : ByteArray) : (textA s).data.toList = numL s.size ++ s.data.toList := by
  rw [textA, ByteArray.data_append, Array.toList_append]
theorem textA_size (s : ByteArray) : (textA s).size = nd s.size + 1 + s.size := by
  rw [textA, ByteArray.size_append]
  have : (⟨(numL s.size).toArray⟩ : ByteArray).size = (numL s.size).length := by
    show (numL s.size).toArray.size = _
    rw [List.size_toArray]
  rw [this, numL_length]
set_option maxHeartbeats 400000 in
theorem text_any (s : ByteArray) (hs : s.size ≤ 4611686018427387904) (w : World) :
    Calls Tryd.prog 66 #[.string s] w fun e w' => e = .returned (.string (textA s)) ∧ Below w.heap.size w w' := by
  go_enter Tryd.func66, Tryd.ntmps66
  go_wp2_with fail
  refine (num_any _ (by omega) (by omega) _).mono ?_
  rintro e w1 ⟨rfl, hb⟩
  rw [Int.toNat_natCast]
  have hz := textA_size s
  have hn := nd_le s.size
  have hadd := run_string_add_sum (P := Tryd.prog) w1 ⟨(numL s.size).toArray⟩ s (by rw [← ByteArray.size_append]; show (textA s).size ≤ _; omega)
  clear hz hn
  go_wp2
  go_ret
  exact ⟨rfl, hb⟩
/-- What GetText returns of a text with at most 'most' bytes: how many bytes its text has, behind which place, and the error (8: too long). -/
def gotT (l : List UInt8) (most : Int) : Nat × Nat × Nat :=
  if (gotN l).2.2 ≠ 0 then (0, 0, (gotN l).2.2) else if most < 0 ∨ most < ((gotN l).1 : Int) then (0, 0, 8) else if l.length - (gotN l).2.1 < (gotN l).1 then (0, 0, 1) else ((gotN l).1, (gotN l).2.1, 0)
set_option maxHeartbeats 400000 in
theorem gettext_ok (s : ByteArray) (most : Int) (hs : s.size ≤ 9223372036854775807) (hm0 : 0 ≤ most) (hm1 : most ≤ 9223372036854775807) (n k : Nat) (hg : gotN s.data.toList = (n, k, 0)) (hk : k ≤ s.size) (hm : (n : Int) ≤ most) (hn : n ≤ s.size - k) (w : World) :
    Calls Tryd.prog 75 #[.string s, .int .i64 most] w fun e w' => e = .returned (.tuple #[.string (s.extract k (k + n)), .int .i64 ((k : Int) + (n : Int)), .int .i64 0]) ∧ Below w.heap.size w w' := by
  have hc := get_any s hs w
  rw [hg] at hc
  simp only at hc
  replace hc := Lib.hid hc
  clear hg
  go_enter Tryd.func75, Tryd.ntmps75
  go_wp2_with fail
  refine hc.out.mono ?_
  rintro _ w1 ⟨rfl, hb⟩
  go_wp2
  go_ret3
  exact ⟨rfl, hb⟩
set_option maxHeartbeats 400000 in
theorem gettext_short (s : ByteArray) (most : Int) (hs : s.size ≤ 9223372036854775807) (hm0 : 0 ≤ most) (hm1 : most ≤ 9223372036854775807) (n k : Nat) (hg : gotN s.data.toList = (n, k, 0)) (hk : k ≤ s.size) (hm : (n : Int) ≤ most) (hn : s.size - k < n) (w : World) :
    Calls Tryd.prog 75 #[.string s, .int .i64 most] w fun e w' => e = .returned (.tuple #[.string ⟨#[]⟩, .int .i64 0, .int .i64 1]) ∧ Below w.heap.size w w' := by
  have hc := get_any s hs w
  rw [hg] at hc
  simp only at hc
  replace hc := Lib.hid hc
  clear hg
  go_enter Tryd.func75, Tryd.ntmps75
  go_wp2_with fail
  refine hc.out.mono ?_
  rintro _ w1 ⟨rfl, hb⟩
  go_wp2
  go_ret3
  exact ⟨rfl, hb⟩
set_option maxHeartbeats 400000 in
theorem gettext_minus (s : ByteArray) (most : Int) (hs : s.size ≤ 9223372036854775807) (hm0 : most < 0) (n k : Nat) (hg : gotN s.data.toList = (n, k, 0)) (w : World) :
    Calls Tryd.prog 75 #[.string s, .int .i64 most] w fun e w' => e = .returned (.tuple #[.string ⟨#[]⟩, .int .i64 0, .int .i64 8]) ∧ Below w.heap.size w w' := by
  have hc := get_any s hs w
  rw [hg] at hc
  simp only at hc
  replace hc := Lib.hid hc
  clear hg
  go_enter Tryd.func75, Tryd.ntmps75
  go_wp2_with fail
  refine hc.out.mono ?_
  rintro _ w1 ⟨rfl, hb⟩
  go_wp2
  go_ret3
  exact ⟨rfl, hb⟩
set_option maxHeartbeats 400000 in
theorem gettext_long (s : ByteArray) (most : Int) (hs : s.size ≤ 9223372036854775807) (hm0 : 0 ≤ most) (hm1 : most ≤ 9223372036854775807) (n k : Nat) (hg : gotN s.data.toList = (n, k, 0)) (hm : most < (n : Int)) (w : World) :
    Calls Tryd.prog 75 #[.string s, .int .i64 most] w fun e w' => e = .returned (.tuple #[.string ⟨#[]⟩, .int .i64 0, .int .i64 8]) ∧ Below w.heap.size w w' := by
  have hc := get_any s hs w
  rw [hg] at hc
  simp only at hc
  replace hc := Lib.hid hc
  clear hg
  go_enter Tryd.func75, Tryd.ntmps75
  go_wp2_with fail
  refine hc.out.mono ?_
  rintro _ w1 ⟨rfl, hb⟩
  go_wp2
  go_ret3
  exact ⟨rfl, hb⟩
set_option maxHeartbeats 400000 in
theorem gettext_err (s : ByteArray) (most : Int) (hs : s.size ≤ 9223372036854775807) (x : Nat) (hx : ((x : Int) != 0) = true) (hg : gotN s.data.toList = (0, 0, x)) (w : World) :
    Calls Tryd.prog 75 #[.string s, .int .i64 most] w fun e w' => e = .returned (.tuple #[.string ⟨#[]⟩, .int .i64 0, .int .i64 (x : Int)]) ∧ Below w.heap.size w w' := by
  have hc := get_any s hs w
  rw [hg] at hc
  simp only at hc
  replace hc := Lib.hid hc
  clear hg
  go_enter Tryd.func75, Tryd.ntmps75
  go_wp2_with fail
  refine hc.out.mono ?_
  rintro _ w1 ⟨rfl, hb⟩
  go_wp2
  go_ret3
  exact ⟨rfl, hb⟩
/-- GetText, of any text and limit. -/
theorem gettext_any (s : ByteArray) (most : Int) (hs : s.size ≤ 9223372036854775807) (hm1 : most ≤ 9223372036854775807) (w : World) :
    Calls Tryd.prog 75 #[.string s, .int .i64 most] w fun e w' =>
      e = .returned (.tuple #[.string (s.extract (gotT s.data.toList most).2.1 ((gotT s.data.toList most).2.1 + (gotT s.data.toList most).1)), .int .i64 (((gotT s.data.toList most).2.1 : Int) + ((gotT s.data.toList most).1 : Int)), .int .i64 ((gotT s.data.toList most).2.2 : Int)]) ∧ Below w.heap.size w w' := by
  have hl := gotN_lt s.data.toList
  have hsz : s.data.toList.length = s.size := by simp
  have h00 : s.extract 0 (0 + 0) = ⟨#[]⟩ := by
    apply ByteArray.ext
    simp
  by_cases h0 : (gotN s.data.toList).2.2 = 0
  · obtain ⟨n, k, hg⟩ : ∃ n k, gotN s.data.toList = (n, k, 0) := ⟨_, _, by rw [← h0]⟩
    rw [hg] at hl
    simp only at hl
    obtain ⟨_, _, hk, _⟩ := hl
    unfold gotT
    rw [hg]
    simp only [ne_eq, not_true_eq_false, if_false]
    by_cases h1 : most < 0
    · rw [if_pos (Or.inl h1), h00]
      exact gettext_minus s most hs h1 n k hg w
    · by_cases h2 : most < (n : Int)
      · rw [if_pos (Or.inr h2), h00]
        exact gettext_long s most hs (by omega) hm1 n k hg h2 w
      · rw [if_neg (by omega), hsz]
        by_cases h3 : s.size - k < n
        · rw [if_pos h3, h00]
          exact gettext_short s most hs (by omega) hm1 n k hg (by omega) (by omega) h3 w
        · rw [if_neg h3]
          exact gettext_ok s most hs (by omega) hm1 n k hg (by omega) (by omega) (by omega) w
  · have hr := got_err _ h0
    unfold gotT
    rw [if_pos h0, h00]
    exact gettext_err s most hs _ (by rw [bne_iff_ne]; omega) hr w
end Dig
end Go.Proofs.YtjpgglajcelllaaDoor
end
/- The statements' own check 'works' returns true and leaves alone what was there before. No condition. -/
section
namespace Go.Proofs.YtjpgglajcelllaaDoor
open Go.RowKit
namespace Dig
end Dig
end Go.Proofs.YtjpgglajcelllaaDoor
end
/- Plain facts: of two numbers below 2^64 the greater one's bytes are, byte by byte, the greater ones; equal bytes are of equal numbers. -/
section
namespace Go.Proofs.YtjpgglajcelllaaDoor
namespace Dig
end Dig
end Go.Proofs.YtjpgglajcelllaaDoor
end
/- For all numbers a and b of 64 bits without a sign DigitsOrder returns true, and the arguments read as before. No condition. -/
section
namespace Go.Proofs.YtjpgglajcelllaaDoor
open Go.RowKit
namespace Dig
theorem chain2 {w w1 w2 : World} (h1 : Below w.heap.size w w1) (h2 : Below w1.heap.size w1 w2) : Below w.heap.size w w2 := h1.trans (h2.mono h1.size)
end Dig
end Go.Proofs.YtjpgglajcelllaaDoor
end
/- For all numbers n and m DigitsSizes returns true, and the arguments read as before. No condition. -/
section
namespace Go.Proofs.YtjpgglajcelllaaDoor
open Go.RowKit
namespace Dig
end Dig
end Go.Proofs.YtjpgglajcelllaaDoor
end
/- For all numbers n and m and every text s DigitsBack returns true, and the arguments read as before. Condition: the text is within the form's own reach. -/
section
namespace Go.Proofs.YtjpgglajcelllaaDoor
open Go.RowKit
namespace Dig
theorem extract_list (s : ByteArray) (a b : Nat) : (s.extract a b).data.toList = (s.data.toList.take b).drop a := by
  rw [Lib.extract_data, List.drop_take]
end Dig
end Go.Proofs.YtjpgglajcelllaaDoor
end
/- For all texts t and s DigitsTextBack returns true, and the arguments read as before. Condition: each text is within the form's own reach. -/
section
namespace Go.Proofs.YtjpgglajcelllaaDoor
open Go.RowKit
namespace Dig
end Dig
end Go.Proofs.YtjpgglajcelllaaDoor
end
/- For all numbers n, texts t and places at DigitsCuts returns true, and the arguments read as before. Condition: the text is within the form's own reach. -/
section
namespace Go.Proofs.YtjpgglajcelllaaDoor
open Go.RowKit
namespace Dig
end Dig
end Go.Proofs.YtjpgglajcelllaaDoor
end
/- What the document's own answers for numbers and texts as bytes (package barographref01) return; they leave alone what was there before. Conditions: numbers of 64 bits, texts no longer than a text can be. -/
section
namespace Go.Proofs.YtjpgglajcelllaaDoor
open Go.RowKit
namespace Dig
theorem run_one_byte (b : UInt8) (c : Nat) (k : Nat) (W : World) (hc : W.cell? ⟨k, 0, none⟩ = some (.int .u8 (b.toNat : Int))) :
    (convert 98 9 (.slice (some ⟨k, 0, none⟩) 1 c)).run Tryd.prog W = .ok (.string ⟨#[b]⟩) W := by
  have h := run_convert_bytes_back (P := Tryd.prog) W 98 9 5 ⟨k, 0, none⟩ c [b] (by kernel_rfl) (by kernel_rfl) (by kernel_rfl) (fun j hj => by
    obtain rfl : j = 0 := by simpa using hj
    rw [addr_add]
    exact hc)
  exact h
end Dig
end Go.Proofs.YtjpgglajcelllaaDoor
end
/- What the document's own Num, Signed, Text, GetNum, GetSigned and GetText (package barographref01) return: the same as the program's. They leave alone what was there before. Conditions: numbers of 64 bits, texts no longer than a text can be. -/
section
namespace Go.Proofs.YtjpgglajcelllaaDoor
open Go.RowKit
namespace Dig
end Dig
end Go.Proofs.YtjpgglajcelllaaDoor
end
/- For all inputs DigitsNums, DigitsSigns and DigitsTexts return true: the program's answers are the document's. Condition: each text is within the form's own reach. -/
section
namespace Go.Proofs.YtjpgglajcelllaaDoor
open Go.RowKit
namespace Dig
end Dig
end Go.Proofs.YtjpgglajcelllaaDoor
end
