/- Parts, put together: XorPure, XorRef, XorRef2, XorRef3, XorRef4. -/
import Derived.Test.YtlgjbcmloochiaaGreatDoorZaPBit2
import Derived.Test.YtlgjbcmloochiaaGreatDoorZaPBit3
import Derived.Test.YtlgjbcmloochiaaGreatDoorZaPObj
import Derived.StillTailTactics
import Derived.Lib.QuietBelow
set_option maxRecDepth 100000

/- Patterns as plain data (layer 7): lead and tail, what is written of a pattern, what is read. Names no function of the program. -/
section
namespace Go.Proofs.YtlgjbcmloochiaaGreatDoor
namespace Xr
open Bit
set_option linter.unusedVariables false

/-! ### lead, tail -/
def upTo (p : Nat → Bool) : Nat → Nat → Nat
  | 0, n => n
  | m + 1, n => if p n then upTo p m (n + 1) else n
theorem upTo_le (p : Nat → Bool) : ∀ m n, upTo p m n ≤ n + m
  | 0, n => Nat.le_refl _
  | m + 1, n => by
    unfold upTo
    split
    · have := upTo_le p m (n + 1); omega
    · omega
theorem upTo_all (p : Nat → Bool) : ∀ m n i, n ≤ i → i < upTo p m n → p i = true
  | 0, n, i, h1, h2 => by unfold upTo at h2; omega
  | m + 1, n, i, h1, h2 => by
    unfold upTo at h2
    split at h2
    · rename_i hp
      by_cases e : i = n
      · rw [e]; exact hp
      · exact upTo_all p m (n + 1) i (by omega) h2
    · omega
theorem upTo_stop (p : Nat → Bool) : ∀ m n, upTo p m n < n + m → p (upTo p m n) = false
  | 0, n, h => by unfold upTo at h; omega
  | m + 1, n, h => by
    unfold upTo at h ⊢
    split at h
    · rename_i hp
      rw [if_pos hp]
      exact upTo_stop p m (n + 1) (by omega)
    · rename_i hp
      rw [if_neg hp]
      simpa using hp
theorem upTo_is (p : Nat → Bool) (m k : Nat) (hk : k ≤ m) (h1 : ∀ i, i < k → p i = true) (h2 : k < m → p k = false) : upTo p m 0 = k := by
  have ha := upTo_all p m 0
  have hs := upTo_stop p m 0
  have hl := upTo_le p m 0
  rcases Nat.lt_trichotomy (upTo p m 0) k with h | h | h
  · have := hs (by omega); rw [h1 _ h] at this; cases this
  · exact h
  · have := ha k (by omega) h; rw [h2 (by omega)] at this; cases this
/-- How many bits 0 a number of 64 bits begins with, 31 at most. -/
def lead (d : Nat) : Nat := upTo (fun n => d / 2 ^ (63 - n) == 0) 31 0
/-- How many it ends with, 63 at most. -/
def tail (d : Nat) : Nat := upTo (fun n => d / 2 ^ n % 2 == 0) 63 0
theorem lead_le (d : Nat) : lead d ≤ 31 := by have := upTo_le (fun n => d / 2 ^ (63 - n) == 0) 31 0; unfold lead; omega
theorem tail_le (d : Nat) : tail d ≤ 63 := by have := upTo_le (fun n => d / 2 ^ n % 2 == 0) 63 0; unfold tail; omega
theorem lead_lt {d : Nat} (hd : d < 2 ^ 64) : d < 2 ^ (64 - lead d) := by
  by_cases h : lead d = 0
  · rw [h]; exact hd
  · have := upTo_all (fun n => d / 2 ^ (63 - n) == 0) 31 0 (lead d - 1) (Nat.zero_le _) (by unfold lead at h ⊢; omega)
    have h2 : d / 2 ^ (63 - (lead d - 1)) = 0 := by simpa using this
    have h3 : 63 - (lead d - 1) = 64 - lead d := by omega
    rw [h3] at h2
    exact (Nat.div_eq_zero_iff_lt (Nat.two_pow_pos _)).1 h2
/-- Bit by bit: all that is below the tail is 0. -/
theorem tail_low (d i : Nat) (h : i < tail d) : d / 2 ^ i % 2 = 0 := by
  have := upTo_all (fun n => d / 2 ^ n % 2 == 0) 63 0 i (Nat.zero_le _) h
  simpa using this
theorem dvd_of_low (d : Nat) : ∀ t, (∀ i, i < t → d / 2 ^ i % 2 = 0) → 2 ^ t ∣ d
  | 0, _ => Nat.one_dvd _
  | t + 1, h => by
    obtain ⟨q, hq⟩ := dvd_of_low d t fun i hi => h i (by omega)
    have h1 := h t (by omega)
    rw [hq, Nat.mul_div_cancel_left _ (Nat.two_pow_pos t)] at h1
    refine ⟨q / 2, ?_⟩
    have : q = 2 * (q / 2) := by omega
    rw [Nat.pow_succ, Nat.mul_assoc, ← this]
    exact hq
theorem tail_dvd (d : Nat) : 2 ^ tail d ∣ d := dvd_of_low d _ (tail_low d)
theorem dvd_le {d t u : Nat} (h : 2 ^ u ∣ d) (htu : t ≤ u) : 2 ^ t ∣ d := Nat.dvd_trans (Nat.pow_dvd_pow 2 htu) h
theorem sum_le {d : Nat} (hd : d < 2 ^ 64) (h0 : 0 < d) : lead d + tail d ≤ 63 := by
  obtain ⟨q, hq⟩ := tail_dvd d
  have hq0 : 0 < q := by
    rcases Nat.eq_zero_or_pos q with h | h
    · rw [h] at hq; simp at hq; omega
    · exact h
  have h1 : 2 ^ tail d ≤ d := Nat.le_of_dvd h0 (tail_dvd d)
  have h2 := lead_lt hd
  have h3 : 2 ^ tail d < 2 ^ (64 - lead d) := Nat.lt_of_le_of_lt h1 h2
  have h4 := (Nat.pow_lt_pow_iff_right (by decide : 1 < 2)).1 h3
  have := lead_le d
  omega
/-- What stands between lead and tail. -/
theorem mid_lt {d l t : Nat} (h : d < 2 ^ (64 - l)) (hlt : l + t ≤ 64) : d / 2 ^ t < 2 ^ (64 - l - t) := by
  rw [Nat.div_lt_iff_lt_mul (Nat.two_pow_pos _), ← Nat.pow_add]
  have : 64 - l - t + t = 64 - l := by omega
  rw [this]; exact h
theorem mid_back {d t : Nat} (h : 2 ^ t ∣ d) : d / 2 ^ t * 2 ^ t = d := Nat.div_mul_cancel h

/-! ### the coder -/
structure Cd where
  begun : Bool
  v : Nat
  win : Bool
  lead : Nat
  tail : Nat
def newC : Cd := ⟨false, 0, false, 0, 0⟩
/-- What is written of a pattern. -/
def putB (c : Cd) (v : Nat) : List Bool :=
  if c.begun = false then bitsOf v 64 else
  if v ^^^ c.v = 0 then [false] else
  if c.win = true ∧ c.lead ≤ lead (v ^^^ c.v) ∧ c.tail ≤ tail (v ^^^ c.v) then [true, false] ++ bitsOf ((v ^^^ c.v) / 2 ^ c.tail) (64 - c.lead - c.tail) else
  [true, true] ++ bitsOf (lead (v ^^^ c.v)) 5 ++ bitsOf (63 - lead (v ^^^ c.v) - tail (v ^^^ c.v)) 6 ++ bitsOf ((v ^^^ c.v) / 2 ^ tail (v ^^^ c.v)) (64 - lead (v ^^^ c.v) - tail (v ^^^ c.v))
def putC (c : Cd) (v : Nat) : Cd :=
  if c.begun = false then { c with begun := true, v := v } else
  if v ^^^ c.v = 0 then { c with v := v } else
  if c.win = true ∧ c.lead ≤ lead (v ^^^ c.v) ∧ c.tail ≤ tail (v ^^^ c.v) then { c with v := v } else
  { begun := true, v := v, win := true, lead := lead (v ^^^ c.v), tail := tail (v ^^^ c.v) }
structure Cd.Ok (c : Cd) : Prop where
  v : c.v < 2 ^ 64
  lead : c.lead ≤ 31
  sum : c.lead + c.tail ≤ 63
theorem ok_new : newC.Ok := ⟨by decide, by decide, by decide⟩
theorem xor_lt {a b : Nat} (ha : a < 2 ^ 64) (hb : b < 2 ^ 64) : a ^^^ b < 2 ^ 64 := Nat.xor_lt_two_pow ha hb
theorem xor_pos {a b : Nat} (h : ¬ a ^^^ b = 0) : 0 < a ^^^ b := Nat.pos_of_ne_zero h
theorem Cd.Ok.put {c : Cd} (h : c.Ok) {v : Nat} (hv : v < 2 ^ 64) : (putC c v).Ok := by
  unfold putC
  split
  · exact ⟨hv, h.lead, h.sum⟩
  split
  · exact ⟨hv, h.lead, h.sum⟩
  split
  · exact ⟨hv, h.lead, h.sum⟩
  · rename_i h0 _
    exact ⟨hv, lead_le _, sum_le (xor_lt hv h.v) (xor_pos h0)⟩
theorem putB_len {c : Cd} (v : Nat) : (putB c v).length ≤ 77 := by
  unfold putB
  split
  · rw [bitsOf_length]; omega
  split
  · simp
  split
  · rw [List.length_append, bitsOf_length]; simp; omega
  · simp only [List.length_append, bitsOf_length]; simp; omega

/-- What the next bits tell, if they are what is written of a pattern: the pattern, how many bits. -/
def guess (c : Cd) (K : List Bool) : Option (Nat × Nat) :=
  if c.begun = false then (if 64 ≤ K.length then some (numOf (K.take 64), 64) else none) else
  match K with
  | [] => none
  | false :: _ => some (c.v, 1)
  | [true] => none
  | true :: false :: R => if c.win = true ∧ 64 - c.lead - c.tail ≤ R.length then some (c.v ^^^ (numOf (R.take (64 - c.lead - c.tail)) * 2 ^ c.tail % 2 ^ 64), 66 - c.lead - c.tail) else none
  | true :: true :: R =>
    if 11 ≤ R.length ∧ numOf (R.take 5) + numOf ((R.drop 5).take 6) + 1 ≤ 64 ∧ numOf ((R.drop 5).take 6) + 1 ≤ (R.drop 11).length then
      some (c.v ^^^ (numOf ((R.drop 11).take (numOf ((R.drop 5).take 6) + 1)) * 2 ^ (63 - numOf (R.take 5) - numOf ((R.drop 5).take 6)) % 2 ^ 64), 14 + numOf ((R.drop 5).take 6)) else none
/-- What is read. -/
def getR (c : Cd) (K : List Bool) : Option (Nat × Nat) :=
  match guess c K with
  | none => none
  | some (v, n) => if putB c v = K.take n then some (v, n) else none
theorem guess_put {c : Cd} (hc : c.Ok) {v : Nat} (hv : v < 2 ^ 64) (R : List Bool) : guess c (putB c v ++ R) = some (v, (putB c v).length) := by
  unfold guess putB
  by_cases h1 : c.begun = false
  · rw [if_pos h1, if_pos h1, if_pos (by rw [List.length_append, bitsOf_length]; omega), List.take_left' (bitsOf_length v 64), numOf_bitsOf, bitsOf_length, Nat.mod_eq_of_lt hv]
  · rw [if_neg h1, if_neg h1]
    by_cases h2 : v ^^^ c.v = 0
    · rw [if_pos h2]
      have : c.v = v := by
        have e : c.v ^^^ (v ^^^ c.v) = v := by rw [Nat.xor_comm v, ← Nat.xor_assoc, Nat.xor_self, Nat.zero_xor]
        rw [h2, Nat.xor_zero] at e
        exact e
      rw [← this]
      rfl
    · rw [if_neg h2]
      have hd := xor_lt hv hc.v
      have hp := xor_pos h2
      have hback : c.v ^^^ (v ^^^ c.v) = v := by rw [Nat.xor_comm v, ← Nat.xor_assoc, Nat.xor_self, Nat.zero_xor]
      generalize v ^^^ c.v = d at *
      have hl := lead_lt hd
      have hs := sum_le hd hp
      have hsum := hc.sum
      by_cases h3 : c.win = true ∧ c.lead ≤ lead d ∧ c.tail ≤ tail d
      · rw [if_pos h3]
        have hm : d / 2 ^ c.tail < 2 ^ (64 - c.lead - c.tail) := mid_lt (Nat.lt_of_lt_of_le hl (Nat.pow_le_pow_right (by decide) (by omega))) (by omega)
        have hb := mid_back (dvd_le (tail_dvd d) h3.2.2)
        have hcut : [true, false] ++ bitsOf (d / 2 ^ c.tail) (64 - c.lead - c.tail) ++ R = true :: false :: (bitsOf (d / 2 ^ c.tail) (64 - c.lead - c.tail) ++ R) := by simp
        rw [hcut]
        show (if c.win = true ∧ 64 - c.lead - c.tail ≤ (bitsOf (d / 2 ^ c.tail) (64 - c.lead - c.tail) ++ R).length then some (c.v ^^^ (numOf ((bitsOf (d / 2 ^ c.tail) (64 - c.lead - c.tail) ++ R).take (64 - c.lead - c.tail)) * 2 ^ c.tail % 2 ^ 64), 66 - c.lead - c.tail) else none) = _
        rw [if_pos ⟨h3.1, by rw [List.length_append, bitsOf_length]; omega⟩, List.take_left' (bitsOf_length _ _), numOf_bitsOf, Nat.mod_eq_of_lt hm, hb, Nat.mod_eq_of_lt hd, hback]
        simp only [List.length_append, bitsOf_length, List.length_cons, List.length_nil]
        congr 2
        omega
      · rw [if_neg h3]
        have hm : d / 2 ^ tail d < 2 ^ (64 - lead d - tail d) := mid_lt hl (by omega)
        have hb := mid_back (tail_dvd d)
        have hll := lead_le d
        generalize lead d = a at *
        generalize tail d = b at *
        have e5 : numOf (bitsOf a 5) = a := by rw [numOf_bitsOf, Nat.mod_eq_of_lt (by omega)]
        have e6 : numOf (bitsOf (63 - a - b) 6) = 63 - a - b := by rw [numOf_bitsOf, Nat.mod_eq_of_lt (by omega)]
        obtain ⟨Q, hQ⟩ : ∃ Q, Q = bitsOf a 5 ++ (bitsOf (63 - a - b) 6 ++ (bitsOf (d / 2 ^ b) (64 - a - b) ++ R)) := ⟨_, rfl⟩
        have hcut : [true, true] ++ bitsOf a 5 ++ bitsOf (63 - a - b) 6 ++ bitsOf (d / 2 ^ b) (64 - a - b) ++ R = true :: true :: Q := by rw [hQ]; simp
        have t5 : Q.take 5 = bitsOf a 5 := by rw [hQ, List.take_left' (bitsOf_length _ _)]
        have d5 : Q.drop 5 = bitsOf (63 - a - b) 6 ++ (bitsOf (d / 2 ^ b) (64 - a - b) ++ R) := by rw [hQ, List.drop_left' (bitsOf_length _ _)]
        have d11 : Q.drop 11 = bitsOf (d / 2 ^ b) (64 - a - b) ++ R := by
          rw [show (11 : Nat) = 5 + 6 by rfl, ← List.drop_drop, d5, List.drop_left' (bitsOf_length _ _)]
        have hlen : Q.length = 11 + (64 - a - b) + R.length := by rw [hQ]; simp only [List.length_append, bitsOf_length]; omega
        rw [hcut]
        show (if 11 ≤ Q.length ∧ numOf (Q.take 5) + numOf ((Q.drop 5).take 6) + 1 ≤ 64 ∧ numOf ((Q.drop 5).take 6) + 1 ≤ (Q.drop 11).length then _ else _) = _
        have t6 : numOf ((Q.drop 5).take 6) = 63 - a - b := by rw [d5, List.take_left' (bitsOf_length _ _), e6]
        rw [t6, t5, e5, d11]
        rw [if_pos ⟨by omega, by omega, by rw [List.length_append, bitsOf_length]; omega⟩]
        rw [show 63 - a - b + 1 = 64 - a - b by omega, List.take_left' (bitsOf_length _ _), numOf_bitsOf, Nat.mod_eq_of_lt hm, show 63 - a - (63 - a - b) = b by omega, hb, Nat.mod_eq_of_lt hd, hback]
        simp only [List.length_append, bitsOf_length, List.length_cons, List.length_nil]
        congr 2
        omega
/-- What is written is read again. -/
theorem get_put {c : Cd} (hc : c.Ok) {v : Nat} (hv : v < 2 ^ 64) (R : List Bool) : getR c (putB c v ++ R) = some (v, (putB c v).length) := by
  unfold getR
  rw [guess_put hc hv R]
  simp
theorem get_le {c : Cd} {K : List Bool} {v n : Nat} (h : getR c K = some (v, n)) : n ≤ K.length ∧ (putB c v).length = n ∧ K.take n = putB c v := by
  unfold getR at h
  cases hg : guess c K with
  | none => rw [hg] at h; simp at h
  | some x =>
    obtain ⟨v', n'⟩ := x
    rw [hg] at h
    simp only at h
    split at h
    · rename_i he
      simp at h
      obtain ⟨rfl, rfl⟩ := h
      have hn : n' ≤ K.length := by
        unfold guess at hg
        split at hg
        · split at hg
          · simp at hg; omega
          · simp at hg
        · split at hg
          · simp at hg
          · simp at hg; simp; omega
          · simp at hg
          · split at hg
            · rename_i hh; simp at hg; simp; omega
            · simp at hg
          · split at hg
            · rename_i hh; simp at hg hh; simp; omega
            · simp at hg
      exact ⟨hn, by rw [he, List.length_take]; omega, he.symm⟩
    · simp at h
theorem guess_lt {c : Cd} (hc : c.Ok) {K : List Bool} {v n : Nat} (h : guess c K = some (v, n)) : v < 2 ^ 64 := by
  unfold guess at h
  split at h
  · split at h
    · simp at h
      have := numOf_lt (K.take 64)
      rw [List.length_take, Nat.min_eq_left (by omega)] at this
      rw [← h.1]; exact this
    · simp at h
  · split at h
    · simp at h
    · simp at h; rw [← h.1]; exact hc.v
    · simp at h
    · split at h
      · simp only [Option.some.injEq, Prod.mk.injEq] at h
        rw [← h.1]; exact xor_lt hc.v (Nat.mod_lt _ (by decide))
      · simp at h
    · split at h
      · simp only [Option.some.injEq, Prod.mk.injEq] at h
        rw [← h.1]; exact xor_lt hc.v (Nat.mod_lt _ (by decide))
      · simp at h
end Xr
end Go.Proofs.YtlgjbcmloochiaaGreatDoor
end

/- The document's own coder of patterns (layer 7): lead, tail. -/
section
namespace Go.Proofs.YtlgjbcmloochiaaGreatDoor
open Go.RowKit
namespace Xr
open Bit Dsk Ob
set_option linter.unusedVariables false

theorem lead_is {d n : Nat} (hn : n ≤ 31) (h : ∀ i, i < n → d / 2 ^ (63 - i) = 0) (hs : n = 31 ∨ d / 2 ^ (63 - n) ≠ 0) : Xr.lead d = n :=
  upTo_is _ 31 n hn (fun i hi => by simpa using h i hi) (fun h2 => by rcases hs with h3 | h3 <;> simp_all)
theorem tail_is {d n : Nat} (hn : n ≤ 63) (h : ∀ i, i < n → d / 2 ^ i % 2 = 0) (hs : n = 63 ∨ d / 2 ^ n % 2 ≠ 0) : Xr.tail d = n :=
  upTo_is _ 63 n hn (fun i hi => by simpa using h i hi) (fun h2 => by rcases hs with h3 | h3 <;> simp_all)
set_option maxHeartbeats 800000 in
theorem lead_any (d : Nat) (hd : d < 2 ^ 64) (w : World) : Calls Tryz.prog 120 #[.int .u64 (d : Int)] w fun e w' => e = .returned (.int .i64 (Xr.lead d : Int)) ∧ w = w' := by
  have hd2 : d < 18446744073709551616 := by simpa using hd
  replace hd := Lib.hid hd
  go_enter Tryz.func120, Tryz.ntmps120
  go_wp2_with fail
  go_loopw [3] (fun i wr => ∃ n : Nat, n ≤ 31 ∧ i = .int .i64 (n : Int) ∧ (∀ i, i < n → d / 2 ^ (63 - i) = 0) ∧ w = wr) (fun i _ => 31 - (intOf i).toNat)
  case atStart => exact ⟨0, Nat.zero_le _, rfl, fun i hi => absurd hi (Nat.not_lt_zero _), rfl⟩
  case round =>
    obtain ⟨n, hn, rfl, hall, rfl⟩ := hrel
    replace hall := Lib.hid hall
    by_cases hlt : n < 31
    · have hs : IntKind.i64.wrap (63 - (n : Int)) = ((63 - n : Nat) : Int) := by rw [IntWalk.i64_in _ (by omega)]; omega
      have hdiv := int_div_pow d (63 - n)
      by_cases hz : d / 2 ^ (63 - n) = 0
      · have hb : ((d : Int) / 2 ^ (63 - n) == 0) = true := by rw [hdiv, hz]; rfl
        have hnext : Hid (∀ i, i < n + 1 → d / 2 ^ (63 - i) = 0) := Lib.hid fun i hi => by
          by_cases e : i = n
          · rw [e]; exact hz
          · exact hall.out i (by omega)
        clear hdiv hz
        go_wp2_with fail
        go_roundw
        case rel => exact ⟨n + 1, by omega, by go_num, hnext.out, trivial⟩
        case measure => simp [intOf]; omega
      · have hb : ((d : Int) / 2 ^ (63 - n) == 0) = false := by
          rw [hdiv, beq_eq_false_iff_ne]
          exact fun e => hz (by exact_mod_cast e)
        have he : Hid (Xr.lead d = n) := Lib.hid (lead_is (by omega) hall.out (.inr hz))
        clear hdiv hz
        go_wp2_with fail
        go_ret
        exact ⟨by rw [he.out]; rfl, rfl⟩
    · obtain rfl : n = 31 := by omega
      have he : Hid (Xr.lead d = 31) := Lib.hid (lead_is (Nat.le_refl _) hall.out (.inl rfl))
      go_wp2_with fail
      go_ret
      exact ⟨by rw [he.out]; rfl, rfl⟩
set_option maxHeartbeats 800000 in
theorem tail_any (d : Nat) (hd : d < 18446744073709551616) (w : World) : Calls Tryz.prog 121 #[.int .u64 (d : Int)] w fun e w' => e = .returned (.int .i64 (Xr.tail d : Int)) ∧ w = w' := by
  go_enter Tryz.func121, Tryz.ntmps121
  go_wp2_with fail
  go_loopw [0, 3] (fun x i wr => ∃ n q : Nat, n ≤ 63 ∧ i = .int .i64 (n : Int) ∧ q = d / 2 ^ n ∧ q < 18446744073709551616 ∧ x = .int .u64 (q : Int) ∧ (∀ i, i < n → d / 2 ^ i % 2 = 0) ∧ w = wr) (fun _ i _ => 63 - (intOf i).toNat)
  case atStart => exact ⟨0, d, Nat.zero_le _, rfl, by simp, hd, rfl, fun i hi => absurd hi (Nat.not_lt_zero _), rfl⟩
  case round =>
    obtain ⟨n, q, hn, rfl, hq, hql, rfl, hall, rfl⟩ := hrel
    replace hall := Lib.hid hall
    replace hq := Lib.hid hq
    by_cases hz : q % 2 = 0
    · have hb : (((q : Int) % 2) == 0) = true := by rw [beq_iff_eq]; omega
      by_cases hlt : n < 63
      · have hnext : Hid (∀ i, i < n + 1 → d / 2 ^ i % 2 = 0) := Lib.hid fun i hi => by
          by_cases e : i = n
          · rw [e, ← hq.out]; exact hz
          · exact hall.out i (by omega)
        have hnq : Hid (q / 2 = d / 2 ^ (n + 1)) := Lib.hid (by rw [hq.out, Nat.div_div_eq_div_mul, Nat.pow_succ])
        have hql2 : Hid (q / 2 < 18446744073709551616) := Lib.hid (by omega)
        go_wp2_with fail
        go_roundw
        case rel => exact ⟨n + 1, q / 2, by omega, by go_num, hnq.out, hql2.out, by go_num, hnext.out, trivial⟩
        case measure => simp [intOf]; omega
      · obtain rfl : n = 63 := by omega
        have he : Hid (Xr.tail d = 63) := Lib.hid (tail_is (Nat.le_refl _) hall.out (.inl rfl))
        go_wp2_with fail
        go_ret
        exact ⟨by rw [he.out]; rfl, rfl⟩
    · have hb : (((q : Int) % 2) == 0) = false := by rw [beq_eq_false_iff_ne]; omega
      have he : Hid (Xr.tail d = n) := Lib.hid (tail_is hn hall.out (.inr (by rw [← hq.out]; exact hz)))
      go_wp2_with fail
      go_ret
      exact ⟨by rw [he.out]; rfl, rfl⟩

/-! ### the coder in memory -/
def cCells (c : Cd) : Array Value := #[.bool c.begun, .int .u64 (c.v : Int), .bool c.win, .int .i64 (c.lead : Int), .int .i64 (c.tail : Int)]
/-- The document's coder at block q. -/
def IsRC (q : Nat) (c : Cd) : Ob.Rel := fun w S => w.heap[q]? = some (.cells (cCells c) 143 (0, 0)) ∧ ∀ x, S x ↔ x = q
theorem objRC (q : Nat) (c : Cd) : Thing (IsRC q c) := ⟨fun w w' S h hk _ => ⟨(hk q ((h.2 q).2 rfl)).trans h.1, h.2⟩, fun w S h x hx => by rw [(h.2 x).1 hx]; exact (Array.getElem?_eq_some_iff.1 h.1).1⟩
theorem rc5 {w : World} {q : Nat} {c : Cd} (h : w.heap[q]? = some (.cells (cCells c) 143 (0, 0))) :
    w.cell? ⟨q, 0, none⟩ = some (.bool c.begun) ∧ w.cell? ⟨q, 1, none⟩ = some (.int .u64 (c.v : Int)) ∧ w.cell? ⟨q, 2, none⟩ = some (.bool c.win) ∧ w.cell? ⟨q, 3, none⟩ = some (.int .i64 (c.lead : Int)) ∧ w.cell? ⟨q, 4, none⟩ = some (.int .i64 (c.tail : Int)) ∧ ∀ o, w.frozen? ⟨q, o, none⟩ = false := by
  refine ⟨?_, ?_, ?_, ?_, ?_, fun o => Lib.frozen_of_heap h o⟩ <;> (rw [Lib.cell_of_heap h]; rfl)
/-- A cell of it is written. -/
theorem rcSet {w : World} {A : Nat → Prop} {q o : Nat} {c c' : Cd} {v : Value} (h : IsRC q c w A) (he : (cCells c).setIfInBounds o v = cCells c') : ObjStep (IsRC q c') A w (w.setCell ⟨q, o, none⟩ v) :=
  stepCell ((h.2 q).2 rfl) ⟨by rw [← he]; simp [World.setCell, Array.getElem?_modify, h.1], h.2⟩
end Xr
end Go.Proofs.YtlgjbcmloochiaaGreatDoor
end

/- The document's own coder of patterns (layer 7): Put. -/
section
namespace Go.Proofs.YtlgjbcmloochiaaGreatDoor
open Go.RowKit Go.Sort
namespace Xr
open Bit Dsk Ob
set_option linter.unusedVariables false

/-- The document's coder, its writer beside it. -/
abbrev CW (q : Nat) (c : Cd) (p : Nat) (L : List Bool) : Ob.Rel := Tens (IsRC q c) (fun w S => IsRW w S p L)
theorem thingCW (q : Nat) (c : Cd) (p : Nat) (L : List Bool) : Thing (CW q c p L) := Tens.ob (objRC q c) (objRW p L)
theorem cwPut {S : Nat → Prop} {w0 w : World} {q p : Nat} {c : Cd} {L L' : List Bool} (H : ObjStep (CW q c p L) S w0 w) (v : Nat) (n : Int) (hL : L.length ≤ 90000000000000) (hv : v < 18446744073709551616) (e : L ++ bitsOf v (cnt n) = L') :
    Calls Tryz.prog 118 #[.pointer (some ⟨p, 0, none⟩), .int .u64 (v : Int), .int .i64 n] w fun e w' => e = .returned (.tuple #[]) ∧ ObjStep (CW q c p L') S w0 w' := by
  subst e
  exact callR (Q := fun e => e = .returned (.tuple #[])) (objRC q c) H fun A h => refput_any A p L v n w h hL hv
theorem cwCells {S : Nat → Prop} {w0 w : World} {q p : Nat} {c : Cd} {L : List Bool} (H : ObjStep (CW q c p L) S w0 w) :
    w.cell? ⟨q, 0, none⟩ = some (.bool c.begun) ∧ w.cell? ⟨q, 1, none⟩ = some (.int .u64 (c.v : Int)) ∧ w.cell? ⟨q, 2, none⟩ = some (.bool c.win) ∧ w.cell? ⟨q, 3, none⟩ = some (.int .i64 (c.lead : Int)) ∧ w.cell? ⟨q, 4, none⟩ = some (.int .i64 (c.tail : Int)) ∧ ∀ o, w.frozen? ⟨q, o, none⟩ = false := by
  obtain ⟨A, h⟩ := seeL H
  exact rc5 h.1
theorem cwSet {S : Nat → Prop} {w0 w : World} {q p o : Nat} {c c' : Cd} {L : List Bool} {v : Value} (H : ObjStep (CW q c p L) S w0 w) (he : (cCells c).setIfInBounds o v = cCells c') : ObjStep (CW q c' p L) S w0 (w.setCell ⟨q, o, none⟩ v) :=
  stepL (objRW p L) H fun A h => rcSet h he
theorem xor_int (a b : Nat) (ha : a < 18446744073709551616) (hb : b < 18446744073709551616) : bits .xor .u64 (a : Int) (b : Int) = ((a ^^^ b : Nat) : Int) := bits_xor_u64_nat a b ha hb
theorem cwPutDiv {S : Nat → Prop} {w0 w : World} {q p : Nat} {c : Cd} {L L' : List Bool} (H : ObjStep (CW q c p L) S w0 w) (d t : Nat) (n : Int) (hL : L.length ≤ 90000000000000) (hd : d < 18446744073709551616) (e : L ++ bitsOf (d / 2 ^ t) (cnt n) = L') :
    Calls Tryz.prog 118 #[.pointer (some ⟨p, 0, none⟩), .int .u64 ((d : Int) / 2 ^ t), .int .i64 n] w fun e w' => e = .returned (.tuple #[]) ∧ ObjStep (CW q c p L') S w0 w' := by
  rw [int_div_pow]
  exact cwPut H (d / 2 ^ t) n hL (Nat.lt_of_le_of_lt (Nat.div_le_self _ _) hd) e

set_option maxRecDepth 100000 in
set_option maxHeartbeats 3200000 in
theorem put_first (S : Nat → Prop) (q p : Nat) (c : Cd) (L : List Bool) (v : Nat) (w : World) (h : CW q c p L w S) (hb : c.begun = false) (hL : L.length ≤ 80000000000000) (hv : v < 18446744073709551616) (hc : c.v < 18446744073709551616) :
    Calls Tryz.prog 71 #[.pointer (some ⟨q, 0, none⟩), .pointer (some ⟨p, 0, none⟩), .int .u64 (v : Int)] w fun e w' => e = .returned (.tuple #[]) ∧ ObjStep (CW q { c with begun := true, v := v } p (L ++ bitsOf v 64)) S w w' := by
  have H := ObjStep.refl (I := CW q c p L) h
  obtain ⟨k0, k1, k2, k3, k4, kf⟩ := cwCells H
  have f0 := kf 0
  rw [hb] at k0
  have hx := xor_int v c.v hv hc
  have H1 := cwSet (o := 0) (v := .bool true) (c' := { c with begun := true }) H rfl
  have H2 := cwSet (o := 1) (v := .int .u64 (v : Int)) (c' := { c with begun := true, v := v }) H1 rfl
  have f1 := (cwCells H1).2.2.2.2.2 1
  have g1 := (cwCells H1).2.1
  have HP := Lib.hid (cwPut H2 v 64 (by omega) hv (L' := L ++ bitsOf v 64) (by rfl))
  clear H H1 H2 kf h
  go_enter Tryz.func71, Tryz.ntmps71
  go_wp2_with fail
  refine HP.out.mono ?_
  rintro e w2 ⟨rfl, h2⟩
  replace h2 := Lib.hid h2
  clear HP
  go_wp2_with fail
  (try simp only [Exit.inBlock, Exit.then])
  refine bodyPost_ret (results_none rfl _ _ _) rfl ?_
  exact ⟨rfl, h2.out⟩

set_option maxRecDepth 100000 in
set_option maxHeartbeats 3200000 in
theorem put_same (S : Nat → Prop) (q p : Nat) (c : Cd) (L : List Bool) (v : Nat) (w : World) (h : CW q c p L w S) (hb : c.begun = true) (hL : L.length ≤ 80000000000000) (hv : v < 18446744073709551616) (hc : c.v < 18446744073709551616) (hx0 : v ^^^ c.v = 0) :
    Calls Tryz.prog 71 #[.pointer (some ⟨q, 0, none⟩), .pointer (some ⟨p, 0, none⟩), .int .u64 (v : Int)] w fun e w' => e = .returned (.tuple #[]) ∧ ObjStep (CW q { c with v := v } p (L ++ [false])) S w w' := by
  have H := ObjStep.refl (I := CW q c p L) h
  obtain ⟨k0, k1, k2, k3, k4, kf⟩ := cwCells H
  have f0 := kf 0
  rw [hb] at k0
  have hx := xor_int v c.v hv hc
  rw [hx0] at hx
  have H1 := cwSet (o := 0) (v := .bool true) (c' := c) H (by unfold cCells; rw [hb]; rfl)
  have H2 := cwSet (o := 1) (v := .int .u64 (v : Int)) (c' := { c with v := v }) H1 rfl
  have f1 := (cwCells H1).2.2.2.2.2 1
  have g1 := (cwCells H1).2.1
  have HP := Lib.hid (cwPut H2 0 1 (by omega) (by decide) (L' := L ++ [false]) (by rfl))
  clear H H1 H2 kf h hx0
  go_enter Tryz.func71, Tryz.ntmps71
  go_wp2_with fail
  refine HP.out.mono ?_
  rintro e w2 ⟨rfl, h2⟩
  replace h2 := Lib.hid h2
  clear HP
  go_wp2_with fail
  (try simp only [Exit.inBlock, Exit.then])
  refine bodyPost_ret (results_none rfl _ _ _) rfl ?_
  exact ⟨rfl, h2.out⟩

set_option maxRecDepth 100000 in
set_option maxHeartbeats 3200000 in
theorem put_within (S : Nat → Prop) (q p : Nat) (c : Cd) (L : List Bool) (v d : Nat) (w : World) (h : CW q c p L w S) (hok : c.Ok) (hb : c.begun = true) (hL : L.length ≤ 80000000000000) (hv : v < 18446744073709551616) (hc : c.v < 18446744073709551616) (hd : v ^^^ c.v = d) (hd0 : d ≠ 0)
    (hw : c.win = true) (hl : c.lead ≤ Xr.lead d) (ht : c.tail ≤ Xr.tail d) :
    Calls Tryz.prog 71 #[.pointer (some ⟨q, 0, none⟩), .pointer (some ⟨p, 0, none⟩), .int .u64 (v : Int)] w fun e w' => e = .returned (.tuple #[]) ∧ ObjStep (CW q { c with v := v } p (L ++ ([true, false] ++ bitsOf (d / 2 ^ c.tail) (64 - c.lead - c.tail)))) S w w' := by
  have H := ObjStep.refl (I := CW q c p L) h
  obtain ⟨k0, k1, k2, k3, k4, kf⟩ := cwCells H
  have f0 := kf 0
  rw [hb] at k0
  have hx := xor_int v c.v hv hc
  rw [hd] at hx
  have hdl : d < 18446744073709551616 := by rw [← hd]; exact xor_lt hv hc
  have hbz : ((d : Int) == 0) = false := by rw [beq_eq_false_iff_ne]; omega
  have H1 := cwSet (o := 0) (v := .bool true) (c' := c) H (by unfold cCells; rw [hb]; rfl)
  have H2 := cwSet (o := 1) (v := .int .u64 (v : Int)) (c' := { c with v := v }) H1 rfl
  have f1 := (cwCells H1).2.2.2.2.2 1
  have g1 := (cwCells H1).2.1
  have HP := Lib.hid (cwPut H2 1 1 (by omega) (by decide) (L' := L ++ [true]) (by rfl))
  have hla := Lib.hid (lead_any d (by simpa using hdl))
  have hta := Lib.hid (tail_any d hdl)
  have hl31 := lead_le d
  have ht63 := tail_le d
  have hsum := hok.sum
  have hn : wrap64 (wrap64 (64 - (c.lead : Int)) - (c.tail : Int)) = ((64 - c.lead - c.tail : Nat) : Int) := by rw [IntWalk.wrap64_in (64 - (c.lead : Int)) (by omega), IntWalk.wrap64_in _ (by omega)]; omega
  have hn2 : IntKind.i64.wrap (IntKind.i64.wrap (64 - (c.lead : Int)) - (c.tail : Int)) = ((64 - c.lead - c.tail : Nat) : Int) := by rw [IntWalk.i64_in (64 - (c.lead : Int)) (by omega), IntWalk.i64_in _ (by omega)]; omega
  have dl : decide (c.lead ≤ Xr.lead d) = true := decide_eq_true hl
  have dt : decide (c.tail ≤ Xr.tail d) = true := decide_eq_true ht
  clear H H1 H2 kf h hd hok
  generalize Xr.lead d = a at *
  generalize Xr.tail d = b at *
  go_enter Tryz.func71, Tryz.ntmps71
  go_wp2_with fail
  refine HP.out.mono ?_
  rintro e w2 ⟨rfl, h2⟩
  obtain ⟨-, -, m2, m3, m4, -⟩ := cwCells h2
  rw [show ({ c with v := v } : Cd).win = c.win from rfl, hw] at m2
  have HP2 := Lib.hid (cwPut h2 0 1 (by simp; omega) (by decide) (L' := L ++ [true] ++ [false]) (by rfl))
  clear h2 HP k0 k1 k2 k3 k4 f0 f1 g1
  go_wp2_with fail
  refine (hla.out _).mono ?_
  rintro e w3 ⟨rfl, rfl⟩
  go_wp2_with fail
  refine (hta.out _).mono ?_
  rintro e w3 ⟨rfl, rfl⟩
  clear hla hta
  go_wp2_with fail
  refine HP2.out.mono ?_
  rintro e w3 ⟨rfl, h3⟩
  obtain ⟨-, -, n2, n3, n4, -⟩ := cwCells h3
  clear HP2 m2 m3 m4
  have hlen : L.length ≤ 80000000000000 := hL
  have HP3 := Lib.hid (cwPutDiv (stepDrew (thingCW _ _ _ _) h3) d c.tail ((64 - c.lead - c.tail : Nat) : Int) (by simp; omega) hdl (L' := L ++ ([true, false] ++ bitsOf (d / 2 ^ c.tail) (64 - c.lead - c.tail))) (by rw [cnt_nat (by omega)]; simp))
  clear h3
  go_wp2_with fail
  go_still_tail 17, (by kernel_rfl)
  change wpList _ _ _ _ _ w3.drew
  go_wp2_with fail
  refine HP3.out.mono ?_
  rintro e w4 ⟨rfl, h4⟩
  replace h4 := Lib.hid h4
  clear HP3
  go_wp2_with fail
  (try simp only [Exit.inBlock, Exit.then])
  refine bodyPost_ret (results_none rfl _ _ _) rfl ?_
  exact ⟨rfl, h4.out⟩
set_option maxRecDepth 100000 in
set_option maxHeartbeats 3200000 in
theorem put_other (S : Nat → Prop) (q p : Nat) (c : Cd) (L : List Bool) (v d : Nat) (w : World) (h : CW q c p L w S) (hb : c.begun = true) (hL : L.length ≤ 80000000000000) (hv : v < 18446744073709551616) (hc : c.v < 18446744073709551616) (hd : v ^^^ c.v = d) (hd0 : d ≠ 0)
    (hw : ¬ (c.win = true ∧ c.lead ≤ Xr.lead d ∧ c.tail ≤ Xr.tail d)) :
    Calls Tryz.prog 71 #[.pointer (some ⟨q, 0, none⟩), .pointer (some ⟨p, 0, none⟩), .int .u64 (v : Int)] w fun e w' => e = .returned (.tuple #[]) ∧ ObjStep (CW q ⟨true, v, true, Xr.lead d, Xr.tail d⟩ p (L ++ ([true, true] ++ bitsOf (Xr.lead d) 5 ++ bitsOf (63 - Xr.lead d - Xr.tail d) 6 ++ bitsOf (d / 2 ^ Xr.tail d) (64 - Xr.lead d - Xr.tail d)))) S w w' := by
  have H := ObjStep.refl (I := CW q c p L) h
  obtain ⟨k0, k1, k2, k3, k4, kf⟩ := cwCells H
  have f0 := kf 0
  rw [hb] at k0
  have hx := xor_int v c.v hv hc
  rw [hd] at hx
  have hdl : d < 18446744073709551616 := by rw [← hd]; exact xor_lt hv hc
  have hbz : ((d : Int) == 0) = false := by rw [beq_eq_false_iff_ne]; omega
  have hsum := sum_le (d := d) hdl (Nat.pos_of_ne_zero hd0)
  have H1 := cwSet (o := 0) (v := .bool true) (c' := c) H (by unfold cCells; rw [hb]; rfl)
  have H2 := cwSet (o := 1) (v := .int .u64 (v : Int)) (c' := { c with v := v }) H1 rfl
  have f1 := (cwCells H1).2.2.2.2.2 1
  have g1 := (cwCells H1).2.1
  have HP := Lib.hid (cwPut H2 1 1 (by omega) (by decide) (L' := L ++ [true]) (by rfl))
  have hla := Lib.hid (lead_any d (by simpa using hdl))
  have hta := Lib.hid (tail_any d hdl)
  have hl31 := lead_le d
  have ht63 := tail_le d
  clear H H1 H2 kf h hd
  generalize Xr.lead d = a at *
  generalize Xr.tail d = b at *
  have hcase : c.win = false ∨ (c.win = true ∧ decide (c.lead ≤ a) = false) ∨ (c.win = true ∧ decide (c.lead ≤ a) = true ∧ decide (c.tail ≤ b) = false) := by
    cases hwn : c.win with
    | false => exact .inl rfl
    | true =>
      right
      by_cases h1 : c.lead ≤ a
      · right; exact ⟨rfl, decide_eq_true h1, decide_eq_false fun h2 => hw ⟨hwn, h1, h2⟩⟩
      · left; exact ⟨rfl, decide_eq_false h1⟩
  have hu1 : IntKind.u64.wrap (a : Int) = (a : Int) := by rw [IntKind.wrap_u64]; omega
  have hn1 : (63 : Int) - (a : Int) - (b : Int) = ((63 - a - b : Nat) : Int) := by omega
  have hn2 : (64 : Int) - (a : Int) - (b : Int) = ((64 - a - b : Nat) : Int) := by omega
  clear hw
  rcases hcase with e1 | ⟨e1, e2⟩ | ⟨e1, e2, e3⟩
  all_goals
    rw [e1] at k2
    go_enter Tryz.func71, Tryz.ntmps71
    go_wp2_with fail
    refine HP.out.mono ?_
    rintro e w2 ⟨rfl, h2⟩
    obtain ⟨-, -, m2, m3, m4, -⟩ := cwCells h2
    rw [show ({ c with v := v } : Cd).win = c.win from rfl, e1] at m2
    have HP2 := Lib.hid (cwPut h2 1 1 (by simp; omega) (by decide) (L' := L ++ [true] ++ [true]) (by rfl))
    clear h2 HP k0 k1 k2 k3 k4 f0 f1 g1
    go_wp2_with fail
    refine (hla.out _).mono ?_
    rintro e w3 ⟨rfl, rfl⟩
    go_wp2_with fail
    refine (hta.out _).mono ?_
    rintro e w3 ⟨rfl, rfl⟩
    clear hla hta
    go_wp2_with fail
    refine HP2.out.mono ?_
    rintro e w3 ⟨rfl, h3⟩
    clear HP2 m2 m3 m4
    have HP3 := Lib.hid (cwPut h3 a 5 (by simp; omega) (by omega) (L' := L ++ [true] ++ [true] ++ bitsOf a 5) (by rfl))
    clear h3
    go_wp2_with fail
    refine HP3.out.mono ?_
    rintro e w4 ⟨rfl, h4⟩
    clear HP3
    have HP4 := Lib.hid (cwPut h4 (63 - a - b) 6 (by simp [bitsOf_length]; omega) (by omega) (L' := L ++ [true] ++ [true] ++ bitsOf a 5 ++ bitsOf (63 - a - b) 6) (by rfl))
    clear h4
    go_wp2_with fail
    refine HP4.out.mono ?_
    rintro e w5 ⟨rfl, h5⟩
    clear HP4
    have HP5 := Lib.hid (cwPutDiv h5 d b ((64 - a - b : Nat) : Int) (by simp [bitsOf_length]; omega) hdl (L' := L ++ ([true, true] ++ bitsOf a 5 ++ bitsOf (63 - a - b) 6 ++ bitsOf (d / 2 ^ b) (64 - a - b))) (by rw [cnt_nat (by omega)]; simp))
    clear h5
    go_wp2_with fail
    refine HP5.out.mono ?_
    rintro e w6 ⟨rfl, h6⟩
    clear HP5
    obtain ⟨-, -, n2, n3, n4, nf⟩ := cwCells h6
    have h7 := cwSet (o := 2) (v := .bool true) (c' := { c with v := v, win := true }) h6 rfl
    obtain ⟨-, -, -, p3, p4, pf⟩ := cwCells h7
    have h8 := cwSet (o := 3) (v := .int .i64 (a : Int)) (c' := { c with v := v, win := true, lead := a }) h7 rfl
    obtain ⟨-, -, -, -, r4, rf⟩ := cwCells h8
    have h9 := cwSet (o := 4) (v := .int .i64 (b : Int)) (c' := ⟨c.begun, v, true, a, b⟩) h8 rfl
    rw [hb] at h9
    have x2 := nf 2
    have x3 := pf 3
    have x4 := rf 4
    have h9' := Lib.hid h9
    clear nf pf rf h6 h7 h8 h9
    go_wp2_with fail
    go_end0
    exact ⟨rfl, h9'.out⟩
/-- Put, as the document says it. -/
theorem refPut_any (S : Nat → Prop) (q p : Nat) (c : Cd) (L : List Bool) (v : Nat) (w : World) (h : CW q c p L w S) (hok : c.Ok) (hL : L.length ≤ 80000000000000) (hv : v < 18446744073709551616) :
    Calls Tryz.prog 71 #[.pointer (some ⟨q, 0, none⟩), .pointer (some ⟨p, 0, none⟩), .int .u64 (v : Int)] w fun e w' => e = .returned (.tuple #[]) ∧ ObjStep (CW q (putC c v) p (L ++ putB c v)) S w w' := by
  have hc : c.v < 18446744073709551616 := hok.v
  by_cases hb : c.begun = false
  · have e1 : putC c v = { c with begun := true, v := v } := by unfold putC; rw [if_pos hb]
    have e2 : putB c v = bitsOf v 64 := by unfold putB; rw [if_pos hb]
    rw [e1, e2]
    exact put_first S q p c L v w h hb hL hv hc
  · have hb' : c.begun = true := by simpa using hb
    by_cases hx : v ^^^ c.v = 0
    · have e1 : putC c v = { c with v := v } := by unfold putC; rw [if_neg hb, if_pos hx]
      have e2 : putB c v = [false] := by unfold putB; rw [if_neg hb, if_pos hx]
      rw [e1, e2]
      exact put_same S q p c L v w h hb' hL hv hc hx
    · by_cases hw : c.win = true ∧ c.lead ≤ Xr.lead (v ^^^ c.v) ∧ c.tail ≤ Xr.tail (v ^^^ c.v)
      · have e1 : putC c v = { c with v := v } := by unfold putC; rw [if_neg hb, if_neg hx, if_pos hw]
        have e2 : putB c v = [true, false] ++ bitsOf ((v ^^^ c.v) / 2 ^ c.tail) (64 - c.lead - c.tail) := by unfold putB; rw [if_neg hb, if_neg hx, if_pos hw]
        rw [e1, e2]
        exact put_within S q p c L v _ w h hok hb' hL hv hc rfl hx hw.1 hw.2.1 hw.2.2
      · have e1 : putC c v = ⟨true, v, true, Xr.lead (v ^^^ c.v), Xr.tail (v ^^^ c.v)⟩ := by unfold putC; rw [if_neg hb, if_neg hx, if_neg hw]
        have e2 : putB c v = [true, true] ++ bitsOf (Xr.lead (v ^^^ c.v)) 5 ++ bitsOf (63 - Xr.lead (v ^^^ c.v) - Xr.tail (v ^^^ c.v)) 6 ++ bitsOf ((v ^^^ c.v) / 2 ^ Xr.tail (v ^^^ c.v)) (64 - Xr.lead (v ^^^ c.v) - Xr.tail (v ^^^ c.v)) := by unfold putB; rw [if_neg hb, if_neg hx, if_neg hw]
        rw [e1, e2]
        exact put_other S q p c L v _ w h hb' hL hv hc rfl hx hw
end Xr
end Go.Proofs.YtlgjbcmloochiaaGreatDoor
end

/- The document's own coder of patterns (layer 7): guess. -/
section
namespace Go.Proofs.YtlgjbcmloochiaaGreatDoor
open Go.RowKit Go.Sort
namespace Xr
open Bit Dsk Ob
set_option linter.unusedVariables false

end Xr
end Go.Proofs.YtlgjbcmloochiaaGreatDoor
end

/- The document's own coder of patterns (layer 7): Get. -/
section
namespace Go.Proofs.YtlgjbcmloochiaaGreatDoor
open Go.RowKit Go.Sort
namespace Xr
open Bit Dsk Ob
set_option linter.unusedVariables false

end Xr
end Go.Proofs.YtlgjbcmloochiaaGreatDoor
end
