/- Parts: PXor1. -/
import Derived.Test.YtgmnhodajngchaaGreatDoorSPBit2
import Derived.Test.YtgmnhodajngchaaGreatDoorSPBit3
import Derived.Test.YtgmnhodajngchaaGreatDoorSPObj
import Derived.StillTailTactics
import Derived.Lib.QuietBelow
set_option maxRecDepth 100000
set_option linter.unusedVariables false
namespace Go.Proofs.YtgmnhodajngchaaGreatDoor
section
section
namespace Xr
open Bit
def upTo (p : Nat -> Bool) : Nat -> Nat -> Nat
 | 0, n => n
 | m + 1, n => if p n then upTo p m (n + 1) else n
theorem upTo_le (p : Nat -> Bool) : ∀ m n, upTo p m n <= n + m
 | 0, n => Nat.le_refl _
 | m + 1, n => by
  unfold upTo
  split
  ·have := upTo_le p m (n + 1); omega
  ·omega
theorem upTo_all (p : Nat -> Bool) : ∀ m n i, n <= i -> i < upTo p m n -> p i = true
 | 0, n, i, h1, h2 => by unfold upTo at h2; omega
 | m + 1, n, i, h1, h2 => by
  unfold upTo at h2
  split at h2
  ·rename_i hp
   by_cases e : i = n
   ·rw [e]; exact hp
   ·exact upTo_all p m (n + 1) i (by omega) h2
  ·omega
theorem upTo_stop (p : Nat -> Bool) : ∀ m n, upTo p m n < n + m -> p (upTo p m n) = false
 | 0, n, h => by unfold upTo at h; omega
 | m + 1, n, h => by
  unfold upTo at h ⊢
  split at h
  ·rename_i hp
   rw [if_pos hp]
   exact upTo_stop p m (n + 1) (by omega)
  ·rename_i hp
   rw [if_neg hp]
   simpa using hp
theorem upTo_is (p : Nat -> Bool) (m k : Nat) (hk : k <= m) (h1 : ∀ i, i < k -> p i = true) (h2 : k < m -> p k = false) : upTo p m 0 = k := by
 have ha := upTo_all p m 0
 have hs := upTo_stop p m 0
 have hl := upTo_le p m 0
 rcases Nat.lt_trichotomy (upTo p m 0) k with h | h | h
 ·have := hs (by omega); rw [h1 _ h] at this; cases this
 ·exact h
 ·have := ha k (by omega) h; rw [h2 (by omega)] at this; cases this
def lead (d : Nat) : Nat := upTo (fun n => d / 2 ^ (63 - n) == 0) 31 0
def tail (d : Nat) : Nat := upTo (fun n => d / 2 ^ n % 2 == 0) 63 0
theorem lead_le (d : Nat) : lead d <= 31 := by have := upTo_le (fun n => d / 2 ^ (63 - n) == 0) 31 0; unfold lead; omega
theorem tail_le (d : Nat) : tail d <= 63 := by have := upTo_le (fun n => d / 2 ^ n % 2 == 0) 63 0; unfold tail; omega
theorem lead_lt {d : Nat} (hd : d < 2 ^ 64) : d < 2 ^ (64 - lead d) := by
 by_cases h : lead d = 0
 ·rw [h]; exact hd
 ·have := upTo_all (fun n => d / 2 ^ (63 - n) == 0) 31 0 (lead d - 1) (Nat.zero_le _) (by unfold lead at h ⊢; omega)
  have h2 : d / 2 ^ (63 - (lead d - 1)) = 0 := by simpa using this
  have h3 : 63 - (lead d - 1) = 64 - lead d := by omega
  rw [h3] at h2
  exact (Nat.div_eq_zero_iff_lt (Nat.two_pow_pos _)).1 h2
theorem lead_stop {d : Nat} (h : lead d < 31) : 2 ^ (63 - lead d) <= d := by
 have := upTo_stop (fun n => d / 2 ^ (63 - n) == 0) 31 0 (by unfold lead at h; omega)
 have h2 : ¬ d / 2 ^ (63 - lead d) = 0 := by unfold lead; simpa using this
 rw [Nat.div_eq_zero_iff_lt (Nat.two_pow_pos _)] at h2
 omega
theorem tail_low (d i : Nat) (h : i < tail d) : d / 2 ^ i % 2 = 0 := by
 have := upTo_all (fun n => d / 2 ^ n % 2 == 0) 63 0 i (Nat.zero_le _) h
 simpa using this
theorem dvd_of_low (d : Nat) : ∀ t, (∀ i, i < t -> d / 2 ^ i % 2 = 0) -> 2 ^ t ∣ d
 | 0, _ => Nat.one_dvd _
 | t + 1, h => by
  obtain ⟨q, hq⟩ := dvd_of_low d t fun i hi => h i (by omega)
  have h1 := h t (by omega)
  rw [hq, Nat.mul_div_cancel_left _ (Nat.two_pow_pos t)] at h1
  refine ⟨q / 2, ?_⟩
  have : q = 2 * (q / 2) := by omega
  rw [Nat.pow_succ, Nat.mul_assoc, <- this]
  exact hq
theorem tail_dvd (d : Nat) : 2 ^ tail d ∣ d := dvd_of_low d _ (tail_low d)
theorem dvd_le {d t u : Nat} (h : 2 ^ u ∣ d) (htu : t <= u) : 2 ^ t ∣ d := Nat.dvd_trans (Nat.pow_dvd_pow 2 htu) h
theorem tail_odd {d : Nat} (hd : d < 2 ^ 64) (h0 : 0 < d) : d / 2 ^ tail d % 2 = 1 := by
 by_cases h : tail d < 63
 ·have := upTo_stop (fun n => d / 2 ^ n % 2 == 0) 63 0 (by unfold tail at h; omega)
  have h2 : ¬ d / 2 ^ tail d % 2 = 0 := by unfold tail; simpa using this
  omega
 ·have h63 : tail d = 63 := by have := tail_le d; omega
  obtain ⟨q, hq⟩ := tail_dvd d
  rw [h63] at hq ⊢
  rw [hq, Nat.mul_div_cancel_left _ (Nat.two_pow_pos 63)]
  have : q < 2 := by
   rw [hq] at hd
   have : (2 : Nat) ^ 64 = 2 ^ 63 * 2 := by decide
   rw [this] at hd
   exact Nat.lt_of_mul_lt_mul_left hd
  have : q ≠ 0 := by rintro rfl; simp at hq; omega
  omega
theorem sum_le {d : Nat} (hd : d < 2 ^ 64) (h0 : 0 < d) : lead d + tail d <= 63 := by
 obtain ⟨q, hq⟩ := tail_dvd d
 have hq0 : 0 < q := by
  rcases Nat.eq_zero_or_pos q with h | h
  ·rw [h] at hq; simp at hq; omega
  ·exact h
 have h1 : 2 ^ tail d <= d := Nat.le_of_dvd h0 (tail_dvd d)
 have h2 := lead_lt hd
 have h3 : 2 ^ tail d < 2 ^ (64 - lead d) := Nat.lt_of_le_of_lt h1 h2
 have h4 := (Nat.pow_lt_pow_iff_right (by decide : 1 < 2)).1 h3
 have := lead_le d
 omega
theorem mid_lt {d l t : Nat} (h : d < 2 ^ (64 - l)) (hlt : l + t <= 64) : d / 2 ^ t < 2 ^ (64 - l - t) := by
 rw [Nat.div_lt_iff_lt_mul (Nat.two_pow_pos _), <- Nat.pow_add]
 have : 64 - l - t + t = 64 - l := by omega
 rw [this]; exact h
theorem mid_back {d t : Nat} (h : 2 ^ t ∣ d) : d / 2 ^ t * 2 ^ t = d := Nat.div_mul_cancel h
structure Cd where
 begun : Bool
 v : Nat
 win : Bool
 lead : Nat
 tail : Nat
def newC : Cd := ⟨false, 0, false, 0, 0⟩
def putB (c : Cd) (v : Nat) : List Bool :=
 if c.begun = false then bitsOf v 64 else
 if v ^^^ c.v = 0 then [false] else
 if c.win = true /\ c.lead <= lead (v ^^^ c.v) /\ c.tail <= tail (v ^^^ c.v) then [true, false] ++ bitsOf ((v ^^^ c.v) / 2 ^ c.tail) (64 - c.lead - c.tail) else
 [true, true] ++ bitsOf (lead (v ^^^ c.v)) 5 ++ bitsOf (63 - lead (v ^^^ c.v) - tail (v ^^^ c.v)) 6 ++ bitsOf ((v ^^^ c.v) / 2 ^ tail (v ^^^ c.v)) (64 - lead (v ^^^ c.v) - tail (v ^^^ c.v))
def putC (c : Cd) (v : Nat) : Cd :=
 if c.begun = false then { c with begun := true, v := v } else
 if v ^^^ c.v = 0 then { c with v := v } else
 if c.win = true /\ c.lead <= lead (v ^^^ c.v) /\ c.tail <= tail (v ^^^ c.v) then { c with v := v } else
 { begun := true, v := v, win := true, lead := lead (v ^^^ c.v), tail := tail (v ^^^ c.v) }
structure Cd.Ok (c : Cd) : Prop where
 v : c.v < 2 ^ 64
 lead : c.lead <= 31
 sum : c.lead + c.tail <= 63
theorem ok_new : newC.Ok := ⟨by decide, by decide, by decide⟩
theorem xor_lt {a b : Nat} (ha : a < 2 ^ 64) (hb : b < 2 ^ 64) : a ^^^ b < 2 ^ 64 := Nat.xor_lt_two_pow ha hb
theorem xor_pos {a b : Nat} (h : ¬ a ^^^ b = 0) : 0 < a ^^^ b := Nat.pos_of_ne_zero h
theorem Cd.Ok.put {c : Cd} (h : c.Ok) {v : Nat} (hv : v < 2 ^ 64) : (putC c v).Ok := by
 unfold putC
 split
 ·exact ⟨hv, h.lead, h.sum⟩
 split
 ·exact ⟨hv, h.lead, h.sum⟩
 split
 ·exact ⟨hv, h.lead, h.sum⟩
 ·rename_i h0 _
  exact ⟨hv, lead_le _, sum_le (xor_lt hv h.v) (xor_pos h0)⟩
theorem putB_len {c : Cd} (v : Nat) : (putB c v).length <= 77 := by
 unfold putB
 split
 ·rw [bitsOf_length]; omega
 split
 ·simp
 split
 ·rw [List.length_append, bitsOf_length]; simp; omega
 ·simp only [List.length_append, bitsOf_length]; simp; omega
def guess (c : Cd) (K : List Bool) : Option (Nat × Nat) :=
 if c.begun = false then (if 64 <= K.length then some (numOf (K.take 64), 64) else none) else
 match K with
 | [] => none
 | false :: _ => some (c.v, 1)
 | [true] => none
 | true :: false :: R => if c.win = true /\ 64 - c.lead - c.tail <= R.length then some (c.v ^^^ (numOf (R.take (64 - c.lead - c.tail)) * 2 ^ c.tail % 2 ^ 64), 66 - c.lead - c.tail) else none
 | true :: true :: R =>
  if 11 <= R.length /\ numOf (R.take 5) + numOf ((R.drop 5).take 6) + 1 <= 64 /\ numOf ((R.drop 5).take 6) + 1 <= (R.drop 11).length then
   some (c.v ^^^ (numOf ((R.drop 11).take (numOf ((R.drop 5).take 6) + 1)) * 2 ^ (63 - numOf (R.take 5) - numOf ((R.drop 5).take 6)) % 2 ^ 64), 14 + numOf ((R.drop 5).take 6)) else none
def getR (c : Cd) (K : List Bool) : Option (Nat × Nat) :=
 match guess c K with
 | none => none
 | some (v, n) => if putB c v = K.take n then some (v, n) else none
theorem guess_put {c : Cd} (hc : c.Ok) {v : Nat} (hv : v < 2 ^ 64) (R : List Bool) : guess c (putB c v ++ R) = some (v, (putB c v).length) := by
 unfold guess putB
 by_cases h1 : c.begun = false
 ·rw [if_pos h1, if_pos h1, if_pos (by rw [List.length_append, bitsOf_length]; omega), List.take_left' (bitsOf_length v 64), numOf_bitsOf, bitsOf_length, Nat.mod_eq_of_lt hv]
 ·rw [if_neg h1, if_neg h1]
  by_cases h2 : v ^^^ c.v = 0
  ·rw [if_pos h2]
   have : c.v = v := by
    have e : c.v ^^^ (v ^^^ c.v) = v := by rw [Nat.xor_comm v, <- Nat.xor_assoc, Nat.xor_self, Nat.zero_xor]
    rw [h2, Nat.xor_zero] at e
    exact e
   rw [<- this]
   rfl
  ·rw [if_neg h2]
   have hd := xor_lt hv hc.v
   have hp := xor_pos h2
   have hback : c.v ^^^ (v ^^^ c.v) = v := by rw [Nat.xor_comm v, <- Nat.xor_assoc, Nat.xor_self, Nat.zero_xor]
   generalize v ^^^ c.v = d at *
   have hl := lead_lt hd
   have hs := sum_le hd hp
   have hsum := hc.sum
   by_cases h3 : c.win = true /\ c.lead <= lead d /\ c.tail <= tail d
   ·rw [if_pos h3]
    have hm : d / 2 ^ c.tail < 2 ^ (64 - c.lead - c.tail) := mid_lt (Nat.lt_of_lt_of_le hl (Nat.pow_le_pow_right (by decide) (by omega))) (by omega)
    have hb := mid_back (dvd_le (tail_dvd d) h3.2.2)
    have hcut : [true, false] ++ bitsOf (d / 2 ^ c.tail) (64 - c.lead - c.tail) ++ R = true :: false :: (bitsOf (d / 2 ^ c.tail) (64 - c.lead - c.tail) ++ R) := by simp
    rw [hcut]
    show (if c.win = true /\ 64 - c.lead - c.tail <= (bitsOf (d / 2 ^ c.tail) (64 - c.lead - c.tail) ++ R).length then some (c.v ^^^ (numOf ((bitsOf (d / 2 ^ c.tail) (64 - c.lead - c.tail) ++ R).take (64 - c.lead - c.tail)) * 2 ^ c.tail % 2 ^ 64), 66 - c.lead - c.tail) else none) = _
    rw [if_pos ⟨h3.1, by rw [List.length_append, bitsOf_length]; omega⟩, List.take_left' (bitsOf_length _ _), numOf_bitsOf, Nat.mod_eq_of_lt hm, hb, Nat.mod_eq_of_lt hd, hback]
    simp only [List.length_append, bitsOf_length, List.length_cons, List.length_nil]
    congr 2
    omega
   ·rw [if_neg h3]
    have hm : d / 2 ^ tail d < 2 ^ (64 - lead d - tail d) := mid_lt hl (by omega)
    have hb := mid_back (tail_dvd d)
    have hll := lead_le d
    generalize lead d = a at *
    generalize tail d = b at *
    have e5 : numOf (bitsOf a 5) = a := by rw [numOf_bitsOf, Nat.mod_eq_of_lt (by omega)]
    have e6 : numOf (bitsOf (63 - a - b) 6) = 63 - a - b := by rw [numOf_bitsOf, Nat.mod_eq_of_lt (by omega)]
    obtain ⟨Q, hQ⟩ : ∃ Q, Q = bitsOf a 5 ++ (bitsOf (63 - a - b) 6 ++ (bitsOf (d / 2 ^ b) (64 - a - b) ++ R)) := ⟨_, rfl⟩
    have hcut : [true, true] ++ bitsOf a 5 ++ bitsOf (63 - a - b) 6 ++ bitsOf (d / 2 ^ b) (64 - a - b) ++ R = true :: true :: Q := by rw [hQ]; simp
    have t5 : Q.take 5 = bitsOf a 5 := by rw [hQ, List.take_left' (bitsOf_length _ _)]
    have d5 : Q.drop 5 = bitsOf (63 - a - b) 6 ++ (bitsOf (d / 2 ^ b) (64 - a - b) ++ R) := by rw [hQ, List.drop_left' (bitsOf_length _ _)]
    have d11 : Q.drop 11 = bitsOf (d / 2 ^ b) (64 - a - b) ++ R := by
     rw [show (11 : Nat) = 5 + 6 by rfl, <- List.drop_drop, d5, List.drop_left' (bitsOf_length _ _)]
    have hlen : Q.length = 11 + (64 - a - b) + R.length := by rw [hQ]; simp only [List.length_append, bitsOf_length]; omega
    rw [hcut]
    show (if 11 <= Q.length /\ numOf (Q.take 5) + numOf ((Q.drop 5).take 6) + 1 <= 64 /\ numOf ((Q.drop 5).take 6) + 1 <= (Q.drop 11).length then _ else _) = _
    have t6 : numOf ((Q.drop 5).take 6) = 63 - a - b := by rw [d5, List.take_left' (bitsOf_length _ _), e6]
    rw [t6, t5, e5, d11]
    rw [if_pos ⟨by omega, by omega, by rw [List.length_append, bitsOf_length]; omega⟩]
    rw [show 63 - a - b + 1 = 64 - a - b by omega, List.take_left' (bitsOf_length _ _), numOf_bitsOf, Nat.mod_eq_of_lt hm, show 63 - a - (63 - a - b) = b by omega, hb, Nat.mod_eq_of_lt hd, hback]
    simp only [List.length_append, bitsOf_length, List.length_cons, List.length_nil]
    congr 2
    omega
theorem get_put {c : Cd} (hc : c.Ok) {v : Nat} (hv : v < 2 ^ 64) (R : List Bool) : getR c (putB c v ++ R) = some (v, (putB c v).length) := by
 unfold getR
 rw [guess_put hc hv R]
 simp
theorem get_nil (c : Cd) : getR c [] = none := by
 unfold getR guess
 split
 ·rfl
 ·rename_i h
  split at h
  ·simp at h
  ·simp at h
theorem get_le {c : Cd} {K : List Bool} {v n : Nat} (h : getR c K = some (v, n)) : n <= K.length /\ (putB c v).length = n /\ K.take n = putB c v := by
 unfold getR at h
 cases hg : guess c K with
 | none => rw [hg] at h; simp at h
 | some x =>
  obtain ⟨v', n'⟩ := x
  rw [hg] at h
  simp only at h
  split at h
  ·rename_i he
   simp at h
   obtain ⟨rfl, rfl⟩ := h
   have hn : n' <= K.length := by
    unfold guess at hg
    split at hg
    ·split at hg
     ·simp at hg; omega
     ·simp at hg
    ·split at hg
     ·simp at hg
     ·simp at hg; simp; omega
     ·simp at hg
     ·split at hg
      ·rename_i hh; simp at hg; simp; omega
      ·simp at hg
     ·split at hg
      ·rename_i hh; simp at hg hh; simp; omega
      ·simp at hg
   exact ⟨hn, by rw [he, List.length_take]; omega, he.symm⟩
  ·simp at h
theorem guess_lt {c : Cd} (hc : c.Ok) {K : List Bool} {v n : Nat} (h : guess c K = some (v, n)) : v < 2 ^ 64 := by
 unfold guess at h
 split at h
 ·split at h
  ·simp at h
   have := numOf_lt (K.take 64)
   rw [List.length_take, Nat.min_eq_left (by omega)] at this
   rw [<- h.1]; exact this
  ·simp at h
 ·split at h
  ·simp at h
  ·simp at h; rw [<- h.1]; exact hc.v
  ·simp at h
  ·split at h
   ·simp only [Option.some.injEq, Prod.mk.injEq] at h
    rw [<- h.1]; exact xor_lt hc.v (Nat.mod_lt _ (by decide))
   ·simp at h
  ·split at h
   ·simp only [Option.some.injEq, Prod.mk.injEq] at h
    rw [<- h.1]; exact xor_lt hc.v (Nat.mod_lt _ (by decide))
   ·simp at h
end Xr
end
section
open Go.RowKit
namespace Xr
open Bit Dsk Ob
theorem lead_is {d n : Nat} (hn : n <= 31) (h : ∀ i, i < n -> d / 2 ^ (63 - i) = 0) (hs : n = 31 \/ d / 2 ^ (63 - n) ≠ 0) : Xr.lead d = n :=
 upTo_is _ 31 n hn (fun i hi => by simpa using h i hi) (fun h2 => by rcases hs with h3 | h3 <;> simp_all)
theorem tail_is {d n : Nat} (hn : n <= 63) (h : ∀ i, i < n -> d / 2 ^ i % 2 = 0) (hs : n = 63 \/ d / 2 ^ n % 2 ≠ 0) : Xr.tail d = n :=
 upTo_is _ 63 n hn (fun i hi => by simpa using h i hi) (fun h2 => by rcases hs with h3 | h3 <;> simp_all)
set_option maxHeartbeats 800000 in
theorem lead_any (d : Nat) (hd : d < 2 ^ 64) (w : World) : Calls Tryz.prog 162 #[.int .u64 (d : Int)] w fun e w' => e = .returned (.int .i64 (Xr.lead d : Int)) /\ w = w' := by
 have hd2 : d < 18446744073709551616 := by simpa using hd
 replace hd := Lib.hid hd
 go_enter Tryz.func162, Tryz.ntmps162
 go_wp2_with fail
 go_loopw [3] (fun i wr => ∃ n : Nat, n <= 31 /\ i = .int .i64 (n : Int) /\ (∀ i, i < n -> d / 2 ^ (63 - i) = 0) /\ w = wr) (fun i _ => 31 - (intOf i).toNat)
 case atStart => exact ⟨0, Nat.zero_le _, rfl, fun i hi => absurd hi (Nat.not_lt_zero _), rfl⟩
 case round =>
  obtain ⟨n, hn, rfl, hall, rfl⟩ := hrel
  replace hall := Lib.hid hall
  by_cases hlt : n < 31
  ·have hs : IntKind.i64.wrap (63 - (n : Int)) = ((63 - n : Nat) : Int) := by rw [IntWalk.i64_in _ (by omega)]; omega
   have hdiv := int_div_pow d (63 - n)
   by_cases hz : d / 2 ^ (63 - n) = 0
   ·have hb : ((d : Int) / 2 ^ (63 - n) == 0) = true := by rw [hdiv, hz]; rfl
    have hnext : Hid (∀ i, i < n + 1 -> d / 2 ^ (63 - i) = 0) := Lib.hid fun i hi => by
     by_cases e : i = n
     ·rw [e]; exact hz
     ·exact hall.out i (by omega)
    clear hdiv hz
    go_wp2_with fail
    go_roundw
    case rel => exact ⟨n + 1, by omega, by go_num, hnext.out, trivial⟩
    case measure => simp [intOf]; omega
   ·have hb : ((d : Int) / 2 ^ (63 - n) == 0) = false := by
     rw [hdiv, beq_eq_false_iff_ne]
     exact fun e => hz (by exact_mod_cast e)
    have he : Hid (Xr.lead d = n) := Lib.hid (lead_is (by omega) hall.out (.inr hz))
    clear hdiv hz
    go_wp2_with fail
    go_ret
    exact ⟨by rw [he.out]; rfl, rfl⟩
  ·obtain rfl : n = 31 := by omega
   have he : Hid (Xr.lead d = 31) := Lib.hid (lead_is (Nat.le_refl _) hall.out (.inl rfl))
   go_wp2_with fail
   go_ret
   exact ⟨by rw [he.out]; rfl, rfl⟩
set_option maxHeartbeats 800000 in
theorem tail_any (d : Nat) (hd : d < 18446744073709551616) (w : World) : Calls Tryz.prog 163 #[.int .u64 (d : Int)] w fun e w' => e = .returned (.int .i64 (Xr.tail d : Int)) /\ w = w' := by
 go_enter Tryz.func163, Tryz.ntmps163
 go_wp2_with fail
 go_loopw [0, 3] (fun x i wr => ∃ n q : Nat, n <= 63 /\ i = .int .i64 (n : Int) /\ q = d / 2 ^ n /\ q < 18446744073709551616 /\ x = .int .u64 (q : Int) /\ (∀ i, i < n -> d / 2 ^ i % 2 = 0) /\ w = wr) (fun _ i _ => 63 - (intOf i).toNat)
 case atStart => exact ⟨0, d, Nat.zero_le _, rfl, by simp, hd, rfl, fun i hi => absurd hi (Nat.not_lt_zero _), rfl⟩
 case round =>
  obtain ⟨n, q, hn, rfl, hq, hql, rfl, hall, rfl⟩ := hrel
  replace hall := Lib.hid hall
  replace hq := Lib.hid hq
  by_cases hz : q % 2 = 0
  ·have hb : (((q : Int) % 2) == 0) = true := by rw [beq_iff_eq]; omega
   by_cases hlt : n < 63
   ·have hnext : Hid (∀ i, i < n + 1 -> d / 2 ^ i % 2 = 0) := Lib.hid fun i hi => by
     by_cases e : i = n
     ·rw [e, <- hq.out]; exact hz
     ·exact hall.out i (by omega)
    have hnq : Hid (q / 2 = d / 2 ^ (n + 1)) := Lib.hid (by rw [hq.out, Nat.div_div_eq_div_mul, Nat.pow_succ])
    have hql2 : Hid (q / 2 < 18446744073709551616) := Lib.hid (by omega)
    go_wp2_with fail
    go_roundw
    case rel => exact ⟨n + 1, q / 2, by omega, by go_num, hnq.out, hql2.out, by go_num, hnext.out, trivial⟩
    case measure => simp [intOf]; omega
   ·obtain rfl : n = 63 := by omega
    have he : Hid (Xr.tail d = 63) := Lib.hid (tail_is (Nat.le_refl _) hall.out (.inl rfl))
    go_wp2_with fail
    go_ret
    exact ⟨by rw [he.out]; rfl, rfl⟩
  ·have hb : (((q : Int) % 2) == 0) = false := by rw [beq_eq_false_iff_ne]; omega
   have he : Hid (Xr.tail d = n) := Lib.hid (tail_is hn hall.out (.inr (by rw [<- hq.out]; exact hz)))
   go_wp2_with fail
   go_ret
   exact ⟨by rw [he.out]; rfl, rfl⟩
def cCells (c : Cd) : Array Value := #[.bool c.begun, .int .u64 (c.v : Int), .bool c.win, .int .i64 (c.lead : Int), .int .i64 (c.tail : Int)]
def IsRC (q : Nat) (c : Cd) : Ob.Rel := fun w S => w.heap[q]? = some (.cells (cCells c) 196 (0, 0)) /\ ∀ x, S x ↔ x = q
theorem objRC (q : Nat) (c : Cd) : Thing (IsRC q c) := ⟨fun w w' S h hk _ => ⟨(hk q ((h.2 q).2 rfl)).trans h.1, h.2⟩, fun w S h x hx => by rw [(h.2 x).1 hx]; exact (Array.getElem?_eq_some_iff.1 h.1).1⟩
theorem rc5 {w : World} {q : Nat} {c : Cd} (h : w.heap[q]? = some (.cells (cCells c) 196 (0, 0))) :
  w.cell? ⟨q, 0, none⟩ = some (.bool c.begun) /\ w.cell? ⟨q, 1, none⟩ = some (.int .u64 (c.v : Int)) /\ w.cell? ⟨q, 2, none⟩ = some (.bool c.win) /\ w.cell? ⟨q, 3, none⟩ = some (.int .i64 (c.lead : Int)) /\ w.cell? ⟨q, 4, none⟩ = some (.int .i64 (c.tail : Int)) /\ ∀ o, w.frozen? ⟨q, o, none⟩ = false := by
 refine ⟨?_, ?_, ?_, ?_, ?_, fun o => Lib.frozen_of_heap h o⟩ <;> (rw [Lib.cell_of_heap h]; rfl)
theorem rcSet {w : World} {A : Nat -> Prop} {q o : Nat} {c c' : Cd} {v : Value} (h : IsRC q c w A) (he : (cCells c).setIfInBounds o v = cCells c') : ObjStep (IsRC q c') A w (w.setCell ⟨q, o, none⟩ v) :=
 stepCell ((h.2 q).2 rfl) ⟨by rw [<- he]; simp [World.setCell, Array.getElem?_modify, h.1], h.2⟩
end Xr
end
section
open Go.RowKit Go.Sort
namespace Xr
open Bit Dsk Ob
abbrev CW (q : Nat) (c : Cd) (p : Nat) (L : List Bool) : Ob.Rel := Tens (IsRC q c) (fun w S => IsRW w S p L)
theorem thingCW (q : Nat) (c : Cd) (p : Nat) (L : List Bool) : Thing (CW q c p L) := Tens.ob (objRC q c) (objRW p L)
theorem cwPut {S : Nat -> Prop} {w0 w : World} {q p : Nat} {c : Cd} {L L' : List Bool} (H : ObjStep (CW q c p L) S w0 w) (v : Nat) (n : Int) (hL : L.length <= 90000000000000) (hv : v < 18446744073709551616) (e : L ++ bitsOf v (cnt n) = L') :
  Calls Tryz.prog 160 #[.pointer (some ⟨p, 0, none⟩), .int .u64 (v : Int), .int .i64 n] w fun e w' => e = .returned (.tuple #[]) /\ ObjStep (CW q c p L') S w0 w' := by
 subst e
 exact callR (Q := fun e => e = .returned (.tuple #[])) (objRC q c) H fun A h => refput_any A p L v n w h hL hv
theorem cwCells {S : Nat -> Prop} {w0 w : World} {q p : Nat} {c : Cd} {L : List Bool} (H : ObjStep (CW q c p L) S w0 w) :
  w.cell? ⟨q, 0, none⟩ = some (.bool c.begun) /\ w.cell? ⟨q, 1, none⟩ = some (.int .u64 (c.v : Int)) /\ w.cell? ⟨q, 2, none⟩ = some (.bool c.win) /\ w.cell? ⟨q, 3, none⟩ = some (.int .i64 (c.lead : Int)) /\ w.cell? ⟨q, 4, none⟩ = some (.int .i64 (c.tail : Int)) /\ ∀ o, w.frozen? ⟨q, o, none⟩ = false := by
 obtain ⟨A, h⟩ := seeL H
 exact rc5 h.1
theorem cwSet {S : Nat -> Prop} {w0 w : World} {q p o : Nat} {c c' : Cd} {L : List Bool} {v : Value} (H : ObjStep (CW q c p L) S w0 w) (he : (cCells c).setIfInBounds o v = cCells c') : ObjStep (CW q c' p L) S w0 (w.setCell ⟨q, o, none⟩ v) :=
 stepL (objRW p L) H fun A h => rcSet h he
theorem xor_int (a b : Nat) (ha : a < 18446744073709551616) (hb : b < 18446744073709551616) : bits .xor .u64 (a : Int) (b : Int) = ((a ^^^ b : Nat) : Int) := bits_xor_u64_nat a b ha hb
theorem cwPutDiv {S : Nat -> Prop} {w0 w : World} {q p : Nat} {c : Cd} {L L' : List Bool} (H : ObjStep (CW q c p L) S w0 w) (d t : Nat) (n : Int) (hL : L.length <= 90000000000000) (hd : d < 18446744073709551616) (e : L ++ bitsOf (d / 2 ^ t) (cnt n) = L') :
  Calls Tryz.prog 160 #[.pointer (some ⟨p, 0, none⟩), .int .u64 ((d : Int) / 2 ^ t), .int .i64 n] w fun e w' => e = .returned (.tuple #[]) /\ ObjStep (CW q c p L') S w0 w' := by
 rw [int_div_pow]
 exact cwPut H (d / 2 ^ t) n hL (Nat.lt_of_le_of_lt (Nat.div_le_self _ _) hd) e
set_option maxRecDepth 100000 in
set_option maxHeartbeats 3200000 in
theorem put_first (S : Nat -> Prop) (q p : Nat) (c : Cd) (L : List Bool) (v : Nat) (w : World) (h : CW q c p L w S) (hb : c.begun = false) (hL : L.length <= 80000000000000) (hv : v < 18446744073709551616) (hc : c.v < 18446744073709551616) :
  Calls Tryz.prog 113 #[.pointer (some ⟨q, 0, none⟩), .pointer (some ⟨p, 0, none⟩), .int .u64 (v : Int)] w fun e w' => e = .returned (.tuple #[]) /\ ObjStep (CW q { c with begun := true, v := v } p (L ++ bitsOf v 64)) S w w' := by
 have H := ObjStep.refl (I := CW q c p L) h
 obtain ⟨k0, k1, k2, k3, k4, kf⟩ := cwCells H
 have f0 := kf 0
 rw [hb] at k0
 have hx := xor_int v c.v hv hc
 have H1 := cwSet (o := 0) (v := .bool true) (c' := { c with begun := true }) H rfl
 have H2 := cwSet (o := 1) (v := .int .u64 (v : Int)) (c' := { c with begun := true, v := v }) H1 rfl
 have f1 := (cwCells H1).2.2.2.2.2 1
 have g1 := (cwCells H1).2.1
 have HP := Lib.hid (cwPut H2 v 64 (by omega) hv (L' := L ++ bitsOf v 64) (by rfl))
 clear H H1 H2 kf h
 go_enter Tryz.func113, Tryz.ntmps113
 go_wp2_with fail
 refine HP.out.mono ?_
 rintro e w2 ⟨rfl, h2⟩
 replace h2 := Lib.hid h2
 clear HP
 go_wp2_with fail
 (try simp only [Exit.inBlock, Exit.then])
 refine bodyPost_ret (results_none rfl _ _ _) rfl ?_
 exact ⟨rfl, h2.out⟩
set_option maxRecDepth 100000 in
set_option maxHeartbeats 3200000 in
theorem put_same (S : Nat -> Prop) (q p : Nat) (c : Cd) (L : List Bool) (v : Nat) (w : World) (h : CW q c p L w S) (hb : c.begun = true) (hL : L.length <= 80000000000000) (hv : v < 18446744073709551616) (hc : c.v < 18446744073709551616) (hx0 : v ^^^ c.v = 0) :
  Calls Tryz.prog 113 #[.pointer (some ⟨q, 0, none⟩), .pointer (some ⟨p, 0, none⟩), .int .u64 (v : Int)] w fun e w' => e = .returned (.tuple #[]) /\ ObjStep (CW q { c with v := v } p (L ++ [false])) S w w' := by
 have H := ObjStep.refl (I := CW q c p L) h
 obtain ⟨k0, k1, k2, k3, k4, kf⟩ := cwCells H
 have f0 := kf 0
 rw [hb] at k0
 have hx := xor_int v c.v hv hc
 rw [hx0] at hx
 have H1 := cwSet (o := 0) (v := .bool true) (c' := c) H (by unfold cCells; rw [hb]; rfl)
 have H2 := cwSet (o := 1) (v := .int .u64 (v : Int)) (c' := { c with v := v }) H1 rfl
 have f1 := (cwCells H1).2.2.2.2.2 1
 have g1 := (cwCells H1).2.1
 have HP := Lib.hid (cwPut H2 0 1 (by omega) (by decide) (L' := L ++ [false]) (by rfl))
 clear H H1 H2 kf h hx0
 go_enter Tryz.func113, Tryz.ntmps113
 go_wp2_with fail
 refine HP.out.mono ?_
 rintro e w2 ⟨rfl, h2⟩
 replace h2 := Lib.hid h2
 clear HP
 go_wp2_with fail
 (try simp only [Exit.inBlock, Exit.then])
 refine bodyPost_ret (results_none rfl _ _ _) rfl ?_
 exact ⟨rfl, h2.out⟩
set_option maxRecDepth 100000 in
set_option maxHeartbeats 3200000 in
theorem put_within (S : Nat -> Prop) (q p : Nat) (c : Cd) (L : List Bool) (v d : Nat) (w : World) (h : CW q c p L w S) (hok : c.Ok) (hb : c.begun = true) (hL : L.length <= 80000000000000) (hv : v < 18446744073709551616) (hc : c.v < 18446744073709551616) (hd : v ^^^ c.v = d) (hd0 : d ≠ 0)
  (hw : c.win = true) (hl : c.lead <= Xr.lead d) (ht : c.tail <= Xr.tail d) :
  Calls Tryz.prog 113 #[.pointer (some ⟨q, 0, none⟩), .pointer (some ⟨p, 0, none⟩), .int .u64 (v : Int)] w fun e w' => e = .returned (.tuple #[]) /\ ObjStep (CW q { c with v := v } p (L ++ ([true, false] ++ bitsOf (d / 2 ^ c.tail) (64 - c.lead - c.tail)))) S w w' := by
 have H := ObjStep.refl (I := CW q c p L) h
 obtain ⟨k0, k1, k2, k3, k4, kf⟩ := cwCells H
 have f0 := kf 0
 rw [hb] at k0
 have hx := xor_int v c.v hv hc
 rw [hd] at hx
 have hdl : d < 18446744073709551616 := by rw [<- hd]; exact xor_lt hv hc
 have hbz : ((d : Int) == 0) = false := by rw [beq_eq_false_iff_ne]; omega
 have H1 := cwSet (o := 0) (v := .bool true) (c' := c) H (by unfold cCells; rw [hb]; rfl)
 have H2 := cwSet (o := 1) (v := .int .u64 (v : Int)) (c' := { c with v := v }) H1 rfl
 have f1 := (cwCells H1).2.2.2.2.2 1
 have g1 := (cwCells H1).2.1
 have HP := Lib.hid (cwPut H2 1 1 (by omega) (by decide) (L' := L ++ [true]) (by rfl))
 have hla := Lib.hid (lead_any d (by simpa using hdl))
 have hta := Lib.hid (tail_any d hdl)
 have hl31 := lead_le d
 have ht63 := tail_le d
 have hsum := hok.sum
 have hn : wrap64 (wrap64 (64 - (c.lead : Int)) - (c.tail : Int)) = ((64 - c.lead - c.tail : Nat) : Int) := by rw [IntWalk.wrap64_in (64 - (c.lead : Int)) (by omega), IntWalk.wrap64_in _ (by omega)]; omega
 have hn2 : IntKind.i64.wrap (IntKind.i64.wrap (64 - (c.lead : Int)) - (c.tail : Int)) = ((64 - c.lead - c.tail : Nat) : Int) := by rw [IntWalk.i64_in (64 - (c.lead : Int)) (by omega), IntWalk.i64_in _ (by omega)]; omega
 have dl : decide (c.lead <= Xr.lead d) = true := decide_eq_true hl
 have dt : decide (c.tail <= Xr.tail d) = true := decide_eq_true ht
 clear H H1 H2 kf h hd hok
 generalize Xr.lead d = a at *
 generalize Xr.tail d = b at *
 go_enter Tryz.func113, Tryz.ntmps113
 go_wp2_with fail
 refine HP.out.mono ?_
 rintro e w2 ⟨rfl, h2⟩
 obtain ⟨-, -, m2, m3, m4, -⟩ := cwCells h2
 rw [show ({ c with v := v } : Cd).win = c.win from rfl, hw] at m2
 have HP2 := Lib.hid (cwPut h2 0 1 (by simp; omega) (by decide) (L' := L ++ [true] ++ [false]) (by rfl))
 clear h2 HP k0 k1 k2 k3 k4 f0 f1 g1
 go_wp2_with fail
 refine (hla.out _).mono ?_
 rintro e w3 ⟨rfl, rfl⟩
 go_wp2_with fail
 refine (hta.out _).mono ?_
 rintro e w3 ⟨rfl, rfl⟩
 clear hla hta
 go_wp2_with fail
 refine HP2.out.mono ?_
 rintro e w3 ⟨rfl, h3⟩
 obtain ⟨-, -, n2, n3, n4, -⟩ := cwCells h3
 clear HP2 m2 m3 m4
 have hlen : L.length <= 80000000000000 := hL
 have HP3 := Lib.hid (cwPutDiv (stepDrew (thingCW _ _ _ _) h3) d c.tail ((64 - c.lead - c.tail : Nat) : Int) (by simp; omega) hdl (L' := L ++ ([true, false] ++ bitsOf (d / 2 ^ c.tail) (64 - c.lead - c.tail))) (by rw [cnt_nat (by omega)]; simp))
 clear h3
 go_wp2_with fail
 go_still_tail 17, (by kernel_rfl)
 change wpList _ _ _ _ _ w3.drew
 go_wp2_with fail
 refine HP3.out.mono ?_
 rintro e w4 ⟨rfl, h4⟩
 replace h4 := Lib.hid h4
 clear HP3
 go_wp2_with fail
 (try simp only [Exit.inBlock, Exit.then])
 refine bodyPost_ret (results_none rfl _ _ _) rfl ?_
 exact ⟨rfl, h4.out⟩
set_option maxRecDepth 100000 in
set_option maxHeartbeats 3200000 in
theorem put_other (S : Nat -> Prop) (q p : Nat) (c : Cd) (L : List Bool) (v d : Nat) (w : World) (h : CW q c p L w S) (hb : c.begun = true) (hL : L.length <= 80000000000000) (hv : v < 18446744073709551616) (hc : c.v < 18446744073709551616) (hd : v ^^^ c.v = d) (hd0 : d ≠ 0)
  (hw : ¬ (c.win = true /\ c.lead <= Xr.lead d /\ c.tail <= Xr.tail d)) :
  Calls Tryz.prog 113 #[.pointer (some ⟨q, 0, none⟩), .pointer (some ⟨p, 0, none⟩), .int .u64 (v : Int)] w fun e w' => e = .returned (.tuple #[]) /\ ObjStep (CW q ⟨true, v, true, Xr.lead d, Xr.tail d⟩ p (L ++ ([true, true] ++ bitsOf (Xr.lead d) 5 ++ bitsOf (63 - Xr.lead d - Xr.tail d) 6 ++ bitsOf (d / 2 ^ Xr.tail d) (64 - Xr.lead d - Xr.tail d)))) S w w' := by
 have H := ObjStep.refl (I := CW q c p L) h
 obtain ⟨k0, k1, k2, k3, k4, kf⟩ := cwCells H
 have f0 := kf 0
 rw [hb] at k0
 have hx := xor_int v c.v hv hc
 rw [hd] at hx
 have hdl : d < 18446744073709551616 := by rw [<- hd]; exact xor_lt hv hc
 have hbz : ((d : Int) == 0) = false := by rw [beq_eq_false_iff_ne]; omega
 have hsum := sum_le (d := d) hdl (Nat.pos_of_ne_zero hd0)
 have H1 := cwSet (o := 0) (v := .bool true) (c' := c) H (by unfold cCells; rw [hb]; rfl)
 have H2 := cwSet (o := 1) (v := .int .u64 (v : Int)) (c' := { c with v := v }) H1 rfl
 have f1 := (cwCells H1).2.2.2.2.2 1
 have g1 := (cwCells H1).2.1
 have HP := Lib.hid (cwPut H2 1 1 (by omega) (by decide) (L' := L ++ [true]) (by rfl))
 have hla := Lib.hid (lead_any d (by simpa using hdl))
 have hta := Lib.hid (tail_any d hdl)
 have hl31 := lead_le d
 have ht63 := tail_le d
 clear H H1 H2 kf h hd
 generalize Xr.lead d = a at *
 generalize Xr.tail d = b at *
 have hcase : c.win = false \/ (c.win = true /\ decide (c.lead <= a) = false) \/ (c.win = true /\ decide (c.lead <= a) = true /\ decide (c.tail <= b) = false) := by
  cases hwn : c.win with
  | false => exact .inl rfl
  | true =>
   right
   by_cases h1 : c.lead <= a
   ·right; exact ⟨rfl, decide_eq_true h1, decide_eq_false fun h2 => hw ⟨hwn, h1, h2⟩⟩
   ·left; exact ⟨rfl, decide_eq_false h1⟩
 have hu1 : IntKind.u64.wrap (a : Int) = (a : Int) := by rw [IntKind.wrap_u64]; omega
 have hn1 : (63 : Int) - (a : Int) - (b : Int) = ((63 - a - b : Nat) : Int) := by omega
 have hn2 : (64 : Int) - (a : Int) - (b : Int) = ((64 - a - b : Nat) : Int) := by omega
 clear hw
 rcases hcase with e1 | ⟨e1, e2⟩ | ⟨e1, e2, e3⟩
 all_goals
  rw [e1] at k2
  go_enter Tryz.func113, Tryz.ntmps113
  go_wp2_with fail
  refine HP.out.mono ?_
  rintro e w2 ⟨rfl, h2⟩
  obtain ⟨-, -, m2, m3, m4, -⟩ := cwCells h2
  rw [show ({ c with v := v } : Cd).win = c.win from rfl, e1] at m2
  have HP2 := Lib.hid (cwPut h2 1 1 (by simp; omega) (by decide) (L' := L ++ [true] ++ [true]) (by rfl))
  clear h2 HP k0 k1 k2 k3 k4 f0 f1 g1
  go_wp2_with fail
  refine (hla.out _).mono ?_
  rintro e w3 ⟨rfl, rfl⟩
  go_wp2_with fail
  refine (hta.out _).mono ?_
  rintro e w3 ⟨rfl, rfl⟩
  clear hla hta
  go_wp2_with fail
  refine HP2.out.mono ?_
  rintro e w3 ⟨rfl, h3⟩
  clear HP2 m2 m3 m4
  have HP3 := Lib.hid (cwPut h3 a 5 (by simp; omega) (by omega) (L' := L ++ [true] ++ [true] ++ bitsOf a 5) (by rfl))
  clear h3
  go_wp2_with fail
  refine HP3.out.mono ?_
  rintro e w4 ⟨rfl, h4⟩
  clear HP3
  have HP4 := Lib.hid (cwPut h4 (63 - a - b) 6 (by simp [bitsOf_length]; omega) (by omega) (L' := L ++ [true] ++ [true] ++ bitsOf a 5 ++ bitsOf (63 - a - b) 6) (by rfl))
  clear h4
  go_wp2_with fail
  refine HP4.out.mono ?_
  rintro e w5 ⟨rfl, h5⟩
  clear HP4
  have HP5 := Lib.hid (cwPutDiv h5 d b ((64 - a - b : Nat) : Int) (by simp [bitsOf_length]; omega) hdl (L' := L ++ ([true, true] ++ bitsOf a 5 ++ bitsOf (63 - a - b) 6 ++ bitsOf (d / 2 ^ b) (64 - a - b))) (by rw [cnt_nat (by omega)]; simp))
  clear h5
  go_wp2_with fail
  refine HP5.out.mono ?_
  rintro e w6 ⟨rfl, h6⟩
  clear HP5
  obtain ⟨-, -, n2, n3, n4, nf⟩ := cwCells h6
  have h7 := cwSet (o := 2) (v := .bool true) (c' := { c with v := v, win := true }) h6 rfl
  obtain ⟨-, -, -, p3, p4, pf⟩ := cwCells h7
  have h8 := cwSet (o := 3) (v := .int .i64 (a : Int)) (c' := { c with v := v, win := true, lead := a }) h7 rfl
  obtain ⟨-, -, -, -, r4, rf⟩ := cwCells h8
  have h9 := cwSet (o := 4) (v := .int .i64 (b : Int)) (c' := ⟨c.begun, v, true, a, b⟩) h8 rfl
  rw [hb] at h9
  have x2 := nf 2
  have x3 := pf 3
  have x4 := rf 4
  have h9' := Lib.hid h9
  clear nf pf rf h6 h7 h8 h9
  go_wp2_with fail
  go_end0
  exact ⟨rfl, h9'.out⟩
theorem refPut_any (S : Nat -> Prop) (q p : Nat) (c : Cd) (L : List Bool) (v : Nat) (w : World) (h : CW q c p L w S) (hok : c.Ok) (hL : L.length <= 80000000000000) (hv : v < 18446744073709551616) :
  Calls Tryz.prog 113 #[.pointer (some ⟨q, 0, none⟩), .pointer (some ⟨p, 0, none⟩), .int .u64 (v : Int)] w fun e w' => e = .returned (.tuple #[]) /\ ObjStep (CW q (putC c v) p (L ++ putB c v)) S w w' := by
 have hc : c.v < 18446744073709551616 := hok.v
 by_cases hb : c.begun = false
 ·have e1 : putC c v = { c with begun := true, v := v } := by unfold putC; rw [if_pos hb]
  have e2 : putB c v = bitsOf v 64 := by unfold putB; rw [if_pos hb]
  rw [e1, e2]
  exact put_first S q p c L v w h hb hL hv hc
 ·have hb' : c.begun = true := by simpa using hb
  by_cases hx : v ^^^ c.v = 0
  ·have e1 : putC c v = { c with v := v } := by unfold putC; rw [if_neg hb, if_pos hx]
   have e2 : putB c v = [false] := by unfold putB; rw [if_neg hb, if_pos hx]
   rw [e1, e2]
   exact put_same S q p c L v w h hb' hL hv hc hx
  ·by_cases hw : c.win = true /\ c.lead <= Xr.lead (v ^^^ c.v) /\ c.tail <= Xr.tail (v ^^^ c.v)
   ·have e1 : putC c v = { c with v := v } := by unfold putC; rw [if_neg hb, if_neg hx, if_pos hw]
    have e2 : putB c v = [true, false] ++ bitsOf ((v ^^^ c.v) / 2 ^ c.tail) (64 - c.lead - c.tail) := by unfold putB; rw [if_neg hb, if_neg hx, if_pos hw]
    rw [e1, e2]
    exact put_within S q p c L v _ w h hok hb' hL hv hc rfl hx hw.1 hw.2.1 hw.2.2
   ·have e1 : putC c v = ⟨true, v, true, Xr.lead (v ^^^ c.v), Xr.tail (v ^^^ c.v)⟩ := by unfold putC; rw [if_neg hb, if_neg hx, if_neg hw]
    have e2 : putB c v = [true, true] ++ bitsOf (Xr.lead (v ^^^ c.v)) 5 ++ bitsOf (63 - Xr.lead (v ^^^ c.v) - Xr.tail (v ^^^ c.v)) 6 ++ bitsOf ((v ^^^ c.v) / 2 ^ Xr.tail (v ^^^ c.v)) (64 - Xr.lead (v ^^^ c.v) - Xr.tail (v ^^^ c.v)) := by unfold putB; rw [if_neg hb, if_neg hx, if_neg hw]
    rw [e1, e2]
    exact put_other S q p c L v _ w h hb' hL hv hc rfl hx hw
end Xr
end
section
open Go.RowKit Go.Sort
namespace Xr
open Bit Dsk Ob
abbrev CR (q : Nat) (c : Cd) (p : Nat) (K : List Bool) : Ob.Rel := Tens (IsRC q c) (fun w S => IsRR w S p K)
theorem thingCR (q : Nat) (c : Cd) (p : Nat) (K : List Bool) : Thing (CR q c p K) := Tens.ob (objRC q c) (objRR p K)
theorem crGet {S : Nat -> Prop} {w0 w : World} {q p : Nat} {c : Cd} {K K' : List Bool} {x : Nat} (H : ObjStep (CR q c p K) S w0 w) (m : Nat) (hm : m <= 64) (hle : m <= K.length) (hx : numOf (K.take m) = x) (e : K.drop m = K') :
  Calls Tryz.prog 157 #[.pointer (some ⟨p, 0, none⟩), .int .i64 (m : Int)] w fun e w' => e = .returned (.tuple #[.int .u64 (x : Int), .bool true]) /\ ObjStep (CR q c p K') S w0 w' := by
 subst e; subst hx
 exact callR (Q := fun e => e = .returned (.tuple #[.int .u64 (numOf (K.take m) : Int), .bool true])) (objRC q c) H fun A h => refGet_ok A p K m w h hm hle
theorem crNo {S : Nat -> Prop} {w0 w : World} {q p : Nat} {c : Cd} {K : List Bool} (H : ObjStep (CR q c p K) S w0 w) (m : Nat) (hle : K.length < m) :
  Calls Tryz.prog 157 #[.pointer (some ⟨p, 0, none⟩), .int .i64 (m : Int)] w fun e w' => e = .returned (.tuple #[.int .u64 0, .bool false]) /\ ObjStep (CR q c p K) S w0 w' := by
 obtain ⟨A, h⟩ := seeR H
 refine (refGet_no A p K m w h (by omega)).mono ?_
 rintro e w' ⟨he, rfl⟩
 exact ⟨he, H⟩
theorem crCells {S : Nat -> Prop} {w0 w : World} {q p : Nat} {c : Cd} {K : List Bool} (H : ObjStep (CR q c p K) S w0 w) :
  w.cell? ⟨q, 0, none⟩ = some (.bool c.begun) /\ w.cell? ⟨q, 1, none⟩ = some (.int .u64 (c.v : Int)) /\ w.cell? ⟨q, 2, none⟩ = some (.bool c.win) /\ w.cell? ⟨q, 3, none⟩ = some (.int .i64 (c.lead : Int)) /\ w.cell? ⟨q, 4, none⟩ = some (.int .i64 (c.tail : Int)) := by
 obtain ⟨A, h⟩ := seeL H
 obtain ⟨h0, h1, h2, h3, h4, -⟩ := rc5 h.1
 exact ⟨h0, h1, h2, h3, h4⟩
def Gs (q : Nat) (c : Cd) (p : Nat) (K : List Bool) (S : Nat -> Prop) (w : World) (o : Option (Nat × Nat)) (e : Ending) (w' : World) : Prop :=
 match o with
 | some (v, n) => e = .returned (.tuple #[.int .u64 (v : Int), .bool true]) /\ ObjStep (CR q c p (K.drop n)) S w w'
 | none => (∃ x : Int, e = .returned (.tuple #[.int .u64 x, .bool false])) /\ ∃ K', ObjStep (CR q c p K') S w w'
theorem xor_shl (V D k : Nat) (hV : V < 18446744073709551616) : bits .xor .u64 (V : Int) ((D : Int) * 2 ^ k % 18446744073709551616) = ((V ^^^ (D * 2 ^ k % 2 ^ 64) : Nat) : Int) := by
 rw [<- xor_int V (D * 2 ^ k % 2 ^ 64) hV (Nat.mod_lt _ (by decide)), Int.natCast_emod, Int.natCast_mul, Int.natCast_pow]
 rfl
set_option maxRecDepth 100000 in
set_option maxHeartbeats 3200000 in
theorem guess_first (S : Nat -> Prop) (q p : Nat) (c : Cd) (K : List Bool) (w : World) (h : CR q c p K w S) (hb : c.begun = false) :
  Calls Tryz.prog 159 #[.pointer (some ⟨q, 0, none⟩), .pointer (some ⟨p, 0, none⟩)] w (Gs q c p K S w (guess c K)) := by
 have H := ObjStep.refl (I := CR q c p K) h
 obtain ⟨k0, k1, k2, k3, k4⟩ := crCells H
 rw [hb] at k0
 have eg : guess c K = if 64 <= K.length then some (numOf (K.take 64), 64) else none := by unfold guess; rw [if_pos hb]
 rw [eg]
 by_cases hl : 64 <= K.length
 ·rw [if_pos hl]
  have HG := Lib.hid (crGet H 64 (by omega) hl rfl rfl)
  clear H h eg
  go_enter Tryz.func159, Tryz.ntmps159
  go_wp2_with fail
  refine HG.out.mono ?_
  rintro e w2 ⟨rfl, h2⟩
  replace h2 := Lib.hid h2
  clear HG
  go_wp2_with fail
  go_ret2
  exact ⟨rfl, h2.out⟩
 ·rw [if_neg hl]
  have HG := Lib.hid (crNo H 64 (by omega))
  clear H h eg
  go_enter Tryz.func159, Tryz.ntmps159
  go_wp2_with fail
  refine HG.out.mono ?_
  rintro e w2 ⟨rfl, h2⟩
  replace h2 := Lib.hid h2
  clear HG
  go_wp2_with fail
  go_ret2
  exact ⟨⟨_, rfl⟩, _, h2.out⟩
set_option maxRecDepth 100000 in
set_option maxHeartbeats 3200000 in
theorem guess_short (S : Nat -> Prop) (q p : Nat) (c : Cd) (K : List Bool) (w : World) (h : CR q c p K w S) (hb : c.begun = true) (hK : K = [] \/ (∃ R, K = false :: R) \/ K = [true] \/ ∃ R, K = true :: false :: R /\ c.win = false) :
  Calls Tryz.prog 159 #[.pointer (some ⟨q, 0, none⟩), .pointer (some ⟨p, 0, none⟩)] w (Gs q c p K S w (guess c K)) := by
 have H := ObjStep.refl (I := CR q c p K) h
 obtain ⟨k0, k1, k2, k3, k4⟩ := crCells H
 rw [hb] at k0
 have hnb : ¬ c.begun = false := by rw [hb]; decide
 rcases hK with rfl | ⟨R, rfl⟩ | rfl | ⟨R, rfl, hw⟩
 ·have eg : guess c [] = none := by unfold guess; rw [if_neg hnb]
  rw [eg]
  have HG := Lib.hid (crNo H 1 (by simp))
  clear h eg
  go_enter Tryz.func159, Tryz.ntmps159
  go_wp2_with fail
  refine HG.out.mono ?_
  rintro e w2 ⟨rfl, h2⟩
  obtain ⟨m0, m1, m2, m3, m4⟩ := crCells h2
  replace h2 := Lib.hid h2
  clear HG H
  go_wp2_with fail
  go_ret2
  exact ⟨⟨_, rfl⟩, _, h2.out⟩
 ·have eg : guess c (false :: R) = some (c.v, 1) := by unfold guess; rw [if_neg hnb]
  rw [eg]
  have HG := Lib.hid (crGet (x := 0) (K' := R) H 1 (by omega) (by simp) (by rfl) (by rfl))
  clear h eg
  go_enter Tryz.func159, Tryz.ntmps159
  go_wp2_with fail
  refine HG.out.mono ?_
  rintro e w2 ⟨rfl, h2⟩
  obtain ⟨m0, m1, m2, m3, m4⟩ := crCells h2
  replace h2 := Lib.hid h2
  clear HG H
  go_wp2_with fail
  go_ret2
  exact ⟨rfl, h2.out⟩
 ·have eg : guess c [true] = none := by unfold guess; rw [if_neg hnb]
  rw [eg]
  have HG := Lib.hid (crGet (x := 1) (K' := []) H 1 (by omega) (by simp) (by rfl) (by rfl))
  clear h eg
  go_enter Tryz.func159, Tryz.ntmps159
  go_wp2_with fail
  refine HG.out.mono ?_
  rintro e w2 ⟨rfl, h2⟩
  obtain ⟨m0, m1, m2, m3, m4⟩ := crCells h2
  have HG2 := Lib.hid (crNo h2 1 (by simp))
  clear HG H h2
  go_wp2_with fail
  refine HG2.out.mono ?_
  rintro e w3 ⟨rfl, h3⟩
  obtain ⟨n0, n1, n2, n3, n4⟩ := crCells h3
  replace h3 := Lib.hid h3
  clear HG2 m0 m1 m2 m3 m4
  go_wp2_with fail
  go_ret2
  exact ⟨⟨_, rfl⟩, _, h3.out⟩
 ·have eg : guess c (true :: false :: R) = none := by
   unfold guess; rw [if_neg hnb]
   simp [hw]
  rw [eg]
  have HG := Lib.hid (crGet (x := 1) (K' := false :: R) H 1 (by omega) (by simp) (by rfl) (by rfl))
  clear h eg
  go_enter Tryz.func159, Tryz.ntmps159
  go_wp2_with fail
  refine HG.out.mono ?_
  rintro e w2 ⟨rfl, h2⟩
  obtain ⟨m0, m1, m2, m3, m4⟩ := crCells h2
  have HG2 := Lib.hid (crGet (x := 0) (K' := R) h2 1 (by omega) (by simp) (by rfl) (by rfl))
  clear HG H h2
  go_wp2_with fail
  refine HG2.out.mono ?_
  rintro e w3 ⟨rfl, h3⟩
  obtain ⟨n0, n1, n2, n3, n4⟩ := crCells h3
  rw [hw] at n2
  replace h3 := Lib.hid h3
  clear HG2 m0 m1 m2 m3 m4
  go_wp2_with fail
  go_ret2
  exact ⟨⟨_, rfl⟩, _, h3.out⟩
set_option maxRecDepth 100000 in
set_option maxHeartbeats 3200000 in
theorem guess_within (S : Nat -> Prop) (q p : Nat) (c : Cd) (R : List Bool) (w : World) (h : CR q c p (true :: false :: R) w S) (hok : c.Ok) (hb : c.begun = true) (hw : c.win = true) :
  Calls Tryz.prog 159 #[.pointer (some ⟨q, 0, none⟩), .pointer (some ⟨p, 0, none⟩)] w (Gs q c p (true :: false :: R) S w (guess c (true :: false :: R))) := by
 have H := ObjStep.refl (I := CR q c p (true :: false :: R)) h
 obtain ⟨k0, k1, k2, k3, k4⟩ := crCells H
 rw [hb] at k0
 have hnb : ¬ c.begun = false := by rw [hb]; decide
 have hsum := hok.sum
 obtain ⟨n, hn⟩ : ∃ n, n = 64 - c.lead - c.tail := ⟨_, rfl⟩
 have eg : guess c (true :: false :: R) = if n <= R.length then some (c.v ^^^ (numOf (R.take n) * 2 ^ c.tail % 2 ^ 64), n + 2) else none := by
  unfold guess; rw [if_neg hnb]
  simp only [hw, true_and]
  rw [<- hn, show 66 - c.lead - c.tail = n + 2 by omega]
 have HG := Lib.hid (crGet (x := 1) (K' := false :: R) H 1 (by omega) (by simp) (by rfl) (by rfl))
 have hw1 : IntKind.i64.wrap (IntKind.i64.wrap (64 - (c.lead : Int)) - (c.tail : Int)) = (n : Int) := by rw [IntWalk.i64_in (64 - (c.lead : Int)) (by omega), IntWalk.i64_in _ (by omega)]; omega
 have hw2 : wrap64 (wrap64 (64 - (c.lead : Int)) - (c.tail : Int)) = (n : Int) := by rw [IntWalk.wrap64_in (64 - (c.lead : Int)) (by omega), IntWalk.wrap64_in _ (by omega)]; omega
 have hu1 : IntKind.u64.wrap (c.lead : Int) = (c.lead : Int) := by rw [IntKind.wrap_u64]; omega
 have hu2 : IntKind.u64.wrap (n : Int) = (n : Int) := by rw [IntKind.wrap_u64]; omega
 have hv : c.v < 18446744073709551616 := hok.v
 have hn64 : n <= 64 := by omega
 have hlt : c.lead + n <= 64 := by omega
 have hnt : Hid (64 - c.lead - n = c.tail) := Lib.hid (by omega)
 have hIn : (64 : Int) - (c.lead : Int) - (n : Int) = (c.tail : Int) := by omega
 have hI : (64 : Int) - (c.lead : Int) - (c.tail : Int) = (n : Int) := by omega
 replace hn := Lib.hid hn
 by_cases hle : n <= R.length
 ·have eg2 : Hid (guess c (true :: false :: R) = some (c.v ^^^ (numOf (R.take n) * 2 ^ c.tail % 2 ^ 64), n + 2)) := Lib.hid (by rw [eg, if_pos hle])
  have hxx := xor_int c.v (numOf (R.take n) * 2 ^ c.tail % 2 ^ 64) hv (Nat.mod_lt _ (by decide))
  have hsh := shl_u64 (numOf (R.take n)) c.tail
  clear h eg
  go_enter Tryz.func159, Tryz.ntmps159
  go_wp2_with fail
  refine HG.out.mono ?_
  rintro e w2 ⟨rfl, h2⟩
  obtain ⟨m0, m1, m2, m3, m4⟩ := crCells h2
  have HG2 := Lib.hid (crGet (x := 0) (K' := R) h2 1 (by omega) (by simp) (by rfl) (by rfl))
  clear HG H h2 k0 k1 k2 k3 k4
  go_wp2_with fail
  refine HG2.out.mono ?_
  rintro e w3 ⟨rfl, h3⟩
  obtain ⟨n0, n1, n2, n3, n4⟩ := crCells h3
  rw [hw] at n2
  have H3 := Lib.hid (fun k => h3.upon0 (thingCR _ _ _ _) (upon_drewN _ w3 k))
  clear HG2 m0 m1 m2 m3 m4 h3
  go_wp2_with fail
  go_quiet (fail)
  have HG3 := Lib.hid (crGet (x := numOf (R.take n)) (K' := R.drop n) (H3.out nq) n hn64 hle (by rfl) (by rfl))
  clear H3 n0 n1 n2 n3 n4
  go_wp2_with fail
  refine HG3.out.mono ?_
  rintro e w4 ⟨rfl, h4⟩
  obtain ⟨p0, p1, p2, p3, p4⟩ := crCells h4
  replace h4 := Lib.hid h4
  clear HG3
  go_wp2_with fail
  go_ret2
  rw [eg2.out]
  refine ⟨?_, h4.out⟩
  show Ending.returned (.tuple #[.int .u64 (bits .xor .u64 (c.v : Int) ((numOf (R.take n) : Int) * 2 ^ c.tail % 18446744073709551616)), .bool true]) = _
  rw [xor_shl _ _ _ hv]
 ·have eg2 : Hid (guess c (true :: false :: R) = none) := Lib.hid (by rw [eg, if_neg hle])
  clear h eg
  go_enter Tryz.func159, Tryz.ntmps159
  go_wp2_with fail
  refine HG.out.mono ?_
  rintro e w2 ⟨rfl, h2⟩
  obtain ⟨m0, m1, m2, m3, m4⟩ := crCells h2
  have HG2 := Lib.hid (crGet (x := 0) (K' := R) h2 1 (by omega) (by simp) (by rfl) (by rfl))
  clear HG H h2 k0 k1 k2 k3 k4
  go_wp2_with fail
  refine HG2.out.mono ?_
  rintro e w3 ⟨rfl, h3⟩
  obtain ⟨n0, n1, n2, n3, n4⟩ := crCells h3
  rw [hw] at n2
  have H3 := Lib.hid (fun k => h3.upon0 (thingCR _ _ _ _) (upon_drewN _ w3 k))
  clear HG2 m0 m1 m2 m3 m4 h3
  go_wp2_with fail
  go_quiet (fail)
  have HG3 := Lib.hid (crNo (H3.out nq) n (by omega))
  clear H3 n0 n1 n2 n3 n4
  go_wp2_with fail
  refine HG3.out.mono ?_
  rintro e w4 ⟨rfl, h4⟩
  obtain ⟨p0, p1, p2, p3, p4⟩ := crCells h4
  replace h4 := Lib.hid h4
  clear HG3
  go_wp2_with fail
  go_ret2
  rw [eg2.out]
  exact ⟨⟨_, rfl⟩, _, h4.out⟩
theorem guess_new_is (c : Cd) (R : List Bool) (hb : ¬ c.begun = false) : guess c (true :: true :: R) = if 11 <= R.length /\ numOf (R.take 5) + numOf ((R.drop 5).take 6) + 1 <= 64 /\ numOf ((R.drop 5).take 6) + 1 <= (R.drop 11).length then
   some (c.v ^^^ (numOf ((R.drop 11).take (numOf ((R.drop 5).take 6) + 1)) * 2 ^ (63 - numOf (R.take 5) - numOf ((R.drop 5).take 6)) % 2 ^ 64), 14 + numOf ((R.drop 5).take 6)) else none := by
 unfold guess; rw [if_neg hb]
set_option maxRecDepth 100000 in
set_option maxHeartbeats 6400000 in
theorem guess_new (S : Nat -> Prop) (q p : Nat) (c : Cd) (R : List Bool) (w : World) (h : CR q c p (true :: true :: R) w S) (hok : c.Ok) (hb : c.begun = true) :
  Calls Tryz.prog 159 #[.pointer (some ⟨q, 0, none⟩), .pointer (some ⟨p, 0, none⟩)] w (Gs q c p (true :: true :: R) S w (guess c (true :: true :: R))) := by
 have H := ObjStep.refl (I := CR q c p (true :: true :: R)) h
 obtain ⟨k0, k1, k2, k3, k4⟩ := crCells H
 rw [hb] at k0
 have hnb : ¬ c.begun = false := by rw [hb]; decide
 have eg := guess_new_is c R hnb
 have hv : c.v < 18446744073709551616 := hok.v
 have HG := Lib.hid (crGet (x := 1) (K' := true :: R) H 1 (by omega) (by simp) (by rfl) (by rfl))
 have hcl : c.lead <= 31 := hok.lead
 have hct : c.lead + c.tail <= 63 := hok.sum
 clear h hnb hok
 by_cases h5 : R.length < 5
 ·have eg2 : Hid (guess c (true :: true :: R) = none) := Lib.hid (by rw [eg, if_neg (by omega)])
  clear eg
  go_enter Tryz.func159, Tryz.ntmps159
  go_wp2_with fail
  refine HG.out.mono ?_
  rintro e w2 ⟨rfl, h2⟩
  obtain ⟨m0, m1, m2, m3, m4⟩ := crCells h2
  have HG2 := Lib.hid (crGet (x := 1) (K' := R) h2 1 (by omega) (by simp) (by rfl) (by rfl))
  clear HG H h2 k0 k1 k2 k3 k4
  go_wp2_with fail
  refine HG2.out.mono ?_
  rintro e w3 ⟨rfl, h3⟩
  obtain ⟨n0, n1, n2, n3, n4⟩ := crCells h3
  have H3 := Lib.hid (fun k => h3.upon0 (thingCR _ _ _ _) (upon_drewN _ w3 k))
  clear HG2 m0 m1 m2 m3 m4 h3
  go_wp2_with fail
  go_quiet (fail)
  have HG3 := Lib.hid (crNo (H3.out nq) 5 h5)
  clear H3 n0 n1 n2 n3 n4
  go_wp2_with fail
  refine HG3.out.mono ?_
  rintro e w4 ⟨rfl, h4⟩
  have HG4 := Lib.hid (crNo h4 6 (by omega))
  clear HG3 h4
  go_wp2_with fail
  refine HG4.out.mono ?_
  rintro e w5 ⟨rfl, h5'⟩
  replace h5' := Lib.hid h5'
  clear HG4
  go_wp2_with fail
  go_ret2
  rw [eg2.out]
  exact ⟨⟨_, rfl⟩, _, h5'.out⟩
 ·obtain ⟨P, hP⟩ : ∃ P, numOf (R.take 5) = P := ⟨_, rfl⟩
  rw [hP] at eg
  have hPl : P < 32 := by
   have := numOf_lt (R.take 5)
   rw [hP, List.length_take, Nat.min_eq_left (by omega)] at this
   exact this
  by_cases h11 : R.length < 11
  ·have eg2 : Hid (guess c (true :: true :: R) = none) := Lib.hid (by rw [eg, if_neg (by omega)])
   clear eg
   go_enter Tryz.func159, Tryz.ntmps159
   go_wp2_with fail
   refine HG.out.mono ?_
   rintro e w2 ⟨rfl, h2⟩
   obtain ⟨m0, m1, m2, m3, m4⟩ := crCells h2
   have HG2 := Lib.hid (crGet (x := 1) (K' := R) h2 1 (by omega) (by simp) (by rfl) (by rfl))
   clear HG H h2 k0 k1 k2 k3 k4
   go_wp2_with fail
   refine HG2.out.mono ?_
   rintro e w3 ⟨rfl, h3⟩
   obtain ⟨n0, n1, n2, n3, n4⟩ := crCells h3
   have H3 := Lib.hid (fun k => h3.upon0 (thingCR _ _ _ _) (upon_drewN _ w3 k))
   clear HG2 m0 m1 m2 m3 m4 h3
   go_wp2_with fail
   go_quiet (fail)
   have HG3 := Lib.hid (crGet (x := P) (K' := R.drop 5) (H3.out nq) 5 (by omega) (by omega) hP rfl)
   clear H3 n0 n1 n2 n3 n4
   go_wp2_with fail
   refine HG3.out.mono ?_
   rintro e w4 ⟨rfl, h4⟩
   have HG4 := Lib.hid (crNo h4 6 (by rw [List.length_drop]; omega))
   clear HG3 h4
   go_wp2_with fail
   refine HG4.out.mono ?_
   rintro e w5 ⟨rfl, h5'⟩
   replace h5' := Lib.hid h5'
   clear HG4
   go_wp2_with fail
   go_ret2
   rw [eg2.out]
   exact ⟨⟨_, rfl⟩, _, h5'.out⟩
  ·obtain ⟨Q, hQ⟩ : ∃ Q, numOf ((R.drop 5).take 6) = Q := ⟨_, rfl⟩
   rw [hQ] at eg
   have hQl : Q < 64 := by
    have := numOf_lt ((R.drop 5).take 6)
    rw [hQ, List.length_take, List.length_drop, Nat.min_eq_left (by omega)] at this
    exact this
   by_cases hsum : P + Q + 1 <= 64
   ·have hd1 : decide ((64 : Int) < (P : Int) + (Q : Int) + 1) = false := decide_eq_false (by omega)
    have hI1 : (64 : Int) - (P : Int) - ((Q : Int) + 1) = ((63 - P - Q : Nat) : Int) := by omega
    by_cases hle : Q + 1 <= (R.drop 11).length
    ·have eg2 : Hid (guess c (true :: true :: R) = some (c.v ^^^ (numOf ((R.drop 11).take (Q + 1)) * 2 ^ (63 - P - Q) % 2 ^ 64), 14 + Q)) := Lib.hid (by rw [eg, if_pos ⟨by omega, hsum, hle⟩])
     clear eg
     go_enter Tryz.func159, Tryz.ntmps159
     go_wp2_with fail
     refine HG.out.mono ?_
     rintro e w2 ⟨rfl, h2⟩
     obtain ⟨m0, m1, m2, m3, m4⟩ := crCells h2
     have HG2 := Lib.hid (crGet (x := 1) (K' := R) h2 1 (by omega) (by simp) (by rfl) (by rfl))
     clear HG H h2 k0 k1 k2 k3 k4
     go_wp2_with fail
     refine HG2.out.mono ?_
     rintro e w3 ⟨rfl, h3⟩
     obtain ⟨n0, n1, n2, n3, n4⟩ := crCells h3
     have H3 := Lib.hid (fun k => h3.upon0 (thingCR _ _ _ _) (upon_drewN _ w3 k))
     clear HG2 m0 m1 m2 m3 m4 h3
     go_wp2_with fail
     go_quiet (fail)
     have HG3 := Lib.hid (crGet (x := P) (K' := R.drop 5) (H3.out nq) 5 (by omega) (by omega) hP rfl)
     clear H3 n0 n1 n2 n3 n4
     go_wp2_with fail
     refine HG3.out.mono ?_
     rintro e w4 ⟨rfl, h4⟩
     have HG4 := Lib.hid (crGet (x := Q) (K' := R.drop 11) h4 6 (by omega) (by rw [List.length_drop]; omega) hQ (by rw [List.drop_drop]))
     clear HG3 h4
     go_wp2_with fail
     refine HG4.out.mono ?_
     rintro e w5 ⟨rfl, h5'⟩
     have HG5 := Lib.hid (crGet (x := numOf ((R.drop 11).take (Q + 1))) (K' := (R.drop 11).drop (Q + 1)) h5' (Q + 1) (by omega) hle rfl rfl)
     clear HG4 h5'
     go_wp2_with fail
     refine HG5.out.mono ?_
     rintro e w6 ⟨rfl, h6⟩
     obtain ⟨p0, p1, p2, p3, p4⟩ := crCells h6
     rw [List.drop_drop, show 11 + (Q + 1) = 12 + Q by omega] at h6
     replace h6 := Lib.hid h6
     clear HG5
     go_wp2_with fail
     go_ret2
     rw [eg2.out]
     refine ⟨?_, by have := h6.out; rw [show (true :: true :: R).drop (14 + Q) = R.drop (12 + Q) by rw [show 14 + Q = (12 + Q) + 2 by omega]; rfl]; exact this⟩
     show Ending.returned (.tuple #[.int .u64 (bits .xor .u64 (c.v : Int) ((numOf ((R.drop 11).take (Q + 1)) : Int) * 2 ^ (63 - P - Q) % 18446744073709551616)), .bool true]) = _
     rw [xor_shl _ _ _ hv]
    ·have eg2 : Hid (guess c (true :: true :: R) = none) := Lib.hid (by rw [eg, if_neg fun h => hle h.2.2])
     clear eg
     go_enter Tryz.func159, Tryz.ntmps159
     go_wp2_with fail
     refine HG.out.mono ?_
     rintro e w2 ⟨rfl, h2⟩
     obtain ⟨m0, m1, m2, m3, m4⟩ := crCells h2
     have HG2 := Lib.hid (crGet (x := 1) (K' := R) h2 1 (by omega) (by simp) (by rfl) (by rfl))
     clear HG H h2 k0 k1 k2 k3 k4
     go_wp2_with fail
     refine HG2.out.mono ?_
     rintro e w3 ⟨rfl, h3⟩
     obtain ⟨n0, n1, n2, n3, n4⟩ := crCells h3
     have H3 := Lib.hid (fun k => h3.upon0 (thingCR _ _ _ _) (upon_drewN _ w3 k))
     clear HG2 m0 m1 m2 m3 m4 h3
     go_wp2_with fail
     go_quiet (fail)
     have HG3 := Lib.hid (crGet (x := P) (K' := R.drop 5) (H3.out nq) 5 (by omega) (by omega) hP rfl)
     clear H3 n0 n1 n2 n3 n4
     go_wp2_with fail
     refine HG3.out.mono ?_
     rintro e w4 ⟨rfl, h4⟩
     have HG4 := Lib.hid (crGet (x := Q) (K' := R.drop 11) h4 6 (by omega) (by rw [List.length_drop]; omega) hQ (by rw [List.drop_drop]))
     clear HG3 h4
     go_wp2_with fail
     refine HG4.out.mono ?_
     rintro e w5 ⟨rfl, h5'⟩
     have HG5 := Lib.hid (crNo h5' (Q + 1) (by omega))
     clear HG4 h5'
     go_wp2_with fail
     refine HG5.out.mono ?_
     rintro e w6 ⟨rfl, h6⟩
     obtain ⟨p0, p1, p2, p3, p4⟩ := crCells h6
     replace h6 := Lib.hid h6
     clear HG5
     go_wp2_with fail
     go_ret2
     rw [eg2.out]
     exact ⟨⟨_, rfl⟩, _, h6.out⟩
   ·have hd1 : decide ((64 : Int) < (P : Int) + (Q : Int) + 1) = true := decide_eq_true (by omega)
    have eg2 : Hid (guess c (true :: true :: R) = none) := Lib.hid (by rw [eg, if_neg fun h => hsum h.2.1])
    clear eg
    go_enter Tryz.func159, Tryz.ntmps159
    go_wp2_with fail
    refine HG.out.mono ?_
    rintro e w2 ⟨rfl, h2⟩
    obtain ⟨m0, m1, m2, m3, m4⟩ := crCells h2
    have HG2 := Lib.hid (crGet (x := 1) (K' := R) h2 1 (by omega) (by simp) (by rfl) (by rfl))
    clear HG H h2 k0 k1 k2 k3 k4
    go_wp2_with fail
    refine HG2.out.mono ?_
    rintro e w3 ⟨rfl, h3⟩
    obtain ⟨n0, n1, n2, n3, n4⟩ := crCells h3
    have H3 := Lib.hid (fun k => h3.upon0 (thingCR _ _ _ _) (upon_drewN _ w3 k))
    clear HG2 m0 m1 m2 m3 m4 h3
    go_wp2_with fail
    go_quiet (fail)
    have HG3 := Lib.hid (crGet (x := P) (K' := R.drop 5) (H3.out nq) 5 (by omega) (by omega) hP rfl)
    clear H3 n0 n1 n2 n3 n4
    go_wp2_with fail
    refine HG3.out.mono ?_
    rintro e w4 ⟨rfl, h4⟩
    have HG4 := Lib.hid (crGet (x := Q) (K' := R.drop 11) h4 6 (by omega) (by rw [List.length_drop]; omega) hQ (by rw [List.drop_drop]))
    clear HG3 h4
    go_wp2_with fail
    refine HG4.out.mono ?_
    rintro e w5 ⟨rfl, h5'⟩
    replace h5' := Lib.hid h5'
    clear HG4
    go_wp2_with fail
    go_ret2
    rw [eg2.out]
    exact ⟨⟨_, rfl⟩, _, h5'.out⟩
theorem guess_any (S : Nat -> Prop) (q p : Nat) (c : Cd) (K : List Bool) (w : World) (h : CR q c p K w S) (hok : c.Ok) :
  Calls Tryz.prog 159 #[.pointer (some ⟨q, 0, none⟩), .pointer (some ⟨p, 0, none⟩)] w (Gs q c p K S w (guess c K)) := by
 by_cases hb : c.begun = false
 ·exact guess_first S q p c K w h hb
 ·have hb' : c.begun = true := by simpa using hb
  match K, h with
  | [], h => exact guess_short S q p c _ w h hb' (.inl rfl)
  | false :: R, h => exact guess_short S q p c _ w h hb' (.inr (.inl ⟨R, rfl⟩))
  | [true], h => exact guess_short S q p c _ w h hb' (.inr (.inr (.inl rfl)))
  | true :: false :: R, h =>
   cases hw : c.win with
   | false => exact guess_short S q p c _ w h hb' (.inr (.inr (.inr ⟨R, rfl, hw⟩)))
   | true => exact guess_within S q p c R w h hok hb' hw
  | true :: true :: R, h => exact guess_new S q p c R w h hok hb'
end Xr
end
section
open Go.RowKit Go.Sort
namespace Xr
open Bit Dsk Ob
theorem guess_le {c : Cd} {K : List Bool} {v n : Nat} (hg : guess c K = some (v, n)) : n <= K.length := by
 unfold guess at hg
 split at hg
 ·split at hg
  ·simp at hg; omega
  ·simp at hg
 ·split at hg
  ·simp at hg
  ·simp at hg; simp; omega
  ·simp at hg
  ·split at hg
   ·rename_i hh; simp at hg; simp; omega
   ·simp at hg
  ·split at hg
   ·rename_i hh; simp at hg hh; simp; omega
   ·simp at hg
def Gt (q : Nat) (c : Cd) (p : Nat) (K : List Bool) (S : Nat -> Prop) (w : World) (o : Option (Nat × Nat)) (e : Ending) (w' : World) : Prop :=
 match o with
 | some (v, n) => e = .returned (.tuple #[.int .u64 (v : Int), .bool true]) /\ Fall (CR q (putC c v) p (K.drop n)) S w w'
 | none => e = .returned (.tuple #[.int .u64 0, .bool false]) /\ ∃ c' K', Fall (CR q c' p K') S w w'
set_option maxRecDepth 100000 in
set_option maxHeartbeats 6400000 in
theorem refGetP_any (S : Nat -> Prop) (q p : Nat) (c : Cd) (K : List Bool) (w : World) (h : CR q c p K w S) (hok : c.Ok) (hK : K.length <= 1000000) :
    Calls Tryz.prog 110 #[.pointer (some ⟨q, 0, none⟩), .pointer (some ⟨p, 0, none⟩)] w (Gt q c p K S w (getR c K)) := by
  obtain ⟨i0, hi, hz0, hz1, hz2⟩ := info_parts infoBl
  obtain ⟨A, B, hC, hRR, hdis, hiff⟩ := h
  obtain ⟨rv, hr⟩ := hRR
  have k0 : w.cell? ⟨p, 0, none⟩ = some rv := by rw [Lib.cell_of_heap hr.cell]; rfl
  have hpl : p < w.heap.size := hr.lt p hr.s_q
  have k0' : (w.alloc (.cells #[] 4 (0, 0))).cell? ⟨p, 0, none⟩ = some rv := (World.cell?_alloc_lt w _ ⟨p, 0, none⟩ hpl).trans k0
  have hview := hr.view
  have H : CR q c p K w S := ⟨A, B, hC, ⟨rv, hr⟩, hdis, hiff⟩
  replace H := Lib.hid H
  have hnew := cell_new w (.cells #[] 4 (0, 0))
  have hcopy : Hid (∀ (ops : Array Oper) (rest : List Oper) (o : Oper) (a : Act) (Q : Exit -> Act -> World -> Prop) (s x : Operand), o.guard = none -> o.op = .call { callee := .builtin .append, args := #[s, x], argTypes := #[200, 200] } -> a.eval s = .slice (some ⟨w.heap.size, 0, none⟩) 0 0 -> a.eval x = rv ->
      (∀ v' w', w'.ownsRow 0 4 1 v' K.length (boolCells K) -> (∀ b, v'.ownBlock = some b -> w.heap.size <= b) -> Upon (fun _ => False) w w' -> wpList Tryz.prog ops Q rest (a.put o.dst v') w') -> wpList Tryz.prog ops Q (o :: rest) a (w.alloc (.cells #[] 4 (0, 0)))) := Lib.hid (by
    intro ops rest o a Q s x hgd ho hs hx hK'
    by_cases h0 : K = []
    · subst h0
      have hx2 : ∃ ga c2, a.eval x = .slice ga 0 c2 := by
        rcases hview with ⟨e, _⟩ | ⟨g, off, cap, e, _⟩
        · exact ⟨none, 0, hx.trans e⟩
        · exact ⟨_, cap, hx.trans e⟩
      obtain ⟨ga, c2, hx2⟩ := hx2
      exact wpList_append_none hgd s x 200 ho 4 i0 Tryz.underlying200 hi _ 0 0 hs (Nat.le_refl _) ga c2 hx2 (hK' _ _ (own_b hnew) (fun b hb => by cases hb; exact Nat.le_refl _) ((Upon.refl _ w).alloc _))
    · rcases hview with ⟨_, e⟩ | ⟨g, off, cap, e, h1, h2, h3, h4⟩
      · exact absurd e h0
      · have hKp : 0 < K.length := Nat.pos_of_ne_zero fun e => h0 (List.length_eq_zero_iff.1 e)
        refine wpList_append_lies _ hgd s x 200 ho 0 4 i0 (.bool false) 1 1 Tryz.underlying200 hi hz0 hz1 hz2 rfl (by decide) _ 0 [] hs (own_b hnew) ⟨g, off, none⟩ K.length cap (boolCells K) (hx.trans e) (by simp) ?_ ?_ hKp (by unfold maxLen; omega) (by omega) (Nat.zero_le _) _ rfl ?_
        · intro j u hu
          have hj : j < K.length := by have := (List.getElem?_eq_some_iff.1 hu).1; simpa using this
          have hu2 : u = .bool K[j] := by simp [boolCells, hj] at hu; exact hu.symm
          have ea : (⟨g, off, none⟩ : Addr).add j = ⟨g, off + j, none⟩ := by unfold Addr.add; split <;> simp_all
          rw [ea, hu2]
          exact (World.cell?_alloc_lt w _ ⟨g, off + j, none⟩ (hr.lt g h3)).trans (h4 j hj)
        · intro u hu
          obtain ⟨b, _, rfl⟩ := List.mem_map.1 hu
          rfl
        · intro g2 cap2 w2 hown hgrow hat hlt
          rw [Nat.zero_add, List.nil_append] at hown
          rw [Nat.zero_add]
          refine hK' _ _ hown (fun b hb => ?_) (((Upon.refl _ w).alloc _).grown hgrow fun k hk => .inr (by have : w.heap.size = k := Option.some.inj hk; omega))
          have e2 : g2 = b := Option.some.inj hb
          rcases hat with e | e
          · have : w.heap.size = g2 := Option.some.inj e
            omega
          · rw [e] at e2; simp at e2; omega)
  clear hview hr hC hdis hiff k0 hnew hi hz0 hz1 hz2
  go_enter Tryz.func110, Tryz.ntmps110
  go_wp2_with (at_builtin; refine hcopy.out _ _ _ _ _ _ _ rfl rfl rfl rfl ?_)
  intro v' w1 hrow hvb hup
  clear hcopy k0'
  have H1 : ObjStep (Tens (CR q c p K) (IsRow v' K)) S w w1 := Tens.new (thingCR q c p K) H.out (T := fun x => v'.ownBlock = some x) ⟨hrow, fun x => Iff.rfl⟩ hvb hup
  obtain ⟨ag, ac, aA, rfl, a1, a2, a3, -⟩ := rowCells hrow
  unfold maxLen at a2
  replace H1 := Lib.hid H1
  clear hrow hvb hup
  cases hg : guess c K with
  | none =>
    have er : Hid (getR c K = none) := Lib.hid (by unfold getR; rw [hg])
    have HG : Hid (Calls Tryz.prog 159 #[.pointer (some ⟨q, 0, none⟩), .pointer (some ⟨p, 0, none⟩)] w1 fun e w' => (∃ x : Int, e = .returned (.tuple #[.int .u64 x, .bool false])) /\ ObjStep (Tens (fun w S => ∃ K', CR q c p K' w S) (IsRow (.slice aA K.length ac) K)) S w w') := Lib.hid
      (callL (Q := fun e => ∃ x : Int, e = .returned (.tuple #[.int .u64 x, .bool false])) (objRow _ _) H1.out fun T hT => (guess_any T q p c K w1 hT hok).mono fun e w' hgs => by
        unfold Gs at hgs
        rw [hg] at hgs
        obtain ⟨h1, K', h2⟩ := hgs
        exact ⟨h1, h2.mono fun _ h => ⟨K', h⟩⟩)
    clear hg H1
    go_wp2_with fail
    refine HG.out.mono ?_
    rintro e w2 ⟨⟨x, rfl⟩, h2⟩
    have h3 : Hid (∃ c' K', Fall (CR q c' p K') S w w2) := Lib.hid (by
      obtain ⟨⟨S', ⟨A', B', ⟨K', h1⟩, h7, h4, h5⟩, h2, h6⟩, hu⟩ := h2
      exact ⟨c, K', ⟨A', h1, fun b hb => h6 b ((h5 b).2 (.inl hb))⟩, hu⟩)
    clear HG h2
    go_wp2_with fail
    go_ret2
    rw [er.out]
    exact ⟨rfl, h3.out⟩
  | some x =>
    obtain ⟨v, n⟩ := x
    have hv : v < 18446744073709551616 := guess_lt hok hg
    have hn := guess_le hg
    have HG : Hid (Calls Tryz.prog 159 #[.pointer (some ⟨q, 0, none⟩), .pointer (some ⟨p, 0, none⟩)] w1 fun e w' => e = .returned (.tuple #[.int .u64 (v : Int), .bool true]) /\ ObjStep (Tens (CR q c p (K.drop n)) (IsRow (.slice aA K.length ac) K)) S w w') := Lib.hid
      (callL (Q := fun e => e = .returned (.tuple #[.int .u64 (v : Int), .bool true])) (objRow _ _) H1.out fun T hT => (guess_any T q p c K w1 hT hok).mono fun e w' hgs => by
        unfold Gs at hgs
        rw [hg] at hgs
        exact hgs)
    have er : Hid (getR c K = if putB c v = K.take n then some (v, n) else none) := Lib.hid (by unfold getR; rw [hg])
    clear hg H1
    replace hn := Lib.hid hn
    go_wp2_with fail
    refine HG.out.mono ?_
    rintro e w2 ⟨rfl, h2⟩
    have h3 : Hid (ObjStep (Tens (CW q c w2.heap.size []) (Tens (fun w S => IsRR w S p (K.drop n)) (IsRow (.slice aA K.length ac) K))) S w (w2.alloc (.cells #[.slice none 0 0] 204 (0, 0)))) := Lib.hid (by
      obtain ⟨T, h4, go⟩ := h2.get
      refine go _ _ ((Tens.new (Tens.ob (thingCR q c p _) (objRow _ _)) h4 (newRW w2) (fun b hb => by rw [hb]; exact Nat.le_refl _) ((Upon.refl _ w2).alloc _)).mono fun _ => perm4))
    have HP := Lib.hid (callL (Q := fun e => e = .returned (.tuple #[])) (Tens.ob (objRR _ _) (objRow _ _)) h3.out fun T hT => refPut_any T q w2.heap.size c [] v _ hT hok (by simp) hv)
    clear HG h2 h3
    go_wp2_with fail
    refine HP.out.mono ?_
    rintro e w4 ⟨rfl, h4⟩
    clear HP
    rw [List.nil_append] at h4
    generalize w2.heap.size = p2 at *
    obtain ⟨M, hM⟩ : ∃ M, M = putB c v := ⟨_, rfl⟩
    have hMl : M.length <= 77 := by rw [hM]; exact putB_len v
    rw [<- hM] at h4 er
    clear hM
    have hthing : Thing (Tens (CW q (putC c v) p2 M) (Tens (fun w S => IsRR w S p (K.drop n)) (IsRow (.slice aA K.length ac) K))) := Tens.ob (thingCW _ _ _ _) (Tens.ob (objRR _ _) (objRow _ _))
    have hfall : Hid (∀ w5, Upon (fun _ => False) w4 w5 -> Fall (CR q (putC c v) p (K.drop n)) S w w5) := Lib.hid fun w5 k => fall_four (h4.upon0 hthing k)
    obtain ⟨T4, X, Y, ⟨-, B4, -, ⟨wv, hw⟩, -⟩, ⟨C4, D4, ⟨rv2, hr2⟩, ⟨hrow, -⟩, -⟩, -⟩ := seeW h4
    have kw : w4.cell? ⟨p2, 0, none⟩ = some wv := by rw [Lib.cell_of_heap hw.cell]; rfl
    have kr : w4.cell? ⟨p, 0, none⟩ = some rv2 := by rw [Lib.cell_of_heap hr2.cell]; rfl
    obtain ⟨rA, rc, rfl⟩ := viewShape hr2.view
    obtain ⟨wg, wc, wA, rfl, b1, b2, b3, b4⟩ := rowCells hw.row
    obtain ⟨g5, c5, A5, e5, m1, m2, m3, m4⟩ := rowCells hrow
    injection e5 with e5a e5b e5c
    subst e5a e5c
    unfold maxLen at b2
    have hdl : (K.drop n).length + n = K.length := by rw [List.length_drop]; have := hn.out; omega
    generalize (K.drop n).length = dl at *
    have B3 := Lib.hid b3
    have B4 := Lib.hid b4
    have M3 := Lib.hid m3
    have M4 := Lib.hid m4
    have s1 : IntKind.i64.wrap ((K.length : Int) - (dl : Int)) = (n : Int) := by rw [IntKind.wrap_i64]; omega
    have s2 : ((K.length : Int) - (dl : Int)) = (n : Int) := by omega
    clear hw hr2 hrow h4 hthing b3 b4 m3 m4 a3 hdl m2
    by_cases hMn : M.length = n
    · subst hMn
      go_wp2_with fail
      go_quiet (fail)
      go_wp2_with fail
      go_loopw [10] (fun i wr => ∃ j k : Nat, j <= M.length /\ i = .int .i64 (j : Int) /\ M.take j = K.take j /\ wr = w4.drewN k) (fun i _ => M.length - (intOf i).toNat)
      case atStart => exact ⟨0, nq, Nat.zero_le _, rfl, rfl, rfl⟩
      case round =>
        obtain ⟨j, k, hj, rfl, hpre, rfl⟩ := hrel
        replace hpre := Lib.hid hpre
        by_cases hlt : j < M.length
        · have hlk : j < K.length := Nat.lt_of_lt_of_le hlt hn.out
          obtain rfl := B3.out (by omega)
          obtain rfl := M3.out (by omega)
          have y1 := B4.out j hlt
          have y2 := M4.out j hlk
          have hnx := Lib.hid (fun h : M[j] = K[j] => show M.take (j + 1) = K.take (j + 1) by rw [List.take_succ_eq_append_getElem hlt, List.take_succ_eq_append_getElem hlk, hpre.out, h])
          have hne := Lib.hid (fun h : M[j] ≠ K[j] => show M ≠ K.take M.length from fun e => h (by
            have := congrArg (fun l => l[j]?) e
            simp only [List.getElem?_take, hlt, if_true, List.getElem?_eq_getElem hlt, List.getElem?_eq_getElem hlk] at this
            exact Option.some.inj this))
          generalize M[j] = u1 at *
          generalize K[j] = u2 at *
          cases u1 <;> cases u2
          · go_wp2_with fail
            go_quiet (fail)
            go_wp2
            refine ⟨⟨j + 1, k + nq, by omega, by push_cast; rfl, hnx.out (by first | rfl | trivial), rfl⟩, ?_⟩
            simp only [intOf]; omega
          · go_wp2_with fail
            go_quiet (fail)
            go_wp2
            go_ret2
            rw [er.out, if_neg (hne.out (by decide))]
            exact ⟨rfl, _, _, hfall.out _ ((upon_drewN _ w4 k).trans (upon_drewN _ _ nq))⟩
          · go_wp2_with fail
            go_quiet (fail)
            go_wp2
            go_ret2
            rw [er.out, if_neg (hne.out (by decide))]
            exact ⟨rfl, _, _, hfall.out _ ((upon_drewN _ w4 k).trans (upon_drewN _ _ nq))⟩
          · go_wp2_with fail
            go_quiet (fail)
            go_wp2
            refine ⟨⟨j + 1, k + nq, by omega, by push_cast; rfl, hnx.out (by first | rfl | trivial), rfl⟩, ?_⟩
            simp only [intOf]; omega
        · have : j = M.length := by omega
          subst this
          go_wp2_with fail
          go_ret2
          rw [er.out, if_pos (by have := hpre.out; rwa [List.take_length] at this)]
          exact ⟨rfl, hfall.out _ (upon_drewN _ _ _)⟩
    · have d1 : decide ((M.length : Int) = (n : Int)) = false := by simp; omega
      go_wp2_with fail
      go_quiet (fail)
      go_wp2_with fail
      go_ret2
      rw [er.out, if_neg (by intro e; apply hMn; rw [e, List.length_take]; have := hn.out; omega)]
      exact ⟨rfl, _, _, hfall.out _ (upon_drewN _ _ _)⟩
end Xr
end
end
end Go.Proofs.YtgmnhodajngchaaGreatDoor
