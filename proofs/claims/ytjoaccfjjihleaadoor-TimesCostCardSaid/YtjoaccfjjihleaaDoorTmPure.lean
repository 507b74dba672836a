/- Times as plain data (layer 8): what is written of a time, what is read. Names no function of the program. -/
import Derived.Test.YtjoaccfjjihleaaDoorPBit2
namespace Go.Proofs.YtjoaccfjjihleaaDoor
namespace Tm
open Bit
set_option linter.unusedVariables false

/-! ### numbers that wrap round -/
def wr (x : Int) : Int := (x + 9223372036854775808) % 18446744073709551616 - 9223372036854775808
def un (x : Int) : Nat := (x % 18446744073709551616).toNat
def In (x : Int) : Prop := -9223372036854775808 ≤ x ∧ x ≤ 9223372036854775807
theorem wr_in (x : Int) : In (wr x) := by unfold In wr; omega
theorem wr_id {x : Int} (h : In x) : wr x = x := by unfold In at h; unfold wr; omega
theorem un_lt (x : Int) : un x < 18446744073709551616 := by unfold un; omega
theorem wr_un (x : Int) : wr (un x : Int) = wr x := by unfold wr un; omega
theorem un_wr (x : Int) : un (wr x) = un x := by unfold wr un; omega
theorem un_nat {n : Nat} (h : n < 18446744073709551616) : un (n : Int) = n := by unfold un; omega
theorem un_wr_nat {n : Nat} (h : n < 18446744073709551616) : un (wr (n : Int)) = n := by rw [un_wr, un_nat h]

/-! ### ranges of changes -/
def sz (k : Nat) : Nat := match k with | 0 => 0 | 1 => 7 | 2 => 9 | 3 => 12 | _ => 64
def ls (k : Nat) : Int := match k with | 1 => 63 | 2 => 255 | 3 => 2047 | _ => 0
def cls (x : Int) : Nat := if x = 0 then 0 else if -63 ≤ x ∧ x ≤ 64 then 1 else if -255 ≤ x ∧ x ≤ 256 then 2 else if -2047 ≤ x ∧ x ≤ 2048 then 3 else 4
def hd (k : Nat) : List Bool := match k with | 0 => [false] | 1 => [true, false] | 2 => [true, true, false] | 3 => [true, true, true, false] | _ => [true, true, true, true]
theorem cls_le (x : Int) : cls x ≤ 4 := by unfold cls; split; omega; split; omega; split; omega; split <;> omega
theorem five {k : Nat} (h : k ≤ 4) : k = 0 ∨ k = 1 ∨ k = 2 ∨ k = 3 ∨ k = 4 := by omega
/-- What a change's bits say. -/
def val (k : Nat) (x : Int) : Nat := un (x + ls k)
def num (k : Nat) (X : List Bool) : Int := wr (wr (numOf X : Int) - ls k)
def chB (x : Int) : List Bool := hd (cls x) ++ bitsOf (val (cls x) x) (sz (cls x))
theorem val_lt {x : Int} (h : In x) : val (cls x) x < 2 ^ sz (cls x) := by
  unfold In at h
  unfold cls val
  split
  · rename_i e; subst e; decide
  split
  · show un (x + 63) < 2 ^ 7; unfold un; omega
  split
  · show un (x + 255) < 2 ^ 9; unfold un; omega
  split
  · show un (x + 2047) < 2 ^ 12; unfold un; omega
  · show un (x + 0) < 2 ^ 64; unfold un; omega
theorem num_back {x : Int} (h : In x) : wr (wr (val (cls x) x : Int) - ls (cls x)) = x := by
  unfold val
  rw [wr_un]
  unfold In at h
  unfold wr
  have : ls (cls x) = 0 ∨ ls (cls x) = 63 ∨ ls (cls x) = 255 ∨ ls (cls x) = 2047 := by
    rcases five (cls_le x) with e | e | e | e | e <;> (rw [e]; simp [ls])
  omega
/-- The bits 1 ahead, four at most. -/
def lead1 : Nat → List Bool → Option (Nat × List Bool)
  | 0, K => some (0, K)
  | _ + 1, [] => none
  | _ + 1, false :: R => some (0, R)
  | m + 1, true :: R => match lead1 m R with | none => none | some (k, Q) => some (k + 1, Q)
theorem lead1_hd {k : Nat} (h : k ≤ 4) (R : List Bool) : lead1 4 (hd k ++ R) = some (k, R) := by
  rcases five h with rfl | rfl | rfl | rfl | rfl <;> rfl
theorem lead1_is : ∀ {K R : List Bool} {k : Nat}, lead1 4 K = some (k, R) → k ≤ 4 ∧ K = hd k ++ R
  | [], _, _, h => by cases h
  | [false], _, _, h => by cases h; exact ⟨by decide, rfl⟩
  | false :: _ :: _, _, _, h => by cases h; exact ⟨by decide, rfl⟩
  | [true], _, _, h => by cases h
  | true :: false :: _, _, _, h => by cases h; exact ⟨by decide, rfl⟩
  | [true, true], _, _, h => by cases h
  | true :: true :: false :: _, _, _, h => by cases h; exact ⟨by decide, rfl⟩
  | [true, true, true], _, _, h => by cases h
  | true :: true :: true :: false :: _, _, _, h => by cases h; exact ⟨by decide, rfl⟩
  | true :: true :: true :: true :: _, _, _, h => by cases h; exact ⟨by decide, rfl⟩
theorem hd_inj {a b : Nat} (ha : a ≤ 4) (hb : b ≤ 4) {X Y : List Bool} (h : hd a ++ X = hd b ++ Y) : a = b ∧ X = Y := by
  have h1 := lead1_hd ha X
  rw [h, lead1_hd hb Y] at h1
  simp only [Option.some.injEq, Prod.mk.injEq] at h1
  exact ⟨h1.1.symm, h1.2.symm⟩

/-! ### the coder -/
structure Cd where
  begun : Bool
  t : Int
  d : Int
def newC : Cd := ⟨false, 0, 0⟩
structure Cd.Ok (c : Cd) : Prop where
  t : In c.t
  d : In c.d
  fresh : c.begun = false → c.t = 0 ∧ c.d = 0
theorem ok_new : newC.Ok := ⟨by unfold In; decide, by unfold In; decide, fun _ => ⟨rfl, rfl⟩⟩
/-- The change that a time makes. -/
def ch (c : Cd) (t : Int) : Int := wr (wr (t - c.t) - c.d)
def putB (c : Cd) (t : Int) : List Bool := if c.begun = false then bitsOf (un t) 64 else chB (ch c t)
def putC (c : Cd) (t : Int) : Cd := if c.begun = false then ⟨true, t, c.d⟩ else ⟨true, t, wr (t - c.t)⟩
theorem Cd.Ok.put {c : Cd} (h : c.Ok) {t : Int} (ht : In t) : (putC c t).Ok := by
  unfold putC
  split
  · exact ⟨ht, h.d, fun e => by cases e⟩
  · exact ⟨ht, wr_in _, fun e => by cases e⟩
theorem putC_begun (c : Cd) (t : Int) : (putC c t).begun = true := by unfold putC; split <;> rfl
theorem chB_len (x : Int) : (chB x).length ≤ 68 := by
  unfold chB
  rw [List.length_append, bitsOf_length]
  rcases five (cls_le x) with e | e | e | e | e <;> (rw [e]; decide)
theorem chB_pos (x : Int) : 0 < (chB x).length := by
  unfold chB
  rw [List.length_append, bitsOf_length]
  rcases five (cls_le x) with e | e | e | e | e <;> (rw [e]; decide)
theorem putB_len {c : Cd} (t : Int) : (putB c t).length ≤ 68 := by
  unfold putB
  split
  · rw [bitsOf_length]; omega
  · exact chB_len _
/-- The time of a change. -/
def tim (c : Cd) (x : Int) : Int := wr (wr (c.t + c.d) + x)
theorem ch_tim {c : Cd} (h : c.Ok) {x : Int} (hx : In x) : ch c (tim c x) = x := by
  have h1 := h.t
  have h2 := h.d
  unfold In at h1 h2 hx
  unfold ch tim wr
  omega
theorem tim_ch {c : Cd} (h : c.Ok) {t : Int} (ht : In t) : tim c (ch c t) = t := by
  have h1 := h.t
  have h2 := h.d
  unfold In at h1 h2 ht
  unfold ch tim wr
  omega
/-- What the next bits tell. -/
def guess (c : Cd) (K : List Bool) : Option (Int × Nat) :=
  if c.begun = false then (if 64 ≤ K.length then some (wr (numOf (K.take 64) : Int), 64) else none) else
  match lead1 4 K with
  | none => none
  | some (k, R) => if sz k ≤ R.length then some (tim c (num k (R.take (sz k))), (hd k).length + sz k) else none
/-- What is read. -/
def getR (c : Cd) (K : List Bool) : Option (Int × Nat) :=
  match guess c K with
  | none => none
  | some (t, n) => if putB c t = K.take n then some (t, n) else none
theorem getR_yes {c : Cd} {K : List Bool} {v : Int} {n : Nat} (hg : guess c K = some (v, n)) (e : putB c v = K.take n) : getR c K = some (v, n) := by
  unfold getR; rw [hg]; exact if_pos e
theorem getR_no {c : Cd} {K : List Bool} {v : Int} {n : Nat} (hg : guess c K = some (v, n)) (e : putB c v ≠ K.take n) : getR c K = none := by
  unfold getR; rw [hg]; exact if_neg e
theorem guess_put {c : Cd} (hc : c.Ok) {t : Int} (ht : In t) (R : List Bool) : guess c (putB c t ++ R) = some (t, (putB c t).length) := by
  unfold guess putB
  by_cases hb : c.begun = false
  · rw [if_pos hb, if_pos hb, if_pos (by rw [List.length_append, bitsOf_length]; omega), List.take_left' (bitsOf_length _ _), numOf_bitsOf, bitsOf_length, Nat.mod_eq_of_lt (un_lt t), wr_un, wr_id ht]
  · rw [if_neg hb, if_neg hb]
    have hx : In (ch c t) := wr_in (wr (t - c.t) - c.d)
    have hv := val_lt (x := ch c t) hx
    unfold chB
    rw [List.append_assoc, lead1_hd (cls_le _)]
    simp only
    rw [if_pos (by rw [List.length_append, bitsOf_length]; omega), List.take_left' (bitsOf_length _ _)]
    unfold num
    rw [numOf_bitsOf, Nat.mod_eq_of_lt hv, num_back hx, List.length_append, bitsOf_length]
    rw [show tim c (ch c t) = t from tim_ch hc ht]
theorem get_put {c : Cd} (hc : c.Ok) {t : Int} (ht : In t) (R : List Bool) : getR c (putB c t ++ R) = some (t, (putB c t).length) := by
  unfold getR
  rw [guess_put hc ht R]
  simp
theorem get_nil (c : Cd) : getR c [] = none := by
  unfold getR guess
  split
  · rfl
  · rename_i h
    split at h
    · simp at h
    · simp [lead1] at h
theorem num_in (k : Nat) (X : List Bool) : In (num k X) := wr_in _
theorem tim_in (c : Cd) (x : Int) : In (tim c x) := wr_in _
theorem num_cls {k : Nat} (hk : k ≤ 4) {X : List Bool} (hX : X.length = sz k) (h : cls (num k X) = k) : bitsOf (val k (num k X)) (sz k) = X := by
  have hl := numOf_lt X
  have hb := bitsOf_numOf X
  rw [hX] at hl hb
  have e : val k (num k X) = numOf X := by
    unfold val num
    rcases five hk with rfl | rfl | rfl | rfl | rfl
    · have : numOf X < 2 ^ 0 := hl
      unfold wr un ls; omega
    · have : numOf X < 2 ^ 7 := hl
      unfold wr un ls; omega
    · have : numOf X < 2 ^ 9 := hl
      unfold wr un ls; omega
    · have : numOf X < 2 ^ 12 := hl
      unfold wr un ls; omega
    · have : numOf X < 2 ^ 64 := hl
      unfold wr un ls; omega
  rw [e, hb]
/-- What is read, said by the change's range. -/
theorem getR_is {c : Cd} (hc : c.Ok) (hb : c.begun = true) {K R : List Bool} {k : Nat} (hl : lead1 4 K = some (k, R)) :
    getR c K = if sz k ≤ R.length ∧ cls (num k (R.take (sz k))) = k then some (tim c (num k (R.take (sz k))), (hd k).length + sz k) else none := by
  obtain ⟨hk, rfl⟩ := lead1_is hl
  have eg : guess c (hd k ++ R) = if sz k ≤ R.length then some (tim c (num k (R.take (sz k))), (hd k).length + sz k) else none := by
    unfold guess
    rw [if_neg (by simp [hb]), hl]
  by_cases h : sz k ≤ R.length
  · rw [if_pos h] at eg
    have ht : (hd k ++ R).take ((hd k).length + sz k) = hd k ++ R.take (sz k) := by rw [List.take_length_add_append]
    have hX : (R.take (sz k)).length = sz k := by rw [List.length_take, Nat.min_eq_left h]
    have ep : putB c (tim c (num k (R.take (sz k)))) = chB (num k (R.take (sz k))) := by
      unfold putB
      rw [if_neg (by simp [hb]), ch_tim hc (num_in _ _)]
    by_cases h2 : cls (num k (R.take (sz k))) = k
    · rw [if_pos ⟨h, h2⟩]
      refine getR_yes eg ?_
      rw [ht, ep]
      unfold chB
      rw [h2, num_cls hk hX h2]
    · rw [if_neg (fun hh => h2 hh.2)]
      refine getR_no eg ?_
      rw [ht, ep]
      intro e
      exact h2 (hd_inj (cls_le _) hk e).1
  · rw [if_neg h] at eg
    rw [if_neg (fun hh => h hh.1)]
    unfold getR; rw [eg]
theorem getR_off {c : Cd} (hb : c.begun = true) {K : List Bool} (hl : lead1 4 K = none) : getR c K = none := by
  unfold getR guess
  rw [if_neg (by simp [hb]), hl]
theorem getR_first {c : Cd} (hb : c.begun = false) (K : List Bool) : getR c K = if 64 ≤ K.length then some (wr (numOf (K.take 64) : Int), 64) else none := by
  unfold getR guess putB
  rw [if_pos hb]
  by_cases h : 64 ≤ K.length
  · rw [if_pos h]
    have hl := numOf_lt (K.take 64)
    have e : bitsOf (numOf (K.take 64)) 64 = K.take 64 := by
      have := bitsOf_numOf (K.take 64)
      rwa [List.length_take, Nat.min_eq_left h] at this
    rw [List.length_take, Nat.min_eq_left h] at hl
    simp only [if_pos hb, un_wr_nat hl, e, if_true]
  · rw [if_neg h]
theorem guess_in {c : Cd} {K : List Bool} {t : Int} {n : Nat} (h : guess c K = some (t, n)) : In t := by
  unfold guess at h
  split at h
  · split at h
    · simp only [Option.some.injEq, Prod.mk.injEq] at h
      rw [← h.1]; exact wr_in _
    · cases h
  · split at h
    · cases h
    · split at h
      · simp only [Option.some.injEq, Prod.mk.injEq] at h
        rw [← h.1]; exact tim_in _ _
      · cases h
theorem guess_le {c : Cd} {K : List Bool} {t : Int} {n : Nat} (h : guess c K = some (t, n)) : n ≤ K.length := by
  unfold guess at h
  split at h
  · split at h
    · simp only [Option.some.injEq, Prod.mk.injEq] at h
      omega
    · cases h
  · split at h
    · cases h
    · rename_i k R hl
      split at h
      · simp only [Option.some.injEq, Prod.mk.injEq] at h
        rw [(lead1_is hl).2, List.length_append]
        omega
      · cases h
theorem getR_in {c : Cd} {K : List Bool} {t : Int} {n : Nat} (h : getR c K = some (t, n)) : In t := by
  unfold getR at h
  cases hg : guess c K with
  | none => rw [hg] at h; cases h
  | some x =>
    obtain ⟨t', n'⟩ := x
    rw [hg] at h
    simp only at h
    split at h
    · simp only [Option.some.injEq, Prod.mk.injEq] at h
      rw [← h.1]
      exact guess_in hg
    · cases h

/-! ### rows -/
def putsC (c : Cd) : List Int → Cd
  | [] => c
  | v :: l => putsC (putC c v) l
def putsB (c : Cd) : List Int → List Bool
  | [] => []
  | v :: l => putB c v ++ putsB (putC c v) l
theorem putsC_snoc (v : Int) : ∀ (l : List Int) (c : Cd), putsC c (l ++ [v]) = putC (putsC c l) v
  | [], _ => rfl
  | _ :: l, c => putsC_snoc v l _
theorem putsB_snoc (v : Int) : ∀ (l : List Int) (c : Cd), putsB c (l ++ [v]) = putsB c l ++ putB (putsC c l) v
  | [], c => by simp [putsB, putsC]
  | a :: l, c => by simp only [List.cons_append, putsB, putsC, putsB_snoc v l, List.append_assoc]
theorem putsC_ok : ∀ (l : List Int) {c : Cd}, c.Ok → (∀ v ∈ l, In v) → (putsC c l).Ok
  | [], _, h, _ => h
  | v :: l, _, h, k => putsC_ok l (h.put (k v (by simp))) fun u hu => k u (by simp [hu])
theorem putsB_len : ∀ (l : List Int) (c : Cd), (putsB c l).length ≤ 77 * l.length
  | [], _ => by simp [putsB]
  | v :: l, c => by
    have h1 := putB_len (c := c) v
    have h2 := putsB_len l (putC c v)
    simp only [putsB, List.length_append, List.length_cons]
    omega
theorem putsB_drop {l : List Int} {j : Nat} (h : j < l.length) (c : Cd) : putsB (putsC c (l.take j)) (l.drop j) = putB (putsC c (l.take j)) l[j] ++ putsB (putsC c (l.take (j + 1))) (l.drop (j + 1)) := by
  rw [List.drop_eq_getElem_cons h, List.take_succ_eq_append_getElem h, putsC_snoc]
  rfl
theorem get_next {l : List Int} {j : Nat} (h : j < l.length) {c : Cd} (hc : c.Ok) (hl : ∀ v ∈ l, In v) :
    getR (putsC c (l.take j)) (putsB (putsC c (l.take j)) (l.drop j)) = some (l[j], (putB (putsC c (l.take j)) l[j]).length) ∧ (putsB (putsC c (l.take j)) (l.drop j)).drop (putB (putsC c (l.take j)) l[j]).length = putsB (putsC c (l.take (j + 1))) (l.drop (j + 1)) ∧ putC (putsC c (l.take j)) l[j] = putsC c (l.take (j + 1)) := by
  rw [putsB_drop h]
  refine ⟨get_put (putsC_ok _ hc fun v hv => hl v (List.mem_of_mem_take hv)) (hl _ (List.getElem_mem h)) _, by simp, ?_⟩
  rw [List.take_succ_eq_append_getElem h, putsC_snoc]

/-! ### what it costs -/
def cost (x : Int) : Nat := match cls x with | 0 => 1 | 1 => 9 | 2 => 12 | 3 => 16 | _ => 68
theorem chB_cost (x : Int) : (chB x).length = cost x := by
  unfold chB cost
  rw [List.length_append, bitsOf_length]
  rcases five (cls_le x) with e | e | e | e | e <;> (rw [e]; rfl)
theorem put_two_c (t u : Int) : putsC newC [t, u] = ⟨true, u, wr (u - t)⟩ := rfl
theorem cost_three (t u v : Int) : (putsB newC [t, u, v]).length = (putsB newC [t, u]).length + cost (wr (wr (v - u) - wr (u - t))) := by
  rw [show [t, u, v] = [t, u] ++ [v] from rfl, putsB_snoc, List.length_append, put_two_c]
  congr 1
  exact chB_cost _
/-- Times at equal distances. -/
def even (t d : Int) (n : Nat) : List Int := (List.range n).map fun (i : Nat) => wr (t + wr ((i : Int) * d))
theorem even_snoc (t d : Int) (n : Nat) : even t d (n + 1) = even t d n ++ [wr (t + wr ((n : Int) * d))] := by
  unfold even
  rw [List.range_succ, List.map_append]
  rfl
theorem even_in (t d : Int) (n : Nat) : ∀ v ∈ even t d n, In v := fun v hv => by
  unfold even at hv
  obtain ⟨i, _, rfl⟩ := List.mem_map.1 hv
  exact wr_in _
theorem wr_add (x y : Int) : wr (wr x + y) = wr (x + y) := by unfold wr; omega
theorem wr_sub (x y : Int) : wr (x - wr y) = wr (x - y) := by unfold wr; omega
theorem wr_sub2 (x y : Int) : wr (wr x - y) = wr (x - y) := by unfold wr; omega
theorem step_is (t d : Int) (n : Nat) : wr (wr (t + wr (((n + 1 : Nat) : Int) * d)) - wr (t + wr ((n : Int) * d))) = wr d := by
  have e : (((n + 1 : Nat) : Int) * d) = (n : Int) * d + d := by push_cast; rw [Int.add_mul, Int.one_mul]
  rw [e]
  generalize (n : Int) * d = y
  unfold wr
  omega
theorem even_c (t d : Int) : ∀ n, putsC newC (even t d (n + 2)) = ⟨true, wr (t + wr (((n + 1 : Nat) : Int) * d)), wr d⟩
  | 0 => by
    rw [even_snoc, putsC_snoc, even_snoc, putsC_snoc]
    have h := step_is t d 0
    show (⟨true, wr (t + wr (((1 : Nat) : Int) * d)), wr (wr (t + wr (((1 : Nat) : Int) * d)) - wr (t + wr (((0 : Nat) : Int) * d)))⟩ : Cd) = _
    rw [h]
  | n + 1 => by
    rw [even_snoc, putsC_snoc, even_c t d n]
    show (⟨true, _, wr (wr (t + wr (((n + 2 : Nat) : Int) * d)) - wr (t + wr (((n + 1 : Nat) : Int) * d)))⟩ : Cd) = _
    rw [step_is t d (n + 1)]
theorem even_len (t d : Int) : ∀ n, (putsB newC (even t d (n + 2))).length = (putsB newC (even t d 2)).length + n
  | 0 => rfl
  | n + 1 => by
    rw [even_snoc t d (n + 2), putsB_snoc, List.length_append, even_len t d n, even_c t d n]
    have e : putB ⟨true, wr (t + wr (((n + 1 : Nat) : Int) * d)), wr d⟩ (wr (t + wr (((n + 2 : Nat) : Int) * d))) = [false] := by
      unfold putB
      rw [if_neg (by simp)]
      have : ch ⟨true, wr (t + wr (((n + 1 : Nat) : Int) * d)), wr d⟩ (wr (t + wr (((n + 2 : Nat) : Int) * d))) = 0 := by
        unfold ch
        simp only
        rw [step_is t d (n + 1)]
        unfold wr; omega
      rw [this]
      rfl
    rw [e]
    rfl
theorem works_puts : (putsB newC [100, 160]).length = 73 ∧ (putsB newC [100, 160, 220]).length = 74 := by decide +kernel
end Tm
end Go.Proofs.YtjoaccfjjihleaaDoor
