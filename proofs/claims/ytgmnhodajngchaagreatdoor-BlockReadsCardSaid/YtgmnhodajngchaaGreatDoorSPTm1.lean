/- Parts: PTm1. -/
import Derived.Test.YtgmnhodajngchaaGreatDoorSPBit2
import Derived.Test.YtgmnhodajngchaaGreatDoorSPBit3
import Derived.Deep.Cut
import Derived.Deep.DeepCutAuto
import Derived.Deep.CutBlock
set_option maxRecDepth 100000
set_option linter.unusedVariables false
namespace Go.Proofs.YtgmnhodajngchaaGreatDoor
section
section
namespace Tm
open Bit
def wr (x : Int) : Int := (x + 9223372036854775808) % 18446744073709551616 - 9223372036854775808
def un (x : Int) : Nat := (x % 18446744073709551616).toNat
def In (x : Int) : Prop := -9223372036854775808 <= x /\ x <= 9223372036854775807
theorem wr_in (x : Int) : In (wr x) := by unfold In wr; omega
theorem wr_id {x : Int} (h : In x) : wr x = x := by unfold In at h; unfold wr; omega
theorem un_lt (x : Int) : un x < 18446744073709551616 := by unfold un; omega
theorem wr_un (x : Int) : wr (un x : Int) = wr x := by unfold wr un; omega
theorem un_wr (x : Int) : un (wr x) = un x := by unfold wr un; omega
theorem un_nat {n : Nat} (h : n < 18446744073709551616) : un (n : Int) = n := by unfold un; omega
theorem un_wr_nat {n : Nat} (h : n < 18446744073709551616) : un (wr (n : Int)) = n := by rw [un_wr, un_nat h]
def sz (k : Nat) : Nat := match k with | 0 => 0 | 1 => 7 | 2 => 9 | 3 => 12 | _ => 64
def ls (k : Nat) : Int := match k with | 1 => 63 | 2 => 255 | 3 => 2047 | _ => 0
def cls (x : Int) : Nat := if x = 0 then 0 else if -63 <= x /\ x <= 64 then 1 else if -255 <= x /\ x <= 256 then 2 else if -2047 <= x /\ x <= 2048 then 3 else 4
def hd (k : Nat) : List Bool := match k with | 0 => [false] | 1 => [true, false] | 2 => [true, true, false] | 3 => [true, true, true, false] | _ => [true, true, true, true]
theorem cls_le (x : Int) : cls x <= 4 := by unfold cls; split; omega; split; omega; split; omega; split <;> omega
theorem five {k : Nat} (h : k <= 4) : k = 0 \/ k = 1 \/ k = 2 \/ k = 3 \/ k = 4 := by omega
def val (k : Nat) (x : Int) : Nat := un (x + ls k)
def num (k : Nat) (X : List Bool) : Int := wr (wr (numOf X : Int) - ls k)
def chB (x : Int) : List Bool := hd (cls x) ++ bitsOf (val (cls x) x) (sz (cls x))
theorem val_lt {x : Int} (h : In x) : val (cls x) x < 2 ^ sz (cls x) := by
 unfold In at h
 unfold cls val
 split
 ·rename_i e; subst e; decide
 split
 ·show un (x + 63) < 2 ^ 7; unfold un; omega
 split
 ·show un (x + 255) < 2 ^ 9; unfold un; omega
 split
 ·show un (x + 2047) < 2 ^ 12; unfold un; omega
 ·show un (x + 0) < 2 ^ 64; unfold un; omega
theorem num_back {x : Int} (h : In x) : wr (wr (val (cls x) x : Int) - ls (cls x)) = x := by
 unfold val
 rw [wr_un]
 unfold In at h
 unfold wr
 have : ls (cls x) = 0 \/ ls (cls x) = 63 \/ ls (cls x) = 255 \/ ls (cls x) = 2047 := by
  rcases five (cls_le x) with e | e | e | e | e <;> (rw [e]; simp [ls])
 omega
def lead1 : Nat -> List Bool -> Option (Nat × List Bool)
 | 0, K => some (0, K)
 | _ + 1, [] => none
 | _ + 1, false :: R => some (0, R)
 | m + 1, true :: R => match lead1 m R with | none => none | some (k, Q) => some (k + 1, Q)
theorem lead1_hd {k : Nat} (h : k <= 4) (R : List Bool) : lead1 4 (hd k ++ R) = some (k, R) := by
 rcases five h with rfl | rfl | rfl | rfl | rfl <;> rfl
theorem lead1_is : ∀ {K R : List Bool} {k : Nat}, lead1 4 K = some (k, R) -> k <= 4 /\ K = hd k ++ R
 | [], _, _, h => by cases h
 | [false], _, _, h => by cases h; exact ⟨by decide, rfl⟩
 | false :: _ :: _, _, _, h => by cases h; exact ⟨by decide, rfl⟩
 | [true], _, _, h => by cases h
 | true :: false :: _, _, _, h => by cases h; exact ⟨by decide, rfl⟩
 | [true, true], _, _, h => by cases h
 | true :: true :: false :: _, _, _, h => by cases h; exact ⟨by decide, rfl⟩
 | [true, true, true], _, _, h => by cases h
 | true :: true :: true :: false :: _, _, _, h => by cases h; exact ⟨by decide, rfl⟩
 | true :: true :: true :: true :: _, _, _, h => by cases h; exact ⟨by decide, rfl⟩
theorem hd_inj {a b : Nat} (ha : a <= 4) (hb : b <= 4) {X Y : List Bool} (h : hd a ++ X = hd b ++ Y) : a = b /\ X = Y := by
 have h1 := lead1_hd ha X
 rw [h, lead1_hd hb Y] at h1
 simp only [Option.some.injEq, Prod.mk.injEq] at h1
 exact ⟨h1.1.symm, h1.2.symm⟩
structure Cd where
 begun : Bool
 t : Int
 d : Int
def newC : Cd := ⟨false, 0, 0⟩
structure Cd.Ok (c : Cd) : Prop where
 t : In c.t
 d : In c.d
 fresh : c.begun = false -> c.t = 0 /\ c.d = 0
theorem ok_new : newC.Ok := ⟨by unfold In; decide, by unfold In; decide, fun _ => ⟨rfl, rfl⟩⟩
def ch (c : Cd) (t : Int) : Int := wr (wr (t - c.t) - c.d)
def putB (c : Cd) (t : Int) : List Bool := if c.begun = false then bitsOf (un t) 64 else chB (ch c t)
def putC (c : Cd) (t : Int) : Cd := if c.begun = false then ⟨true, t, c.d⟩ else ⟨true, t, wr (t - c.t)⟩
theorem Cd.Ok.put {c : Cd} (h : c.Ok) {t : Int} (ht : In t) : (putC c t).Ok := by
 unfold putC
 split
 ·exact ⟨ht, h.d, fun e => by cases e⟩
 ·exact ⟨ht, wr_in _, fun e => by cases e⟩
theorem chB_len (x : Int) : (chB x).length <= 68 := by
 unfold chB
 rw [List.length_append, bitsOf_length]
 rcases five (cls_le x) with e | e | e | e | e <;> (rw [e]; decide)
theorem putB_len {c : Cd} (t : Int) : (putB c t).length <= 68 := by
 unfold putB
 split
 ·rw [bitsOf_length]; omega
 ·exact chB_len _
def tim (c : Cd) (x : Int) : Int := wr (wr (c.t + c.d) + x)
theorem ch_tim {c : Cd} (h : c.Ok) {x : Int} (hx : In x) : ch c (tim c x) = x := by
 have h1 := h.t
 have h2 := h.d
 unfold In at h1 h2 hx
 unfold ch tim wr
 omega
theorem tim_ch {c : Cd} (h : c.Ok) {t : Int} (ht : In t) : tim c (ch c t) = t := by
 have h1 := h.t
 have h2 := h.d
 unfold In at h1 h2 ht
 unfold ch tim wr
 omega
def guess (c : Cd) (K : List Bool) : Option (Int × Nat) :=
 if c.begun = false then (if 64 <= K.length then some (wr (numOf (K.take 64) : Int), 64) else none) else
 match lead1 4 K with
 | none => none
 | some (k, R) => if sz k <= R.length then some (tim c (num k (R.take (sz k))), (hd k).length + sz k) else none
def getR (c : Cd) (K : List Bool) : Option (Int × Nat) :=
 match guess c K with
 | none => none
 | some (t, n) => if putB c t = K.take n then some (t, n) else none
theorem getR_yes {c : Cd} {K : List Bool} {v : Int} {n : Nat} (hg : guess c K = some (v, n)) (e : putB c v = K.take n) : getR c K = some (v, n) := by
 unfold getR; rw [hg]; exact if_pos e
theorem getR_no {c : Cd} {K : List Bool} {v : Int} {n : Nat} (hg : guess c K = some (v, n)) (e : putB c v ≠ K.take n) : getR c K = none := by
 unfold getR; rw [hg]; exact if_neg e
theorem guess_put {c : Cd} (hc : c.Ok) {t : Int} (ht : In t) (R : List Bool) : guess c (putB c t ++ R) = some (t, (putB c t).length) := by
 unfold guess putB
 by_cases hb : c.begun = false
 ·rw [if_pos hb, if_pos hb, if_pos (by rw [List.length_append, bitsOf_length]; omega), List.take_left' (bitsOf_length _ _), numOf_bitsOf, bitsOf_length, Nat.mod_eq_of_lt (un_lt t), wr_un, wr_id ht]
 ·rw [if_neg hb, if_neg hb]
  have hx : In (ch c t) := wr_in (wr (t - c.t) - c.d)
  have hv := val_lt (x := ch c t) hx
  unfold chB
  rw [List.append_assoc, lead1_hd (cls_le _)]
  simp only
  rw [if_pos (by rw [List.length_append, bitsOf_length]; omega), List.take_left' (bitsOf_length _ _)]
  unfold num
  rw [numOf_bitsOf, Nat.mod_eq_of_lt hv, num_back hx, List.length_append, bitsOf_length]
  rw [show tim c (ch c t) = t from tim_ch hc ht]
theorem get_put {c : Cd} (hc : c.Ok) {t : Int} (ht : In t) (R : List Bool) : getR c (putB c t ++ R) = some (t, (putB c t).length) := by
 unfold getR
 rw [guess_put hc ht R]
 simp
theorem num_in (k : Nat) (X : List Bool) : In (num k X) := wr_in _
theorem tim_in (c : Cd) (x : Int) : In (tim c x) := wr_in _
theorem num_cls {k : Nat} (hk : k <= 4) {X : List Bool} (hX : X.length = sz k) (h : cls (num k X) = k) : bitsOf (val k (num k X)) (sz k) = X := by
 have hl := numOf_lt X
 have hb := bitsOf_numOf X
 rw [hX] at hl hb
 have e : val k (num k X) = numOf X := by
  unfold val num
  rcases five hk with rfl | rfl | rfl | rfl | rfl
  ·have : numOf X < 2 ^ 0 := hl
   unfold wr un ls; omega
  ·have : numOf X < 2 ^ 7 := hl
   unfold wr un ls; omega
  ·have : numOf X < 2 ^ 9 := hl
   unfold wr un ls; omega
  ·have : numOf X < 2 ^ 12 := hl
   unfold wr un ls; omega
  ·have : numOf X < 2 ^ 64 := hl
   unfold wr un ls; omega
 rw [e, hb]
theorem getR_is {c : Cd} (hc : c.Ok) (hb : c.begun = true) {K R : List Bool} {k : Nat} (hl : lead1 4 K = some (k, R)) :
  getR c K = if sz k <= R.length /\ cls (num k (R.take (sz k))) = k then some (tim c (num k (R.take (sz k))), (hd k).length + sz k) else none := by
 obtain ⟨hk, rfl⟩ := lead1_is hl
 have eg : guess c (hd k ++ R) = if sz k <= R.length then some (tim c (num k (R.take (sz k))), (hd k).length + sz k) else none := by
  unfold guess
  rw [if_neg (by simp [hb]), hl]
 by_cases h : sz k <= R.length
 ·rw [if_pos h] at eg
  have ht : (hd k ++ R).take ((hd k).length + sz k) = hd k ++ R.take (sz k) := by rw [List.take_length_add_append]
  have hX : (R.take (sz k)).length = sz k := by rw [List.length_take, Nat.min_eq_left h]
  have ep : putB c (tim c (num k (R.take (sz k)))) = chB (num k (R.take (sz k))) := by
   unfold putB
   rw [if_neg (by simp [hb]), ch_tim hc (num_in _ _)]
  by_cases h2 : cls (num k (R.take (sz k))) = k
  ·rw [if_pos ⟨h, h2⟩]
   refine getR_yes eg ?_
   rw [ht, ep]
   unfold chB
   rw [h2, num_cls hk hX h2]
  ·rw [if_neg (fun hh => h2 hh.2)]
   refine getR_no eg ?_
   rw [ht, ep]
   intro e
   exact h2 (hd_inj (cls_le _) hk e).1
 ·rw [if_neg h] at eg
  rw [if_neg (fun hh => h hh.1)]
  unfold getR; rw [eg]
theorem getR_off {c : Cd} (hb : c.begun = true) {K : List Bool} (hl : lead1 4 K = none) : getR c K = none := by
 unfold getR guess
 rw [if_neg (by simp [hb]), hl]
theorem getR_first {c : Cd} (hb : c.begun = false) (K : List Bool) : getR c K = if 64 <= K.length then some (wr (numOf (K.take 64) : Int), 64) else none := by
 unfold getR guess putB
 rw [if_pos hb]
 by_cases h : 64 <= K.length
 ·rw [if_pos h]
  have hl := numOf_lt (K.take 64)
  have e : bitsOf (numOf (K.take 64)) 64 = K.take 64 := by
   have := bitsOf_numOf (K.take 64)
   rwa [List.length_take, Nat.min_eq_left h] at this
  rw [List.length_take, Nat.min_eq_left h] at hl
  simp only [if_pos hb, un_wr_nat hl, e, if_true]
 ·rw [if_neg h]
theorem guess_in {c : Cd} {K : List Bool} {t : Int} {n : Nat} (h : guess c K = some (t, n)) : In t := by
 unfold guess at h
 split at h
 ·split at h
  ·simp only [Option.some.injEq, Prod.mk.injEq] at h
   rw [<- h.1]; exact wr_in _
  ·cases h
 ·split at h
  ·cases h
  ·split at h
   ·simp only [Option.some.injEq, Prod.mk.injEq] at h
    rw [<- h.1]; exact tim_in _ _
   ·cases h
theorem guess_le {c : Cd} {K : List Bool} {t : Int} {n : Nat} (h : guess c K = some (t, n)) : n <= K.length := by
 unfold guess at h
 split at h
 ·split at h
  ·simp only [Option.some.injEq, Prod.mk.injEq] at h
   omega
  ·cases h
 ·split at h
  ·cases h
  ·rename_i k R hl
   split at h
   ·simp only [Option.some.injEq, Prod.mk.injEq] at h
    rw [(lead1_is hl).2, List.length_append]
    omega
   ·cases h
theorem getR_in {c : Cd} {K : List Bool} {t : Int} {n : Nat} (h : getR c K = some (t, n)) : In t := by
 unfold getR at h
 cases hg : guess c K with
 | none => rw [hg] at h; cases h
 | some x =>
  obtain ⟨t', n'⟩ := x
  rw [hg] at h
  simp only at h
  split at h
  ·simp only [Option.some.injEq, Prod.mk.injEq] at h
   rw [<- h.1]
   exact guess_in hg
  ·cases h
end Tm
end
section
open Go.RowKit Go.Sort
namespace Tm
open Bit Dsk Ob
theorem i64_wr (x : Int) : IntKind.i64.wrap x = wr x := by rw [IntKind.wrap_i64]; rfl
theorem w64_wr (x : Int) : wrap64 x = wr x := by unfold wrap64 wr; rfl
theorem u64_un (x : Int) : IntKind.u64.wrap x = (un x : Int) := by rw [IntKind.wrap_u64]; unfold un; omega
def cCells (c : Cd) : Array Value := #[.bool c.begun, .int .i64 c.t, .int .i64 c.d]
def IsRC (q : Nat) (c : Cd) : Ob.Rel := fun w S => w.heap[q]? = some (.cells (cCells c) 193 (0, 0)) /\ ∀ x, S x ↔ x = q
theorem objRC (q : Nat) (c : Cd) : Thing (IsRC q c) := ⟨fun w w' S h hk _ => ⟨(hk q ((h.2 q).2 rfl)).trans h.1, h.2⟩, fun w S h x hx => by rw [(h.2 x).1 hx]; exact (Array.getElem?_eq_some_iff.1 h.1).1⟩
theorem rc3 {w : World} {q : Nat} {c : Cd} (h : w.heap[q]? = some (.cells (cCells c) 193 (0, 0))) :
  w.cell? ⟨q, 0, none⟩ = some (.bool c.begun) /\ w.cell? ⟨q, 1, none⟩ = some (.int .i64 c.t) /\ w.cell? ⟨q, 2, none⟩ = some (.int .i64 c.d) /\ ∀ o, w.frozen? ⟨q, o, none⟩ = false := by
 refine ⟨?_, ?_, ?_, fun o => Lib.frozen_of_heap h o⟩ <;> (rw [Lib.cell_of_heap h]; rfl)
theorem rcSet {w : World} {A : Nat -> Prop} {q o : Nat} {c c' : Cd} {v : Value} (h : IsRC q c w A) (he : (cCells c).setIfInBounds o v = cCells c') : ObjStep (IsRC q c') A w (w.setCell ⟨q, o, none⟩ v) :=
 stepCell ((h.2 q).2 rfl) ⟨by rw [<- he]; simp [World.setCell, Array.getElem?_modify, h.1], h.2⟩
abbrev CW (q : Nat) (c : Cd) (p : Nat) (L : List Bool) : Ob.Rel := Tens (IsRC q c) (fun w S => IsRW w S p L)
theorem thingCW (q : Nat) (c : Cd) (p : Nat) (L : List Bool) : Thing (CW q c p L) := Tens.ob (objRC q c) (objRW p L)
theorem cwPut {S : Nat -> Prop} {w0 w : World} {q p : Nat} {c : Cd} {L L' : List Bool} (H : ObjStep (CW q c p L) S w0 w) (v : Nat) (n : Int) (hL : L.length <= 90000000000000) (hv : v < 18446744073709551616) (e : L ++ bitsOf v (cnt n) = L') :
  Calls Tryz.prog 160 #[.pointer (some ⟨p, 0, none⟩), .int .u64 (v : Int), .int .i64 n] w fun e w' => e = .returned (.tuple #[]) /\ ObjStep (CW q c p L') S w0 w' := by
 subst e
 exact callR (Q := fun e => e = .returned (.tuple #[])) (objRC q c) H fun A h => refput_any A p L v n w h hL hv
theorem cwCells {S : Nat -> Prop} {w0 w : World} {q p : Nat} {c : Cd} {L : List Bool} (H : ObjStep (CW q c p L) S w0 w) :
  w.cell? ⟨q, 0, none⟩ = some (.bool c.begun) /\ w.cell? ⟨q, 1, none⟩ = some (.int .i64 c.t) /\ w.cell? ⟨q, 2, none⟩ = some (.int .i64 c.d) /\ ∀ o, w.frozen? ⟨q, o, none⟩ = false := by
 obtain ⟨A, h⟩ := seeL H
 exact rc3 h.1
theorem cwSet {S : Nat -> Prop} {w0 w : World} {q p o : Nat} {c c' : Cd} {L : List Bool} {v : Value} (H : ObjStep (CW q c p L) S w0 w) (he : (cCells c).setIfInBounds o v = cCells c') : ObjStep (CW q c' p L) S w0 (w.setCell ⟨q, o, none⟩ v) :=
 stepL (objRW p L) H fun A h => rcSet h he
set_option maxHeartbeats 1600000 in
theorem cwPut2 {S : Nat -> Prop} {w0 w : World} {q p : Nat} {c : Cd} {L L' : List Bool} (H : ObjStep (CW q c p L) S w0 w) (front n : Nat) (x : Int) (m : Nat) (hn : n <= 64) (hm : m <= 64) (hL : L.length <= 80000000000000) (hf : front < 18446744073709551616) (e : L ++ (bitsOf front n ++ bitsOf (un x) m) = L') :
  Calls Tryz.prog 161 #[.pointer (some ⟨p, 0, none⟩), .int .u64 (front : Int), .int .i64 (n : Int), .int .i64 x, .int .i64 (m : Int)] w fun e w' => e = .returned (.tuple #[]) /\ ObjStep (CW q c p L') S w0 w' := by
 subst e
 have h1 := Lib.hid (cwPut H front (n : Int) (by omega) hf (L' := L ++ bitsOf front n) (by rw [cnt_nat hn]))
 have hu := u64_un x
 clear H
 go_enter Tryz.func161, Tryz.ntmps161
 go_wp2_with fail
 refine h1.out.mono ?_
 rintro e w2 ⟨rfl, h2⟩
 have h3 := Lib.hid (cwPut h2 (un x) (m : Int) (by rw [List.length_append, bitsOf_length]; omega) (un_lt x) (L' := L ++ (bitsOf front n ++ bitsOf (un x) m)) (by rw [cnt_nat hm, List.append_assoc]))
 clear h1 h2
 go_wp2_with fail
 refine h3.out.mono ?_
 rintro e w4 ⟨rfl, h4⟩
 replace h4 := Lib.hid h4
 clear h3
 go_wp2_with fail
 go_end0
 exact ⟨rfl, h4.out⟩
theorem cls_cases (x : Int) : (x = 0 /\ cls x = 0) \/ (x ≠ 0 /\ -63 <= x /\ x <= 64 /\ cls x = 1) \/ ((x < -63 \/ 64 < x) /\ -255 <= x /\ x <= 256 /\ cls x = 2) \/ ((x < -255 \/ 256 < x) /\ -2047 <= x /\ x <= 2048 /\ cls x = 3) \/ ((x < -2047 \/ 2048 < x) /\ cls x = 4) := by
 unfold cls
 by_cases h0 : x = 0
 ·left; exact ⟨h0, by rw [if_pos h0]⟩
 ·by_cases h1 : -63 <= x /\ x <= 64
  ·right; left; exact ⟨h0, h1.1, h1.2, by rw [if_neg h0, if_pos h1]⟩
  ·by_cases h2 : -255 <= x /\ x <= 256
   ·right; right; left; exact ⟨by omega, h2.1, h2.2, by rw [if_neg h0, if_neg h1, if_pos h2]⟩
   ·by_cases h3 : -2047 <= x /\ x <= 2048
    ·right; right; right; left; exact ⟨by omega, h3.1, h3.2, by rw [if_neg h0, if_neg h1, if_neg h2, if_pos h3]⟩
    ·right; right; right; right; exact ⟨by omega, by rw [if_neg h0, if_neg h1, if_neg h2, if_neg h3]⟩
theorem chB_at {x : Int} {k : Nat} (h : cls x = k) : chB x = hd k ++ bitsOf (val k x) (sz k) := by unfold chB; rw [h]
set_option maxRecDepth 100000 in
set_option maxHeartbeats 3200000 in
theorem refPut_first (S : Nat -> Prop) (q p : Nat) (c : Cd) (L : List Bool) (t : Int) (w : World) (h : CW q c p L w S) (hb : c.begun = false) (hL : L.length <= 80000000000000) :
  Calls Tryz.prog 112 #[.pointer (some ⟨q, 0, none⟩), .pointer (some ⟨p, 0, none⟩), .int .i64 t] w fun e w' => e = .returned (.tuple #[]) /\ ObjStep (CW q ⟨true, t, c.d⟩ p (L ++ bitsOf (un t) 64)) S w w' := by
 have H := ObjStep.refl (I := CW q c p L) h
 obtain ⟨k0, k1, k2, kf⟩ := cwCells H
 have f0 := kf 0
 rw [hb] at k0
 have hu := u64_un t
 have H1 := cwSet (o := 0) (v := .bool true) (c' := { c with begun := true }) H rfl
 have H2 := cwSet (o := 1) (v := .int .i64 t) (c' := ⟨true, t, c.d⟩) H1 rfl
 have f1 := (cwCells H1).2.2.2 1
 have g1 := (cwCells H1).2.1
 have HP := Lib.hid (cwPut H2 (un t) 64 (by omega) (un_lt t) (L' := L ++ bitsOf (un t) 64) (by rfl))
 clear H H1 H2 kf h
 go_enter Tryz.func112, Tryz.ntmps112
 go_wp2_with fail
 refine HP.out.mono ?_
 rintro e w2 ⟨rfl, h2⟩
 replace h2 := Lib.hid h2
 clear HP
 go_wp2_with fail
 (try simp only [Exit.inBlock, Exit.then])
 refine bodyPost_ret (results_none rfl _ _ _) rfl ?_
 exact ⟨rfl, h2.out⟩
set_option maxRecDepth 100000 in
set_option maxHeartbeats 6400000 in
theorem refPut_next (S : Nat -> Prop) (q p : Nat) (c : Cd) (L : List Bool) (t d x : Int) (w : World) (h : CW q c p L w S) (hb : c.begun = true) (hL : L.length <= 80000000000000) (hd : wr (t - c.t) = d) (hx : wr (d - c.d) = x) :
  Calls Tryz.prog 112 #[.pointer (some ⟨q, 0, none⟩), .pointer (some ⟨p, 0, none⟩), .int .i64 t] w fun e w' => e = .returned (.tuple #[]) /\ ObjStep (CW q ⟨true, t, d⟩ p (L ++ chB x)) S w w' := by
 have H := ObjStep.refl (I := CW q c p L) h
 obtain ⟨k0, k1, k2, kf⟩ := cwCells H
 have f1 := kf 1
 rw [hb] at k0
 have e1 : IntKind.i64.wrap (t - c.t) = d := (i64_wr _).trans hd
 have e2 : IntKind.i64.wrap (d - c.d) = x := (i64_wr _).trans hx
 have H1 := cwSet (o := 1) (v := .int .i64 t) (c' := ⟨true, t, c.d⟩) H (by unfold cCells; rw [hb]; rfl)
 have H2 := cwSet (o := 2) (v := .int .i64 d) (c' := ⟨true, t, d⟩) H1 rfl
 have f2 := (cwCells H1).2.2.2 2
 have g2 := (cwCells H1).2.2.1
 have hin : In x := by rw [<- hx]; exact wr_in _
 have hcases := cls_cases x
 clear H H1 kf h hd hx
 rcases hcases with ⟨h0, hk⟩ | ⟨h0, ha, hb2, hk⟩ | ⟨h0, ha, hb2, hk⟩ | ⟨h0, ha, hb2, hk⟩ | ⟨h0, hk⟩
 ·have HP := Lib.hid (cwPut H2 0 1 (by omega) (by decide) (L' := L ++ chB x) (by rw [chB_at hk]; rfl))
  clear H2 hk
  subst h0
  go_enter Tryz.func112, Tryz.ntmps112
  go_wp2_with fail
  refine HP.out.mono ?_
  rintro e w2 ⟨rfl, h2⟩
  replace h2 := Lib.hid h2
  clear HP
  go_wp2_with fail
  go_end0
  exact ⟨rfl, h2.out⟩
 ·have hi : IntKind.i64.wrap (x + 63) = x + 63 := by rw [i64_wr, wr_id (by unfold In; omega)]
  have HP := Lib.hid (cwPut2 H2 2 2 (x + 63) 7 (by omega) (by omega) hL (by decide) (L' := L ++ chB x) (by rw [chB_at hk]; rfl))
  have d0 : (x == 0) = false := by rw [beq_eq_false_iff_ne]; omega
  clear H2 hk
  have lo : decide (-63 <= x) = true := decide_eq_true (by omega)
  have hi2 : decide (x <= 64) = true := decide_eq_true (by omega)
  go_enter Tryz.func112, Tryz.ntmps112
  go_wp2_with fail
  refine HP.out.mono ?_
  rintro e w2 ⟨rfl, h2⟩
  replace h2 := Lib.hid h2
  clear HP
  go_wp2_with fail
  go_end0
  exact ⟨rfl, h2.out⟩
 ·have hi : IntKind.i64.wrap (x + 255) = x + 255 := by rw [i64_wr, wr_id (by unfold In; omega)]
  have HP := Lib.hid (cwPut2 H2 6 3 (x + 255) 9 (by omega) (by omega) hL (by decide) (L' := L ++ chB x) (by rw [chB_at hk]; rfl))
  have d0 : (x == 0) = false := by rw [beq_eq_false_iff_ne]; omega
  clear H2 hk
  rcases h0 with h0 | h0
  ·have lo : decide (-255 <= x) = true := decide_eq_true (by omega)
   have hi2 : decide (x <= 256) = true := decide_eq_true (by omega)
   have l1 : decide (-63 <= x) = false := decide_eq_false (by omega)
   go_enter Tryz.func112, Tryz.ntmps112
   go_wp2_with fail
   refine HP.out.mono ?_
   rintro e w2 ⟨rfl, h2⟩
   replace h2 := Lib.hid h2
   clear HP
   go_wp2_with fail
   go_end0
   exact ⟨rfl, h2.out⟩
  ·have lo : decide (-255 <= x) = true := decide_eq_true (by omega)
   have hi2 : decide (x <= 256) = true := decide_eq_true (by omega)
   have l1 : decide (-63 <= x) = true := decide_eq_true (by omega)
   have u1 : decide (x <= 64) = false := decide_eq_false (by omega)
   go_enter Tryz.func112, Tryz.ntmps112
   go_wp2_with fail
   refine HP.out.mono ?_
   rintro e w2 ⟨rfl, h2⟩
   replace h2 := Lib.hid h2
   clear HP
   go_wp2_with fail
   go_end0
   exact ⟨rfl, h2.out⟩
 ·have hi : IntKind.i64.wrap (x + 2047) = x + 2047 := by rw [i64_wr, wr_id (by unfold In; omega)]
  have HP := Lib.hid (cwPut2 H2 14 4 (x + 2047) 12 (by omega) (by omega) hL (by decide) (L' := L ++ chB x) (by rw [chB_at hk]; rfl))
  have d0 : (x == 0) = false := by rw [beq_eq_false_iff_ne]; omega
  clear H2 hk
  rcases h0 with h0 | h0
  ·have lo : decide (-2047 <= x) = true := decide_eq_true (by omega)
   have hi2 : decide (x <= 2048) = true := decide_eq_true (by omega)
   have l1 : decide (-63 <= x) = false := decide_eq_false (by omega)
   have l2 : decide (-255 <= x) = false := decide_eq_false (by omega)
   go_enter Tryz.func112, Tryz.ntmps112
   go_wp2_with fail
   refine HP.out.mono ?_
   rintro e w2 ⟨rfl, h2⟩
   replace h2 := Lib.hid h2
   clear HP
   go_wp2_with fail
   go_end0
   exact ⟨rfl, h2.out⟩
  ·have lo : decide (-2047 <= x) = true := decide_eq_true (by omega)
   have hi2 : decide (x <= 2048) = true := decide_eq_true (by omega)
   have l1 : decide (-63 <= x) = true := decide_eq_true (by omega)
   have u1 : decide (x <= 64) = false := decide_eq_false (by omega)
   have l2 : decide (-255 <= x) = true := decide_eq_true (by omega)
   have u2 : decide (x <= 256) = false := decide_eq_false (by omega)
   go_enter Tryz.func112, Tryz.ntmps112
   go_wp2_with fail
   refine HP.out.mono ?_
   rintro e w2 ⟨rfl, h2⟩
   replace h2 := Lib.hid h2
   clear HP
   go_wp2_with fail
   go_end0
   exact ⟨rfl, h2.out⟩
 ·have HP := Lib.hid (cwPut2 H2 15 4 x 64 (by omega) (by omega) hL (by decide) (L' := L ++ chB x) (by rw [chB_at hk]; show _ = L ++ (hd 4 ++ bitsOf (un (x + 0)) 64); rw [Int.add_zero]; rfl))
  have d0 : (x == 0) = false := by rw [beq_eq_false_iff_ne]; omega
  clear H2 hk
  rcases h0 with h0 | h0
  ·have l1 : decide (-63 <= x) = false := decide_eq_false (by omega)
   have l2 : decide (-255 <= x) = false := decide_eq_false (by omega)
   have l3 : decide (-2047 <= x) = false := decide_eq_false (by omega)
   go_enter Tryz.func112, Tryz.ntmps112
   go_wp2_with fail
   refine HP.out.mono ?_
   rintro e w2 ⟨rfl, h2⟩
   replace h2 := Lib.hid h2
   clear HP
   go_wp2_with fail
   go_end0
   exact ⟨rfl, h2.out⟩
  ·have l1 : decide (-63 <= x) = true := decide_eq_true (by omega)
   have u1 : decide (x <= 64) = false := decide_eq_false (by omega)
   have l2 : decide (-255 <= x) = true := decide_eq_true (by omega)
   have u2 : decide (x <= 256) = false := decide_eq_false (by omega)
   have l3 : decide (-2047 <= x) = true := decide_eq_true (by omega)
   have u3 : decide (x <= 2048) = false := decide_eq_false (by omega)
   go_enter Tryz.func112, Tryz.ntmps112
   go_wp2_with fail
   refine HP.out.mono ?_
   rintro e w2 ⟨rfl, h2⟩
   replace h2 := Lib.hid h2
   clear HP
   go_wp2_with fail
   go_end0
   exact ⟨rfl, h2.out⟩
theorem refPut_any (S : Nat -> Prop) (q p : Nat) (c : Cd) (L : List Bool) (t : Int) (w : World) (h : CW q c p L w S) (hL : L.length <= 80000000000000) :
  Calls Tryz.prog 112 #[.pointer (some ⟨q, 0, none⟩), .pointer (some ⟨p, 0, none⟩), .int .i64 t] w fun e w' => e = .returned (.tuple #[]) /\ ObjStep (CW q (putC c t) p (L ++ putB c t)) S w w' := by
 unfold putC putB
 by_cases hb : c.begun = false
 ·rw [if_pos hb, if_pos hb]
  exact refPut_first S q p c L t w h hb hL
 ·rw [if_neg hb, if_neg hb]
  exact refPut_next S q p c L t _ _ w h (by simpa using hb) hL rfl rfl
end Tm
end
section
open Go.RowKit Go.Sort
namespace Tm
open Bit Dsk Ob
abbrev R1 (p : Nat) (K : List Bool) : Ob.Rel := fun w S => IsRR w S p K
theorem r1Get {S : Nat -> Prop} {w0 w : World} {p : Nat} {K K' : List Bool} {x : Nat} (H : ObjStep (R1 p K) S w0 w) (m : Nat) (hm : m <= 64) (hle : m <= K.length) (hx : numOf (K.take m) = x) (e : K.drop m = K') :
  Calls Tryz.prog 157 #[.pointer (some ⟨p, 0, none⟩), .int .i64 (m : Int)] w fun e w' => e = .returned (.tuple #[.int .u64 (x : Int), .bool true]) /\ ObjStep (R1 p K') S w0 w' := by
 subst e; subst hx
 exact callW (Q := fun e => e = .returned (.tuple #[.int .u64 (numOf (K.take m) : Int), .bool true])) H fun A h => refGet_ok A p K m w h hm hle
theorem r1No {S : Nat -> Prop} {w0 w : World} {p : Nat} {K : List Bool} (H : ObjStep (R1 p K) S w0 w) (m : Nat) (hle : K.length < m) :
  Calls Tryz.prog 157 #[.pointer (some ⟨p, 0, none⟩), .int .i64 (m : Int)] w fun e w' => e = .returned (.tuple #[.int .u64 0, .bool false]) /\ ObjStep (R1 p K) S w0 w' := by
 obtain ⟨A, h⟩ := seeW H
 refine (refGet_no A p K m w h (by omega)).mono ?_
 rintro e w' ⟨he, rfl⟩
 exact ⟨he, H⟩
def Cg (p : Nat) (K : List Bool) (S : Nat -> Prop) (w : World) (o : Option (Nat × List Bool)) (e : Ending) (w' : World) : Prop :=
 match o with
 | some (k, R) => if sz k <= R.length then e = .returned (.tuple #[.int .i64 (num k (R.take (sz k))), .bool true]) /\ ObjStep (R1 p (R.drop (sz k))) S w w' else (∃ x : Int, e = .returned (.tuple #[.int .i64 x, .bool false])) /\ ∃ K', ObjStep (R1 p K') S w w'
 | none => (∃ x : Int, e = .returned (.tuple #[.int .i64 x, .bool false])) /\ ∃ K', ObjStep (R1 p K') S w w'
theorem Cg.off {p : Nat} {K K' : List Bool} {S : Nat -> Prop} {w w' : World} {o : Option (Nat × List Bool)} {x : Int} (ho : o = none) (h : ObjStep (R1 p K') S w w') : Cg p K S w o (.returned (.tuple #[.int .i64 x, .bool false])) w' := by
 subst ho; exact ⟨⟨x, rfl⟩, K', h⟩
theorem Cg.short {p k : Nat} {K K' R : List Bool} {S : Nat -> Prop} {w w' : World} {o : Option (Nat × List Bool)} {x : Int} (ho : o = some (k, R)) (hs : ¬ sz k <= R.length) (h : ObjStep (R1 p K') S w w') : Cg p K S w o (.returned (.tuple #[.int .i64 x, .bool false])) w' := by
 subst ho; unfold Cg; simp only; rw [if_neg hs]; exact ⟨⟨x, rfl⟩, K', h⟩
theorem Cg.yes {p k : Nat} {K R : List Bool} {S : Nat -> Prop} {w w' : World} {o : Option (Nat × List Bool)} {x : Int} (ho : o = some (k, R)) (hs : sz k <= R.length) (hx : x = num k (R.take (sz k))) (h : ObjStep (R1 p (R.drop (sz k))) S w w') : Cg p K S w o (.returned (.tuple #[.int .i64 x, .bool true])) w' := by
 subst ho; unfold Cg; simp only; rw [if_pos hs, hx]; exact ⟨rfl, h⟩
def Ld (K : List Bool) (j : Nat) (K' : List Bool) : Prop := j <= 4 /\ lead1 4 K = match lead1 (4 - j) K' with | none => none | some (k, R) => some (k + j, R)
theorem Ld.start (K : List Bool) : Ld K 0 K := ⟨by decide, by cases h : lead1 4 K with | none => simp | some y => obtain ⟨k, R⟩ := y; simp⟩
theorem Ld.none {K K' : List Bool} {j : Nat} (h : Ld K j K') (hj : j < 4) (he : K' = []) : lead1 4 K = none := by
 obtain ⟨m, hm⟩ : ∃ m, 4 - j = m + 1 := ⟨3 - j, by omega⟩
 rw [h.2, he, hm]
 rfl
theorem Ld.zero {K R : List Bool} {j : Nat} (h : Ld K j (false :: R)) (hj : j < 4) : lead1 4 K = some (j, R) := by
 obtain ⟨m, hm⟩ : ∃ m, 4 - j = m + 1 := ⟨3 - j, by omega⟩
 rw [h.2, hm]
 simp [lead1]
theorem Ld.one {K R : List Bool} {j : Nat} (h : Ld K j (true :: R)) (hj : j < 4) : Ld K (j + 1) R := by
 refine ⟨by omega, ?_⟩
 obtain ⟨m, hm⟩ : ∃ m, 4 - j = m + 1 := ⟨3 - j, by omega⟩
 have hm2 : 4 - (j + 1) = m := by omega
 rw [h.2, hm, hm2, lead1]
 cases lead1 m R with
 | none => rfl
 | some y => obtain ⟨k, Q⟩ := y; simp; omega
theorem Ld.done {K K' : List Bool} (h : Ld K 4 K') : lead1 4 K = some (4, K') := by rw [h.2]; simp [lead1]
set_option maxRecDepth 100000 in
set_option maxHeartbeats 3200000 in
theorem change_any (S : Nat -> Prop) (p : Nat) (K : List Bool) (w : World) (h : R1 p K w S) :
  Calls Tryz.prog 158 #[.pointer (some ⟨p, 0, none⟩)] w (Cg p K S w (lead1 4 K)) := by
 have H := Lib.hid (ObjStep.refl (I := R1 p K) h)
 clear h
 obtain ⟨o, ho⟩ : ∃ o, lead1 4 K = o := ⟨_, rfl⟩
 rw [ho]
 replace ho := Lib.hid ho
 go_enter Tryz.func158, Tryz.ntmps158
 go_upto_block 0 with fail
 go_cut [4] (fun ov wr => ∃ (k : Nat) (R : List Bool), k <= 4 /\ ov = .int .i64 (k : Int) /\ Hid (o = some (k, R)) /\ ObjStep (R1 p R) S w wr)
 case first =>
  go_wp2_with fail
  go_loopw [4] (fun ov wr => ∃ (j : Nat) (K' : List Bool), ov = .int .i64 (j : Int) /\ Hid (Ld K j K') /\ ObjStep (R1 p K') S w wr) (fun ov _ => 4 - (intOf ov).toNat)
  case atStart => exact ⟨0, K, rfl, Lib.hid (Ld.start K), H.out⟩
  case round =>
   obtain ⟨j, K', rfl, hl, hst⟩ := hrel
   have hj4 := hl.out.1
   by_cases hlt : j < 4
   ·match K', hl, hst with
    | [], hl, hst =>
     have hon : Hid (o = none) := Lib.hid (ho.out.symm.trans (hl.out.none hlt rfl))
     have HG := Lib.hid (r1No hst 1 (by simp))
     clear hst H
     go_wp2_with fail
     refine HG.out.mono ?_
     rintro e w2 ⟨rfl, h2⟩
     replace h2 := Lib.hid h2
     clear HG
     go_wp2_with fail
     go_ret2
     exact Cg.off hon.out h2.out
    | false :: R, hl, hst =>
     have hon : Hid (o = some (j, R)) := Lib.hid (ho.out.symm.trans (hl.out.zero hlt))
     have HG := Lib.hid (r1Get (x := 0) (K' := R) hst 1 (by omega) (by simp) (by rfl) (by rfl))
     clear hst H
     go_wp2_with fail
     refine HG.out.mono ?_
     rintro e w2 ⟨rfl, h2⟩
     replace h2 := Lib.hid h2
     clear HG
     go_wp2_with fail
     go_meet
     exact ⟨j, R, hj4, rfl, hon, h2.out⟩
    | true :: R, hl, hst =>
     have HG := Lib.hid (r1Get (x := 1) (K' := R) hst 1 (by omega) (by simp) (by rfl) (by rfl))
     clear hst H
     go_wp2_with fail
     refine HG.out.mono ?_
     rintro e w2 ⟨rfl, h2⟩
     replace h2 := Lib.hid h2
     clear HG
     go_wp2_with fail
     go_roundw
     case rel => exact ⟨j + 1, R, by go_num, Lib.hid (hl.out.one hlt), h2.out⟩
     case measure => simp [intOf]; omega
   ·obtain rfl : j = 4 := by omega
    have hon : Hid (o = some (4, K')) := Lib.hid (ho.out.symm.trans hl.out.done)
    clear H
    go_wp2_with fail
    go_meet
    exact ⟨4, K', by decide, rfl, hon, hst⟩
 case rest =>
  obtain ⟨k, R, hk, rfl, hon, hst⟩ := hcut
  clear H ho
  have hst2 := Lib.hid (fun w2 (hu : New0 wc w2) => hst.upon0 (I := R1 p R) (objRR p R) hu)
  have hal : Hid (∀ o1 o2, New0 wc ((wc.alloc o1).alloc o2)) := Lib.hid fun o1 o2 => ((Upon.refl _ wc).alloc o1).alloc o2
  clear hst
  by_cases hs : sz k <= R.length
  ·obtain ⟨X, hX⟩ : ∃ X, numOf (R.take (sz k)) = X := ⟨_, rfl⟩
   have hXl : X < 18446744073709551616 := by
    have h1 := numOf_lt (R.take (sz k))
    rw [List.length_take, Nat.min_eq_left hs, hX] at h1
    have h2 : 2 ^ sz k <= 2 ^ 64 := Nat.pow_le_pow_right (by decide) (by rcases five hk with rfl | rfl | rfl | rfl | rfl <;> decide)
    omega
   have hn : Hid (num k (R.take (sz k)) = wr (wr (X : Int) - ls k)) := Lib.hid (by unfold num; rw [hX])
   have i1 : IntKind.i64.wrap (X : Int) = wr (X : Int) := i64_wr _
   have i2 : IntKind.i64.wrap (wr (X : Int) - ls k) = wr (wr (X : Int) - ls k) := i64_wr _
   have HG := Lib.hid (fun w2 (hu : New0 wc w2) => r1Get (x := X) (K' := R.drop (sz k)) (hst2.out w2 hu) (sz k) (by rcases five hk with rfl | rfl | rfl | rfl | rfl <;> decide) hs hX rfl)
   replace hs := Lib.hid hs
   clear hst2 hX
   have hy := wr_in (X : Int)
   generalize wr (X : Int) = Y at *
   rcases five hk with rfl | rfl | rfl | rfl | rfl
   all_goals
    simp only [ls, Int.sub_zero] at i2
    simp only [sz] at HG
    go_wp2_with fail
    refine (HG.out _ (hal.out _ _)).mono ?_
    rintro e w2 ⟨rfl, h2⟩
    replace h2 := Lib.hid h2
    clear HG hal
    go_wp2_with fail
    go_ret2
    refine Cg.yes hon.out hs.out ?_ h2.out
    rw [hn.out]
    first | rfl | (simp only [ls, Int.sub_zero])
  ·have HG := Lib.hid (fun w2 (hu : New0 wc w2) => r1No (hst2.out w2 hu) (sz k) (by omega))
   replace hs := Lib.hid hs
   clear hst2
   rcases five hk with rfl | rfl | rfl | rfl | rfl
   all_goals
    simp only [sz] at HG
    go_wp2_with fail
    refine (HG.out _ (hal.out _ _)).mono ?_
    rintro e w2 ⟨rfl, h2⟩
    replace h2 := Lib.hid h2
    clear HG hal
    go_wp2_with fail
    go_ret2
    exact Cg.short hon.out hs.out h2.out
end Tm
end
section
open Go.RowKit Go.Sort
namespace Tm
open Bit Dsk Ob
abbrev CR (q : Nat) (c : Cd) (p : Nat) (K : List Bool) : Ob.Rel := Tens (IsRC q c) (R1 p K)
theorem thingCR (q : Nat) (c : Cd) (p : Nat) (K : List Bool) : Thing (CR q c p K) := Tens.ob (objRC q c) (objRR p K)
theorem crCells {J : Ob.Rel} {S : Nat -> Prop} {w0 w : World} {q p : Nat} {c : Cd} {K : List Bool} (H : ObjStep (Tens (CR q c p K) J) S w0 w) :
  w.cell? ⟨q, 0, none⟩ = some (.bool c.begun) /\ w.cell? ⟨q, 1, none⟩ = some (.int .i64 c.t) /\ w.cell? ⟨q, 2, none⟩ = some (.int .i64 c.d) := by
 obtain ⟨A, h⟩ := seeL H
 obtain ⟨_, _, h1, _⟩ := h
 obtain ⟨h0, h1, h2, -⟩ := rc3 h1.1
 exact ⟨h0, h1, h2⟩
theorem copy_view {w : World} {B : Nat -> Prop} {rv : Value} {K : List Bool} (hview : ViewAt w B rv K) (hlt : ∀ b, B b -> b < w.heap.size) (hK : K.length <= 1000000) :
  ∀ (ops : Array Oper) (rest : List Oper) (o : Oper) (a : Act) (Q : Exit -> Act -> World -> Prop) (s x : Operand), o.guard = none -> o.op = .call { callee := .builtin .append, args := #[s, x], argTypes := #[200, 200] } -> a.eval s = .slice (some ⟨w.heap.size, 0, none⟩) 0 0 -> a.eval x = rv ->
   (∀ v' w', w'.ownsRow 0 4 1 v' K.length (boolCells K) -> (∀ b, v'.ownBlock = some b -> w.heap.size <= b) -> Upon (fun _ => False) w w' -> wpList Tryz.prog ops Q rest (a.put o.dst v') w') -> wpList Tryz.prog ops Q (o :: rest) a (w.alloc (.cells #[] 4 (0, 0))) := by
 obtain ⟨i0, hi, hz0, hz1, hz2⟩ := info_parts infoBl
 have hnew := cell_new w (.cells #[] 4 (0, 0))
 intro ops rest o a Q s x hgd ho hs hx hK'
 by_cases h0 : K = []
 ·subst h0
  have hx2 : ∃ ga c2, a.eval x = .slice ga 0 c2 := by
   rcases hview with ⟨e, _⟩ | ⟨g, off, cap, e, _⟩
   ·exact ⟨none, 0, hx.trans e⟩
   ·exact ⟨_, cap, hx.trans e⟩
  obtain ⟨ga, c2, hx2⟩ := hx2
  exact wpList_append_none hgd s x 200 ho 4 i0 Tryz.underlying200 hi _ 0 0 hs (Nat.le_refl _) ga c2 hx2 (hK' _ _ (own_b hnew) (fun b hb => by cases hb; exact Nat.le_refl _) ((Upon.refl _ w).alloc _))
 ·rcases hview with ⟨_, e⟩ | ⟨g, off, cap, e, h1, h2, h3, h4⟩
  ·exact absurd e h0
  ·have hKp : 0 < K.length := Nat.pos_of_ne_zero fun e => h0 (List.length_eq_zero_iff.1 e)
   refine wpList_append_lies _ hgd s x 200 ho 0 4 i0 (.bool false) 1 1 Tryz.underlying200 hi hz0 hz1 hz2 rfl (by decide) _ 0 [] hs (own_b hnew) ⟨g, off, none⟩ K.length cap (boolCells K) (hx.trans e) (by simp) ?_ ?_ hKp (by unfold maxLen; omega) (by omega) (Nat.zero_le _) _ rfl ?_
   ·intro j u hu
    have hj : j < K.length := by have := (List.getElem?_eq_some_iff.1 hu).1; simpa using this
    have hu2 : u = .bool K[j] := by simp [boolCells, hj] at hu; exact hu.symm
    have ea : (⟨g, off, none⟩ : Addr).add j = ⟨g, off + j, none⟩ := by unfold Addr.add; split <;> simp_all
    rw [ea, hu2]
    exact (World.cell?_alloc_lt w _ ⟨g, off + j, none⟩ (hlt g h3)).trans (h4 j hj)
   ·intro u hu
    obtain ⟨b, _, rfl⟩ := List.mem_map.1 hu
    rfl
   ·intro g2 cap2 w2 hown hgrow hat hlt
    rw [Nat.zero_add, List.nil_append] at hown
    rw [Nat.zero_add]
    refine hK' _ _ hown (fun b hb => ?_) (((Upon.refl _ w).alloc _).grown hgrow fun k hk => .inr (by have : w.heap.size = k := Option.some.inj hk; omega))
    have e2 : g2 = b := Option.some.inj hb
    rcases hat with e | e
    ·have : w.heap.size = g2 := Option.some.inj e
     omega
    ·rw [e] at e2; simp at e2; omega
def Gt (q : Nat) (c : Cd) (p : Nat) (K : List Bool) (S : Nat -> Prop) (w : World) (o : Option (Int × Nat)) (e : Ending) (w' : World) : Prop :=
 match o with
 | some (v, n) => e = .returned (.tuple #[.int .i64 v, .bool true]) /\ Fall (CR q (putC c v) p (K.drop n)) S w w'
 | none => e = .returned (.tuple #[.int .i64 0, .bool false]) /\ ∃ c' K', Fall (CR q c' p K') S w w'
theorem cjGet {J : Ob.Rel} (hJ : Thing J) {S : Nat -> Prop} {w0 w : World} {q p : Nat} {c : Cd} {K K' : List Bool} {x : Nat} (H : ObjStep (Tens (CR q c p K) J) S w0 w) (m : Nat) (hm : m <= 64) (hle : m <= K.length) (hx : numOf (K.take m) = x) (e : K.drop m = K') :
  Calls Tryz.prog 157 #[.pointer (some ⟨p, 0, none⟩), .int .i64 (m : Int)] w fun e w' => e = .returned (.tuple #[.int .u64 (x : Int), .bool true]) /\ ObjStep (Tens (CR q c p K') J) S w0 w' := by
 subst e; subst hx
 exact callL (Q := fun e => e = .returned (.tuple #[.int .u64 (numOf (K.take m) : Int), .bool true])) hJ H fun T hT => callR (Q := fun e => e = .returned (.tuple #[.int .u64 (numOf (K.take m) : Int), .bool true])) (objRC q c) (ObjStep.refl hT) fun A h => refGet_ok A p K m w h hm hle
theorem cjNo {J : Ob.Rel} {S : Nat -> Prop} {w0 w : World} {q p : Nat} {c : Cd} {K : List Bool} (H : ObjStep (Tens (CR q c p K) J) S w0 w) (m : Nat) (hle : K.length < m) :
  Calls Tryz.prog 157 #[.pointer (some ⟨p, 0, none⟩), .int .i64 (m : Int)] w fun e w' => e = .returned (.tuple #[.int .u64 0, .bool false]) /\ ObjStep (Tens (CR q c p K) J) S w0 w' := by
 obtain ⟨A, h⟩ := seeL H
 obtain ⟨_, B, _, h2, _⟩ := h
 refine (refGet_no B p K m w h2 (by omega)).mono ?_
 rintro e w' ⟨he, rfl⟩
 exact ⟨he, H⟩
theorem cjChange {J : Ob.Rel} (hJ : Thing J) {S : Nat -> Prop} {w0 w : World} {q p k : Nat} {c : Cd} {K R : List Bool} (H : ObjStep (Tens (CR q c p K) J) S w0 w) (hl : lead1 4 K = some (k, R)) (hs : sz k <= R.length) :
  Calls Tryz.prog 158 #[.pointer (some ⟨p, 0, none⟩)] w fun e w' => e = .returned (.tuple #[.int .i64 (num k (R.take (sz k))), .bool true]) /\ ObjStep (Tens (CR q c p (R.drop (sz k))) J) S w0 w' :=
 callL (Q := fun e => e = .returned (.tuple #[.int .i64 (num k (R.take (sz k))), .bool true])) hJ H fun T hT => callR (Q := fun e => e = .returned (.tuple #[.int .i64 (num k (R.take (sz k))), .bool true])) (objRC q c) (ObjStep.refl hT) fun A h => by
  have := change_any A p K w h
  rw [hl] at this
  refine this.mono fun e w' hc => ?_
  unfold Cg at hc
  simp only at hc
  rw [if_pos hs] at hc
  exact hc
theorem cjChangeNo {J : Ob.Rel} (hJ : Thing J) {S : Nat -> Prop} {w0 w : World} {q p : Nat} {c : Cd} {K : List Bool} (H : ObjStep (Tens (CR q c p K) J) S w0 w) (hno : lead1 4 K = none \/ ∃ k R, lead1 4 K = some (k, R) /\ ¬ sz k <= R.length) :
  Calls Tryz.prog 158 #[.pointer (some ⟨p, 0, none⟩)] w fun e w' => (∃ x : Int, e = .returned (.tuple #[.int .i64 x, .bool false])) /\ ObjStep (Tens (Tens (IsRC q c) (fun w S => ∃ K', R1 p K' w S)) J) S w0 w' :=
 callL (Q := fun e => ∃ x : Int, e = .returned (.tuple #[.int .i64 x, .bool false])) hJ H fun T hT => callR (Q := fun e => ∃ x : Int, e = .returned (.tuple #[.int .i64 x, .bool false])) (objRC q c) (ObjStep.refl hT) fun A h => by
  have := change_any A p K w h
  refine this.mono fun e w' hc => ?_
  have hc2 : (∃ x : Int, e = .returned (.tuple #[.int .i64 x, .bool false])) /\ ∃ K', ObjStep (R1 p K') A w w' := by
   rcases hno with hl | ⟨k, R, hl, hs⟩
   ·rw [hl] at hc; exact hc
   ·rw [hl] at hc
    unfold Cg at hc
    simp only at hc
    rw [if_neg hs] at hc
    exact hc
  obtain ⟨h1, K', h2⟩ := hc2
  exact ⟨h1, h2.mono fun _ h => ⟨K', h⟩⟩
theorem fall_no {J : Ob.Rel} {S : Nat -> Prop} {w w' : World} {q p : Nat} {c : Cd} (h : ObjStep (Tens (Tens (IsRC q c) (fun w S => ∃ K', R1 p K' w S)) J) S w w') : ∃ c' K', Fall (CR q c' p K') S w w' := by
 obtain ⟨⟨S', ⟨A', B', ⟨A2, B2, h1, ⟨K', h2⟩, h3, h4⟩, h7, h5, h6⟩, h8, h9⟩, hu⟩ := h
 exact ⟨c, K', ⟨A', ⟨A2, B2, h1, h2, h3, h4⟩, fun b hb => h9 b ((h6 b).2 (.inl hb))⟩, hu⟩
theorem toNo {J : Ob.Rel} {S : Nat -> Prop} {w w' : World} {q p : Nat} {c : Cd} {K : List Bool} (h : ObjStep (Tens (CR q c p K) J) S w w') : ObjStep (Tens (Tens (IsRC q c) (fun w S => ∃ K', R1 p K' w S)) J) S w w' :=
 h.mono fun _ h => Tens.mapL (fun _ k => Tens.mapR (fun _ j => ⟨K, j⟩) k) h
theorem Gt.yes {q : Nat} {c : Cd} {p : Nat} {K : List Bool} {S : Nat -> Prop} {w w' : World} {o : Option (Int × Nat)} {e : Ending} {v : Int} {n : Nat} (ho : o = some (v, n)) (he : e = .returned (.tuple #[.int .i64 v, .bool true])) (h : Fall (CR q (putC c v) p (K.drop n)) S w w') : Gt q c p K S w o e w' := by
 subst ho; exact ⟨he, h⟩
theorem Gt.no {q : Nat} {c : Cd} {p : Nat} {K : List Bool} {S : Nat -> Prop} {w w' : World} {o : Option (Int × Nat)} {e : Ending} (ho : o = none) (he : e = .returned (.tuple #[.int .i64 0, .bool false])) (h : ∃ c' K', Fall (CR q c' p K') S w w') : Gt q c p K S w o e w' := by
 subst ho; exact ⟨he, h⟩
set_option maxRecDepth 100000 in
set_option maxHeartbeats 6400000 in
theorem refGetP_any (S : Nat -> Prop) (q p : Nat) (c : Cd) (K : List Bool) (w : World) (h : CR q c p K w S) (hok : c.Ok) (hK : K.length <= 1000000) :
  Calls Tryz.prog 109 #[.pointer (some ⟨q, 0, none⟩), .pointer (some ⟨p, 0, none⟩)] w (Gt q c p K S w (getR c K)) := by
 obtain ⟨A, B, hC, hRR, hdis, hiff⟩ := h
 obtain ⟨rv, hr⟩ := hRR
 have k0 : w.cell? ⟨p, 0, none⟩ = some rv := by rw [Lib.cell_of_heap hr.cell]; rfl
 have hpl : p < w.heap.size := hr.lt p hr.s_q
 have k0' : (w.alloc (.cells #[] 4 (0, 0))).cell? ⟨p, 0, none⟩ = some rv := (World.cell?_alloc_lt w _ ⟨p, 0, none⟩ hpl).trans k0
 have hcopy := Lib.hid (copy_view hr.view hr.lt hK)
 have H : CR q c p K w S := ⟨A, B, hC, ⟨rv, hr⟩, hdis, hiff⟩
 replace H := Lib.hid H
 obtain ⟨o, ho⟩ : ∃ o, getR c K = o := ⟨_, rfl⟩
 rw [ho]
 clear hr hC hdis hiff k0
 go_enter Tryz.func109, Tryz.ntmps109
 go_wp2_with (at_builtin; refine hcopy.out _ _ _ _ _ _ _ rfl rfl rfl rfl ?_)
 intro v' w1 hrow hvb hup
 clear hcopy k0'
 have H1 : ObjStep (Tens (CR q c p K) (IsRow v' K)) S w w1 := Tens.new (thingCR q c p K) H.out (T := fun x => v'.ownBlock = some x) ⟨hrow, fun x => Iff.rfl⟩ hvb hup
 obtain ⟨ag, ac, aA, rfl, a1, a2, a3, -⟩ := rowCells hrow
 unfold maxLen at a2
 obtain ⟨k0, k1, k2⟩ := crCells H1
 clear hrow hvb hup H
 replace ho := Lib.hid ho
 by_cases hb : c.begun = false
 ·rw [hb] at k0
  by_cases hl : 64 <= K.length
  ·have hg : guess c K = some (wr (numOf (K.take 64) : Int), 64) := by unfold guess; rw [if_pos hb, if_pos hl]
   have er : Hid (o = if putB c (wr (numOf (K.take 64) : Int)) = K.take 64 then some (wr (numOf (K.take 64) : Int), 64) else none) := Lib.hid (by rw [<- ho.out]; unfold getR; rw [hg])
   have hn : Hid (64 <= K.length) := Lib.hid hl
   obtain ⟨X, hX⟩ : ∃ X, numOf (K.take 64) = X := ⟨_, rfl⟩
   have HG := Lib.hid (cjGet (objRow _ _) H1 64 (by omega) hl hX rfl)
   have i1 : IntKind.i64.wrap (X : Int) = wr (X : Int) := i64_wr _
   rw [hX] at er
   clear H1 hg hl hX ho
   obtain ⟨v, hv⟩ : ∃ v, wr (X : Int) = v := ⟨_, rfl⟩
   rw [hv] at i1 er
   clear hv
   obtain ⟨n, hnn⟩ : ∃ n, n = 64 := ⟨_, rfl⟩
   rw [<- hnn] at er hn
   rw [show (K.drop 64) = K.drop n by rw [hnn]] at HG
   clear hnn
   go_wp2_with fail
   refine HG.out.mono ?_
   rintro e w2 ⟨rfl, h2⟩
   clear HG
   go_wp2_with fail
   have h3 : Hid (ObjStep (Tens (CW q c w2.heap.size []) (Tens (fun w S => IsRR w S p (K.drop n)) (IsRow (.slice aA K.length ac) K))) S w (w2.alloc (.cells #[.slice none 0 0] 204 (0, 0)))) := Lib.hid (by
    obtain ⟨T, h4, go⟩ := h2.get
    refine go _ _ ((Tens.new (Tens.ob (thingCR q c p _) (objRow _ _)) h4 (newRW w2) (fun b hb => by rw [hb]; exact Nat.le_refl _) ((Upon.refl _ w2).alloc _)).mono fun _ => perm4))
   have HP := Lib.hid (callL (Q := fun e => e = .returned (.tuple #[])) (Tens.ob (objRR _ _) (objRow _ _)) h3.out fun T hT => refPut_any T q w2.heap.size c [] v _ hT (by simp))
   clear h2 h3
   go_wp2_with fail
   refine HP.out.mono ?_
   rintro e w4 ⟨rfl, h4⟩
   clear HP
   rw [List.nil_append] at h4
   generalize w2.heap.size = p2 at *
   obtain ⟨M, hM⟩ : ∃ M, M = putB c v := ⟨_, rfl⟩
   have hMl : M.length <= 68 := by rw [hM]; exact putB_len v
   rw [<- hM] at h4 er
   clear hM
   have hthing : Thing (Tens (CW q (putC c v) p2 M) (Tens (fun w S => IsRR w S p (K.drop n)) (IsRow (.slice aA K.length ac) K))) := Tens.ob (thingCW _ _ _ _) (Tens.ob (objRR _ _) (objRow _ _))
   have hfall : Hid (∀ w5, Upon (fun _ => False) w4 w5 -> Fall (CR q (putC c v) p (K.drop n)) S w w5) := Lib.hid fun w5 k => fall_four (h4.upon0 hthing k)
   obtain ⟨T4, X, Y, ⟨-, B4, -, ⟨wv, hw⟩, -⟩, ⟨C4, D4, ⟨rv2, hr2⟩, ⟨hrow, -⟩, -⟩, -⟩ := seeW h4
   have kw : w4.cell? ⟨p2, 0, none⟩ = some wv := by rw [Lib.cell_of_heap hw.cell]; rfl
   have kr : w4.cell? ⟨p, 0, none⟩ = some rv2 := by rw [Lib.cell_of_heap hr2.cell]; rfl
   obtain ⟨rA, rc, rfl⟩ := viewShape hr2.view
   obtain ⟨wg, wc, wA, rfl, b1, b2, b3, b4⟩ := rowCells hw.row
   obtain ⟨g5, c5, A5, e5, m1, m2, m3, m4⟩ := rowCells hrow
   injection e5 with e5a e5b e5c
   subst e5a e5c
   unfold maxLen at b2
   have hdl : (K.drop n).length + n = K.length := by rw [List.length_drop]; have := hn.out; omega
   generalize (K.drop n).length = dl at *
   have B3 := Lib.hid b3
   have B4 := Lib.hid b4
   have M3 := Lib.hid m3
   have M4 := Lib.hid m4
   have s1 : IntKind.i64.wrap ((K.length : Int) - (dl : Int)) = (n : Int) := by rw [IntKind.wrap_i64]; omega
   have s2 : ((K.length : Int) - (dl : Int)) = (n : Int) := by omega
   clear hw hr2 hrow h4 hthing b3 b4 m3 m4 a3 hdl m2
   by_cases hMn : M.length = n
   ·subst hMn
    go_wp2_with fail
    go_quiet (fail)
    go_wp2_with fail
    go_loopw [13] (fun i wr => ∃ j k : Nat, j <= M.length /\ i = .int .i64 (j : Int) /\ M.take j = K.take j /\ wr = w4.drewN k) (fun i _ => M.length - (intOf i).toNat)
    case atStart => exact ⟨0, nq, Nat.zero_le _, rfl, rfl, rfl⟩
    case round =>
     obtain ⟨j, k, hj, rfl, hpre, rfl⟩ := hrel
     replace hpre := Lib.hid hpre
     by_cases hlt : j < M.length
     ·have hlk : j < K.length := Nat.lt_of_lt_of_le hlt hn.out
      obtain rfl := B3.out (by omega)
      obtain rfl := M3.out (by omega)
      have y1 := B4.out j hlt
      have y2 := M4.out j hlk
      have hnx := Lib.hid (fun h : M[j] = K[j] => show M.take (j + 1) = K.take (j + 1) by rw [List.take_succ_eq_append_getElem hlt, List.take_succ_eq_append_getElem hlk, hpre.out, h])
      have hne := Lib.hid (fun h : M[j] ≠ K[j] => show M ≠ K.take M.length from fun e => h (by
       have := congrArg (fun l => l[j]?) e
       simp only [List.getElem?_take, hlt, if_true, List.getElem?_eq_getElem hlt, List.getElem?_eq_getElem hlk] at this
       exact Option.some.inj this))
      generalize M[j] = u1 at *
      generalize K[j] = u2 at *
      cases u1 <;> cases u2
      ·go_wp2_with fail
       go_quiet (fail)
       go_wp2
       refine ⟨⟨j + 1, k + nq, by omega, by push_cast; rfl, hnx.out (by first | rfl | trivial), rfl⟩, ?_⟩
       simp only [intOf]; omega
      ·go_wp2_with fail
       go_quiet (fail)
       go_wp2
       go_ret2
       exact Gt.no (er.out.trans (if_neg (hne.out (by decide)))) rfl ⟨_, _, hfall.out _ ((upon_drewN _ w4 k).trans (upon_drewN _ _ nq))⟩
      ·go_wp2_with fail
       go_quiet (fail)
       go_wp2
       go_ret2
       exact Gt.no (er.out.trans (if_neg (hne.out (by decide)))) rfl ⟨_, _, hfall.out _ ((upon_drewN _ w4 k).trans (upon_drewN _ _ nq))⟩
      ·go_wp2_with fail
       go_quiet (fail)
       go_wp2
       refine ⟨⟨j + 1, k + nq, by omega, by push_cast; rfl, hnx.out (by first | rfl | trivial), rfl⟩, ?_⟩
       simp only [intOf]; omega
     ·have : j = M.length := by omega
      subst this
      go_wp2_with fail
      go_ret2
      exact Gt.yes (er.out.trans (if_pos (by have := hpre.out; rwa [List.take_length] at this))) rfl (hfall.out _ (upon_drewN _ _ _))
   ·have d1 : decide ((M.length : Int) = (n : Int)) = false := by simp; omega
    go_wp2_with fail
    go_quiet (fail)
    go_wp2_with fail
    go_ret2
    exact Gt.no (er.out.trans (if_neg (by intro e; apply hMn; rw [e, List.length_take]; have := hn.out; omega))) rfl ⟨_, _, hfall.out _ (upon_drewN _ _ _)⟩
  ·have hk : Hid (o = none) := Lib.hid (by rw [<- ho.out]; unfold getR guess; rw [if_pos hb, if_neg hl])
   have HG := Lib.hid (cjNo H1 64 (by omega))
   clear H1 ho
   go_wp2_with fail
   refine HG.out.mono ?_
   rintro e w2 ⟨rfl, h2⟩
   replace h2 := Lib.hid (fall_no (toNo h2))
   clear HG
   go_wp2_with fail
   go_ret2
   exact Gt.no hk.out rfl h2.out
 ·have hb' : c.begun = true := by simpa using hb
  rw [hb'] at k0
  by_cases hyes : ∃ k R, lead1 4 K = some (k, R) /\ sz k <= R.length
  ·obtain ⟨k, R, hl, hs⟩ := hyes
   have hg : guess c K = some (tim c (num k (R.take (sz k))), (hd k).length + sz k) := by unfold guess; rw [if_neg hb, hl]; simp only; rw [if_pos hs]
   have hle := guess_le hg
   have hKd : R.drop (sz k) = K.drop ((hd k).length + sz k) := by
    rw [(lead1_is hl).2, List.drop_append]
    simp
   have er : Hid (o = if putB c (tim c (num k (R.take (sz k)))) = K.take ((hd k).length + sz k) then some (tim c (num k (R.take (sz k))), (hd k).length + sz k) else none) := Lib.hid (by rw [<- ho.out]; unfold getR; rw [hg])
   have HG := Lib.hid (cjChange (objRow _ _) H1 hl hs)
   rw [hKd] at HG
   generalize num k (R.take (sz k)) = x at *
   generalize (hd k).length + sz k = n at *
   have hn : Hid (n <= K.length) := Lib.hid hle
   have i1 : IntKind.i64.wrap (c.t + c.d) = wr (c.t + c.d) := i64_wr _
   have i2 : IntKind.i64.wrap (wr (c.t + c.d) + x) = tim c x := i64_wr _
   generalize wr (c.t + c.d) = td at *
   generalize tim c x = v at *
   clear H1 hg hl hs hKd ho hle hb hb' k1 k2
   go_wp2_with fail
   refine HG.out.mono ?_
   rintro e w2' ⟨rfl, h2'⟩
   obtain ⟨-, k1, k2⟩ := crCells h2'
   have h2n := Lib.hid (fun k => h2'.upon0 (Tens.ob (thingCR q c p _) (objRow _ _)) (upon_drewN _ w2' k))
   clear HG h2'
   go_wp2_with fail
   go_quiet (fail)
   have h2 := h2n.out nq
   clear h2n k1 k2 i1 i2
   generalize w2'.drewN nq = w2 at *
   go_wp2_with fail
   have h3 : Hid (ObjStep (Tens (CW q c w2.heap.size []) (Tens (fun w S => IsRR w S p (K.drop n)) (IsRow (.slice aA K.length ac) K))) S w (w2.alloc (.cells #[.slice none 0 0] 204 (0, 0)))) := Lib.hid (by
    obtain ⟨T, h4, go⟩ := h2.get
    refine go _ _ ((Tens.new (Tens.ob (thingCR q c p _) (objRow _ _)) h4 (newRW w2) (fun b hb => by rw [hb]; exact Nat.le_refl _) ((Upon.refl _ w2).alloc _)).mono fun _ => perm4))
   have HP := Lib.hid (callL (Q := fun e => e = .returned (.tuple #[])) (Tens.ob (objRR _ _) (objRow _ _)) h3.out fun T hT => refPut_any T q w2.heap.size c [] v _ hT (by simp))
   clear h2 h3
   go_wp2_with fail
   refine HP.out.mono ?_
   rintro e w4 ⟨rfl, h4⟩
   clear HP
   rw [List.nil_append] at h4
   generalize w2.heap.size = p2 at *
   obtain ⟨M, hM⟩ : ∃ M, M = putB c v := ⟨_, rfl⟩
   have hMl : M.length <= 68 := by rw [hM]; exact putB_len v
   rw [<- hM] at h4 er
   clear hM
   have hthing : Thing (Tens (CW q (putC c v) p2 M) (Tens (fun w S => IsRR w S p (K.drop n)) (IsRow (.slice aA K.length ac) K))) := Tens.ob (thingCW _ _ _ _) (Tens.ob (objRR _ _) (objRow _ _))
   have hfall : Hid (∀ w5, Upon (fun _ => False) w4 w5 -> Fall (CR q (putC c v) p (K.drop n)) S w w5) := Lib.hid fun w5 k => fall_four (h4.upon0 hthing k)
   obtain ⟨T4, X, Y, ⟨-, B4, -, ⟨wv, hw⟩, -⟩, ⟨C4, D4, ⟨rv2, hr2⟩, ⟨hrow, -⟩, -⟩, -⟩ := seeW h4
   have kw : w4.cell? ⟨p2, 0, none⟩ = some wv := by rw [Lib.cell_of_heap hw.cell]; rfl
   have kr : w4.cell? ⟨p, 0, none⟩ = some rv2 := by rw [Lib.cell_of_heap hr2.cell]; rfl
   obtain ⟨rA, rc, rfl⟩ := viewShape hr2.view
   obtain ⟨wg, wc, wA, rfl, b1, b2, b3, b4⟩ := rowCells hw.row
   obtain ⟨g5, c5, A5, e5, m1, m2, m3, m4⟩ := rowCells hrow
   injection e5 with e5a e5b e5c
   subst e5a e5c
   unfold maxLen at b2
   have hdl : (K.drop n).length + n = K.length := by rw [List.length_drop]; have := hn.out; omega
   generalize (K.drop n).length = dl at *
   have B3 := Lib.hid b3
   have B4 := Lib.hid b4
   have M3 := Lib.hid m3
   have M4 := Lib.hid m4
   have s1 : IntKind.i64.wrap ((K.length : Int) - (dl : Int)) = (n : Int) := by rw [IntKind.wrap_i64]; omega
   have s2 : ((K.length : Int) - (dl : Int)) = (n : Int) := by omega
   clear hw hr2 hrow h4 hthing b3 b4 m3 m4 a3 hdl m2
   by_cases hMn : M.length = n
   ·subst hMn
    go_wp2_with fail
    go_quiet (fail)
    go_wp2_with fail
    go_loopw [13] (fun i wr => ∃ j k : Nat, j <= M.length /\ i = .int .i64 (j : Int) /\ M.take j = K.take j /\ wr = w4.drewN k) (fun i _ => M.length - (intOf i).toNat)
    case atStart => exact ⟨0, nq, Nat.zero_le _, rfl, rfl, rfl⟩
    case round =>
     obtain ⟨j, k, hj, rfl, hpre, rfl⟩ := hrel
     replace hpre := Lib.hid hpre
     by_cases hlt : j < M.length
     ·have hlk : j < K.length := Nat.lt_of_lt_of_le hlt hn.out
      obtain rfl := B3.out (by omega)
      obtain rfl := M3.out (by omega)
      have y1 := B4.out j hlt
      have y2 := M4.out j hlk
      have hnx := Lib.hid (fun h : M[j] = K[j] => show M.take (j + 1) = K.take (j + 1) by rw [List.take_succ_eq_append_getElem hlt, List.take_succ_eq_append_getElem hlk, hpre.out, h])
      have hne := Lib.hid (fun h : M[j] ≠ K[j] => show M ≠ K.take M.length from fun e => h (by
       have := congrArg (fun l => l[j]?) e
       simp only [List.getElem?_take, hlt, if_true, List.getElem?_eq_getElem hlt, List.getElem?_eq_getElem hlk] at this
       exact Option.some.inj this))
      generalize M[j] = u1 at *
      generalize K[j] = u2 at *
      cases u1 <;> cases u2
      ·go_wp2_with fail
       go_quiet (fail)
       go_wp2
       refine ⟨⟨j + 1, k + nq, by omega, by push_cast; rfl, hnx.out (by first | rfl | trivial), rfl⟩, ?_⟩
       simp only [intOf]; omega
      ·go_wp2_with fail
       go_quiet (fail)
       go_wp2
       go_ret2
       exact Gt.no (er.out.trans (if_neg (hne.out (by decide)))) rfl ⟨_, _, hfall.out _ ((upon_drewN _ w4 k).trans (upon_drewN _ _ nq))⟩
      ·go_wp2_with fail
       go_quiet (fail)
       go_wp2
       go_ret2
       exact Gt.no (er.out.trans (if_neg (hne.out (by decide)))) rfl ⟨_, _, hfall.out _ ((upon_drewN _ w4 k).trans (upon_drewN _ _ nq))⟩
      ·go_wp2_with fail
       go_quiet (fail)
       go_wp2
       refine ⟨⟨j + 1, k + nq, by omega, by push_cast; rfl, hnx.out (by first | rfl | trivial), rfl⟩, ?_⟩
       simp only [intOf]; omega
     ·have : j = M.length := by omega
      subst this
      go_wp2_with fail
      go_ret2
      exact Gt.yes (er.out.trans (if_pos (by have := hpre.out; rwa [List.take_length] at this))) rfl (hfall.out _ (upon_drewN _ _ _))
   ·have d1 : decide ((M.length : Int) = (n : Int)) = false := by simp; omega
    go_wp2_with fail
    go_quiet (fail)
    go_wp2_with fail
    go_ret2
    exact Gt.no (er.out.trans (if_neg (by intro e; apply hMn; rw [e, List.length_take]; have := hn.out; omega))) rfl ⟨_, _, hfall.out _ (upon_drewN _ _ _)⟩
  ·have hk : Hid (o = none) := Lib.hid (by
    rw [<- ho.out]; unfold getR guess; rw [if_neg hb]
    cases hl : lead1 4 K with
    | none => rfl
    | some y =>
     obtain ⟨k, R⟩ := y
     simp only
     rw [if_neg (fun h => hyes ⟨k, R, hl, h⟩)])
   have HG := Lib.hid (cjChangeNo (objRow _ _) H1 (by
    cases hl : lead1 4 K with
    | none => exact .inl rfl
    | some y => obtain ⟨k, R⟩ := y; exact .inr ⟨k, R, rfl, fun h => hyes ⟨k, R, hl, h⟩⟩))
   clear H1 ho
   go_wp2_with fail
   refine HG.out.mono ?_
   rintro e w2 ⟨⟨x, rfl⟩, h2⟩
   replace h2 := Lib.hid (fall_no h2)
   clear HG
   go_wp2_with fail
   go_ret2
   exact Gt.no hk.out rfl h2.out
end Tm
end
end
end Go.Proofs.YtgmnhodajngchaaGreatDoor
