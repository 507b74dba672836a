/- Parts, put together: TmPure, TmRef, TmRef2, TmRef3. -/
import Derived.Test.YtlgjbcmloochiaaGreatDoorZaPBit2
import Derived.Test.YtlgjbcmloochiaaGreatDoorZaPBit3
import Derived.Deep.Cut
import Derived.Deep.DeepCutAuto
import Derived.Deep.CutBlock
set_option maxRecDepth 100000

/- Times as plain data (layer 8): what is written of a time, what is read. Names no function of the program. -/
section
namespace Go.Proofs.YtlgjbcmloochiaaGreatDoor
namespace Tm
open Bit
set_option linter.unusedVariables false

/-! ### numbers that wrap round -/
def wr (x : Int) : Int := (x + 9223372036854775808) % 18446744073709551616 - 9223372036854775808
def un (x : Int) : Nat := (x % 18446744073709551616).toNat
def In (x : Int) : Prop := -9223372036854775808 ≤ x ∧ x ≤ 9223372036854775807
theorem wr_in (x : Int) : In (wr x) := by unfold In wr; omega
theorem wr_id {x : Int} (h : In x) : wr x = x := by unfold In at h; unfold wr; omega
theorem un_lt (x : Int) : un x < 18446744073709551616 := by unfold un; omega
theorem wr_un (x : Int) : wr (un x : Int) = wr x := by unfold wr un; omega
theorem un_wr (x : Int) : un (wr x) = un x := by unfold wr un; omega

/-! ### ranges of changes -/
def sz (k : Nat) : Nat := match k with | 0 => 0 | 1 => 7 | 2 => 9 | 3 => 12 | _ => 64
def ls (k : Nat) : Int := match k with | 1 => 63 | 2 => 255 | 3 => 2047 | _ => 0
def cls (x : Int) : Nat := if x = 0 then 0 else if -63 ≤ x ∧ x ≤ 64 then 1 else if -255 ≤ x ∧ x ≤ 256 then 2 else if -2047 ≤ x ∧ x ≤ 2048 then 3 else 4
def hd (k : Nat) : List Bool := match k with | 0 => [false] | 1 => [true, false] | 2 => [true, true, false] | 3 => [true, true, true, false] | _ => [true, true, true, true]
theorem cls_le (x : Int) : cls x ≤ 4 := by unfold cls; split; omega; split; omega; split; omega; split <;> omega
theorem five {k : Nat} (h : k ≤ 4) : k = 0 ∨ k = 1 ∨ k = 2 ∨ k = 3 ∨ k = 4 := by omega
/-- What a change's bits say. -/
def val (k : Nat) (x : Int) : Nat := un (x + ls k)
def num (k : Nat) (X : List Bool) : Int := wr (wr (numOf X : Int) - ls k)
def chB (x : Int) : List Bool := hd (cls x) ++ bitsOf (val (cls x) x) (sz (cls x))
theorem val_lt {x : Int} (h : In x) : val (cls x) x < 2 ^ sz (cls x) := by
  unfold In at h
  unfold cls val
  split
  · rename_i e; subst e; decide
  split
  · show un (x + 63) < 2 ^ 7; unfold un; omega
  split
  · show un (x + 255) < 2 ^ 9; unfold un; omega
  split
  · show un (x + 2047) < 2 ^ 12; unfold un; omega
  · show un (x + 0) < 2 ^ 64; unfold un; omega
theorem num_back {x : Int} (h : In x) : wr (wr (val (cls x) x : Int) - ls (cls x)) = x := by
  unfold val
  rw [wr_un]
  unfold In at h
  unfold wr
  have : ls (cls x) = 0 ∨ ls (cls x) = 63 ∨ ls (cls x) = 255 ∨ ls (cls x) = 2047 := by
    rcases five (cls_le x) with e | e | e | e | e <;> (rw [e]; simp [ls])
  omega
/-- The bits 1 ahead, four at most. -/
def lead1 : Nat → List Bool → Option (Nat × List Bool)
  | 0, K => some (0, K)
  | _ + 1, [] => none
  | _ + 1, false :: R => some (0, R)
  | m + 1, true :: R => match lead1 m R with | none => none | some (k, Q) => some (k + 1, Q)
theorem lead1_hd {k : Nat} (h : k ≤ 4) (R : List Bool) : lead1 4 (hd k ++ R) = some (k, R) := by
  rcases five h with rfl | rfl | rfl | rfl | rfl <;> rfl
theorem lead1_is : ∀ {K R : List Bool} {k : Nat}, lead1 4 K = some (k, R) → k ≤ 4 ∧ K = hd k ++ R
  | [], _, _, h => by cases h
  | [false], _, _, h => by cases h; exact ⟨by decide, rfl⟩
  | false :: _ :: _, _, _, h => by cases h; exact ⟨by decide, rfl⟩
  | [true], _, _, h => by cases h
  | true :: false :: _, _, _, h => by cases h; exact ⟨by decide, rfl⟩
  | [true, true], _, _, h => by cases h
  | true :: true :: false :: _, _, _, h => by cases h; exact ⟨by decide, rfl⟩
  | [true, true, true], _, _, h => by cases h
  | true :: true :: true :: false :: _, _, _, h => by cases h; exact ⟨by decide, rfl⟩
  | true :: true :: true :: true :: _, _, _, h => by cases h; exact ⟨by decide, rfl⟩

/-! ### the coder -/
structure Cd where
  begun : Bool
  t : Int
  d : Int
def newC : Cd := ⟨false, 0, 0⟩
structure Cd.Ok (c : Cd) : Prop where
  t : In c.t
  d : In c.d
  fresh : c.begun = false → c.t = 0 ∧ c.d = 0
theorem ok_new : newC.Ok := ⟨by unfold In; decide, by unfold In; decide, fun _ => ⟨rfl, rfl⟩⟩
/-- The change that a time makes. -/
def ch (c : Cd) (t : Int) : Int := wr (wr (t - c.t) - c.d)
def putB (c : Cd) (t : Int) : List Bool := if c.begun = false then bitsOf (un t) 64 else chB (ch c t)
def putC (c : Cd) (t : Int) : Cd := if c.begun = false then ⟨true, t, c.d⟩ else ⟨true, t, wr (t - c.t)⟩
theorem Cd.Ok.put {c : Cd} (h : c.Ok) {t : Int} (ht : In t) : (putC c t).Ok := by
  unfold putC
  split
  · exact ⟨ht, h.d, fun e => by cases e⟩
  · exact ⟨ht, wr_in _, fun e => by cases e⟩
theorem chB_len (x : Int) : (chB x).length ≤ 68 := by
  unfold chB
  rw [List.length_append, bitsOf_length]
  rcases five (cls_le x) with e | e | e | e | e <;> (rw [e]; decide)
theorem putB_len {c : Cd} (t : Int) : (putB c t).length ≤ 68 := by
  unfold putB
  split
  · rw [bitsOf_length]; omega
  · exact chB_len _
/-- The time of a change. -/
def tim (c : Cd) (x : Int) : Int := wr (wr (c.t + c.d) + x)
theorem tim_ch {c : Cd} (h : c.Ok) {t : Int} (ht : In t) : tim c (ch c t) = t := by
  have h1 := h.t
  have h2 := h.d
  unfold In at h1 h2 ht
  unfold ch tim wr
  omega
/-- What the next bits tell. -/
def guess (c : Cd) (K : List Bool) : Option (Int × Nat) :=
  if c.begun = false then (if 64 ≤ K.length then some (wr (numOf (K.take 64) : Int), 64) else none) else
  match lead1 4 K with
  | none => none
  | some (k, R) => if sz k ≤ R.length then some (tim c (num k (R.take (sz k))), (hd k).length + sz k) else none
/-- What is read. -/
def getR (c : Cd) (K : List Bool) : Option (Int × Nat) :=
  match guess c K with
  | none => none
  | some (t, n) => if putB c t = K.take n then some (t, n) else none
theorem guess_put {c : Cd} (hc : c.Ok) {t : Int} (ht : In t) (R : List Bool) : guess c (putB c t ++ R) = some (t, (putB c t).length) := by
  unfold guess putB
  by_cases hb : c.begun = false
  · rw [if_pos hb, if_pos hb, if_pos (by rw [List.length_append, bitsOf_length]; omega), List.take_left' (bitsOf_length _ _), numOf_bitsOf, bitsOf_length, Nat.mod_eq_of_lt (un_lt t), wr_un, wr_id ht]
  · rw [if_neg hb, if_neg hb]
    have hx : In (ch c t) := wr_in (wr (t - c.t) - c.d)
    have hv := val_lt (x := ch c t) hx
    unfold chB
    rw [List.append_assoc, lead1_hd (cls_le _)]
    simp only
    rw [if_pos (by rw [List.length_append, bitsOf_length]; omega), List.take_left' (bitsOf_length _ _)]
    unfold num
    rw [numOf_bitsOf, Nat.mod_eq_of_lt hv, num_back hx, List.length_append, bitsOf_length]
    rw [show tim c (ch c t) = t from tim_ch hc ht]
theorem get_put {c : Cd} (hc : c.Ok) {t : Int} (ht : In t) (R : List Bool) : getR c (putB c t ++ R) = some (t, (putB c t).length) := by
  unfold getR
  rw [guess_put hc ht R]
  simp
theorem tim_in (c : Cd) (x : Int) : In (tim c x) := wr_in _
theorem guess_in {c : Cd} {K : List Bool} {t : Int} {n : Nat} (h : guess c K = some (t, n)) : In t := by
  unfold guess at h
  split at h
  · split at h
    · simp only [Option.some.injEq, Prod.mk.injEq] at h
      rw [← h.1]; exact wr_in _
    · cases h
  · split at h
    · cases h
    · split at h
      · simp only [Option.some.injEq, Prod.mk.injEq] at h
        rw [← h.1]; exact tim_in _ _
      · cases h
theorem guess_le {c : Cd} {K : List Bool} {t : Int} {n : Nat} (h : guess c K = some (t, n)) : n ≤ K.length := by
  unfold guess at h
  split at h
  · split at h
    · simp only [Option.some.injEq, Prod.mk.injEq] at h
      omega
    · cases h
  · split at h
    · cases h
    · rename_i k R hl
      split at h
      · simp only [Option.some.injEq, Prod.mk.injEq] at h
        rw [(lead1_is hl).2, List.length_append]
        omega
      · cases h
theorem getR_in {c : Cd} {K : List Bool} {t : Int} {n : Nat} (h : getR c K = some (t, n)) : In t := by
  unfold getR at h
  cases hg : guess c K with
  | none => rw [hg] at h; cases h
  | some x =>
    obtain ⟨t', n'⟩ := x
    rw [hg] at h
    simp only at h
    split at h
    · simp only [Option.some.injEq, Prod.mk.injEq] at h
      rw [← h.1]
      exact guess_in hg
    · cases h

/-! ### rows -/
def putsC (c : Cd) : List Int → Cd
  | [] => c
  | v :: l => putsC (putC c v) l
theorem putsC_ok : ∀ (l : List Int) {c : Cd}, c.Ok → (∀ v ∈ l, In v) → (putsC c l).Ok
  | [], _, h, _ => h
  | v :: l, _, h, k => putsC_ok l (h.put (k v (by simp))) fun u hu => k u (by simp [hu])

/-! ### what it costs -/
end Tm
end Go.Proofs.YtlgjbcmloochiaaGreatDoor
end

/- The document's own coder of times (layer 8): Put. -/
section
namespace Go.Proofs.YtlgjbcmloochiaaGreatDoor
open Go.RowKit Go.Sort
namespace Tm
open Bit Dsk Ob
set_option linter.unusedVariables false

theorem i64_wr (x : Int) : IntKind.i64.wrap x = wr x := by rw [IntKind.wrap_i64]; rfl
theorem w64_wr (x : Int) : wrap64 x = wr x := by unfold wrap64 wr; rfl
theorem u64_un (x : Int) : IntKind.u64.wrap x = (un x : Int) := by rw [IntKind.wrap_u64]; unfold un; omega

/-! ### the coder in memory -/
def cCells (c : Cd) : Array Value := #[.bool c.begun, .int .i64 c.t, .int .i64 c.d]
/-- The document's coder at block q. -/
def IsRC (q : Nat) (c : Cd) : Ob.Rel := fun w S => w.heap[q]? = some (.cells (cCells c) 140 (0, 0)) ∧ ∀ x, S x ↔ x = q
theorem objRC (q : Nat) (c : Cd) : Thing (IsRC q c) := ⟨fun w w' S h hk _ => ⟨(hk q ((h.2 q).2 rfl)).trans h.1, h.2⟩, fun w S h x hx => by rw [(h.2 x).1 hx]; exact (Array.getElem?_eq_some_iff.1 h.1).1⟩
theorem rc3 {w : World} {q : Nat} {c : Cd} (h : w.heap[q]? = some (.cells (cCells c) 140 (0, 0))) :
    w.cell? ⟨q, 0, none⟩ = some (.bool c.begun) ∧ w.cell? ⟨q, 1, none⟩ = some (.int .i64 c.t) ∧ w.cell? ⟨q, 2, none⟩ = some (.int .i64 c.d) ∧ ∀ o, w.frozen? ⟨q, o, none⟩ = false := by
  refine ⟨?_, ?_, ?_, fun o => Lib.frozen_of_heap h o⟩ <;> (rw [Lib.cell_of_heap h]; rfl)
theorem rcSet {w : World} {A : Nat → Prop} {q o : Nat} {c c' : Cd} {v : Value} (h : IsRC q c w A) (he : (cCells c).setIfInBounds o v = cCells c') : ObjStep (IsRC q c') A w (w.setCell ⟨q, o, none⟩ v) :=
  stepCell ((h.2 q).2 rfl) ⟨by rw [← he]; simp [World.setCell, Array.getElem?_modify, h.1], h.2⟩

/-! ### coder and writer -/
abbrev CW (q : Nat) (c : Cd) (p : Nat) (L : List Bool) : Ob.Rel := Tens (IsRC q c) (fun w S => IsRW w S p L)
theorem thingCW (q : Nat) (c : Cd) (p : Nat) (L : List Bool) : Thing (CW q c p L) := Tens.ob (objRC q c) (objRW p L)
theorem cwPut {S : Nat → Prop} {w0 w : World} {q p : Nat} {c : Cd} {L L' : List Bool} (H : ObjStep (CW q c p L) S w0 w) (v : Nat) (n : Int) (hL : L.length ≤ 90000000000000) (hv : v < 18446744073709551616) (e : L ++ bitsOf v (cnt n) = L') :
    Calls Tryz.prog 118 #[.pointer (some ⟨p, 0, none⟩), .int .u64 (v : Int), .int .i64 n] w fun e w' => e = .returned (.tuple #[]) ∧ ObjStep (CW q c p L') S w0 w' := by
  subst e
  exact callR (Q := fun e => e = .returned (.tuple #[])) (objRC q c) H fun A h => refput_any A p L v n w h hL hv
theorem cwCells {S : Nat → Prop} {w0 w : World} {q p : Nat} {c : Cd} {L : List Bool} (H : ObjStep (CW q c p L) S w0 w) :
    w.cell? ⟨q, 0, none⟩ = some (.bool c.begun) ∧ w.cell? ⟨q, 1, none⟩ = some (.int .i64 c.t) ∧ w.cell? ⟨q, 2, none⟩ = some (.int .i64 c.d) ∧ ∀ o, w.frozen? ⟨q, o, none⟩ = false := by
  obtain ⟨A, h⟩ := seeL H
  exact rc3 h.1
theorem cwSet {S : Nat → Prop} {w0 w : World} {q p o : Nat} {c c' : Cd} {L : List Bool} {v : Value} (H : ObjStep (CW q c p L) S w0 w) (he : (cCells c).setIfInBounds o v = cCells c') : ObjStep (CW q c' p L) S w0 (w.setCell ⟨q, o, none⟩ v) :=
  stepL (objRW p L) H fun A h => rcSet h he
set_option maxHeartbeats 1600000 in
/-- The document's put: a front, a number behind it. -/
theorem cwPut2 {S : Nat → Prop} {w0 w : World} {q p : Nat} {c : Cd} {L L' : List Bool} (H : ObjStep (CW q c p L) S w0 w) (front n : Nat) (x : Int) (m : Nat) (hn : n ≤ 64) (hm : m ≤ 64) (hL : L.length ≤ 80000000000000) (hf : front < 18446744073709551616) (e : L ++ (bitsOf front n ++ bitsOf (un x) m) = L') :
    Calls Tryz.prog 119 #[.pointer (some ⟨p, 0, none⟩), .int .u64 (front : Int), .int .i64 (n : Int), .int .i64 x, .int .i64 (m : Int)] w fun e w' => e = .returned (.tuple #[]) ∧ ObjStep (CW q c p L') S w0 w' := by
  subst e
  have h1 := Lib.hid (cwPut H front (n : Int) (by omega) hf (L' := L ++ bitsOf front n) (by rw [cnt_nat hn]))
  have hu := u64_un x
  clear H
  go_enter Tryz.func119, Tryz.ntmps119
  go_wp2_with fail
  refine h1.out.mono ?_
  rintro e w2 ⟨rfl, h2⟩
  have h3 := Lib.hid (cwPut h2 (un x) (m : Int) (by rw [List.length_append, bitsOf_length]; omega) (un_lt x) (L' := L ++ (bitsOf front n ++ bitsOf (un x) m)) (by rw [cnt_nat hm, List.append_assoc]))
  clear h1 h2
  go_wp2_with fail
  refine h3.out.mono ?_
  rintro e w4 ⟨rfl, h4⟩
  replace h4 := Lib.hid h4
  clear h3
  go_wp2_with fail
  go_end0
  exact ⟨rfl, h4.out⟩
theorem cls_cases (x : Int) : (x = 0 ∧ cls x = 0) ∨ (x ≠ 0 ∧ -63 ≤ x ∧ x ≤ 64 ∧ cls x = 1) ∨ ((x < -63 ∨ 64 < x) ∧ -255 ≤ x ∧ x ≤ 256 ∧ cls x = 2) ∨ ((x < -255 ∨ 256 < x) ∧ -2047 ≤ x ∧ x ≤ 2048 ∧ cls x = 3) ∨ ((x < -2047 ∨ 2048 < x) ∧ cls x = 4) := by
  unfold cls
  by_cases h0 : x = 0
  · left; exact ⟨h0, by rw [if_pos h0]⟩
  · by_cases h1 : -63 ≤ x ∧ x ≤ 64
    · right; left; exact ⟨h0, h1.1, h1.2, by rw [if_neg h0, if_pos h1]⟩
    · by_cases h2 : -255 ≤ x ∧ x ≤ 256
      · right; right; left; exact ⟨by omega, h2.1, h2.2, by rw [if_neg h0, if_neg h1, if_pos h2]⟩
      · by_cases h3 : -2047 ≤ x ∧ x ≤ 2048
        · right; right; right; left; exact ⟨by omega, h3.1, h3.2, by rw [if_neg h0, if_neg h1, if_neg h2, if_pos h3]⟩
        · right; right; right; right; exact ⟨by omega, by rw [if_neg h0, if_neg h1, if_neg h2, if_neg h3]⟩
theorem chB_at {x : Int} {k : Nat} (h : cls x = k) : chB x = hd k ++ bitsOf (val k x) (sz k) := by unfold chB; rw [h]

set_option maxRecDepth 100000 in
set_option maxHeartbeats 3200000 in
theorem refPut_first (S : Nat → Prop) (q p : Nat) (c : Cd) (L : List Bool) (t : Int) (w : World) (h : CW q c p L w S) (hb : c.begun = false) (hL : L.length ≤ 80000000000000) :
    Calls Tryz.prog 70 #[.pointer (some ⟨q, 0, none⟩), .pointer (some ⟨p, 0, none⟩), .int .i64 t] w fun e w' => e = .returned (.tuple #[]) ∧ ObjStep (CW q ⟨true, t, c.d⟩ p (L ++ bitsOf (un t) 64)) S w w' := by
  have H := ObjStep.refl (I := CW q c p L) h
  obtain ⟨k0, k1, k2, kf⟩ := cwCells H
  have f0 := kf 0
  rw [hb] at k0
  have hu := u64_un t
  have H1 := cwSet (o := 0) (v := .bool true) (c' := { c with begun := true }) H rfl
  have H2 := cwSet (o := 1) (v := .int .i64 t) (c' := ⟨true, t, c.d⟩) H1 rfl
  have f1 := (cwCells H1).2.2.2 1
  have g1 := (cwCells H1).2.1
  have HP := Lib.hid (cwPut H2 (un t) 64 (by omega) (un_lt t) (L' := L ++ bitsOf (un t) 64) (by rfl))
  clear H H1 H2 kf h
  go_enter Tryz.func70, Tryz.ntmps70
  go_wp2_with fail
  refine HP.out.mono ?_
  rintro e w2 ⟨rfl, h2⟩
  replace h2 := Lib.hid h2
  clear HP
  go_wp2_with fail
  (try simp only [Exit.inBlock, Exit.then])
  refine bodyPost_ret (results_none rfl _ _ _) rfl ?_
  exact ⟨rfl, h2.out⟩
set_option maxRecDepth 100000 in
set_option maxHeartbeats 6400000 in
theorem refPut_next (S : Nat → Prop) (q p : Nat) (c : Cd) (L : List Bool) (t d x : Int) (w : World) (h : CW q c p L w S) (hb : c.begun = true) (hL : L.length ≤ 80000000000000) (hd : wr (t - c.t) = d) (hx : wr (d - c.d) = x) :
    Calls Tryz.prog 70 #[.pointer (some ⟨q, 0, none⟩), .pointer (some ⟨p, 0, none⟩), .int .i64 t] w fun e w' => e = .returned (.tuple #[]) ∧ ObjStep (CW q ⟨true, t, d⟩ p (L ++ chB x)) S w w' := by
  have H := ObjStep.refl (I := CW q c p L) h
  obtain ⟨k0, k1, k2, kf⟩ := cwCells H
  have f1 := kf 1
  rw [hb] at k0
  have e1 : IntKind.i64.wrap (t - c.t) = d := (i64_wr _).trans hd
  have e2 : IntKind.i64.wrap (d - c.d) = x := (i64_wr _).trans hx
  have H1 := cwSet (o := 1) (v := .int .i64 t) (c' := ⟨true, t, c.d⟩) H (by unfold cCells; rw [hb]; rfl)
  have H2 := cwSet (o := 2) (v := .int .i64 d) (c' := ⟨true, t, d⟩) H1 rfl
  have f2 := (cwCells H1).2.2.2 2
  have g2 := (cwCells H1).2.2.1
  have hin : In x := by rw [← hx]; exact wr_in _
  have hcases := cls_cases x
  clear H H1 kf h hd hx
  rcases hcases with ⟨h0, hk⟩ | ⟨h0, ha, hb2, hk⟩ | ⟨h0, ha, hb2, hk⟩ | ⟨h0, ha, hb2, hk⟩ | ⟨h0, hk⟩
  · have HP := Lib.hid (cwPut H2 0 1 (by omega) (by decide) (L' := L ++ chB x) (by rw [chB_at hk]; rfl))
    clear H2 hk
    subst h0
    go_enter Tryz.func70, Tryz.ntmps70
    go_wp2_with fail
    refine HP.out.mono ?_
    rintro e w2 ⟨rfl, h2⟩
    replace h2 := Lib.hid h2
    clear HP
    go_wp2_with fail
    go_end0
    exact ⟨rfl, h2.out⟩
  · have hi : IntKind.i64.wrap (x + 63) = x + 63 := by rw [i64_wr, wr_id (by unfold In; omega)]
    have HP := Lib.hid (cwPut2 H2 2 2 (x + 63) 7 (by omega) (by omega) hL (by decide) (L' := L ++ chB x) (by rw [chB_at hk]; rfl))
    have d0 : (x == 0) = false := by rw [beq_eq_false_iff_ne]; omega
    clear H2 hk
    have lo : decide (-63 ≤ x) = true := decide_eq_true (by omega)
    have hi2 : decide (x ≤ 64) = true := decide_eq_true (by omega)
    go_enter Tryz.func70, Tryz.ntmps70
    go_wp2_with fail
    refine HP.out.mono ?_
    rintro e w2 ⟨rfl, h2⟩
    replace h2 := Lib.hid h2
    clear HP
    go_wp2_with fail
    go_end0
    exact ⟨rfl, h2.out⟩
  · have hi : IntKind.i64.wrap (x + 255) = x + 255 := by rw [i64_wr, wr_id (by unfold In; omega)]
    have HP := Lib.hid (cwPut2 H2 6 3 (x + 255) 9 (by omega) (by omega) hL (by decide) (L' := L ++ chB x) (by rw [chB_at hk]; rfl))
    have d0 : (x == 0) = false := by rw [beq_eq_false_iff_ne]; omega
    clear H2 hk
    rcases h0 with h0 | h0
    · have lo : decide (-255 ≤ x) = true := decide_eq_true (by omega)
      have hi2 : decide (x ≤ 256) = true := decide_eq_true (by omega)
      have l1 : decide (-63 ≤ x) = false := decide_eq_false (by omega)
      go_enter Tryz.func70, Tryz.ntmps70
      go_wp2_with fail
      refine HP.out.mono ?_
      rintro e w2 ⟨rfl, h2⟩
      replace h2 := Lib.hid h2
      clear HP
      go_wp2_with fail
      go_end0
      exact ⟨rfl, h2.out⟩
    · have lo : decide (-255 ≤ x) = true := decide_eq_true (by omega)
      have hi2 : decide (x ≤ 256) = true := decide_eq_true (by omega)
      have l1 : decide (-63 ≤ x) = true := decide_eq_true (by omega)
      have u1 : decide (x ≤ 64) = false := decide_eq_false (by omega)
      go_enter Tryz.func70, Tryz.ntmps70
      go_wp2_with fail
      refine HP.out.mono ?_
      rintro e w2 ⟨rfl, h2⟩
      replace h2 := Lib.hid h2
      clear HP
      go_wp2_with fail
      go_end0
      exact ⟨rfl, h2.out⟩
  · have hi : IntKind.i64.wrap (x + 2047) = x + 2047 := by rw [i64_wr, wr_id (by unfold In; omega)]
    have HP := Lib.hid (cwPut2 H2 14 4 (x + 2047) 12 (by omega) (by omega) hL (by decide) (L' := L ++ chB x) (by rw [chB_at hk]; rfl))
    have d0 : (x == 0) = false := by rw [beq_eq_false_iff_ne]; omega
    clear H2 hk
    rcases h0 with h0 | h0
    · have lo : decide (-2047 ≤ x) = true := decide_eq_true (by omega)
      have hi2 : decide (x ≤ 2048) = true := decide_eq_true (by omega)
      have l1 : decide (-63 ≤ x) = false := decide_eq_false (by omega)
      have l2 : decide (-255 ≤ x) = false := decide_eq_false (by omega)
      go_enter Tryz.func70, Tryz.ntmps70
      go_wp2_with fail
      refine HP.out.mono ?_
      rintro e w2 ⟨rfl, h2⟩
      replace h2 := Lib.hid h2
      clear HP
      go_wp2_with fail
      go_end0
      exact ⟨rfl, h2.out⟩
    · have lo : decide (-2047 ≤ x) = true := decide_eq_true (by omega)
      have hi2 : decide (x ≤ 2048) = true := decide_eq_true (by omega)
      have l1 : decide (-63 ≤ x) = true := decide_eq_true (by omega)
      have u1 : decide (x ≤ 64) = false := decide_eq_false (by omega)
      have l2 : decide (-255 ≤ x) = true := decide_eq_true (by omega)
      have u2 : decide (x ≤ 256) = false := decide_eq_false (by omega)
      go_enter Tryz.func70, Tryz.ntmps70
      go_wp2_with fail
      refine HP.out.mono ?_
      rintro e w2 ⟨rfl, h2⟩
      replace h2 := Lib.hid h2
      clear HP
      go_wp2_with fail
      go_end0
      exact ⟨rfl, h2.out⟩
  · have HP := Lib.hid (cwPut2 H2 15 4 x 64 (by omega) (by omega) hL (by decide) (L' := L ++ chB x) (by rw [chB_at hk]; show _ = L ++ (hd 4 ++ bitsOf (un (x + 0)) 64); rw [Int.add_zero]; rfl))
    have d0 : (x == 0) = false := by rw [beq_eq_false_iff_ne]; omega
    clear H2 hk
    rcases h0 with h0 | h0
    · have l1 : decide (-63 ≤ x) = false := decide_eq_false (by omega)
      have l2 : decide (-255 ≤ x) = false := decide_eq_false (by omega)
      have l3 : decide (-2047 ≤ x) = false := decide_eq_false (by omega)
      go_enter Tryz.func70, Tryz.ntmps70
      go_wp2_with fail
      refine HP.out.mono ?_
      rintro e w2 ⟨rfl, h2⟩
      replace h2 := Lib.hid h2
      clear HP
      go_wp2_with fail
      go_end0
      exact ⟨rfl, h2.out⟩
    · have l1 : decide (-63 ≤ x) = true := decide_eq_true (by omega)
      have u1 : decide (x ≤ 64) = false := decide_eq_false (by omega)
      have l2 : decide (-255 ≤ x) = true := decide_eq_true (by omega)
      have u2 : decide (x ≤ 256) = false := decide_eq_false (by omega)
      have l3 : decide (-2047 ≤ x) = true := decide_eq_true (by omega)
      have u3 : decide (x ≤ 2048) = false := decide_eq_false (by omega)
      go_enter Tryz.func70, Tryz.ntmps70
      go_wp2_with fail
      refine HP.out.mono ?_
      rintro e w2 ⟨rfl, h2⟩
      replace h2 := Lib.hid h2
      clear HP
      go_wp2_with fail
      go_end0
      exact ⟨rfl, h2.out⟩
/-- Put, as the document says it. -/
theorem refPut_any (S : Nat → Prop) (q p : Nat) (c : Cd) (L : List Bool) (t : Int) (w : World) (h : CW q c p L w S) (hL : L.length ≤ 80000000000000) :
    Calls Tryz.prog 70 #[.pointer (some ⟨q, 0, none⟩), .pointer (some ⟨p, 0, none⟩), .int .i64 t] w fun e w' => e = .returned (.tuple #[]) ∧ ObjStep (CW q (putC c t) p (L ++ putB c t)) S w w' := by
  unfold putC putB
  by_cases hb : c.begun = false
  · rw [if_pos hb, if_pos hb]
    exact refPut_first S q p c L t w h hb hL
  · rw [if_neg hb, if_neg hb]
    exact refPut_next S q p c L t _ _ w h (by simpa using hb) hL rfl rfl
end Tm
end Go.Proofs.YtlgjbcmloochiaaGreatDoor
end

/- The document's own coder of times (layer 8): change. -/
section
namespace Go.Proofs.YtlgjbcmloochiaaGreatDoor
open Go.RowKit Go.Sort
namespace Tm
open Bit Dsk Ob
set_option linter.unusedVariables false

/-- j bits 1 are read. -/
def Ld (K : List Bool) (j : Nat) (K' : List Bool) : Prop := j ≤ 4 ∧ lead1 4 K = match lead1 (4 - j) K' with | none => none | some (k, R) => some (k + j, R)
theorem Ld.zero {K R : List Bool} {j : Nat} (h : Ld K j (false :: R)) (hj : j < 4) : lead1 4 K = some (j, R) := by
  obtain ⟨m, hm⟩ : ∃ m, 4 - j = m + 1 := ⟨3 - j, by omega⟩
  rw [h.2, hm]
  simp [lead1]
theorem Ld.one {K R : List Bool} {j : Nat} (h : Ld K j (true :: R)) (hj : j < 4) : Ld K (j + 1) R := by
  refine ⟨by omega, ?_⟩
  obtain ⟨m, hm⟩ : ∃ m, 4 - j = m + 1 := ⟨3 - j, by omega⟩
  have hm2 : 4 - (j + 1) = m := by omega
  rw [h.2, hm, hm2, lead1]
  cases lead1 m R with
  | none => rfl
  | some y => obtain ⟨k, Q⟩ := y; simp; omega
end Tm
end Go.Proofs.YtlgjbcmloochiaaGreatDoor
end

/- The document's own coder of times (layer 8): Get. -/
section
namespace Go.Proofs.YtlgjbcmloochiaaGreatDoor
open Go.RowKit Go.Sort
namespace Tm
open Bit Dsk Ob
set_option linter.unusedVariables false

/-! ### coder and reader -/
end Tm
end Go.Proofs.YtlgjbcmloochiaaGreatDoor
end
