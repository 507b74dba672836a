/- Parts, put together: XorW, XorWin, XorCd, XorMore, XorGetP, XorGet, XorGet2, XorLaw1. -/
import Derived.Test.YtlgjbcmloochiaaGreatDoorZaPXor1
import Derived.Test.YtlgjbcmloochiaaGreatDoorZaXorLen
import Derived.Lib.BitFns
import Derived.Lib.TrailingZeros
import Derived.Laws.Bits64b
import Derived.Test.YtlgjbcmloochiaaGreatDoorZaPBit3
import Derived.Lib.QuietBelow
import Derived.StillTailTactics
import Derived.Test.YtlgjbcmloochiaaGreatDoorZaPObj
import Derived.ProofKit
import Derived.LaidMore
import Derived.Lib.LaidTab
import Derived.Stop.Joined
set_option maxRecDepth 100000

/- The program's windows of patterns (layer 7): the functions on them that touch no object. -/
section
namespace Go.Proofs.YtlgjbcmloochiaaGreatDoor
open Go.RowKit
namespace Xr
open Bit Dsk Ob
set_option linter.unusedVariables false

/-! ### plainly -/
theorem lt_bitLen : ∀ (f x : Nat), x < 2 ^ f → x < 2 ^ Lib.bitLenAux f x
  | 0, x, h => by simpa [Lib.bitLenAux] using h
  | f + 1, x, h => by
    unfold Lib.bitLenAux
    split
    · rename_i h0; rw [h0]; decide
    · have h2 := lt_bitLen f (x / 2) (by rw [Nat.pow_succ] at h; omega)
      rw [Nat.add_comm, Nat.pow_succ]
      omega
theorem lead_len {d : Nat} (hd : d < 2 ^ 64) : lead d = min 31 (64 - Lib.bitLen d) := by
  have h1 := lt_bitLen 64 d hd
  unfold lead
  refine upTo_is _ 31 _ (by omega) (fun i hi => ?_) (fun hk => ?_)
  · have h2 : 2 ^ Lib.bitLen d ≤ 2 ^ (63 - i) := Nat.pow_le_pow_right (by decide) (by omega)
    have h3 : d < 2 ^ (63 - i) := Nat.lt_of_lt_of_le h1 h2
    simp [Nat.div_eq_of_lt h3]
  · have e : min 31 (64 - Lib.bitLen d) = 64 - Lib.bitLen d := by omega
    rw [e]
    have h4 : ¬ d < 2 ^ (63 - (64 - Lib.bitLen d)) := fun h5 => by
      have := Lib.bitLen_le d _ (by omega) h5
      omega
    have h6 : ¬ d / 2 ^ (63 - (64 - Lib.bitLen d)) = 0 := fun h7 => h4 ((Nat.div_eq_zero_iff_lt (Nat.two_pow_pos _)).1 h7)
    simpa using h6
theorem tail_ctz {d : Nat} (hd : d < 2 ^ 64) (h0 : d ≠ 0) : tail d = Lib.ctz 64 d := by
  obtain ⟨m, h1, h2⟩ := Lib.ctzFrom_spec 64 d (by omega) hd
  have e : Lib.ctz 64 d = Lib.ctzFrom 64 d := by unfold Lib.ctz; rw [if_neg h0]
  rw [e]
  generalize Lib.ctzFrom 64 d = c at *
  unfold tail
  refine upTo_is _ 63 _ (by omega) (fun i hi => ?_) (fun hk => ?_)
  · have e2 : d = 2 ^ i * (2 * (2 ^ (c - i - 1) * (2 * m + 1))) := by
      rw [h1, ← Nat.mul_assoc 2, ← Nat.pow_succ', ← Nat.mul_assoc, ← Nat.pow_add]
      congr 2; omega
    rw [e2, Nat.mul_div_cancel_left _ (Nat.two_pow_pos i)]
    simp
  · rw [h1, Nat.mul_div_cancel_left _ (Nat.two_pow_pos c)]
    simp

/-! ### math/bits -/
/-- The table that TrailingZeros64 reads. -/
def Tab (w : World) : Prop := ∀ j, j < Lib.deBruijn64tab.length → w.cell? ⟨3, j, none⟩ = some (.int .u8 (Lib.deBruijn64tab.getD j 0))
theorem lead64_any (x : Nat) (hx : x < 18446744073709551616) (w : World) : Calls Tryz.prog 251 #[.int .u64 (x : Int)] w fun e w' => e = .returned (.int .i64 ((64 - Lib.bitLen x : Nat) : Int)) ∧ w' = w := by
  have h := Lib.hid (len64_any (x : Int) (by omega) (by omega) w)
  have l := Lib.bitLen_le x 64 (by omega) hx
  go_enter Tryz.func251, Tryz.ntmps251
  go_wp2_with fail
  refine h.out.mono ?_
  rintro e w' ⟨rfl, rfl⟩
  clear h
  rw [Int.toNat_natCast]
  go_wp2_with fail
  go_ret
  refine ⟨congrArg Ending.returned (congrArg (Value.int IntKind.i64) ?_), rfl⟩
  omega
theorem tz_key {x k : Nat} (hx : x < 18446744073709551616) (h : x &&& (18446744073709551616 - x) = 2 ^ k) :
    IntKind.u64.wrap (bits BinOp.and IntKind.u64 (x : Int) (IntKind.u64.wrap (-(x : Int))) * 285870213051353865) / 288230376151711744 = ((2 ^ k * 285870213051353865 % 18446744073709551616 / 288230376151711744 : Nat) : Int) := by
  have h0 : x ≠ 0 := fun e => by
    rw [e] at h
    have := Nat.two_pow_pos k
    simp at h
    omega
  have e1 : IntKind.u64.wrap (-(x : Int)) = ((18446744073709551616 - x : Nat) : Int) := by rw [IntKind.wrap_u64]; omega
  rw [e1, bits_and_u64_nat x _ hx (by omega), h, IntKind.wrap_u64]
  omega
set_option maxHeartbeats 1600000 in
theorem tail64_core (x k idx : Nat) (w : World) (hz : ((x : Int) == 0) = false) (key : IntKind.u64.wrap (bits BinOp.and IntKind.u64 (x : Int) (IntKind.u64.wrap (-(x : Int))) * 285870213051353865) / 288230376151711744 = (idx : Int))
    (hi : idx < 64) (hk : k < 64) (hcell : w.cell? ⟨3, idx, none⟩ = some (.int .u8 k)) : Calls Tryz.prog 252 #[.int .u64 (x : Int)] w fun e w' => e = .returned (.int .i64 k) ∧ w' = w := by
  go_enter Tryz.func252, Tryz.ntmps252
  go_wp2_with (simp only [key])
  go_ret
  exact ⟨rfl, rfl⟩
theorem tail64_any (x : Nat) (hx : x < 18446744073709551616) (h0 : x ≠ 0) (w : World) (hT : Tab w) : Calls Tryz.prog 252 #[.int .u64 (x : Int)] w fun e w' => e = .returned (.int .i64 (tail x : Int)) ∧ w' = w := by
  obtain ⟨hlow, hk⟩ := Lib.lowest_bit 64 x h0 hx
  obtain ⟨hi, htab⟩ := Lib.deBruijn64_at _ hk
  have hcell := hT _ hi
  rw [htab] at hcell
  rw [tail_ctz hx h0]
  exact tail64_core x _ _ w (by rw [beq_eq_false_iff_ne]; omega) (tz_key hx hlow) hi hk hcell
end Xr
end Go.Proofs.YtlgjbcmloochiaaGreatDoor
end

/- The program's windows of patterns (layer 7): windowOf, holds, size, what is written and read between lead and tail. -/
section
namespace Go.Proofs.YtlgjbcmloochiaaGreatDoor
open Go.RowKit Go.Sort
namespace Xr
open Bit Dsk Ob
set_option linter.unusedVariables false

/-- A window. -/
abbrev win (l t : Nat) : Value := .agg #[.int .i64 (l : Int), .int .i64 (t : Int)]
theorem Tab.upon {S : Nat → Prop} {w w' : World} (h : Tab w) (hu : Upon S w w') (hS : ¬ S 3) : Tab w' := fun j hj => by
  have hc := h j hj
  have hb := World.block_lt_of_cell? w _ hc
  rw [← hc, World.cell?, World.cell?, hu.block _ hb hS]
set_option maxHeartbeats 1600000 in
theorem windowOf_any (d : Nat) (hd : d < 18446744073709551616) (h0 : d ≠ 0) (w : World) (hT : Tab w) : Calls Tryz.prog 231 #[.int .u64 (d : Int)] w fun e w' => e = .returned (win (lead d) (tail d)) ∧ New0 w w' := by
  have h1 := Lib.hid (fun w => lead64_any d hd w)
  have hu : New0 w (w.alloc (.cells #[.int .i64 0, .int .i64 0] 295 (0, 0))) := (Upon.refl _ w).alloc _
  have h2 := Lib.hid (tail64_any d hd h0 (w.alloc (.cells #[.int .i64 0, .int .i64 0] 295 (0, 0))) (hT.upon hu fun f => f))
  have hl := lead_len hd
  have hm : min ((64 - Lib.bitLen d : Nat) : Int) 31 = (lead d : Int) := by omega
  have hend : Hid (New0 w (w.alloc (.cells #[.int .i64 (lead d : Int), .int .i64 (tail d : Int)] 295 (0, 0)))) := Lib.hid ((Upon.refl _ w).alloc _)
  clear hT hl hu
  go_enter Tryz.func231, Tryz.ntmps231
  go_wp2_with fail
  refine (h1.out _).mono ?_
  rintro e w' ⟨rfl, rfl⟩
  go_wp2_with fail
  refine h2.out.mono ?_
  rintro e w' ⟨rfl, rfl⟩
  clear h1 h2
  go_wp2_with fail
  refine bodyPost_ret (v := win (lead d) (tail d)) (by simp [results, Tryz.results231, go_sem]) rfl ⟨rfl, hend.out⟩
set_option maxHeartbeats 1600000 in
theorem size_any (l t : Nat) (h : l + t ≤ 64) (w : World) : Calls Tryz.prog 233 #[win l t] w fun e w' => e = .returned (.int .i64 ((64 - l - t : Nat) : Int)) ∧ New0 w w' := by
  have hend : Hid (New0 w (w.alloc (.cells #[.int .i64 (l : Int), .int .i64 (t : Int)] 295 (0, 0)))) := Lib.hid ((Upon.refl _ w).alloc _)
  go_enter Tryz.func233, Tryz.ntmps233
  go_wp2_with fail
  go_ret
  exact ⟨ret_int (by omega), hend.out⟩
set_option maxHeartbeats 1600000 in
theorem holds_any (l t a b : Nat) (w : World) : Calls Tryz.prog 232 #[win l t, win a b] w fun e w' => e = .returned (.bool (decide (l ≤ a) && decide (t ≤ b))) ∧ New0 w w' := by
  have hend : Hid (New0 w ((w.alloc (.cells #[.int .i64 (l : Int), .int .i64 (t : Int)] 295 (0, 0))).alloc (.cells #[.int .i64 (a : Int), .int .i64 (b : Int)] 295 (0, 0)))) := Lib.hid (((Upon.refl _ w).alloc _).alloc _)
  by_cases h : l ≤ a
  · have hd : decide (l ≤ a) = true := decide_eq_true h
    go_enter Tryz.func232, Tryz.ntmps232
    go_wp2_with fail
    go_ret
    exact ⟨by simp [h], hend.out⟩
  · have hd : decide (l ≤ a) = false := decide_eq_false h
    go_enter Tryz.func232, Tryz.ntmps232
    go_wp2_with fail
    go_ret
    exact ⟨by simp [h], hend.out⟩

/-! ### between lead and tail -/
set_option maxHeartbeats 3200000 in
theorem putBetween_any (S : Nat → Prop) (p l t d : Nat) (L : List Bool) (w : World) (h : IsW w S p L) (hlt : l + t ≤ 64) (hd : d < 18446744073709551616) (hL : L.length ≤ 90000000000000) :
    Calls Tryz.prog 234 #[win l t, .pointer (some ⟨p, 0, none⟩), .int .u64 (d : Int)] w fun e w' => e = .returned (.tuple #[]) ∧ WStep S p (L ++ bitsOf (d / 2 ^ t) (64 - l - t)) w w' := by
  have H := ObjStep.refl (I := fun w S => IsW w S p L) h
  have hbox : New0 w (w.alloc (.cells #[.int .i64 (l : Int), .int .i64 (t : Int)] 295 (0, 0))) := (Upon.refl _ w).alloc _
  have c0 : (w.alloc (.cells #[.int .i64 (l : Int), .int .i64 (t : Int)] 295 (0, 0))).cell? ⟨w.heap.size, 0, none⟩ = some (.int .i64 (l : Int)) := by rw [Lib.cell_of_heap (cell_new w _)]; rfl
  have c1 : (w.alloc (.cells #[.int .i64 (l : Int), .int .i64 (t : Int)] 295 (0, 0))).cell? ⟨w.heap.size, 1, none⟩ = some (.int .i64 (t : Int)) := by rw [Lib.cell_of_heap (cell_new w _)]; rfl
  have H1 := Lib.hid (stepNew (objW _ _) H hbox)
  have hc1 := Lib.hid (fun w' (hu : New0 (w.alloc (.cells #[.int .i64 (l : Int), .int .i64 (t : Int)] 295 (0, 0))) w') => New0.cell hu c1)
  have hsz := Lib.hid (fun w => size_any l t hlt w)
  have hput := Lib.hid (fun w' (hu : New0 (w.alloc (.cells #[.int .i64 (l : Int), .int .i64 (t : Int)] 295 (0, 0))) w') =>
    callW (I' := fun w S => IsW w S p (L ++ bitsOf (d / 2 ^ t) (64 - l - t))) (Q := fun e => e = .returned (.tuple #[])) (f := 212) (args := #[.pointer (some ⟨p, 0, none⟩), .int .u64 ((d : Int) / 2 ^ t), .int .i64 ((64 - l - t : Nat) : Int)]) (stepNew (objW _ _) H1.out hu) fun A hA => by
      have := put_any A p L (d / 2 ^ t) ((64 - l - t : Nat) : Int) w' hA hL (Nat.lt_of_le_of_lt (Nat.div_le_self _ _) hd)
      rw [cnt_nat (by omega)] at this
      rw [int_div_pow]
      exact this)
  have hdr : ∀ w : World, New0 w w.drew := fun w => upon_drewN _ w 1
  clear H h hbox H1 hd hL
  go_enter Tryz.func234, Tryz.ntmps234
  go_wp2_with fail
  generalize w.alloc (.cells #[.int .i64 (l : Int), .int .i64 (t : Int)] 295 (0, 0)) = wb at *
  go_region_with (first
    | (go_at_call 233; refine (hsz.out _).mono ?_; rintro e w2 ⟨rfl, hu2⟩; have c1' := hc1.out w2 ((hdr _).trans hu2))
    | (go_at_call 212; refine (hput.out _ ?_).mono ?_; exact (hdr _).trans hu2; rintro e w3 ⟨rfl, h3⟩))
  all_goals
    go_wp2_with fail
    go_end0
    exact ⟨rfl, h3⟩

/-! ### a window that is read -/
end Xr
end Go.Proofs.YtlgjbcmloochiaaGreatDoor
end

/- The program's coder of patterns (layer 7): New, Put. -/
section
namespace Go.Proofs.YtlgjbcmloochiaaGreatDoor
open Go.RowKit Go.Sort
namespace Xr
open Bit Dsk Ob
set_option linter.unusedVariables false

/-! ### the coder in memory -/
/-- The window that the program has: none is a lead of 0 and a tail of 64. -/
def wl (c : Cd) : Nat := if c.win then c.lead else 0
def wt (c : Cd) : Nat := if c.win then c.tail else 64
def pCells (c : Cd) : Array Value := #[.int .i64 (wl c : Int), .int .i64 (wt c : Int), .bool c.begun, .int .u64 (c.v : Int)]
/-- The program's coder at block q. -/
def IsCd (q : Nat) (c : Cd) : Ob.Rel := fun w S => w.heap[q]? = some (.cells (pCells c) 297 (0, 0)) ∧ ∀ x, S x ↔ x = q
theorem objCd (q : Nat) (c : Cd) : Thing (IsCd q c) := ⟨fun w w' S h hk _ => ⟨(hk q ((h.2 q).2 rfl)).trans h.1, h.2⟩, fun w S h x hx => by rw [(h.2 x).1 hx]; exact (Array.getElem?_eq_some_iff.1 h.1).1⟩
theorem cd4 {w : World} {q : Nat} {c : Cd} (h : w.heap[q]? = some (.cells (pCells c) 297 (0, 0))) :
    w.cell? ⟨q, 0, none⟩ = some (.int .i64 (wl c : Int)) ∧ w.cell? ⟨q, 1, none⟩ = some (.int .i64 (wt c : Int)) ∧ w.cell? ⟨q, 2, none⟩ = some (.bool c.begun) ∧ w.cell? ⟨q, 3, none⟩ = some (.int .u64 (c.v : Int)) ∧ ∀ o, w.frozen? ⟨q, o, none⟩ = false := by
  refine ⟨?_, ?_, ?_, ?_, fun o => Lib.frozen_of_heap h o⟩ <;> (rw [Lib.cell_of_heap h]; rfl)
theorem cdSet {w : World} {A : Nat → Prop} {q o : Nat} {c c' : Cd} {v : Value} (h : IsCd q c w A) (he : (pCells c).setIfInBounds o v = pCells c') : ObjStep (IsCd q c') A w (w.setCell ⟨q, o, none⟩ v) :=
  stepCell ((h.2 q).2 rfl) ⟨by rw [← he]; simp [World.setCell, Array.getElem?_modify, h.1], h.2⟩
theorem cdSet2 {w : World} {A : Nat → Prop} {q : Nat} {c : Cd} (h : IsCd q c w A) (l t : Nat) : ObjStep (IsCd q { c with win := true, lead := l, tail := t }) A w ((w.setCell ⟨q, 0, none⟩ (.int .i64 (l : Int))).setCell ⟨q, 1, none⟩ (.int .i64 (t : Int))) := by
  refine ⟨⟨A, ⟨?_, h.2⟩, fun _ h => h, fun _ h => .inl h⟩, ((Upon.refl A w).setCell (p := ⟨q, 0, none⟩) (.inl ((h.2 q).2 rfl)) _).setCell (p := ⟨q, 1, none⟩) (.inl ((h.2 q).2 rfl)) _⟩
  have e : ((pCells c).setIfInBounds 0 (.int .i64 (l : Int))).setIfInBounds 1 (.int .i64 (t : Int)) = pCells { c with win := true, lead := l, tail := t } := rfl
  rw [← e]
  simp [World.setCell, Array.getElem?_modify, h.1]

/-! ### New -/
def CMade (w : World) (e : Ending) (w' : World) : Prop := ∃ q, e = .returned (.pointer (some ⟨q, 0, none⟩)) ∧ IsCd q newC w' (fun x => x = q) ∧ w.heap.size ≤ q ∧ New0 w w'
set_option maxHeartbeats 800000 in
theorem new_any (w : World) : Calls Tryz.prog 188 #[] w (CMade w) := by
  have H : Hid (CMade w (.returned (.pointer (some ⟨w.heap.size, 0, none⟩))) (w.alloc (.cells #[.int .i64 0, .int .i64 64, .bool false, .int .u64 0] 297 (0, 0)))) := Lib.hid
    ⟨w.heap.size, rfl, ⟨cell_new w _, fun x => Iff.rfl⟩, Nat.le_refl _, (Upon.refl _ w).alloc _⟩
  go_enter Tryz.func188, Tryz.ntmps188
  go_wp2
  go_ret
  exact H.out

/-! ### coder and writer -/
abbrev PW (q : Nat) (c : Cd) (p : Nat) (L : List Bool) : Ob.Rel := Tens (IsCd q c) (fun w S => IsW w S p L)
theorem thingPW (q : Nat) (c : Cd) (p : Nat) (L : List Bool) : Thing (PW q c p L) := Tens.ob (objCd q c) (objW p L)
theorem pwPut {S : Nat → Prop} {w0 w : World} {q p : Nat} {c : Cd} {L L' : List Bool} (H : ObjStep (PW q c p L) S w0 w) (v : Nat) (n : Int) (hL : L.length ≤ 90000000000000) (hv : v < 18446744073709551616) (e : L ++ bitsOf v (cnt n) = L') :
    Calls Tryz.prog 212 #[.pointer (some ⟨p, 0, none⟩), .int .u64 (v : Int), .int .i64 n] w fun e w' => e = .returned (.tuple #[]) ∧ ObjStep (PW q c p L') S w0 w' := by
  subst e
  exact callR (Q := fun e => e = .returned (.tuple #[])) (objCd q c) H fun A h => put_any A p L v n w h hL hv
theorem pwBetween {S : Nat → Prop} {w0 w : World} {q p : Nat} {c : Cd} {L L' : List Bool} (H : ObjStep (PW q c p L) S w0 w) (l t d : Nat) (hlt : l + t ≤ 64) (hd : d < 18446744073709551616) (hL : L.length ≤ 90000000000000) (e : L ++ bitsOf (d / 2 ^ t) (64 - l - t) = L') :
    Calls Tryz.prog 234 #[win l t, .pointer (some ⟨p, 0, none⟩), .int .u64 (d : Int)] w fun e w' => e = .returned (.tuple #[]) ∧ ObjStep (PW q c p L') S w0 w' := by
  subst e
  exact callR (Q := fun e => e = .returned (.tuple #[])) (objCd q c) H fun A h => putBetween_any A p l t d L w h hlt hd hL
theorem pwCells {S : Nat → Prop} {w0 w : World} {q p : Nat} {c : Cd} {L : List Bool} (H : ObjStep (PW q c p L) S w0 w) :
    w.cell? ⟨q, 0, none⟩ = some (.int .i64 (wl c : Int)) ∧ w.cell? ⟨q, 1, none⟩ = some (.int .i64 (wt c : Int)) ∧ w.cell? ⟨q, 2, none⟩ = some (.bool c.begun) ∧ w.cell? ⟨q, 3, none⟩ = some (.int .u64 (c.v : Int)) ∧ ∀ o, w.frozen? ⟨q, o, none⟩ = false := by
  obtain ⟨A, h⟩ := seeL H
  exact cd4 h.1
theorem pwSet {S : Nat → Prop} {w0 w : World} {q p o : Nat} {c c' : Cd} {L : List Bool} {v : Value} (H : ObjStep (PW q c p L) S w0 w) (he : (pCells c).setIfInBounds o v = pCells c') : ObjStep (PW q c' p L) S w0 (w.setCell ⟨q, o, none⟩ v) :=
  stepL (objW p L) H fun A h => cdSet h he
theorem pwSet2 {S : Nat → Prop} {w0 w : World} {q p : Nat} {c : Cd} {L : List Bool} (H : ObjStep (PW q c p L) S w0 w) (l t : Nat) : ObjStep (PW q { c with win := true, lead := l, tail := t } p L) S w0 ((w.setCell ⟨q, 0, none⟩ (.int .i64 (l : Int))).setCell ⟨q, 1, none⟩ (.int .i64 (t : Int))) :=
  stepL (objW p L) H fun A h => cdSet2 h l t
theorem holdsB {w : World} (l t a b : Nat) (d : Nat) (os : Array Go.Obj) : Calls Tryz.prog 232 #[win l t, win a b] (grow (redrawn w d) os) fun e w' => e = .returned (.bool (decide (l ≤ a) && decide (t ≤ b))) ∧ Below (grow (redrawn w d) os).heap.size (grow (redrawn w d) os) w' :=
  (holds_any l t a b _).mono fun _ _ ⟨he, hu⟩ => ⟨he, belowOf hu⟩

/-! ### putDifference -/
set_option maxRecDepth 100000 in
set_option maxHeartbeats 3200000 in
theorem putD_first (S : Nat → Prop) (q p : Nat) (c : Cd) (L : List Bool) (d : Nat) (w : World) (h : PW q c p L w S) (hb : c.begun = false) (hL : L.length ≤ 80000000000000) (hd : d < 18446744073709551616) :
    Calls Tryz.prog 214 #[.pointer (some ⟨q, 0, none⟩), .pointer (some ⟨p, 0, none⟩), .int .u64 (d : Int)] w fun e w' => e = .returned (.tuple #[]) ∧ ObjStep (PW q c p (L ++ bitsOf d 64)) S w w' := by
  have H := ObjStep.refl (I := PW q c p L) h
  obtain ⟨k0, k1, k2, k3, kf⟩ := pwCells H
  rw [hb] at k2
  have HP := Lib.hid (pwPut H d 64 (by omega) hd (L' := L ++ bitsOf d 64) (by rfl))
  clear H h kf
  go_enter Tryz.func214, Tryz.ntmps214
  go_wp2_with fail
  refine HP.out.mono ?_
  rintro e w2 ⟨rfl, h2⟩
  replace h2 := Lib.hid h2
  clear HP
  go_wp2_with fail
  (try simp only [Exit.inBlock, Exit.then])
  refine bodyPost_ret (results_none rfl _ _ _) rfl ?_
  exact ⟨rfl, h2.out⟩
set_option maxRecDepth 100000 in
set_option maxHeartbeats 3200000 in
theorem putD_same (S : Nat → Prop) (q p : Nat) (c : Cd) (L : List Bool) (w : World) (h : PW q c p L w S) (hb : c.begun = true) (hL : L.length ≤ 80000000000000) :
    Calls Tryz.prog 214 #[.pointer (some ⟨q, 0, none⟩), .pointer (some ⟨p, 0, none⟩), .int .u64 0] w fun e w' => e = .returned (.tuple #[]) ∧ ObjStep (PW q c p (L ++ [false])) S w w' := by
  have H := ObjStep.refl (I := PW q c p L) h
  obtain ⟨k0, k1, k2, k3, kf⟩ := pwCells H
  rw [hb] at k2
  have HP := Lib.hid (pwPut H 0 1 (by omega) (by decide) (L' := L ++ [false]) (by rfl))
  clear H h kf
  go_enter Tryz.func214, Tryz.ntmps214
  go_wp2_with fail
  refine HP.out.mono ?_
  rintro e w2 ⟨rfl, h2⟩
  replace h2 := Lib.hid h2
  clear HP
  go_wp2_with fail
  (try simp only [Exit.inBlock, Exit.then])
  refine bodyPost_ret (results_none rfl _ _ _) rfl ?_
  exact ⟨rfl, h2.out⟩
set_option maxRecDepth 100000 in
set_option maxHeartbeats 3200000 in
theorem putD_within (S : Nat → Prop) (q p : Nat) (c : Cd) (L : List Bool) (d : Nat) (w : World) (h : PW q c p L w S) (hok : c.Ok) (hb : c.begun = true) (hL : L.length ≤ 80000000000000) (hd : d < 18446744073709551616) (hd0 : d ≠ 0) (hT : Tab w) (hG : ¬ S 3)
    (hw : c.win = true) (hl : c.lead ≤ Xr.lead d) (ht : c.tail ≤ Xr.tail d) :
    Calls Tryz.prog 214 #[.pointer (some ⟨q, 0, none⟩), .pointer (some ⟨p, 0, none⟩), .int .u64 (d : Int)] w fun e w' => e = .returned (.tuple #[]) ∧ ObjStep (PW q c p (L ++ ([true, false] ++ bitsOf (d / 2 ^ c.tail) (64 - c.lead - c.tail)))) S w w' := by
  have H := ObjStep.refl (I := PW q c p L) h
  obtain ⟨k0, k1, k2, k3, kf⟩ := pwCells H
  rw [hb] at k2
  have hbz : ((d : Int) == 0) = false := by rw [beq_eq_false_iff_ne]; omega
  have HP := Lib.hid (pwPut H 1 1 (by omega) (by decide) (L' := L ++ [true]) (by rfl))
  have hsum := hok.sum
  have el : Hid (wl c = c.lead) := Lib.hid (by unfold wl; rw [hw]; rfl)
  have et : Hid (wt c = c.tail) := Lib.hid (by unfold wt; rw [hw]; rfl)
  clear H h kf
  go_enter Tryz.func214, Tryz.ntmps214
  go_wp2_with fail
  refine HP.out.mono ?_
  rintro e w2 ⟨rfl, h2⟩
  clear HP k0 k1 k2 k3
  have hT2 := hT.upon h2.upon hG
  go_wp2_with fail
  refine (windowOf_any d hd hd0 w2 hT2).mono ?_
  rintro e w3 ⟨rfl, hu3⟩
  have h3 := stepNew (thingPW _ _ _ _) h2 hu3
  clear h2 hT2 hu3 hT
  generalize Xr.lead d = a at *
  generalize Xr.tail d = b at *
  obtain ⟨S', hI, go, hnS, hB, -⟩ := boxStart (thingPW _ _ _ _) h3 (.int .i64 (a : Int)) (.int .i64 (b : Int)) 295
  have H4 := ObjStep.refl (I := PW q c p (L ++ [true])) hI
  replace go := Lib.hid (go (PW q c p (L ++ ([true, false] ++ bitsOf (d / 2 ^ c.tail) (64 - c.lead - c.tail)))))
  obtain ⟨m0, m1, m2, m3, mf⟩ := pwCells H4
  have x0 := fun d os => cell_regrown m0 d os
  have x1 := fun d os => cell_regrown m1 d os
  have y0 := fun d os => cell_regrown hB.c0 d os
  have y1 := fun d os => cell_regrown hB.c1 d os
  have hv : (decide (wl c ≤ a) && decide (wt c ≤ b)) = true := by rw [el.out, et.out]; simp [hl, ht]
  have hh := Lib.hid (fun d os => hv ▸ holdsB (w := w3.alloc (.cells #[.int .i64 (a : Int), .int .i64 (b : Int)] 295 (0, 0))) (wl c) (wt c) a b d os)
  have hn5 := Lib.hid (fun (w5 : World) (hu : New0 (w3.alloc (.cells #[.int .i64 (a : Int), .int .i64 (b : Int)] 295 (0, 0))) w5) => stepNew (thingPW _ _ _ _) H4 hu)
  clear h3 hI hnS H4 m0 m1 m2 m3 mf hv hB
  go_wp2_with fail
  refine wp_region_quiet_below (by kernel_rfl) (by kernel_rfl) ?_
  repeat (go_big_quiet_step (first
    | exact Calls.regrown_of (hh.out _ _)))
  refine wpQuiet_nil ?_
  intro _ hw'
  obtain ⟨⟨dq, osq⟩, hw''⟩ := hw'
  subst hw''
  have h5 := hn5.out _ (newOf (below_regrown _ dq osq))
  have HP5 := Lib.hid (pwPut h5 0 1 (by simp; omega) (by decide) (L' := L ++ [true] ++ [false]) (by rfl))
  clear x0 x1 y0 y1 hh hn5 h5
  generalize grow (redrawn (w3.alloc (.cells #[.int .i64 (a : Int), .int .i64 (b : Int)] 295 (0, 0))) dq) osq = w5 at *
  go_wp2_with fail
  refine HP5.out.mono ?_
  rintro e w6 ⟨rfl, h6⟩
  clear HP5
  obtain ⟨n0, n1, n2, n3, nf⟩ := pwCells h6
  rw [el.out] at n0
  rw [et.out] at n1
  clear el et
  have HP6 := Lib.hid (pwBetween h6 c.lead c.tail d (by omega) hd (by simp; omega) (L' := L ++ ([true, false] ++ bitsOf (d / 2 ^ c.tail) (64 - c.lead - c.tail))) (by simp))
  clear h6
  go_wp2_with fail
  refine HP6.out.mono ?_
  rintro e w7 ⟨rfl, h7⟩
  have h8 := Lib.hid (go.out _ h7)
  clear HP6 h7 go
  go_wp2_with fail
  go_end0
  exact ⟨rfl, h8.out⟩
set_option maxRecDepth 100000 in
set_option maxHeartbeats 3200000 in
theorem putD_other (S : Nat → Prop) (q p : Nat) (c : Cd) (L : List Bool) (d : Nat) (w : World) (h : PW q c p L w S) (hb : c.begun = true) (hL : L.length ≤ 80000000000000) (hd : d < 18446744073709551616) (hd0 : d ≠ 0) (hT : Tab w) (hG : ¬ S 3)
    (hw : ¬ (c.win = true ∧ c.lead ≤ Xr.lead d ∧ c.tail ≤ Xr.tail d)) :
    Calls Tryz.prog 214 #[.pointer (some ⟨q, 0, none⟩), .pointer (some ⟨p, 0, none⟩), .int .u64 (d : Int)] w fun e w' => e = .returned (.tuple #[]) ∧ ObjStep (PW q { c with win := true, lead := Xr.lead d, tail := Xr.tail d } p (L ++ ([true, true] ++ bitsOf (Xr.lead d) 5 ++ bitsOf (63 - Xr.lead d - Xr.tail d) 6 ++ bitsOf (d / 2 ^ Xr.tail d) (64 - Xr.lead d - Xr.tail d)))) S w w' := by
  have H := ObjStep.refl (I := PW q c p L) h
  obtain ⟨k0, k1, k2, k3, kf⟩ := pwCells H
  rw [hb] at k2
  have hbz : ((d : Int) == 0) = false := by rw [beq_eq_false_iff_ne]; omega
  have HP := Lib.hid (pwPut H 1 1 (by omega) (by decide) (L' := L ++ [true]) (by rfl))
  have hsum := sum_le (d := d) hd (Nat.pos_of_ne_zero hd0)
  have hl31 := lead_le d
  have ht63 := tail_le d
  have hv : (decide (wl c ≤ Xr.lead d) && decide (wt c ≤ Xr.tail d)) = false := by
    unfold wl wt
    cases hwn : c.win with
    | false => simp; omega
    | true =>
      rw [Bool.and_eq_false_iff]
      by_cases h1 : c.lead ≤ Xr.lead d
      · right; exact decide_eq_false fun h2 => hw ⟨hwn, h1, h2⟩
      · left; exact decide_eq_false h1
  have hwin := Lib.hid (fun w hT => windowOf_any d hd hd0 w hT)
  clear H h kf hw
  generalize Xr.lead d = a at *
  generalize Xr.tail d = b at *
  go_enter Tryz.func214, Tryz.ntmps214
  go_wp2_with fail
  refine HP.out.mono ?_
  rintro e w2 ⟨rfl, h2⟩
  clear HP k0 k1 k2 k3
  have hT2 := hT.upon h2.upon hG
  go_wp2_with fail
  refine (hwin.out w2 hT2).mono ?_
  rintro e w3 ⟨rfl, hu3⟩
  have h3 := stepNew (thingPW _ _ _ _) h2 hu3
  clear h2 hT2 hu3 hT hwin
  obtain ⟨S', hI, go, hnS, hB, -⟩ := boxStart (thingPW _ _ _ _) h3 (.int .i64 (a : Int)) (.int .i64 (b : Int)) 295
  have H4 := ObjStep.refl (I := PW q c p (L ++ [true])) hI
  replace go := Lib.hid (go (PW q { c with win := true, lead := a, tail := b } p (L ++ ([true, true] ++ bitsOf a 5 ++ bitsOf (63 - a - b) 6 ++ bitsOf (d / 2 ^ b) (64 - a - b)))))
  obtain ⟨m0, m1, m2, m3, mf⟩ := pwCells H4
  have x0 := fun d os => cell_regrown m0 d os
  have x1 := fun d os => cell_regrown m1 d os
  have y0 := fun d os => cell_regrown hB.c0 d os
  have y1 := fun d os => cell_regrown hB.c1 d os
  have hh := Lib.hid (fun d os => hv ▸ holdsB (w := w3.alloc (.cells #[.int .i64 (a : Int), .int .i64 (b : Int)] 295 (0, 0))) (wl c) (wt c) a b d os)
  have hn5 := Lib.hid (fun (w5 : World) (hu : New0 (w3.alloc (.cells #[.int .i64 (a : Int), .int .i64 (b : Int)] 295 (0, 0))) w5) => stepNew (thingPW _ _ _ _) H4 hu)
  have hBx : Hid (∀ (I : Ob.Rel) (w' : World), ObjStep I S' (w3.alloc (.cells #[.int .i64 (a : Int), .int .i64 (b : Int)] 295 (0, 0))) w' → Boxed w3.heap.size (.int .i64 (a : Int)) (.int .i64 (b : Int)) w') := Lib.hid (fun _ _ hs => hB.beside hs hnS)
  clear h3 hI hnS H4 m0 m1 m2 m3 mf hv hB
  go_wp2_with fail
  refine wp_region_quiet_below (by kernel_rfl) (by kernel_rfl) ?_
  repeat (go_big_quiet_step (first
    | exact Calls.regrown_of (hh.out _ _)))
  refine wpQuiet_nil ?_
  intro _ hw'
  obtain ⟨⟨dq, osq⟩, hw''⟩ := hw'
  subst hw''
  have h5 := hn5.out _ (newOf (below_regrown _ dq osq))
  have HP5 := Lib.hid (pwPut h5 1 1 (by simp; omega) (by decide) (L' := L ++ [true] ++ [true]) (by rfl))
  clear x0 x1 y0 y1 hh hn5 h5
  generalize grow (redrawn (w3.alloc (.cells #[.int .i64 (a : Int), .int .i64 (b : Int)] 295 (0, 0))) dq) osq = w5 at *
  generalize w3.alloc (.cells #[.int .i64 (a : Int), .int .i64 (b : Int)] 295 (0, 0)) = wb at *
  generalize w3.heap.size = g at *
  go_wp2_with fail
  refine HP5.out.mono ?_
  rintro e w6 ⟨rfl, h6⟩
  clear HP5
  obtain ⟨b0, b1, bf0, bf1⟩ := hBx.out _ _ h6
  have HP6 := Lib.hid (pwPut h6 a 5 (by simp; omega) (by omega) (L' := L ++ [true] ++ [true] ++ bitsOf a 5) (by rfl))
  clear h6
  go_wp2_with fail
  refine HP6.out.mono ?_
  rintro e w7 ⟨rfl, h7⟩
  clear HP6 b0 b1 bf0 bf1
  obtain ⟨b0, b1, bf0, bf1⟩ := hBx.out _ _ h7
  go_wp2_with fail
  refine (size_any a b (by omega) w7).mono ?_
  rintro e w8 ⟨rfl, hu8⟩
  have h8 := stepNew (thingPW _ _ _ _) h7 hu8
  clear h7 hu8 b0 b1 bf0 bf1
  obtain ⟨b0, b1, bf0, bf1⟩ := hBx.out _ _ h8
  have hi : ((64 - a - b : Nat) : Int) - 1 = ((63 - a - b : Nat) : Int) := by omega
  have HP8 := Lib.hid (pwPut h8 (63 - a - b) 6 (by simp [bitsOf_length]; omega) (by omega) (L' := L ++ [true] ++ [true] ++ bitsOf a 5 ++ bitsOf (63 - a - b) 6) (by rfl))
  clear h8
  go_wp2_with fail
  refine HP8.out.mono ?_
  rintro e w9 ⟨rfl, h9⟩
  clear HP8 b0 b1 bf0 bf1 hi
  obtain ⟨b0, b1, bf0, bf1⟩ := hBx.out _ _ h9
  obtain ⟨n0, n1, n2, n3, nf⟩ := pwCells h9
  have nf0 := nf 0
  have nf1 := nf 1
  have h10 := pwSet2 h9 a b
  obtain ⟨l0, l1, l2, l3, -⟩ := pwCells h10
  replace l0 : ((w9.setCell ⟨q, 0, none⟩ (.int .i64 (a : Int))).setCell ⟨q, 1, none⟩ (.int .i64 (b : Int))).cell? ⟨q, 0, none⟩ = some (.int .i64 (a : Int)) := l0
  replace l1 : ((w9.setCell ⟨q, 0, none⟩ (.int .i64 (a : Int))).setCell ⟨q, 1, none⟩ (.int .i64 (b : Int))).cell? ⟨q, 1, none⟩ = some (.int .i64 (b : Int)) := l1
  have HP10 := Lib.hid (pwBetween h10 a b d (by omega) hd (by simp [bitsOf_length]; omega) (L' := L ++ ([true, true] ++ bitsOf a 5 ++ bitsOf (63 - a - b) 6 ++ bitsOf (d / 2 ^ b) (64 - a - b))) (by simp))
  clear h9 h10 nf
  go_wp2_with fail
  refine HP10.out.mono ?_
  rintro e w11 ⟨rfl, h11⟩
  have h12 := Lib.hid (go.out _ h11)
  clear HP10 h11 go
  go_wp2_with fail
  go_end0
  exact ⟨rfl, h12.out⟩
/-! ### Put -/
/-- putDifference, whatever the difference. -/
theorem putD_any (S : Nat → Prop) (q p : Nat) (c : Cd) (L : List Bool) (v : Nat) (w : World) (h : PW q c p L w S) (hok : c.Ok) (hf : c.begun = false → c.v = 0) (hL : L.length ≤ 80000000000000) (hv : v < 18446744073709551616) (hT : Tab w) (hG : ¬ S 3) :
    Calls Tryz.prog 214 #[.pointer (some ⟨q, 0, none⟩), .pointer (some ⟨p, 0, none⟩), .int .u64 ((v ^^^ c.v : Nat) : Int)] w fun e w' => e = .returned (.tuple #[]) ∧ ∃ c', ObjStep (PW q c' p (L ++ putB c v)) S w w' ∧ { c' with begun := true, v := v } = putC c v := by
  have hc : c.v < 18446744073709551616 := hok.v
  have hd := xor_lt (a := v) (b := c.v) hv hc
  by_cases hb : c.begun = false
  · have e1 : putC c v = { c with begun := true, v := v } := by unfold putC; rw [if_pos hb]
    have e2 : putB c v = bitsOf (v ^^^ c.v) 64 := by unfold putB; rw [if_pos hb, hf hb, Nat.xor_zero]
    rw [e2]
    exact (putD_first S q p c L _ w h hb hL hd).mono fun _ _ ⟨he, hs⟩ => ⟨he, c, hs, e1.symm⟩
  · have hb' : c.begun = true := by simpa using hb
    by_cases hx : v ^^^ c.v = 0
    · have e1 : putC c v = { c with begun := true, v := v } := by unfold putC; rw [if_neg hb, if_pos hx, ← hb']
      have e2 : putB c v = [false] := by unfold putB; rw [if_neg hb, if_pos hx]
      rw [e2, hx]
      exact (putD_same S q p c L w h hb' hL).mono fun _ _ ⟨he, hs⟩ => ⟨he, c, hs, e1.symm⟩
    · by_cases hw : c.win = true ∧ c.lead ≤ Xr.lead (v ^^^ c.v) ∧ c.tail ≤ Xr.tail (v ^^^ c.v)
      · have e1 : putC c v = { c with begun := true, v := v } := by unfold putC; rw [if_neg hb, if_neg hx, if_pos hw, ← hb']
        have e2 : putB c v = [true, false] ++ bitsOf ((v ^^^ c.v) / 2 ^ c.tail) (64 - c.lead - c.tail) := by unfold putB; rw [if_neg hb, if_neg hx, if_pos hw]
        rw [e2]
        exact (putD_within S q p c L _ w h hok hb' hL hd hx hT hG hw.1 hw.2.1 hw.2.2).mono fun _ _ ⟨he, hs⟩ => ⟨he, c, hs, e1.symm⟩
      · have e1 : putC c v = ⟨true, v, true, Xr.lead (v ^^^ c.v), Xr.tail (v ^^^ c.v)⟩ := by unfold putC; rw [if_neg hb, if_neg hx, if_neg hw]
        have e2 : putB c v = [true, true] ++ bitsOf (Xr.lead (v ^^^ c.v)) 5 ++ bitsOf (63 - Xr.lead (v ^^^ c.v) - Xr.tail (v ^^^ c.v)) 6 ++ bitsOf ((v ^^^ c.v) / 2 ^ Xr.tail (v ^^^ c.v)) (64 - Xr.lead (v ^^^ c.v) - Xr.tail (v ^^^ c.v)) := by unfold putB; rw [if_neg hb, if_neg hx, if_neg hw]
        rw [e2]
        exact (putD_other S q p c L _ w h hb' hL hd hx hT hG hw).mono fun _ _ ⟨he, hs⟩ => ⟨he, _, hs, e1.symm⟩
set_option maxRecDepth 100000 in
set_option maxHeartbeats 3200000 in
/-- Put, as the document says it. -/
theorem cdPut_any (S : Nat → Prop) (q p : Nat) (c : Cd) (L : List Bool) (v : Nat) (w : World) (h : PW q c p L w S) (hok : c.Ok) (hf : c.begun = false → c.v = 0) (hL : L.length ≤ 80000000000000) (hv : v < 18446744073709551616) (hT : Tab w) (hG : ¬ S 3) :
    Calls Tryz.prog 190 #[.pointer (some ⟨q, 0, none⟩), .pointer (some ⟨p, 0, none⟩), .int .u64 (v : Int)] w fun e w' => e = .returned (.tuple #[]) ∧ ObjStep (PW q (putC c v) p (L ++ putB c v)) S w w' := by
  have H := ObjStep.refl (I := PW q c p L) h
  obtain ⟨k0, k1, k2, k3, kf⟩ := pwCells H
  have hx := Lib.hid (xor_int v c.v hv hok.v)
  have hx' := hx.out
  have HP := Lib.hid (putD_any S q p c L v w h hok hf hL hv hT hG)
  generalize v ^^^ c.v = d at *
  generalize putB c v = M at *
  generalize putC c v = c2 at *
  clear H h kf hT hok hf hL hx
  go_enter Tryz.func190, Tryz.ntmps190
  go_wp2_with fail
  refine HP.out.mono ?_
  rintro e w2 ⟨rfl, c', h2, rfl⟩
  clear HP k0 k1 k2 k3
  obtain ⟨m0, m1, m2, m3, mf⟩ := pwCells h2
  have f2 := mf 2
  have h3 := pwSet (o := 2) (v := .bool true) (c' := { c' with begun := true }) h2 rfl
  obtain ⟨n0, n1, n2, n3, nf⟩ := pwCells h3
  have f3 := nf 3
  have h4 := Lib.hid (pwSet (o := 3) (v := .int .u64 (v : Int)) (c' := { c' with begun := true, v := v }) h3 rfl)
  clear h2 h3 mf nf
  go_wp2_with fail
  go_end0
  exact ⟨rfl, h4.out⟩
end Xr
end Go.Proofs.YtlgjbcmloochiaaGreatDoor
end

/- Rows of patterns, plainly: what is written, and what it costs. Names no function of the program. -/
section
namespace Go.Proofs.YtlgjbcmloochiaaGreatDoor
namespace Xr
open Bit
set_option linter.unusedVariables false

/-- The coder behind a row of patterns. -/
def putsC (c : Cd) : List Nat → Cd
  | [] => c
  | v :: l => putsC (putC c v) l
theorem putsC_ok : ∀ (l : List Nat) {c : Cd}, c.Ok → (∀ v ∈ l, v < 2 ^ 64) → (putsC c l).Ok
  | [], _, h, _ => h
  | v :: l, _, h, k => putsC_ok l (h.put (k v (by simp))) fun u hu => k u (by simp [hu])

/-! ### what it costs -/
end Xr
end Go.Proofs.YtlgjbcmloochiaaGreatDoor
end

/- What is read of a pattern, case by case, plainly. Names no function of the program. -/
section
namespace Go.Proofs.YtlgjbcmloochiaaGreatDoor
namespace Xr
open Bit
set_option linter.unusedVariables false

end Xr
end Go.Proofs.YtlgjbcmloochiaaGreatDoor
end

/- The program's coder of patterns (layer 7): Get. -/
section
namespace Go.Proofs.YtlgjbcmloochiaaGreatDoor
open Go.RowKit Go.Sort
namespace Xr
open Bit Dsk Ob
set_option linter.unusedVariables false

/-! ### coder and reader -/

theorem Tab.lt {w : World} (h : Tab w) : 3 < w.heap.size := World.block_lt_of_cell? w _ (h 0 (by decide))
/-! ### getOutside -/
end Xr
end Go.Proofs.YtlgjbcmloochiaaGreatDoor
end

/- The program's coder of patterns (layer 7): Get, whatever the bits. -/
section
namespace Go.Proofs.YtlgjbcmloochiaaGreatDoor
open Go.RowKit Go.Sort
namespace Xr
open Bit Dsk Ob
set_option linter.unusedVariables false

/-! ### Get -/
end Xr
end Go.Proofs.YtlgjbcmloochiaaGreatDoor
end

/- The coders of layer 7 that a law has made; the statements' own 'works'; what the tied condition gives. -/
section
namespace Go.Proofs.YtlgjbcmloochiaaGreatDoor
open Go.RowKit Go.Sort
namespace Xr
open Bit Dsk Ob
set_option linter.unusedVariables false

/-! ### the table -/
theorem tab_of_head {W : World} {rest : List (String × DataW Unit)} (h : laidMet Tryz.prog (("math/bits.deBruijn64tab", Rows.laid_math_bits_deBruijn64tab) :: rest) W) : Tab W := by
  have hg : Tryz.prog.globalNamed "math/bits.deBruijn64tab" = some 3 := by kernel_rfl
  have hT : Lib.TabIs Tryz.prog W "math/bits.deBruijn64tab" .u8 (Lib.deBruijn64tab.map Int.ofNat) :=
    Lib.tabIs_of_head (t := 342) (e := 5) (n := 64) hg (by kernel_rfl) (by kernel_rfl) (by kernel_rfl) (by kernel_rfl) (by kernel_rfl) h
  intro j hj
  have h0 := hT.cell hg j (by simpa using hj)
  rw [h0]
  congr 2
  rw [List.getD_eq_getElem?_getD, List.getD_eq_getElem?_getD, List.getElem?_map, List.getElem?_eq_getElem hj]
  rfl
theorem Tab.own {w0 w : World} (h : Tab w0) (hb : Below w0.heap.size w0 w) : Tab w := h.upon (Upon.of_below hb (fun _ => False)) fun f => f
theorem notG {w0 : World} (h : Tab w0) {A : Nat → Prop} (hA : ∀ b, A b → w0.heap.size ≤ b) : ¬ A 3 := fun ha => Nat.lt_irrefl _ (Nat.lt_of_lt_of_le h.lt (hA _ ha))

/-! ### rows of patterns -/
def U64 (l : List Nat) : Prop := ∀ v ∈ l, v < 18446744073709551616
theorem U64.ok {l : List Nat} (h : U64 l) : (putsC newC l).Ok := putsC_ok l ok_new h
theorem putC_begun (c : Cd) (v : Nat) : (putC c v).begun = true := by
  unfold putC
  by_cases h : c.begun = false
  · rw [if_pos h]
  · rw [if_neg h]
    split
    · simpa using h
    · split
      · simpa using h
      · rfl
theorem U64.snoc {l : List Nat} (h : U64 l) {v : Nat} (hv : v < 18446744073709551616) : U64 (l ++ [v]) := fun x hx => by
  rcases List.mem_append.1 hx with k | k
  · exact h x k
  · simp at k; rw [k]; exact hv
theorem CMade.own {w0 w : World} {e : Ending} {w' : World} (hb : Below w0.heap.size w0 w) (h : CMade w e w') : ∃ q, e = .returned (.pointer (some ⟨q, 0, none⟩)) ∧ Own (IsCd q newC) w0 w' := by
  obtain ⟨q, h1, h2, h3, h4⟩ := h
  exact ⟨q, h1, ⟨fun x => x = q, h2, fun b hS => by rw [hS]; exact Nat.le_trans hb.size h3⟩, below_of_upon hb h4⟩
/-- A coder is made beside another object. -/
theorem CMade.beside {I : Ob.Rel} (hI : Thing I) {w0 w : World} {e : Ending} {w' : World} (H : Own I w0 w) (h : CMade w e w') : ∃ q, e = .returned (.pointer (some ⟨q, 0, none⟩)) ∧ Own (Tens I (IsCd q newC)) w0 w' := by
  obtain ⟨q, h1, h2, h3, h4⟩ := h
  exact ⟨q, h1, Own.new hI H h2 (fun b hb => by rw [hb]; exact h3) h4⟩
theorem WMade.beside {I : Ob.Rel} (hI : Thing I) {w0 w : World} {e : Ending} {w' : World} (H : Own I w0 w) (h : WMade w e w') : ∃ q, e = .returned (.pointer (some ⟨q, 0, none⟩)) ∧ Own (Tens I (fun w S => IsW w S q [])) w0 w' := by
  obtain ⟨S, q, h1, h2, h3, h4⟩ := h
  exact ⟨q, h1, Own.new hI H h2 h3 h4⟩
/-- A reader of what was packed is made beside another object. -/
theorem RMade.beside {I : Ob.Rel} (hI : Thing I) {s : ByteArray} {L : List Bool} (hs : s.data.toList = pack L) {w0 w : World} {e : Ending} {w' : World} (H : Own I w0 w) (h : RMade s L.length w e w') : ∃ q, e = .returned (.pointer (some ⟨q, 0, none⟩)) ∧ Own (Tens I (fun w S => IsRK w S q L)) w0 w' := by
  obtain ⟨S, q, h1, h2, h3, h4⟩ := h
  exact ⟨q, h1, Own.new hI H (rkOf hs h2) h3 h4⟩

/-! ### works -/
end Xr
end Go.Proofs.YtlgjbcmloochiaaGreatDoor
end
