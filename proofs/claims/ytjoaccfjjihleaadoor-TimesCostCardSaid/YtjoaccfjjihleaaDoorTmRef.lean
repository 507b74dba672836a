/- The document's own coder of times (layer 8): Put. -/
import Derived.Test.YtjoaccfjjihleaaDoorTmPure
import Derived.Test.YtjoaccfjjihleaaDoorBitRow
namespace Go.Proofs.YtjoaccfjjihleaaDoor
open Go.RowKit Go.Sort
namespace Tm
open Bit Dsk Ob
set_option linter.unusedVariables false

theorem i64_wr (x : Int) : IntKind.i64.wrap x = wr x := by rw [IntKind.wrap_i64]; rfl
theorem w64_wr (x : Int) : wrap64 x = wr x := by unfold wrap64 wr; rfl
theorem u64_un (x : Int) : IntKind.u64.wrap x = (un x : Int) := by rw [IntKind.wrap_u64]; unfold un; omega

/-! ### the coder in memory -/
def cCells (c : Cd) : Array Value := #[.bool c.begun, .int .i64 c.t, .int .i64 c.d]
/-- The document's coder at block q. -/
def IsRC (q : Nat) (c : Cd) : Ob.Rel := fun w S => w.heap[q]? = some (.cells (cCells c) 27 (0, 0)) ∧ ∀ x, S x ↔ x = q
theorem objRC (q : Nat) (c : Cd) : Thing (IsRC q c) := ⟨fun w w' S h hk _ => ⟨(hk q ((h.2 q).2 rfl)).trans h.1, h.2⟩, fun w S h x hx => by rw [(h.2 x).1 hx]; exact (Array.getElem?_eq_some_iff.1 h.1).1⟩
theorem rc3 {w : World} {q : Nat} {c : Cd} (h : w.heap[q]? = some (.cells (cCells c) 27 (0, 0))) :
    w.cell? ⟨q, 0, none⟩ = some (.bool c.begun) ∧ w.cell? ⟨q, 1, none⟩ = some (.int .i64 c.t) ∧ w.cell? ⟨q, 2, none⟩ = some (.int .i64 c.d) ∧ ∀ o, w.frozen? ⟨q, o, none⟩ = false := by
  refine ⟨?_, ?_, ?_, fun o => Lib.frozen_of_heap h o⟩ <;> (rw [Lib.cell_of_heap h]; rfl)
theorem rcSet {w : World} {A : Nat → Prop} {q o : Nat} {c c' : Cd} {v : Value} (h : IsRC q c w A) (he : (cCells c).setIfInBounds o v = cCells c') : ObjStep (IsRC q c') A w (w.setCell ⟨q, o, none⟩ v) :=
  stepCell ((h.2 q).2 rfl) ⟨by rw [← he]; simp [World.setCell, Array.getElem?_modify, h.1], h.2⟩

/-! ### coder and writer -/
abbrev CW (q : Nat) (c : Cd) (p : Nat) (L : List Bool) : Ob.Rel := Tens (IsRC q c) (fun w S => IsRW w S p L)
theorem thingCW (q : Nat) (c : Cd) (p : Nat) (L : List Bool) : Thing (CW q c p L) := Tens.ob (objRC q c) (objRW p L)
theorem cwPut {S : Nat → Prop} {w0 w : World} {q p : Nat} {c : Cd} {L L' : List Bool} (H : ObjStep (CW q c p L) S w0 w) (v : Nat) (n : Int) (hL : L.length ≤ 90000000000000) (hv : v < 18446744073709551616) (e : L ++ bitsOf v (cnt n) = L') :
    Calls Tryd.prog 24 #[.pointer (some ⟨p, 0, none⟩), .int .u64 (v : Int), .int .i64 n] w fun e w' => e = .returned (.tuple #[]) ∧ ObjStep (CW q c p L') S w0 w' := by
  subst e
  exact callR (Q := fun e => e = .returned (.tuple #[])) (objRC q c) H fun A h => refput_any A p L v n w h hL hv
theorem cwCells {S : Nat → Prop} {w0 w : World} {q p : Nat} {c : Cd} {L : List Bool} (H : ObjStep (CW q c p L) S w0 w) :
    w.cell? ⟨q, 0, none⟩ = some (.bool c.begun) ∧ w.cell? ⟨q, 1, none⟩ = some (.int .i64 c.t) ∧ w.cell? ⟨q, 2, none⟩ = some (.int .i64 c.d) ∧ ∀ o, w.frozen? ⟨q, o, none⟩ = false := by
  obtain ⟨A, h⟩ := seeL H
  exact rc3 h.1
theorem cwSet {S : Nat → Prop} {w0 w : World} {q p o : Nat} {c c' : Cd} {L : List Bool} {v : Value} (H : ObjStep (CW q c p L) S w0 w) (he : (cCells c).setIfInBounds o v = cCells c') : ObjStep (CW q c' p L) S w0 (w.setCell ⟨q, o, none⟩ v) :=
  stepL (objRW p L) H fun A h => rcSet h he
set_option maxHeartbeats 1600000 in
/-- The document's put: a front, a number behind it. -/
theorem cwPut2 {S : Nat → Prop} {w0 w : World} {q p : Nat} {c : Cd} {L L' : List Bool} (H : ObjStep (CW q c p L) S w0 w) (front n : Nat) (x : Int) (m : Nat) (hn : n ≤ 64) (hm : m ≤ 64) (hL : L.length ≤ 80000000000000) (hf : front < 18446744073709551616) (e : L ++ (bitsOf front n ++ bitsOf (un x) m) = L') :
    Calls Tryd.prog 25 #[.pointer (some ⟨p, 0, none⟩), .int .u64 (front : Int), .int .i64 (n : Int), .int .i64 x, .int .i64 (m : Int)] w fun e w' => e = .returned (.tuple #[]) ∧ ObjStep (CW q c p L') S w0 w' := by
  subst e
  have h1 := Lib.hid (cwPut H front (n : Int) (by omega) hf (L' := L ++ bitsOf front n) (by rw [cnt_nat hn]))
  have hu := u64_un x
  clear H
  go_enter Tryd.func25, Tryd.ntmps25
  go_wp2_with fail
  refine h1.out.mono ?_
  rintro e w2 ⟨rfl, h2⟩
  have h3 := Lib.hid (cwPut h2 (un x) (m : Int) (by rw [List.length_append, bitsOf_length]; omega) (un_lt x) (L' := L ++ (bitsOf front n ++ bitsOf (un x) m)) (by rw [cnt_nat hm, List.append_assoc]))
  clear h1 h2
  go_wp2_with fail
  refine h3.out.mono ?_
  rintro e w4 ⟨rfl, h4⟩
  replace h4 := Lib.hid h4
  clear h3
  go_wp2_with fail
  go_end0
  exact ⟨rfl, h4.out⟩
theorem cls_cases (x : Int) : (x = 0 ∧ cls x = 0) ∨ (x ≠ 0 ∧ -63 ≤ x ∧ x ≤ 64 ∧ cls x = 1) ∨ ((x < -63 ∨ 64 < x) ∧ -255 ≤ x ∧ x ≤ 256 ∧ cls x = 2) ∨ ((x < -255 ∨ 256 < x) ∧ -2047 ≤ x ∧ x ≤ 2048 ∧ cls x = 3) ∨ ((x < -2047 ∨ 2048 < x) ∧ cls x = 4) := by
  unfold cls
  by_cases h0 : x = 0
  · left; exact ⟨h0, by rw [if_pos h0]⟩
  · by_cases h1 : -63 ≤ x ∧ x ≤ 64
    · right; left; exact ⟨h0, h1.1, h1.2, by rw [if_neg h0, if_pos h1]⟩
    · by_cases h2 : -255 ≤ x ∧ x ≤ 256
      · right; right; left; exact ⟨by omega, h2.1, h2.2, by rw [if_neg h0, if_neg h1, if_pos h2]⟩
      · by_cases h3 : -2047 ≤ x ∧ x ≤ 2048
        · right; right; right; left; exact ⟨by omega, h3.1, h3.2, by rw [if_neg h0, if_neg h1, if_neg h2, if_pos h3]⟩
        · right; right; right; right; exact ⟨by omega, by rw [if_neg h0, if_neg h1, if_neg h2, if_neg h3]⟩
theorem chB_at {x : Int} {k : Nat} (h : cls x = k) : chB x = hd k ++ bitsOf (val k x) (sz k) := by unfold chB; rw [h]

set_option maxRecDepth 100000 in
set_option maxHeartbeats 3200000 in
theorem refPut_first (S : Nat → Prop) (q p : Nat) (c : Cd) (L : List Bool) (t : Int) (w : World) (h : CW q c p L w S) (hb : c.begun = false) (hL : L.length ≤ 80000000000000) :
    Calls Tryd.prog 11 #[.pointer (some ⟨q, 0, none⟩), .pointer (some ⟨p, 0, none⟩), .int .i64 t] w fun e w' => e = .returned (.tuple #[]) ∧ ObjStep (CW q ⟨true, t, c.d⟩ p (L ++ bitsOf (un t) 64)) S w w' := by
  have H := ObjStep.refl (I := CW q c p L) h
  obtain ⟨k0, k1, k2, kf⟩ := cwCells H
  have f0 := kf 0
  rw [hb] at k0
  have hu := u64_un t
  have H1 := cwSet (o := 0) (v := .bool true) (c' := { c with begun := true }) H rfl
  have H2 := cwSet (o := 1) (v := .int .i64 t) (c' := ⟨true, t, c.d⟩) H1 rfl
  have f1 := (cwCells H1).2.2.2 1
  have g1 := (cwCells H1).2.1
  have HP := Lib.hid (cwPut H2 (un t) 64 (by omega) (un_lt t) (L' := L ++ bitsOf (un t) 64) (by rfl))
  clear H H1 H2 kf h
  go_enter Tryd.func11, Tryd.ntmps11
  go_wp2_with fail
  refine HP.out.mono ?_
  rintro e w2 ⟨rfl, h2⟩
  replace h2 := Lib.hid h2
  clear HP
  go_wp2_with fail
  (try simp only [Exit.inBlock, Exit.then])
  refine bodyPost_ret (results_none rfl _ _ _) rfl ?_
  exact ⟨rfl, h2.out⟩
set_option maxRecDepth 100000 in
set_option maxHeartbeats 6400000 in
theorem refPut_next (S : Nat → Prop) (q p : Nat) (c : Cd) (L : List Bool) (t d x : Int) (w : World) (h : CW q c p L w S) (hb : c.begun = true) (hL : L.length ≤ 80000000000000) (hd : wr (t - c.t) = d) (hx : wr (d - c.d) = x) :
    Calls Tryd.prog 11 #[.pointer (some ⟨q, 0, none⟩), .pointer (some ⟨p, 0, none⟩), .int .i64 t] w fun e w' => e = .returned (.tuple #[]) ∧ ObjStep (CW q ⟨true, t, d⟩ p (L ++ chB x)) S w w' := by
  have H := ObjStep.refl (I := CW q c p L) h
  obtain ⟨k0, k1, k2, kf⟩ := cwCells H
  have f1 := kf 1
  rw [hb] at k0
  have e1 : IntKind.i64.wrap (t - c.t) = d := (i64_wr _).trans hd
  have e2 : IntKind.i64.wrap (d - c.d) = x := (i64_wr _).trans hx
  have H1 := cwSet (o := 1) (v := .int .i64 t) (c' := ⟨true, t, c.d⟩) H (by unfold cCells; rw [hb]; rfl)
  have H2 := cwSet (o := 2) (v := .int .i64 d) (c' := ⟨true, t, d⟩) H1 rfl
  have f2 := (cwCells H1).2.2.2 2
  have g2 := (cwCells H1).2.2.1
  have hin : In x := by rw [← hx]; exact wr_in _
  have hcases := cls_cases x
  clear H H1 kf h hd hx
  rcases hcases with ⟨h0, hk⟩ | ⟨h0, ha, hb2, hk⟩ | ⟨h0, ha, hb2, hk⟩ | ⟨h0, ha, hb2, hk⟩ | ⟨h0, hk⟩
  · have HP := Lib.hid (cwPut H2 0 1 (by omega) (by decide) (L' := L ++ chB x) (by rw [chB_at hk]; rfl))
    clear H2 hk
    subst h0
    go_enter Tryd.func11, Tryd.ntmps11
    go_wp2_with fail
    refine HP.out.mono ?_
    rintro e w2 ⟨rfl, h2⟩
    replace h2 := Lib.hid h2
    clear HP
    go_wp2_with fail
    go_end0
    exact ⟨rfl, h2.out⟩
  · have hi : IntKind.i64.wrap (x + 63) = x + 63 := by rw [i64_wr, wr_id (by unfold In; omega)]
    have HP := Lib.hid (cwPut2 H2 2 2 (x + 63) 7 (by omega) (by omega) hL (by decide) (L' := L ++ chB x) (by rw [chB_at hk]; rfl))
    have d0 : (x == 0) = false := by rw [beq_eq_false_iff_ne]; omega
    clear H2 hk
    have lo : decide (-63 ≤ x) = true := decide_eq_true (by omega)
    have hi2 : decide (x ≤ 64) = true := decide_eq_true (by omega)
    go_enter Tryd.func11, Tryd.ntmps11
    go_wp2_with fail
    refine HP.out.mono ?_
    rintro e w2 ⟨rfl, h2⟩
    replace h2 := Lib.hid h2
    clear HP
    go_wp2_with fail
    go_end0
    exact ⟨rfl, h2.out⟩
  · have hi : IntKind.i64.wrap (x + 255) = x + 255 := by rw [i64_wr, wr_id (by unfold In; omega)]
    have HP := Lib.hid (cwPut2 H2 6 3 (x + 255) 9 (by omega) (by omega) hL (by decide) (L' := L ++ chB x) (by rw [chB_at hk]; rfl))
    have d0 : (x == 0) = false := by rw [beq_eq_false_iff_ne]; omega
    clear H2 hk
    rcases h0 with h0 | h0
    · have lo : decide (-255 ≤ x) = true := decide_eq_true (by omega)
      have hi2 : decide (x ≤ 256) = true := decide_eq_true (by omega)
      have l1 : decide (-63 ≤ x) = false := decide_eq_false (by omega)
      go_enter Tryd.func11, Tryd.ntmps11
      go_wp2_with fail
      refine HP.out.mono ?_
      rintro e w2 ⟨rfl, h2⟩
      replace h2 := Lib.hid h2
      clear HP
      go_wp2_with fail
      go_end0
      exact ⟨rfl, h2.out⟩
    · have lo : decide (-255 ≤ x) = true := decide_eq_true (by omega)
      have hi2 : decide (x ≤ 256) = true := decide_eq_true (by omega)
      have l1 : decide (-63 ≤ x) = true := decide_eq_true (by omega)
      have u1 : decide (x ≤ 64) = false := decide_eq_false (by omega)
      go_enter Tryd.func11, Tryd.ntmps11
      go_wp2_with fail
      refine HP.out.mono ?_
      rintro e w2 ⟨rfl, h2⟩
      replace h2 := Lib.hid h2
      clear HP
      go_wp2_with fail
      go_end0
      exact ⟨rfl, h2.out⟩
  · have hi : IntKind.i64.wrap (x + 2047) = x + 2047 := by rw [i64_wr, wr_id (by unfold In; omega)]
    have HP := Lib.hid (cwPut2 H2 14 4 (x + 2047) 12 (by omega) (by omega) hL (by decide) (L' := L ++ chB x) (by rw [chB_at hk]; rfl))
    have d0 : (x == 0) = false := by rw [beq_eq_false_iff_ne]; omega
    clear H2 hk
    rcases h0 with h0 | h0
    · have lo : decide (-2047 ≤ x) = true := decide_eq_true (by omega)
      have hi2 : decide (x ≤ 2048) = true := decide_eq_true (by omega)
      have l1 : decide (-63 ≤ x) = false := decide_eq_false (by omega)
      have l2 : decide (-255 ≤ x) = false := decide_eq_false (by omega)
      go_enter Tryd.func11, Tryd.ntmps11
      go_wp2_with fail
      refine HP.out.mono ?_
      rintro e w2 ⟨rfl, h2⟩
      replace h2 := Lib.hid h2
      clear HP
      go_wp2_with fail
      go_end0
      exact ⟨rfl, h2.out⟩
    · have lo : decide (-2047 ≤ x) = true := decide_eq_true (by omega)
      have hi2 : decide (x ≤ 2048) = true := decide_eq_true (by omega)
      have l1 : decide (-63 ≤ x) = true := decide_eq_true (by omega)
      have u1 : decide (x ≤ 64) = false := decide_eq_false (by omega)
      have l2 : decide (-255 ≤ x) = true := decide_eq_true (by omega)
      have u2 : decide (x ≤ 256) = false := decide_eq_false (by omega)
      go_enter Tryd.func11, Tryd.ntmps11
      go_wp2_with fail
      refine HP.out.mono ?_
      rintro e w2 ⟨rfl, h2⟩
      replace h2 := Lib.hid h2
      clear HP
      go_wp2_with fail
      go_end0
      exact ⟨rfl, h2.out⟩
  · have HP := Lib.hid (cwPut2 H2 15 4 x 64 (by omega) (by omega) hL (by decide) (L' := L ++ chB x) (by rw [chB_at hk]; show _ = L ++ (hd 4 ++ bitsOf (un (x + 0)) 64); rw [Int.add_zero]; rfl))
    have d0 : (x == 0) = false := by rw [beq_eq_false_iff_ne]; omega
    clear H2 hk
    rcases h0 with h0 | h0
    · have l1 : decide (-63 ≤ x) = false := decide_eq_false (by omega)
      have l2 : decide (-255 ≤ x) = false := decide_eq_false (by omega)
      have l3 : decide (-2047 ≤ x) = false := decide_eq_false (by omega)
      go_enter Tryd.func11, Tryd.ntmps11
      go_wp2_with fail
      refine HP.out.mono ?_
      rintro e w2 ⟨rfl, h2⟩
      replace h2 := Lib.hid h2
      clear HP
      go_wp2_with fail
      go_end0
      exact ⟨rfl, h2.out⟩
    · have l1 : decide (-63 ≤ x) = true := decide_eq_true (by omega)
      have u1 : decide (x ≤ 64) = false := decide_eq_false (by omega)
      have l2 : decide (-255 ≤ x) = true := decide_eq_true (by omega)
      have u2 : decide (x ≤ 256) = false := decide_eq_false (by omega)
      have l3 : decide (-2047 ≤ x) = true := decide_eq_true (by omega)
      have u3 : decide (x ≤ 2048) = false := decide_eq_false (by omega)
      go_enter Tryd.func11, Tryd.ntmps11
      go_wp2_with fail
      refine HP.out.mono ?_
      rintro e w2 ⟨rfl, h2⟩
      replace h2 := Lib.hid h2
      clear HP
      go_wp2_with fail
      go_end0
      exact ⟨rfl, h2.out⟩
/-- Put, as the document says it. -/
theorem refPut_any (S : Nat → Prop) (q p : Nat) (c : Cd) (L : List Bool) (t : Int) (w : World) (h : CW q c p L w S) (hL : L.length ≤ 80000000000000) :
    Calls Tryd.prog 11 #[.pointer (some ⟨q, 0, none⟩), .pointer (some ⟨p, 0, none⟩), .int .i64 t] w fun e w' => e = .returned (.tuple #[]) ∧ ObjStep (CW q (putC c t) p (L ++ putB c t)) S w w' := by
  unfold putC putB
  by_cases hb : c.begun = false
  · rw [if_pos hb, if_pos hb]
    exact refPut_first S q p c L t w h hb hL
  · rw [if_neg hb, if_neg hb]
    exact refPut_next S q p c L t _ _ w h (by simpa using hb) hL rfl rfl
end Tm
end Go.Proofs.YtjoaccfjjihleaaDoor
