/- The program's coder of patterns (layer 7): New, Put. -/
import Derived.Test.YtiimdinefkbhlaaDoorXorWin
import Derived.StillTailTactics
namespace Go.Proofs.YtiimdinefkbhlaaDoor
open Go.RowKit Go.Sort
namespace Xr
open Bit Dsk Ob
set_option linter.unusedVariables false

/-! ### the coder in memory -/
/-- The window that the program has: none is a lead of 0 and a tail of 64. -/
def wl (c : Cd) : Nat := if c.win then c.lead else 0
def wt (c : Cd) : Nat := if c.win then c.tail else 64
theorem wlt {c : Cd} (h : c.Ok) : wl c + wt c ≤ 64 := by
  have := h.sum
  unfold wl wt
  split <;> omega
def pCells (c : Cd) : Array Value := #[.int .i64 (wl c : Int), .int .i64 (wt c : Int), .bool c.begun, .int .u64 (c.v : Int)]
/-- The program's coder at block q. -/
def IsCd (q : Nat) (c : Cd) : Ob.Rel := fun w S => w.heap[q]? = some (.cells (pCells c) 54 (0, 0)) ∧ ∀ x, S x ↔ x = q
theorem objCd (q : Nat) (c : Cd) : Thing (IsCd q c) := ⟨fun w w' S h hk _ => ⟨(hk q ((h.2 q).2 rfl)).trans h.1, h.2⟩, fun w S h x hx => by rw [(h.2 x).1 hx]; exact (Array.getElem?_eq_some_iff.1 h.1).1⟩
theorem cd4 {w : World} {q : Nat} {c : Cd} (h : w.heap[q]? = some (.cells (pCells c) 54 (0, 0))) :
    w.cell? ⟨q, 0, none⟩ = some (.int .i64 (wl c : Int)) ∧ w.cell? ⟨q, 1, none⟩ = some (.int .i64 (wt c : Int)) ∧ w.cell? ⟨q, 2, none⟩ = some (.bool c.begun) ∧ w.cell? ⟨q, 3, none⟩ = some (.int .u64 (c.v : Int)) ∧ ∀ o, w.frozen? ⟨q, o, none⟩ = false := by
  refine ⟨?_, ?_, ?_, ?_, fun o => Lib.frozen_of_heap h o⟩ <;> (rw [Lib.cell_of_heap h]; rfl)
theorem cdSet {w : World} {A : Nat → Prop} {q o : Nat} {c c' : Cd} {v : Value} (h : IsCd q c w A) (he : (pCells c).setIfInBounds o v = pCells c') : ObjStep (IsCd q c') A w (w.setCell ⟨q, o, none⟩ v) :=
  stepCell ((h.2 q).2 rfl) ⟨by rw [← he]; simp [World.setCell, Array.getElem?_modify, h.1], h.2⟩
theorem cdSet2 {w : World} {A : Nat → Prop} {q : Nat} {c : Cd} (h : IsCd q c w A) (l t : Nat) : ObjStep (IsCd q { c with win := true, lead := l, tail := t }) A w ((w.setCell ⟨q, 0, none⟩ (.int .i64 (l : Int))).setCell ⟨q, 1, none⟩ (.int .i64 (t : Int))) := by
  refine ⟨⟨A, ⟨?_, h.2⟩, fun _ h => h, fun _ h => .inl h⟩, ((Upon.refl A w).setCell (p := ⟨q, 0, none⟩) (.inl ((h.2 q).2 rfl)) _).setCell (p := ⟨q, 1, none⟩) (.inl ((h.2 q).2 rfl)) _⟩
  have e : ((pCells c).setIfInBounds 0 (.int .i64 (l : Int))).setIfInBounds 1 (.int .i64 (t : Int)) = pCells { c with win := true, lead := l, tail := t } := rfl
  rw [← e]
  simp [World.setCell, Array.getElem?_modify, h.1]

/-! ### New -/
def CMade (w : World) (e : Ending) (w' : World) : Prop := ∃ q, e = .returned (.pointer (some ⟨q, 0, none⟩)) ∧ IsCd q newC w' (fun x => x = q) ∧ w.heap.size ≤ q ∧ New0 w w'
set_option maxHeartbeats 800000 in
theorem new_any (w : World) : Calls Tryd.prog 8 #[] w (CMade w) := by
  have H : Hid (CMade w (.returned (.pointer (some ⟨w.heap.size, 0, none⟩))) (w.alloc (.cells #[.int .i64 0, .int .i64 64, .bool false, .int .u64 0] 54 (0, 0)))) := Lib.hid
    ⟨w.heap.size, rfl, ⟨cell_new w _, fun x => Iff.rfl⟩, Nat.le_refl _, (Upon.refl _ w).alloc _⟩
  go_enter Tryd.func8, Tryd.ntmps8
  go_wp2
  go_ret
  exact H.out

/-! ### coder and writer -/
abbrev PW (q : Nat) (c : Cd) (p : Nat) (L : List Bool) : Ob.Rel := Tens (IsCd q c) (fun w S => IsW w S p L)
theorem thingPW (q : Nat) (c : Cd) (p : Nat) (L : List Bool) : Thing (PW q c p L) := Tens.ob (objCd q c) (objW p L)
theorem pwPut {S : Nat → Prop} {w0 w : World} {q p : Nat} {c : Cd} {L L' : List Bool} (H : ObjStep (PW q c p L) S w0 w) (v : Nat) (n : Int) (hL : L.length ≤ 90000000000000) (hv : v < 18446744073709551616) (e : L ++ bitsOf v (cnt n) = L') :
    Calls Tryd.prog 27 #[.pointer (some ⟨p, 0, none⟩), .int .u64 (v : Int), .int .i64 n] w fun e w' => e = .returned (.tuple #[]) ∧ ObjStep (PW q c p L') S w0 w' := by
  subst e
  exact callR (Q := fun e => e = .returned (.tuple #[])) (objCd q c) H fun A h => put_any A p L v n w h hL hv
theorem pwBetween {S : Nat → Prop} {w0 w : World} {q p : Nat} {c : Cd} {L L' : List Bool} (H : ObjStep (PW q c p L) S w0 w) (l t d : Nat) (hlt : l + t ≤ 64) (hd : d < 18446744073709551616) (hL : L.length ≤ 90000000000000) (e : L ++ bitsOf (d / 2 ^ t) (64 - l - t) = L') :
    Calls Tryd.prog 31 #[win l t, .pointer (some ⟨p, 0, none⟩), .int .u64 (d : Int)] w fun e w' => e = .returned (.tuple #[]) ∧ ObjStep (PW q c p L') S w0 w' := by
  subst e
  exact callR (Q := fun e => e = .returned (.tuple #[])) (objCd q c) H fun A h => putBetween_any A p l t d L w h hlt hd hL
theorem pwCells {S : Nat → Prop} {w0 w : World} {q p : Nat} {c : Cd} {L : List Bool} (H : ObjStep (PW q c p L) S w0 w) :
    w.cell? ⟨q, 0, none⟩ = some (.int .i64 (wl c : Int)) ∧ w.cell? ⟨q, 1, none⟩ = some (.int .i64 (wt c : Int)) ∧ w.cell? ⟨q, 2, none⟩ = some (.bool c.begun) ∧ w.cell? ⟨q, 3, none⟩ = some (.int .u64 (c.v : Int)) ∧ ∀ o, w.frozen? ⟨q, o, none⟩ = false := by
  obtain ⟨A, h⟩ := seeL H
  exact cd4 h.1
theorem pwSet {S : Nat → Prop} {w0 w : World} {q p o : Nat} {c c' : Cd} {L : List Bool} {v : Value} (H : ObjStep (PW q c p L) S w0 w) (he : (pCells c).setIfInBounds o v = pCells c') : ObjStep (PW q c' p L) S w0 (w.setCell ⟨q, o, none⟩ v) :=
  stepL (objW p L) H fun A h => cdSet h he
theorem pwSet2 {S : Nat → Prop} {w0 w : World} {q p : Nat} {c : Cd} {L : List Bool} (H : ObjStep (PW q c p L) S w0 w) (l t : Nat) : ObjStep (PW q { c with win := true, lead := l, tail := t } p L) S w0 ((w.setCell ⟨q, 0, none⟩ (.int .i64 (l : Int))).setCell ⟨q, 1, none⟩ (.int .i64 (t : Int))) :=
  stepL (objW p L) H fun A h => cdSet2 h l t
theorem belowOf {w w' : World} (h : New0 w w') : Below w.heap.size w w' := h.below (Nat.le_refl _) fun _ f => f.elim
theorem newOf {w w' : World} (h : Below w.heap.size w w') : New0 w w' := Upon.of_below h _
theorem holdsB {w : World} (l t a b : Nat) (d : Nat) (os : Array Go.Obj) : Calls Tryd.prog 29 #[win l t, win a b] (grow (redrawn w d) os) fun e w' => e = .returned (.bool (decide (l ≤ a) && decide (t ≤ b))) ∧ Below (grow (redrawn w d) os).heap.size (grow (redrawn w d) os) w' :=
  (holds_any l t a b _).mono fun _ _ ⟨he, hu⟩ => ⟨he, belowOf hu⟩

/-- A local window is made beside an object. -/
theorem boxStart {I : Ob.Rel} (hI : Thing I) {S : Nat → Prop} {w w3 : World} (H : ObjStep I S w w3) (a b : Value) (T : TypeId) :
    ∃ S', I (w3.alloc (.cells #[a, b] T (0, 0))) S' ∧ (∀ (J : Ob.Rel) (c : World), ObjStep J S' (w3.alloc (.cells #[a, b] T (0, 0))) c → ObjStep J S w c) ∧ ¬ S' w3.heap.size ∧ Boxed w3.heap.size a b (w3.alloc (.cells #[a, b] T (0, 0))) ∧ ∀ x, S' x → S x ∨ w.heap.size ≤ x := by
  have hu : New0 w3 (w3.alloc (.cells #[a, b] T (0, 0))) := (Upon.refl _ w3).alloc _
  obtain ⟨⟨S', h1, h2, h3⟩, hw⟩ := H
  have go : ∀ (J : Ob.Rel) (c : World), ObjStep J S' w3 c → ObjStep J S w c := fun J c k => ObjStep.then (I := fun w T => w = w3 ∧ T = S') ⟨⟨S', ⟨rfl, rfl⟩, h2, h3⟩, hw⟩ (fun T hT => by rw [hT.2]; exact k)
  exact ⟨S', hI.kept _ _ S' h1 (fun b hb => hu.block b (hI.lt w3 S' h1 b hb) fun f => f) hu.size, fun J c h => go J c (preNew hu h), fun hs => by have := hI.lt w3 S' h1 _ hs; omega, Boxed.of (cell_new w3 _), h3⟩

/-! ### putDifference -/
set_option maxRecDepth 100000 in
set_option maxHeartbeats 3200000 in
theorem putD_first (S : Nat → Prop) (q p : Nat) (c : Cd) (L : List Bool) (d : Nat) (w : World) (h : PW q c p L w S) (hb : c.begun = false) (hL : L.length ≤ 80000000000000) (hd : d < 18446744073709551616) :
    Calls Tryd.prog 21 #[.pointer (some ⟨q, 0, none⟩), .pointer (some ⟨p, 0, none⟩), .int .u64 (d : Int)] w fun e w' => e = .returned (.tuple #[]) ∧ ObjStep (PW q c p (L ++ bitsOf d 64)) S w w' := by
  have H := ObjStep.refl (I := PW q c p L) h
  obtain ⟨k0, k1, k2, k3, kf⟩ := pwCells H
  rw [hb] at k2
  have HP := Lib.hid (pwPut H d 64 (by omega) hd (L' := L ++ bitsOf d 64) (by rfl))
  clear H h kf
  go_enter Tryd.func21, Tryd.ntmps21
  go_wp2_with fail
  refine HP.out.mono ?_
  rintro e w2 ⟨rfl, h2⟩
  replace h2 := Lib.hid h2
  clear HP
  go_wp2_with fail
  (try simp only [Exit.inBlock, Exit.then])
  refine bodyPost_ret (results_none rfl _ _ _) rfl ?_
  exact ⟨rfl, h2.out⟩
set_option maxRecDepth 100000 in
set_option maxHeartbeats 3200000 in
theorem putD_same (S : Nat → Prop) (q p : Nat) (c : Cd) (L : List Bool) (w : World) (h : PW q c p L w S) (hb : c.begun = true) (hL : L.length ≤ 80000000000000) :
    Calls Tryd.prog 21 #[.pointer (some ⟨q, 0, none⟩), .pointer (some ⟨p, 0, none⟩), .int .u64 0] w fun e w' => e = .returned (.tuple #[]) ∧ ObjStep (PW q c p (L ++ [false])) S w w' := by
  have H := ObjStep.refl (I := PW q c p L) h
  obtain ⟨k0, k1, k2, k3, kf⟩ := pwCells H
  rw [hb] at k2
  have HP := Lib.hid (pwPut H 0 1 (by omega) (by decide) (L' := L ++ [false]) (by rfl))
  clear H h kf
  go_enter Tryd.func21, Tryd.ntmps21
  go_wp2_with fail
  refine HP.out.mono ?_
  rintro e w2 ⟨rfl, h2⟩
  replace h2 := Lib.hid h2
  clear HP
  go_wp2_with fail
  (try simp only [Exit.inBlock, Exit.then])
  refine bodyPost_ret (results_none rfl _ _ _) rfl ?_
  exact ⟨rfl, h2.out⟩
set_option maxRecDepth 100000 in
set_option maxHeartbeats 3200000 in
theorem putD_within (S : Nat → Prop) (q p : Nat) (c : Cd) (L : List Bool) (d : Nat) (w : World) (h : PW q c p L w S) (hok : c.Ok) (hb : c.begun = true) (hL : L.length ≤ 80000000000000) (hd : d < 18446744073709551616) (hd0 : d ≠ 0) (hT : Tab w) (hG : ¬ S 0)
    (hw : c.win = true) (hl : c.lead ≤ Xr.lead d) (ht : c.tail ≤ Xr.tail d) :
    Calls Tryd.prog 21 #[.pointer (some ⟨q, 0, none⟩), .pointer (some ⟨p, 0, none⟩), .int .u64 (d : Int)] w fun e w' => e = .returned (.tuple #[]) ∧ ObjStep (PW q c p (L ++ ([true, false] ++ bitsOf (d / 2 ^ c.tail) (64 - c.lead - c.tail)))) S w w' := by
  have H := ObjStep.refl (I := PW q c p L) h
  obtain ⟨k0, k1, k2, k3, kf⟩ := pwCells H
  rw [hb] at k2
  have hbz : ((d : Int) == 0) = false := by rw [beq_eq_false_iff_ne]; omega
  have HP := Lib.hid (pwPut H 1 1 (by omega) (by decide) (L' := L ++ [true]) (by rfl))
  have hsum := hok.sum
  have el : Hid (wl c = c.lead) := Lib.hid (by unfold wl; rw [hw]; rfl)
  have et : Hid (wt c = c.tail) := Lib.hid (by unfold wt; rw [hw]; rfl)
  clear H h kf
  go_enter Tryd.func21, Tryd.ntmps21
  go_wp2_with fail
  refine HP.out.mono ?_
  rintro e w2 ⟨rfl, h2⟩
  clear HP k0 k1 k2 k3
  have hT2 := hT.upon h2.upon hG
  go_wp2_with fail
  refine (windowOf_any d hd hd0 w2 hT2).mono ?_
  rintro e w3 ⟨rfl, hu3⟩
  have h3 := stepNew (thingPW _ _ _ _) h2 hu3
  clear h2 hT2 hu3 hT
  generalize Xr.lead d = a at *
  generalize Xr.tail d = b at *
  obtain ⟨S', hI, go, hnS, hB, -⟩ := boxStart (thingPW _ _ _ _) h3 (.int .i64 (a : Int)) (.int .i64 (b : Int)) 52
  have H4 := ObjStep.refl (I := PW q c p (L ++ [true])) hI
  replace go := Lib.hid (go (PW q c p (L ++ ([true, false] ++ bitsOf (d / 2 ^ c.tail) (64 - c.lead - c.tail)))))
  obtain ⟨m0, m1, m2, m3, mf⟩ := pwCells H4
  have x0 := fun d os => cell_regrown m0 d os
  have x1 := fun d os => cell_regrown m1 d os
  have y0 := fun d os => cell_regrown hB.c0 d os
  have y1 := fun d os => cell_regrown hB.c1 d os
  have hv : (decide (wl c ≤ a) && decide (wt c ≤ b)) = true := by rw [el.out, et.out]; simp [hl, ht]
  have hh := Lib.hid (fun d os => hv ▸ holdsB (w := w3.alloc (.cells #[.int .i64 (a : Int), .int .i64 (b : Int)] 52 (0, 0))) (wl c) (wt c) a b d os)
  have hn5 := Lib.hid (fun (w5 : World) (hu : New0 (w3.alloc (.cells #[.int .i64 (a : Int), .int .i64 (b : Int)] 52 (0, 0))) w5) => stepNew (thingPW _ _ _ _) H4 hu)
  clear h3 hI hnS H4 m0 m1 m2 m3 mf hv hB
  go_wp2_with fail
  refine wp_region_quiet_below (by kernel_rfl) (by kernel_rfl) ?_
  repeat (go_big_quiet_step (first
    | exact Calls.regrown_of (hh.out _ _)))
  refine wpQuiet_nil ?_
  intro _ hw'
  obtain ⟨⟨dq, osq⟩, hw''⟩ := hw'
  subst hw''
  have h5 := hn5.out _ (newOf (below_regrown _ dq osq))
  have HP5 := Lib.hid (pwPut h5 0 1 (by simp; omega) (by decide) (L' := L ++ [true] ++ [false]) (by rfl))
  clear x0 x1 y0 y1 hh hn5 h5
  generalize grow (redrawn (w3.alloc (.cells #[.int .i64 (a : Int), .int .i64 (b : Int)] 52 (0, 0))) dq) osq = w5 at *
  go_wp2_with fail
  refine HP5.out.mono ?_
  rintro e w6 ⟨rfl, h6⟩
  clear HP5
  obtain ⟨n0, n1, n2, n3, nf⟩ := pwCells h6
  rw [el.out] at n0
  rw [et.out] at n1
  clear el et
  have HP6 := Lib.hid (pwBetween h6 c.lead c.tail d (by omega) hd (by simp; omega) (L' := L ++ ([true, false] ++ bitsOf (d / 2 ^ c.tail) (64 - c.lead - c.tail))) (by simp))
  clear h6
  go_wp2_with fail
  refine HP6.out.mono ?_
  rintro e w7 ⟨rfl, h7⟩
  have h8 := Lib.hid (go.out _ h7)
  clear HP6 h7 go
  go_wp2_with fail
  go_end0
  exact ⟨rfl, h8.out⟩
set_option maxRecDepth 100000 in
set_option maxHeartbeats 3200000 in
theorem putD_other (S : Nat → Prop) (q p : Nat) (c : Cd) (L : List Bool) (d : Nat) (w : World) (h : PW q c p L w S) (hb : c.begun = true) (hL : L.length ≤ 80000000000000) (hd : d < 18446744073709551616) (hd0 : d ≠ 0) (hT : Tab w) (hG : ¬ S 0)
    (hw : ¬ (c.win = true ∧ c.lead ≤ Xr.lead d ∧ c.tail ≤ Xr.tail d)) :
    Calls Tryd.prog 21 #[.pointer (some ⟨q, 0, none⟩), .pointer (some ⟨p, 0, none⟩), .int .u64 (d : Int)] w fun e w' => e = .returned (.tuple #[]) ∧ ObjStep (PW q { c with win := true, lead := Xr.lead d, tail := Xr.tail d } p (L ++ ([true, true] ++ bitsOf (Xr.lead d) 5 ++ bitsOf (63 - Xr.lead d - Xr.tail d) 6 ++ bitsOf (d / 2 ^ Xr.tail d) (64 - Xr.lead d - Xr.tail d)))) S w w' := by
  have H := ObjStep.refl (I := PW q c p L) h
  obtain ⟨k0, k1, k2, k3, kf⟩ := pwCells H
  rw [hb] at k2
  have hbz : ((d : Int) == 0) = false := by rw [beq_eq_false_iff_ne]; omega
  have HP := Lib.hid (pwPut H 1 1 (by omega) (by decide) (L' := L ++ [true]) (by rfl))
  have hsum := sum_le (d := d) hd (Nat.pos_of_ne_zero hd0)
  have hl31 := lead_le d
  have ht63 := tail_le d
  have hv : (decide (wl c ≤ Xr.lead d) && decide (wt c ≤ Xr.tail d)) = false := by
    unfold wl wt
    cases hwn : c.win with
    | false => simp; omega
    | true =>
      rw [Bool.and_eq_false_iff]
      by_cases h1 : c.lead ≤ Xr.lead d
      · right; exact decide_eq_false fun h2 => hw ⟨hwn, h1, h2⟩
      · left; exact decide_eq_false h1
  have hwin := Lib.hid (fun w hT => windowOf_any d hd hd0 w hT)
  clear H h kf hw
  generalize Xr.lead d = a at *
  generalize Xr.tail d = b at *
  go_enter Tryd.func21, Tryd.ntmps21
  go_wp2_with fail
  refine HP.out.mono ?_
  rintro e w2 ⟨rfl, h2⟩
  clear HP k0 k1 k2 k3
  have hT2 := hT.upon h2.upon hG
  go_wp2_with fail
  refine (hwin.out w2 hT2).mono ?_
  rintro e w3 ⟨rfl, hu3⟩
  have h3 := stepNew (thingPW _ _ _ _) h2 hu3
  clear h2 hT2 hu3 hT hwin
  obtain ⟨S', hI, go, hnS, hB, -⟩ := boxStart (thingPW _ _ _ _) h3 (.int .i64 (a : Int)) (.int .i64 (b : Int)) 52
  have H4 := ObjStep.refl (I := PW q c p (L ++ [true])) hI
  replace go := Lib.hid (go (PW q { c with win := true, lead := a, tail := b } p (L ++ ([true, true] ++ bitsOf a 5 ++ bitsOf (63 - a - b) 6 ++ bitsOf (d / 2 ^ b) (64 - a - b)))))
  obtain ⟨m0, m1, m2, m3, mf⟩ := pwCells H4
  have x0 := fun d os => cell_regrown m0 d os
  have x1 := fun d os => cell_regrown m1 d os
  have y0 := fun d os => cell_regrown hB.c0 d os
  have y1 := fun d os => cell_regrown hB.c1 d os
  have hh := Lib.hid (fun d os => hv ▸ holdsB (w := w3.alloc (.cells #[.int .i64 (a : Int), .int .i64 (b : Int)] 52 (0, 0))) (wl c) (wt c) a b d os)
  have hn5 := Lib.hid (fun (w5 : World) (hu : New0 (w3.alloc (.cells #[.int .i64 (a : Int), .int .i64 (b : Int)] 52 (0, 0))) w5) => stepNew (thingPW _ _ _ _) H4 hu)
  have hBx : Hid (∀ (I : Ob.Rel) (w' : World), ObjStep I S' (w3.alloc (.cells #[.int .i64 (a : Int), .int .i64 (b : Int)] 52 (0, 0))) w' → Boxed w3.heap.size (.int .i64 (a : Int)) (.int .i64 (b : Int)) w') := Lib.hid (fun _ _ hs => hB.beside hs hnS)
  clear h3 hI hnS H4 m0 m1 m2 m3 mf hv hB
  go_wp2_with fail
  refine wp_region_quiet_below (by kernel_rfl) (by kernel_rfl) ?_
  repeat (go_big_quiet_step (first
    | exact Calls.regrown_of (hh.out _ _)))
  refine wpQuiet_nil ?_
  intro _ hw'
  obtain ⟨⟨dq, osq⟩, hw''⟩ := hw'
  subst hw''
  have h5 := hn5.out _ (newOf (below_regrown _ dq osq))
  have HP5 := Lib.hid (pwPut h5 1 1 (by simp; omega) (by decide) (L' := L ++ [true] ++ [true]) (by rfl))
  clear x0 x1 y0 y1 hh hn5 h5
  generalize grow (redrawn (w3.alloc (.cells #[.int .i64 (a : Int), .int .i64 (b : Int)] 52 (0, 0))) dq) osq = w5 at *
  generalize w3.alloc (.cells #[.int .i64 (a : Int), .int .i64 (b : Int)] 52 (0, 0)) = wb at *
  generalize w3.heap.size = g at *
  go_wp2_with fail
  refine HP5.out.mono ?_
  rintro e w6 ⟨rfl, h6⟩
  clear HP5
  obtain ⟨b0, b1, bf0, bf1⟩ := hBx.out _ _ h6
  have HP6 := Lib.hid (pwPut h6 a 5 (by simp; omega) (by omega) (L' := L ++ [true] ++ [true] ++ bitsOf a 5) (by rfl))
  clear h6
  go_wp2_with fail
  refine HP6.out.mono ?_
  rintro e w7 ⟨rfl, h7⟩
  clear HP6 b0 b1 bf0 bf1
  obtain ⟨b0, b1, bf0, bf1⟩ := hBx.out _ _ h7
  go_wp2_with fail
  refine (size_any a b (by omega) w7).mono ?_
  rintro e w8 ⟨rfl, hu8⟩
  have h8 := stepNew (thingPW _ _ _ _) h7 hu8
  clear h7 hu8 b0 b1 bf0 bf1
  obtain ⟨b0, b1, bf0, bf1⟩ := hBx.out _ _ h8
  have hi : ((64 - a - b : Nat) : Int) - 1 = ((63 - a - b : Nat) : Int) := by omega
  have HP8 := Lib.hid (pwPut h8 (63 - a - b) 6 (by simp [bitsOf_length]; omega) (by omega) (L' := L ++ [true] ++ [true] ++ bitsOf a 5 ++ bitsOf (63 - a - b) 6) (by rfl))
  clear h8
  go_wp2_with fail
  refine HP8.out.mono ?_
  rintro e w9 ⟨rfl, h9⟩
  clear HP8 b0 b1 bf0 bf1 hi
  obtain ⟨b0, b1, bf0, bf1⟩ := hBx.out _ _ h9
  obtain ⟨n0, n1, n2, n3, nf⟩ := pwCells h9
  have nf0 := nf 0
  have nf1 := nf 1
  have h10 := pwSet2 h9 a b
  obtain ⟨l0, l1, l2, l3, -⟩ := pwCells h10
  replace l0 : ((w9.setCell ⟨q, 0, none⟩ (.int .i64 (a : Int))).setCell ⟨q, 1, none⟩ (.int .i64 (b : Int))).cell? ⟨q, 0, none⟩ = some (.int .i64 (a : Int)) := l0
  replace l1 : ((w9.setCell ⟨q, 0, none⟩ (.int .i64 (a : Int))).setCell ⟨q, 1, none⟩ (.int .i64 (b : Int))).cell? ⟨q, 1, none⟩ = some (.int .i64 (b : Int)) := l1
  have HP10 := Lib.hid (pwBetween h10 a b d (by omega) hd (by simp [bitsOf_length]; omega) (L' := L ++ ([true, true] ++ bitsOf a 5 ++ bitsOf (63 - a - b) 6 ++ bitsOf (d / 2 ^ b) (64 - a - b))) (by simp))
  clear h9 h10 nf
  go_wp2_with fail
  refine HP10.out.mono ?_
  rintro e w11 ⟨rfl, h11⟩
  have h12 := Lib.hid (go.out _ h11)
  clear HP10 h11 go
  go_wp2_with fail
  go_end0
  exact ⟨rfl, h12.out⟩
/-! ### Put -/
/-- putDifference, whatever the difference. -/
theorem putD_any (S : Nat → Prop) (q p : Nat) (c : Cd) (L : List Bool) (v : Nat) (w : World) (h : PW q c p L w S) (hok : c.Ok) (hf : c.begun = false → c.v = 0) (hL : L.length ≤ 80000000000000) (hv : v < 18446744073709551616) (hT : Tab w) (hG : ¬ S 0) :
    Calls Tryd.prog 21 #[.pointer (some ⟨q, 0, none⟩), .pointer (some ⟨p, 0, none⟩), .int .u64 ((v ^^^ c.v : Nat) : Int)] w fun e w' => e = .returned (.tuple #[]) ∧ ∃ c', ObjStep (PW q c' p (L ++ putB c v)) S w w' ∧ { c' with begun := true, v := v } = putC c v := by
  have hc : c.v < 18446744073709551616 := hok.v
  have hd := xor_lt (a := v) (b := c.v) hv hc
  by_cases hb : c.begun = false
  · have e1 : putC c v = { c with begun := true, v := v } := by unfold putC; rw [if_pos hb]
    have e2 : putB c v = bitsOf (v ^^^ c.v) 64 := by unfold putB; rw [if_pos hb, hf hb, Nat.xor_zero]
    rw [e2]
    exact (putD_first S q p c L _ w h hb hL hd).mono fun _ _ ⟨he, hs⟩ => ⟨he, c, hs, e1.symm⟩
  · have hb' : c.begun = true := by simpa using hb
    by_cases hx : v ^^^ c.v = 0
    · have e1 : putC c v = { c with begun := true, v := v } := by unfold putC; rw [if_neg hb, if_pos hx, ← hb']
      have e2 : putB c v = [false] := by unfold putB; rw [if_neg hb, if_pos hx]
      rw [e2, hx]
      exact (putD_same S q p c L w h hb' hL).mono fun _ _ ⟨he, hs⟩ => ⟨he, c, hs, e1.symm⟩
    · by_cases hw : c.win = true ∧ c.lead ≤ Xr.lead (v ^^^ c.v) ∧ c.tail ≤ Xr.tail (v ^^^ c.v)
      · have e1 : putC c v = { c with begun := true, v := v } := by unfold putC; rw [if_neg hb, if_neg hx, if_pos hw, ← hb']
        have e2 : putB c v = [true, false] ++ bitsOf ((v ^^^ c.v) / 2 ^ c.tail) (64 - c.lead - c.tail) := by unfold putB; rw [if_neg hb, if_neg hx, if_pos hw]
        rw [e2]
        exact (putD_within S q p c L _ w h hok hb' hL hd hx hT hG hw.1 hw.2.1 hw.2.2).mono fun _ _ ⟨he, hs⟩ => ⟨he, c, hs, e1.symm⟩
      · have e1 : putC c v = ⟨true, v, true, Xr.lead (v ^^^ c.v), Xr.tail (v ^^^ c.v)⟩ := by unfold putC; rw [if_neg hb, if_neg hx, if_neg hw]
        have e2 : putB c v = [true, true] ++ bitsOf (Xr.lead (v ^^^ c.v)) 5 ++ bitsOf (63 - Xr.lead (v ^^^ c.v) - Xr.tail (v ^^^ c.v)) 6 ++ bitsOf ((v ^^^ c.v) / 2 ^ Xr.tail (v ^^^ c.v)) (64 - Xr.lead (v ^^^ c.v) - Xr.tail (v ^^^ c.v)) := by unfold putB; rw [if_neg hb, if_neg hx, if_neg hw]
        rw [e2]
        exact (putD_other S q p c L _ w h hb' hL hd hx hT hG hw).mono fun _ _ ⟨he, hs⟩ => ⟨he, _, hs, e1.symm⟩
set_option maxRecDepth 100000 in
set_option maxHeartbeats 3200000 in
/-- Put, as the document says it. -/
theorem cdPut_any (S : Nat → Prop) (q p : Nat) (c : Cd) (L : List Bool) (v : Nat) (w : World) (h : PW q c p L w S) (hok : c.Ok) (hf : c.begun = false → c.v = 0) (hL : L.length ≤ 80000000000000) (hv : v < 18446744073709551616) (hT : Tab w) (hG : ¬ S 0) :
    Calls Tryd.prog 10 #[.pointer (some ⟨q, 0, none⟩), .pointer (some ⟨p, 0, none⟩), .int .u64 (v : Int)] w fun e w' => e = .returned (.tuple #[]) ∧ ObjStep (PW q (putC c v) p (L ++ putB c v)) S w w' := by
  have H := ObjStep.refl (I := PW q c p L) h
  obtain ⟨k0, k1, k2, k3, kf⟩ := pwCells H
  have hx := Lib.hid (xor_int v c.v hv hok.v)
  have hx' := hx.out
  have HP := Lib.hid (putD_any S q p c L v w h hok hf hL hv hT hG)
  generalize v ^^^ c.v = d at *
  generalize putB c v = M at *
  generalize putC c v = c2 at *
  clear H h kf hT hok hf hL hx
  go_enter Tryd.func10, Tryd.ntmps10
  go_wp2_with fail
  refine HP.out.mono ?_
  rintro e w2 ⟨rfl, c', h2, rfl⟩
  clear HP k0 k1 k2 k3
  obtain ⟨m0, m1, m2, m3, mf⟩ := pwCells h2
  have f2 := mf 2
  have h3 := pwSet (o := 2) (v := .bool true) (c' := { c' with begun := true }) h2 rfl
  obtain ⟨n0, n1, n2, n3, nf⟩ := pwCells h3
  have f3 := nf 3
  have h4 := Lib.hid (pwSet (o := 3) (v := .int .u64 (v : Int)) (c' := { c' with begun := true, v := v }) h3 rfl)
  clear h2 h3 mf nf
  go_wp2_with fail
  go_end0
  exact ⟨rfl, h4.out⟩
end Xr
end Go.Proofs.YtiimdinefkbhlaaDoor
