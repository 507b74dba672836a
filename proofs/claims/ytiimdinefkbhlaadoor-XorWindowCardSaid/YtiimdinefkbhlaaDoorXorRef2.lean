/- The document's own coder of patterns (layer 7): Put. -/
import Derived.Test.YtiimdinefkbhlaaDoorXorRef
import Derived.StillTailTactics
namespace Go.Proofs.YtiimdinefkbhlaaDoor
open Go.RowKit Go.Sort
namespace Xr
open Bit Dsk Ob
set_option linter.unusedVariables false

/-- The document's coder, its writer beside it. -/
abbrev CW (q : Nat) (c : Cd) (p : Nat) (L : List Bool) : Ob.Rel := Tens (IsRC q c) (fun w S => IsRW w S p L)
theorem thingCW (q : Nat) (c : Cd) (p : Nat) (L : List Bool) : Thing (CW q c p L) := Tens.ob (objRC q c) (objRW p L)
theorem cwPut {S : Nat → Prop} {w0 w : World} {q p : Nat} {c : Cd} {L L' : List Bool} (H : ObjStep (CW q c p L) S w0 w) (v : Nat) (n : Int) (hL : L.length ≤ 90000000000000) (hv : v < 18446744073709551616) (e : L ++ bitsOf v (cnt n) = L') :
    Calls Tryd.prog 22 #[.pointer (some ⟨p, 0, none⟩), .int .u64 (v : Int), .int .i64 n] w fun e w' => e = .returned (.tuple #[]) ∧ ObjStep (CW q c p L') S w0 w' := by
  subst e
  exact callR (Q := fun e => e = .returned (.tuple #[])) (objRC q c) H fun A h => refput_any A p L v n w h hL hv
theorem cwCells {S : Nat → Prop} {w0 w : World} {q p : Nat} {c : Cd} {L : List Bool} (H : ObjStep (CW q c p L) S w0 w) :
    w.cell? ⟨q, 0, none⟩ = some (.bool c.begun) ∧ w.cell? ⟨q, 1, none⟩ = some (.int .u64 (c.v : Int)) ∧ w.cell? ⟨q, 2, none⟩ = some (.bool c.win) ∧ w.cell? ⟨q, 3, none⟩ = some (.int .i64 (c.lead : Int)) ∧ w.cell? ⟨q, 4, none⟩ = some (.int .i64 (c.tail : Int)) ∧ ∀ o, w.frozen? ⟨q, o, none⟩ = false := by
  obtain ⟨A, h⟩ := seeL H
  exact rc5 h.1
theorem cwSet {S : Nat → Prop} {w0 w : World} {q p o : Nat} {c c' : Cd} {L : List Bool} {v : Value} (H : ObjStep (CW q c p L) S w0 w) (he : (cCells c).setIfInBounds o v = cCells c') : ObjStep (CW q c' p L) S w0 (w.setCell ⟨q, o, none⟩ v) :=
  stepL (objRW p L) H fun A h => rcSet h he
theorem xor_int (a b : Nat) (ha : a < 18446744073709551616) (hb : b < 18446744073709551616) : bits .xor .u64 (a : Int) (b : Int) = ((a ^^^ b : Nat) : Int) := bits_xor_u64_nat a b ha hb
theorem cwPutDiv {S : Nat → Prop} {w0 w : World} {q p : Nat} {c : Cd} {L L' : List Bool} (H : ObjStep (CW q c p L) S w0 w) (d t : Nat) (n : Int) (hL : L.length ≤ 90000000000000) (hd : d < 18446744073709551616) (e : L ++ bitsOf (d / 2 ^ t) (cnt n) = L') :
    Calls Tryd.prog 22 #[.pointer (some ⟨p, 0, none⟩), .int .u64 ((d : Int) / 2 ^ t), .int .i64 n] w fun e w' => e = .returned (.tuple #[]) ∧ ObjStep (CW q c p L') S w0 w' := by
  rw [int_div_pow]
  exact cwPut H (d / 2 ^ t) n hL (Nat.lt_of_le_of_lt (Nat.div_le_self _ _) hd) e
theorem cnt_nat {m : Nat} (h : m ≤ 64) : cnt (m : Int) = m := by unfold cnt; omega

set_option maxRecDepth 100000 in
set_option maxHeartbeats 3200000 in
theorem put_first (S : Nat → Prop) (q p : Nat) (c : Cd) (L : List Bool) (v : Nat) (w : World) (h : CW q c p L w S) (hb : c.begun = false) (hL : L.length ≤ 80000000000000) (hv : v < 18446744073709551616) (hc : c.v < 18446744073709551616) :
    Calls Tryd.prog 11 #[.pointer (some ⟨q, 0, none⟩), .pointer (some ⟨p, 0, none⟩), .int .u64 (v : Int)] w fun e w' => e = .returned (.tuple #[]) ∧ ObjStep (CW q { c with begun := true, v := v } p (L ++ bitsOf v 64)) S w w' := by
  have H := ObjStep.refl (I := CW q c p L) h
  obtain ⟨k0, k1, k2, k3, k4, kf⟩ := cwCells H
  have f0 := kf 0
  rw [hb] at k0
  have hx := xor_int v c.v hv hc
  have H1 := cwSet (o := 0) (v := .bool true) (c' := { c with begun := true }) H rfl
  have H2 := cwSet (o := 1) (v := .int .u64 (v : Int)) (c' := { c with begun := true, v := v }) H1 rfl
  have f1 := (cwCells H1).2.2.2.2.2 1
  have g1 := (cwCells H1).2.1
  have HP := Lib.hid (cwPut H2 v 64 (by omega) hv (L' := L ++ bitsOf v 64) (by rfl))
  clear H H1 H2 kf h
  go_enter Tryd.func11, Tryd.ntmps11
  go_wp2_with fail
  refine HP.out.mono ?_
  rintro e w2 ⟨rfl, h2⟩
  replace h2 := Lib.hid h2
  clear HP
  go_wp2_with fail
  (try simp only [Exit.inBlock, Exit.then])
  refine bodyPost_ret (results_none rfl _ _ _) rfl ?_
  exact ⟨rfl, h2.out⟩

set_option maxRecDepth 100000 in
set_option maxHeartbeats 3200000 in
theorem put_same (S : Nat → Prop) (q p : Nat) (c : Cd) (L : List Bool) (v : Nat) (w : World) (h : CW q c p L w S) (hb : c.begun = true) (hL : L.length ≤ 80000000000000) (hv : v < 18446744073709551616) (hc : c.v < 18446744073709551616) (hx0 : v ^^^ c.v = 0) :
    Calls Tryd.prog 11 #[.pointer (some ⟨q, 0, none⟩), .pointer (some ⟨p, 0, none⟩), .int .u64 (v : Int)] w fun e w' => e = .returned (.tuple #[]) ∧ ObjStep (CW q { c with v := v } p (L ++ [false])) S w w' := by
  have H := ObjStep.refl (I := CW q c p L) h
  obtain ⟨k0, k1, k2, k3, k4, kf⟩ := cwCells H
  have f0 := kf 0
  rw [hb] at k0
  have hx := xor_int v c.v hv hc
  rw [hx0] at hx
  have H1 := cwSet (o := 0) (v := .bool true) (c' := c) H (by unfold cCells; rw [hb]; rfl)
  have H2 := cwSet (o := 1) (v := .int .u64 (v : Int)) (c' := { c with v := v }) H1 rfl
  have f1 := (cwCells H1).2.2.2.2.2 1
  have g1 := (cwCells H1).2.1
  have HP := Lib.hid (cwPut H2 0 1 (by omega) (by decide) (L' := L ++ [false]) (by rfl))
  clear H H1 H2 kf h hx0
  go_enter Tryd.func11, Tryd.ntmps11
  go_wp2_with fail
  refine HP.out.mono ?_
  rintro e w2 ⟨rfl, h2⟩
  replace h2 := Lib.hid h2
  clear HP
  go_wp2_with fail
  (try simp only [Exit.inBlock, Exit.then])
  refine bodyPost_ret (results_none rfl _ _ _) rfl ?_
  exact ⟨rfl, h2.out⟩

set_option maxRecDepth 100000 in
set_option maxHeartbeats 3200000 in
theorem put_within (S : Nat → Prop) (q p : Nat) (c : Cd) (L : List Bool) (v d : Nat) (w : World) (h : CW q c p L w S) (hok : c.Ok) (hb : c.begun = true) (hL : L.length ≤ 80000000000000) (hv : v < 18446744073709551616) (hc : c.v < 18446744073709551616) (hd : v ^^^ c.v = d) (hd0 : d ≠ 0)
    (hw : c.win = true) (hl : c.lead ≤ Xr.lead d) (ht : c.tail ≤ Xr.tail d) :
    Calls Tryd.prog 11 #[.pointer (some ⟨q, 0, none⟩), .pointer (some ⟨p, 0, none⟩), .int .u64 (v : Int)] w fun e w' => e = .returned (.tuple #[]) ∧ ObjStep (CW q { c with v := v } p (L ++ ([true, false] ++ bitsOf (d / 2 ^ c.tail) (64 - c.lead - c.tail)))) S w w' := by
  have H := ObjStep.refl (I := CW q c p L) h
  obtain ⟨k0, k1, k2, k3, k4, kf⟩ := cwCells H
  have f0 := kf 0
  rw [hb] at k0
  have hx := xor_int v c.v hv hc
  rw [hd] at hx
  have hdl : d < 18446744073709551616 := by rw [← hd]; exact xor_lt hv hc
  have hbz : ((d : Int) == 0) = false := by rw [beq_eq_false_iff_ne]; omega
  have H1 := cwSet (o := 0) (v := .bool true) (c' := c) H (by unfold cCells; rw [hb]; rfl)
  have H2 := cwSet (o := 1) (v := .int .u64 (v : Int)) (c' := { c with v := v }) H1 rfl
  have f1 := (cwCells H1).2.2.2.2.2 1
  have g1 := (cwCells H1).2.1
  have HP := Lib.hid (cwPut H2 1 1 (by omega) (by decide) (L' := L ++ [true]) (by rfl))
  have hla := Lib.hid (lead_any d (by simpa using hdl))
  have hta := Lib.hid (tail_any d hdl)
  have hl31 := lead_le d
  have ht63 := tail_le d
  have hsum := hok.sum
  have hn : wrap64 (wrap64 (64 - (c.lead : Int)) - (c.tail : Int)) = ((64 - c.lead - c.tail : Nat) : Int) := by rw [IntWalk.wrap64_in (64 - (c.lead : Int)) (by omega), IntWalk.wrap64_in _ (by omega)]; omega
  have hn2 : IntKind.i64.wrap (IntKind.i64.wrap (64 - (c.lead : Int)) - (c.tail : Int)) = ((64 - c.lead - c.tail : Nat) : Int) := by rw [IntWalk.i64_in (64 - (c.lead : Int)) (by omega), IntWalk.i64_in _ (by omega)]; omega
  have dl : decide (c.lead ≤ Xr.lead d) = true := decide_eq_true hl
  have dt : decide (c.tail ≤ Xr.tail d) = true := decide_eq_true ht
  clear H H1 H2 kf h hd hok
  generalize Xr.lead d = a at *
  generalize Xr.tail d = b at *
  go_enter Tryd.func11, Tryd.ntmps11
  go_wp2_with fail
  refine HP.out.mono ?_
  rintro e w2 ⟨rfl, h2⟩
  obtain ⟨-, -, m2, m3, m4, -⟩ := cwCells h2
  rw [show ({ c with v := v } : Cd).win = c.win from rfl, hw] at m2
  have HP2 := Lib.hid (cwPut h2 0 1 (by simp; omega) (by decide) (L' := L ++ [true] ++ [false]) (by rfl))
  clear h2 HP k0 k1 k2 k3 k4 f0 f1 g1
  go_wp2_with fail
  refine (hla.out _).mono ?_
  rintro e w3 ⟨rfl, rfl⟩
  go_wp2_with fail
  refine (hta.out _).mono ?_
  rintro e w3 ⟨rfl, rfl⟩
  clear hla hta
  go_wp2_with fail
  refine HP2.out.mono ?_
  rintro e w3 ⟨rfl, h3⟩
  obtain ⟨-, -, n2, n3, n4, -⟩ := cwCells h3
  clear HP2 m2 m3 m4
  have hlen : L.length ≤ 80000000000000 := hL
  have HP3 := Lib.hid (cwPutDiv (stepDrew (thingCW _ _ _ _) h3) d c.tail ((64 - c.lead - c.tail : Nat) : Int) (by simp; omega) hdl (L' := L ++ ([true, false] ++ bitsOf (d / 2 ^ c.tail) (64 - c.lead - c.tail))) (by rw [cnt_nat (by omega)]; simp))
  clear h3
  go_wp2_with fail
  go_still_tail 17, (by kernel_rfl)
  change wpList _ _ _ _ _ w3.drew
  go_wp2_with fail
  refine HP3.out.mono ?_
  rintro e w4 ⟨rfl, h4⟩
  replace h4 := Lib.hid h4
  clear HP3
  go_wp2_with fail
  (try simp only [Exit.inBlock, Exit.then])
  refine bodyPost_ret (results_none rfl _ _ _) rfl ?_
  exact ⟨rfl, h4.out⟩
set_option maxRecDepth 100000 in
set_option maxHeartbeats 3200000 in
theorem put_other (S : Nat → Prop) (q p : Nat) (c : Cd) (L : List Bool) (v d : Nat) (w : World) (h : CW q c p L w S) (hb : c.begun = true) (hL : L.length ≤ 80000000000000) (hv : v < 18446744073709551616) (hc : c.v < 18446744073709551616) (hd : v ^^^ c.v = d) (hd0 : d ≠ 0)
    (hw : ¬ (c.win = true ∧ c.lead ≤ Xr.lead d ∧ c.tail ≤ Xr.tail d)) :
    Calls Tryd.prog 11 #[.pointer (some ⟨q, 0, none⟩), .pointer (some ⟨p, 0, none⟩), .int .u64 (v : Int)] w fun e w' => e = .returned (.tuple #[]) ∧ ObjStep (CW q ⟨true, v, true, Xr.lead d, Xr.tail d⟩ p (L ++ ([true, true] ++ bitsOf (Xr.lead d) 5 ++ bitsOf (63 - Xr.lead d - Xr.tail d) 6 ++ bitsOf (d / 2 ^ Xr.tail d) (64 - Xr.lead d - Xr.tail d)))) S w w' := by
  have H := ObjStep.refl (I := CW q c p L) h
  obtain ⟨k0, k1, k2, k3, k4, kf⟩ := cwCells H
  have f0 := kf 0
  rw [hb] at k0
  have hx := xor_int v c.v hv hc
  rw [hd] at hx
  have hdl : d < 18446744073709551616 := by rw [← hd]; exact xor_lt hv hc
  have hbz : ((d : Int) == 0) = false := by rw [beq_eq_false_iff_ne]; omega
  have hsum := sum_le (d := d) hdl (Nat.pos_of_ne_zero hd0)
  have H1 := cwSet (o := 0) (v := .bool true) (c' := c) H (by unfold cCells; rw [hb]; rfl)
  have H2 := cwSet (o := 1) (v := .int .u64 (v : Int)) (c' := { c with v := v }) H1 rfl
  have f1 := (cwCells H1).2.2.2.2.2 1
  have g1 := (cwCells H1).2.1
  have HP := Lib.hid (cwPut H2 1 1 (by omega) (by decide) (L' := L ++ [true]) (by rfl))
  have hla := Lib.hid (lead_any d (by simpa using hdl))
  have hta := Lib.hid (tail_any d hdl)
  have hl31 := lead_le d
  have ht63 := tail_le d
  clear H H1 H2 kf h hd
  generalize Xr.lead d = a at *
  generalize Xr.tail d = b at *
  have hcase : c.win = false ∨ (c.win = true ∧ decide (c.lead ≤ a) = false) ∨ (c.win = true ∧ decide (c.lead ≤ a) = true ∧ decide (c.tail ≤ b) = false) := by
    cases hwn : c.win with
    | false => exact .inl rfl
    | true =>
      right
      by_cases h1 : c.lead ≤ a
      · right; exact ⟨rfl, decide_eq_true h1, decide_eq_false fun h2 => hw ⟨hwn, h1, h2⟩⟩
      · left; exact ⟨rfl, decide_eq_false h1⟩
  have hu1 : IntKind.u64.wrap (a : Int) = (a : Int) := by rw [IntKind.wrap_u64]; omega
  have hn1 : (63 : Int) - (a : Int) - (b : Int) = ((63 - a - b : Nat) : Int) := by omega
  have hn2 : (64 : Int) - (a : Int) - (b : Int) = ((64 - a - b : Nat) : Int) := by omega
  clear hw
  rcases hcase with e1 | ⟨e1, e2⟩ | ⟨e1, e2, e3⟩
  all_goals
    rw [e1] at k2
    go_enter Tryd.func11, Tryd.ntmps11
    go_wp2_with fail
    refine HP.out.mono ?_
    rintro e w2 ⟨rfl, h2⟩
    obtain ⟨-, -, m2, m3, m4, -⟩ := cwCells h2
    rw [show ({ c with v := v } : Cd).win = c.win from rfl, e1] at m2
    have HP2 := Lib.hid (cwPut h2 1 1 (by simp; omega) (by decide) (L' := L ++ [true] ++ [true]) (by rfl))
    clear h2 HP k0 k1 k2 k3 k4 f0 f1 g1
    go_wp2_with fail
    refine (hla.out _).mono ?_
    rintro e w3 ⟨rfl, rfl⟩
    go_wp2_with fail
    refine (hta.out _).mono ?_
    rintro e w3 ⟨rfl, rfl⟩
    clear hla hta
    go_wp2_with fail
    refine HP2.out.mono ?_
    rintro e w3 ⟨rfl, h3⟩
    clear HP2 m2 m3 m4
    have HP3 := Lib.hid (cwPut h3 a 5 (by simp; omega) (by omega) (L' := L ++ [true] ++ [true] ++ bitsOf a 5) (by rfl))
    clear h3
    go_wp2_with fail
    refine HP3.out.mono ?_
    rintro e w4 ⟨rfl, h4⟩
    clear HP3
    have HP4 := Lib.hid (cwPut h4 (63 - a - b) 6 (by simp [bitsOf_length]; omega) (by omega) (L' := L ++ [true] ++ [true] ++ bitsOf a 5 ++ bitsOf (63 - a - b) 6) (by rfl))
    clear h4
    go_wp2_with fail
    refine HP4.out.mono ?_
    rintro e w5 ⟨rfl, h5⟩
    clear HP4
    have HP5 := Lib.hid (cwPutDiv h5 d b ((64 - a - b : Nat) : Int) (by simp [bitsOf_length]; omega) hdl (L' := L ++ ([true, true] ++ bitsOf a 5 ++ bitsOf (63 - a - b) 6 ++ bitsOf (d / 2 ^ b) (64 - a - b))) (by rw [cnt_nat (by omega)]; simp))
    clear h5
    go_wp2_with fail
    refine HP5.out.mono ?_
    rintro e w6 ⟨rfl, h6⟩
    clear HP5
    obtain ⟨-, -, n2, n3, n4, nf⟩ := cwCells h6
    have h7 := cwSet (o := 2) (v := .bool true) (c' := { c with v := v, win := true }) h6 rfl
    obtain ⟨-, -, -, p3, p4, pf⟩ := cwCells h7
    have h8 := cwSet (o := 3) (v := .int .i64 (a : Int)) (c' := { c with v := v, win := true, lead := a }) h7 rfl
    obtain ⟨-, -, -, -, r4, rf⟩ := cwCells h8
    have h9 := cwSet (o := 4) (v := .int .i64 (b : Int)) (c' := ⟨c.begun, v, true, a, b⟩) h8 rfl
    rw [hb] at h9
    have x2 := nf 2
    have x3 := pf 3
    have x4 := rf 4
    have h9' := Lib.hid h9
    clear nf pf rf h6 h7 h8 h9
    go_wp2_with fail
    go_end0
    exact ⟨rfl, h9'.out⟩
/-- Put, as the document says it. -/
theorem refPut_any (S : Nat → Prop) (q p : Nat) (c : Cd) (L : List Bool) (v : Nat) (w : World) (h : CW q c p L w S) (hok : c.Ok) (hL : L.length ≤ 80000000000000) (hv : v < 18446744073709551616) :
    Calls Tryd.prog 11 #[.pointer (some ⟨q, 0, none⟩), .pointer (some ⟨p, 0, none⟩), .int .u64 (v : Int)] w fun e w' => e = .returned (.tuple #[]) ∧ ObjStep (CW q (putC c v) p (L ++ putB c v)) S w w' := by
  have hc : c.v < 18446744073709551616 := hok.v
  by_cases hb : c.begun = false
  · have e1 : putC c v = { c with begun := true, v := v } := by unfold putC; rw [if_pos hb]
    have e2 : putB c v = bitsOf v 64 := by unfold putB; rw [if_pos hb]
    rw [e1, e2]
    exact put_first S q p c L v w h hb hL hv hc
  · have hb' : c.begun = true := by simpa using hb
    by_cases hx : v ^^^ c.v = 0
    · have e1 : putC c v = { c with v := v } := by unfold putC; rw [if_neg hb, if_pos hx]
      have e2 : putB c v = [false] := by unfold putB; rw [if_neg hb, if_pos hx]
      rw [e1, e2]
      exact put_same S q p c L v w h hb' hL hv hc hx
    · by_cases hw : c.win = true ∧ c.lead ≤ Xr.lead (v ^^^ c.v) ∧ c.tail ≤ Xr.tail (v ^^^ c.v)
      · have e1 : putC c v = { c with v := v } := by unfold putC; rw [if_neg hb, if_neg hx, if_pos hw]
        have e2 : putB c v = [true, false] ++ bitsOf ((v ^^^ c.v) / 2 ^ c.tail) (64 - c.lead - c.tail) := by unfold putB; rw [if_neg hb, if_neg hx, if_pos hw]
        rw [e1, e2]
        exact put_within S q p c L v _ w h hok hb' hL hv hc rfl hx hw.1 hw.2.1 hw.2.2
      · have e1 : putC c v = ⟨true, v, true, Xr.lead (v ^^^ c.v), Xr.tail (v ^^^ c.v)⟩ := by unfold putC; rw [if_neg hb, if_neg hx, if_neg hw]
        have e2 : putB c v = [true, true] ++ bitsOf (Xr.lead (v ^^^ c.v)) 5 ++ bitsOf (63 - Xr.lead (v ^^^ c.v) - Xr.tail (v ^^^ c.v)) 6 ++ bitsOf ((v ^^^ c.v) / 2 ^ Xr.tail (v ^^^ c.v)) (64 - Xr.lead (v ^^^ c.v) - Xr.tail (v ^^^ c.v)) := by unfold putB; rw [if_neg hb, if_neg hx, if_neg hw]
        rw [e1, e2]
        exact put_other S q p c L v _ w h hb' hL hv hc rfl hx hw
end Xr
end Go.Proofs.YtiimdinefkbhlaaDoor
