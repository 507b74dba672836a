/- The document's own coder of patterns (layer 7): guess. -/
import Derived.Test.YtiimdinefkbhlaaDoorXorRef2
namespace Go.Proofs.YtiimdinefkbhlaaDoor
open Go.RowKit Go.Sort
namespace Xr
open Bit Dsk Ob
set_option linter.unusedVariables false

/-- The document's coder, its reader beside it. -/
abbrev CR (q : Nat) (c : Cd) (p : Nat) (K : List Bool) : Ob.Rel := Tens (IsRC q c) (fun w S => IsRR w S p K)
theorem thingCR (q : Nat) (c : Cd) (p : Nat) (K : List Bool) : Thing (CR q c p K) := Tens.ob (objRC q c) (objRR p K)
theorem crGet {S : Nat → Prop} {w0 w : World} {q p : Nat} {c : Cd} {K K' : List Bool} {x : Nat} (H : ObjStep (CR q c p K) S w0 w) (m : Nat) (hm : m ≤ 64) (hle : m ≤ K.length) (hx : numOf (K.take m) = x) (e : K.drop m = K') :
    Calls Tryd.prog 35 #[.pointer (some ⟨p, 0, none⟩), .int .i64 (m : Int)] w fun e w' => e = .returned (.tuple #[.int .u64 (x : Int), .bool true]) ∧ ObjStep (CR q c p K') S w0 w' := by
  subst e; subst hx
  exact callR (Q := fun e => e = .returned (.tuple #[.int .u64 (numOf (K.take m) : Int), .bool true])) (objRC q c) H fun A h => refGet_ok A p K m w h hm hle
theorem crNo {S : Nat → Prop} {w0 w : World} {q p : Nat} {c : Cd} {K : List Bool} (H : ObjStep (CR q c p K) S w0 w) (m : Nat) (hle : K.length < m) :
    Calls Tryd.prog 35 #[.pointer (some ⟨p, 0, none⟩), .int .i64 (m : Int)] w fun e w' => e = .returned (.tuple #[.int .u64 0, .bool false]) ∧ ObjStep (CR q c p K) S w0 w' := by
  obtain ⟨A, h⟩ := seeR H
  refine (refGet_no A p K m w h (by omega)).mono ?_
  rintro e w' ⟨he, rfl⟩
  exact ⟨he, H⟩
theorem crCells {S : Nat → Prop} {w0 w : World} {q p : Nat} {c : Cd} {K : List Bool} (H : ObjStep (CR q c p K) S w0 w) :
    w.cell? ⟨q, 0, none⟩ = some (.bool c.begun) ∧ w.cell? ⟨q, 1, none⟩ = some (.int .u64 (c.v : Int)) ∧ w.cell? ⟨q, 2, none⟩ = some (.bool c.win) ∧ w.cell? ⟨q, 3, none⟩ = some (.int .i64 (c.lead : Int)) ∧ w.cell? ⟨q, 4, none⟩ = some (.int .i64 (c.tail : Int)) := by
  obtain ⟨A, h⟩ := seeL H
  obtain ⟨h0, h1, h2, h3, h4, -⟩ := rc5 h.1
  exact ⟨h0, h1, h2, h3, h4⟩
/-- What guess leaves. -/
def Gs (q : Nat) (c : Cd) (p : Nat) (K : List Bool) (S : Nat → Prop) (w : World) (o : Option (Nat × Nat)) (e : Ending) (w' : World) : Prop :=
  match o with
  | some (v, n) => e = .returned (.tuple #[.int .u64 (v : Int), .bool true]) ∧ ObjStep (CR q c p (K.drop n)) S w w'
  | none => (∃ x : Int, e = .returned (.tuple #[.int .u64 x, .bool false])) ∧ ∃ K', ObjStep (CR q c p K') S w w'
theorem shl_u64 (d k : Nat) : IntKind.u64.wrap ((d : Int) * 2 ^ k) = ((d * 2 ^ k % 2 ^ 64 : Nat) : Int) := by
  rw [IntKind.wrap_u64, Int.natCast_emod, Int.natCast_mul, Int.natCast_pow]
  rfl

theorem xor_shl (V D k : Nat) (hV : V < 18446744073709551616) : bits .xor .u64 (V : Int) ((D : Int) * 2 ^ k % 18446744073709551616) = ((V ^^^ (D * 2 ^ k % 2 ^ 64) : Nat) : Int) := by
  rw [← xor_int V (D * 2 ^ k % 2 ^ 64) hV (Nat.mod_lt _ (by decide)), Int.natCast_emod, Int.natCast_mul, Int.natCast_pow]
  rfl
set_option maxRecDepth 100000 in
set_option maxHeartbeats 3200000 in
theorem guess_first (S : Nat → Prop) (q p : Nat) (c : Cd) (K : List Bool) (w : World) (h : CR q c p K w S) (hb : c.begun = false) :
    Calls Tryd.prog 26 #[.pointer (some ⟨q, 0, none⟩), .pointer (some ⟨p, 0, none⟩)] w (Gs q c p K S w (guess c K)) := by
  have H := ObjStep.refl (I := CR q c p K) h
  obtain ⟨k0, k1, k2, k3, k4⟩ := crCells H
  rw [hb] at k0
  have eg : guess c K = if 64 ≤ K.length then some (numOf (K.take 64), 64) else none := by unfold guess; rw [if_pos hb]
  rw [eg]
  by_cases hl : 64 ≤ K.length
  · rw [if_pos hl]
    have HG := Lib.hid (crGet H 64 (by omega) hl rfl rfl)
    clear H h eg
    go_enter Tryd.func26, Tryd.ntmps26
    go_wp2_with fail
    refine HG.out.mono ?_
    rintro e w2 ⟨rfl, h2⟩
    replace h2 := Lib.hid h2
    clear HG
    go_wp2_with fail
    go_ret2
    exact ⟨rfl, h2.out⟩
  · rw [if_neg hl]
    have HG := Lib.hid (crNo H 64 (by omega))
    clear H h eg
    go_enter Tryd.func26, Tryd.ntmps26
    go_wp2_with fail
    refine HG.out.mono ?_
    rintro e w2 ⟨rfl, h2⟩
    replace h2 := Lib.hid h2
    clear HG
    go_wp2_with fail
    go_ret2
    exact ⟨⟨_, rfl⟩, _, h2.out⟩

set_option maxRecDepth 100000 in
set_option maxHeartbeats 3200000 in
theorem guess_short (S : Nat → Prop) (q p : Nat) (c : Cd) (K : List Bool) (w : World) (h : CR q c p K w S) (hb : c.begun = true) (hK : K = [] ∨ (∃ R, K = false :: R) ∨ K = [true] ∨ ∃ R, K = true :: false :: R ∧ c.win = false) :
    Calls Tryd.prog 26 #[.pointer (some ⟨q, 0, none⟩), .pointer (some ⟨p, 0, none⟩)] w (Gs q c p K S w (guess c K)) := by
  have H := ObjStep.refl (I := CR q c p K) h
  obtain ⟨k0, k1, k2, k3, k4⟩ := crCells H
  rw [hb] at k0
  have hnb : ¬ c.begun = false := by rw [hb]; decide
  rcases hK with rfl | ⟨R, rfl⟩ | rfl | ⟨R, rfl, hw⟩
  · have eg : guess c [] = none := by unfold guess; rw [if_neg hnb]
    rw [eg]
    have HG := Lib.hid (crNo H 1 (by simp))
    clear h eg
    go_enter Tryd.func26, Tryd.ntmps26
    go_wp2_with fail
    refine HG.out.mono ?_
    rintro e w2 ⟨rfl, h2⟩
    obtain ⟨m0, m1, m2, m3, m4⟩ := crCells h2
    replace h2 := Lib.hid h2
    clear HG H
    go_wp2_with fail
    go_ret2
    exact ⟨⟨_, rfl⟩, _, h2.out⟩
  · have eg : guess c (false :: R) = some (c.v, 1) := by unfold guess; rw [if_neg hnb]
    rw [eg]
    have HG := Lib.hid (crGet (x := 0) (K' := R) H 1 (by omega) (by simp) (by rfl) (by rfl))
    clear h eg
    go_enter Tryd.func26, Tryd.ntmps26
    go_wp2_with fail
    refine HG.out.mono ?_
    rintro e w2 ⟨rfl, h2⟩
    obtain ⟨m0, m1, m2, m3, m4⟩ := crCells h2
    replace h2 := Lib.hid h2
    clear HG H
    go_wp2_with fail
    go_ret2
    exact ⟨rfl, h2.out⟩
  · have eg : guess c [true] = none := by unfold guess; rw [if_neg hnb]
    rw [eg]
    have HG := Lib.hid (crGet (x := 1) (K' := []) H 1 (by omega) (by simp) (by rfl) (by rfl))
    clear h eg
    go_enter Tryd.func26, Tryd.ntmps26
    go_wp2_with fail
    refine HG.out.mono ?_
    rintro e w2 ⟨rfl, h2⟩
    obtain ⟨m0, m1, m2, m3, m4⟩ := crCells h2
    have HG2 := Lib.hid (crNo h2 1 (by simp))
    clear HG H h2
    go_wp2_with fail
    refine HG2.out.mono ?_
    rintro e w3 ⟨rfl, h3⟩
    obtain ⟨n0, n1, n2, n3, n4⟩ := crCells h3
    replace h3 := Lib.hid h3
    clear HG2 m0 m1 m2 m3 m4
    go_wp2_with fail
    go_ret2
    exact ⟨⟨_, rfl⟩, _, h3.out⟩
  · have eg : guess c (true :: false :: R) = none := by
      unfold guess; rw [if_neg hnb]
      simp [hw]
    rw [eg]
    have HG := Lib.hid (crGet (x := 1) (K' := false :: R) H 1 (by omega) (by simp) (by rfl) (by rfl))
    clear h eg
    go_enter Tryd.func26, Tryd.ntmps26
    go_wp2_with fail
    refine HG.out.mono ?_
    rintro e w2 ⟨rfl, h2⟩
    obtain ⟨m0, m1, m2, m3, m4⟩ := crCells h2
    have HG2 := Lib.hid (crGet (x := 0) (K' := R) h2 1 (by omega) (by simp) (by rfl) (by rfl))
    clear HG H h2
    go_wp2_with fail
    refine HG2.out.mono ?_
    rintro e w3 ⟨rfl, h3⟩
    obtain ⟨n0, n1, n2, n3, n4⟩ := crCells h3
    rw [hw] at n2
    replace h3 := Lib.hid h3
    clear HG2 m0 m1 m2 m3 m4
    go_wp2_with fail
    go_ret2
    exact ⟨⟨_, rfl⟩, _, h3.out⟩

set_option maxRecDepth 100000 in
set_option maxHeartbeats 3200000 in
theorem guess_within (S : Nat → Prop) (q p : Nat) (c : Cd) (R : List Bool) (w : World) (h : CR q c p (true :: false :: R) w S) (hok : c.Ok) (hb : c.begun = true) (hw : c.win = true) :
    Calls Tryd.prog 26 #[.pointer (some ⟨q, 0, none⟩), .pointer (some ⟨p, 0, none⟩)] w (Gs q c p (true :: false :: R) S w (guess c (true :: false :: R))) := by
  have H := ObjStep.refl (I := CR q c p (true :: false :: R)) h
  obtain ⟨k0, k1, k2, k3, k4⟩ := crCells H
  rw [hb] at k0
  have hnb : ¬ c.begun = false := by rw [hb]; decide
  have hsum := hok.sum
  obtain ⟨n, hn⟩ : ∃ n, n = 64 - c.lead - c.tail := ⟨_, rfl⟩
  have eg : guess c (true :: false :: R) = if n ≤ R.length then some (c.v ^^^ (numOf (R.take n) * 2 ^ c.tail % 2 ^ 64), n + 2) else none := by
    unfold guess; rw [if_neg hnb]
    simp only [hw, true_and]
    rw [← hn, show 66 - c.lead - c.tail = n + 2 by omega]
  have HG := Lib.hid (crGet (x := 1) (K' := false :: R) H 1 (by omega) (by simp) (by rfl) (by rfl))
  have hw1 : IntKind.i64.wrap (IntKind.i64.wrap (64 - (c.lead : Int)) - (c.tail : Int)) = (n : Int) := by rw [IntWalk.i64_in (64 - (c.lead : Int)) (by omega), IntWalk.i64_in _ (by omega)]; omega
  have hw2 : wrap64 (wrap64 (64 - (c.lead : Int)) - (c.tail : Int)) = (n : Int) := by rw [IntWalk.wrap64_in (64 - (c.lead : Int)) (by omega), IntWalk.wrap64_in _ (by omega)]; omega
  have hu1 : IntKind.u64.wrap (c.lead : Int) = (c.lead : Int) := by rw [IntKind.wrap_u64]; omega
  have hu2 : IntKind.u64.wrap (n : Int) = (n : Int) := by rw [IntKind.wrap_u64]; omega
  have hv : c.v < 18446744073709551616 := hok.v
  have hn64 : n ≤ 64 := by omega
  have hlt : c.lead + n ≤ 64 := by omega
  have hnt : Hid (64 - c.lead - n = c.tail) := Lib.hid (by omega)
  have hIn : (64 : Int) - (c.lead : Int) - (n : Int) = (c.tail : Int) := by omega
  have hI : (64 : Int) - (c.lead : Int) - (c.tail : Int) = (n : Int) := by omega
  replace hn := Lib.hid hn
  by_cases hle : n ≤ R.length
  · have eg2 : Hid (guess c (true :: false :: R) = some (c.v ^^^ (numOf (R.take n) * 2 ^ c.tail % 2 ^ 64), n + 2)) := Lib.hid (by rw [eg, if_pos hle])
    have hxx := xor_int c.v (numOf (R.take n) * 2 ^ c.tail % 2 ^ 64) hv (Nat.mod_lt _ (by decide))
    have hsh := shl_u64 (numOf (R.take n)) c.tail
    clear h eg
    go_enter Tryd.func26, Tryd.ntmps26
    go_wp2_with fail
    refine HG.out.mono ?_
    rintro e w2 ⟨rfl, h2⟩
    obtain ⟨m0, m1, m2, m3, m4⟩ := crCells h2
    have HG2 := Lib.hid (crGet (x := 0) (K' := R) h2 1 (by omega) (by simp) (by rfl) (by rfl))
    clear HG H h2 k0 k1 k2 k3 k4
    go_wp2_with fail
    refine HG2.out.mono ?_
    rintro e w3 ⟨rfl, h3⟩
    obtain ⟨n0, n1, n2, n3, n4⟩ := crCells h3
    rw [hw] at n2
    have H3 := Lib.hid (fun k => h3.upon0 (thingCR _ _ _ _) (upon_drewN _ w3 k))
    clear HG2 m0 m1 m2 m3 m4 h3
    go_wp2_with fail
    go_quiet (fail)
    have HG3 := Lib.hid (crGet (x := numOf (R.take n)) (K' := R.drop n) (H3.out nq) n hn64 hle (by rfl) (by rfl))
    clear H3 n0 n1 n2 n3 n4
    go_wp2_with fail
    refine HG3.out.mono ?_
    rintro e w4 ⟨rfl, h4⟩
    obtain ⟨p0, p1, p2, p3, p4⟩ := crCells h4
    replace h4 := Lib.hid h4
    clear HG3
    go_wp2_with fail
    go_ret2
    rw [eg2.out]
    refine ⟨?_, h4.out⟩
    show Ending.returned (.tuple #[.int .u64 (bits .xor .u64 (c.v : Int) ((numOf (R.take n) : Int) * 2 ^ c.tail % 18446744073709551616)), .bool true]) = _
    rw [xor_shl _ _ _ hv]
  · have eg2 : Hid (guess c (true :: false :: R) = none) := Lib.hid (by rw [eg, if_neg hle])
    clear h eg
    go_enter Tryd.func26, Tryd.ntmps26
    go_wp2_with fail
    refine HG.out.mono ?_
    rintro e w2 ⟨rfl, h2⟩
    obtain ⟨m0, m1, m2, m3, m4⟩ := crCells h2
    have HG2 := Lib.hid (crGet (x := 0) (K' := R) h2 1 (by omega) (by simp) (by rfl) (by rfl))
    clear HG H h2 k0 k1 k2 k3 k4
    go_wp2_with fail
    refine HG2.out.mono ?_
    rintro e w3 ⟨rfl, h3⟩
    obtain ⟨n0, n1, n2, n3, n4⟩ := crCells h3
    rw [hw] at n2
    have H3 := Lib.hid (fun k => h3.upon0 (thingCR _ _ _ _) (upon_drewN _ w3 k))
    clear HG2 m0 m1 m2 m3 m4 h3
    go_wp2_with fail
    go_quiet (fail)
    have HG3 := Lib.hid (crNo (H3.out nq) n (by omega))
    clear H3 n0 n1 n2 n3 n4
    go_wp2_with fail
    refine HG3.out.mono ?_
    rintro e w4 ⟨rfl, h4⟩
    obtain ⟨p0, p1, p2, p3, p4⟩ := crCells h4
    replace h4 := Lib.hid h4
    clear HG3
    go_wp2_with fail
    go_ret2
    rw [eg2.out]
    exact ⟨⟨_, rfl⟩, _, h4.out⟩

/-- What the bits behind two bits 1 tell: lead, size, the difference. -/
theorem guess_new_is (c : Cd) (R : List Bool) (hb : ¬ c.begun = false) : guess c (true :: true :: R) = if 11 ≤ R.length ∧ numOf (R.take 5) + numOf ((R.drop 5).take 6) + 1 ≤ 64 ∧ numOf ((R.drop 5).take 6) + 1 ≤ (R.drop 11).length then
      some (c.v ^^^ (numOf ((R.drop 11).take (numOf ((R.drop 5).take 6) + 1)) * 2 ^ (63 - numOf (R.take 5) - numOf ((R.drop 5).take 6)) % 2 ^ 64), 14 + numOf ((R.drop 5).take 6)) else none := by
  unfold guess; rw [if_neg hb]
set_option maxRecDepth 100000 in
set_option maxHeartbeats 6400000 in
theorem guess_new (S : Nat → Prop) (q p : Nat) (c : Cd) (R : List Bool) (w : World) (h : CR q c p (true :: true :: R) w S) (hok : c.Ok) (hb : c.begun = true) :
    Calls Tryd.prog 26 #[.pointer (some ⟨q, 0, none⟩), .pointer (some ⟨p, 0, none⟩)] w (Gs q c p (true :: true :: R) S w (guess c (true :: true :: R))) := by
  have H := ObjStep.refl (I := CR q c p (true :: true :: R)) h
  obtain ⟨k0, k1, k2, k3, k4⟩ := crCells H
  rw [hb] at k0
  have hnb : ¬ c.begun = false := by rw [hb]; decide
  have eg := guess_new_is c R hnb
  have hv : c.v < 18446744073709551616 := hok.v
  have HG := Lib.hid (crGet (x := 1) (K' := true :: R) H 1 (by omega) (by simp) (by rfl) (by rfl))
  have hcl : c.lead ≤ 31 := hok.lead
  have hct : c.lead + c.tail ≤ 63 := hok.sum
  clear h hnb hok
  by_cases h5 : R.length < 5
  · have eg2 : Hid (guess c (true :: true :: R) = none) := Lib.hid (by rw [eg, if_neg (by omega)])
    clear eg
    go_enter Tryd.func26, Tryd.ntmps26
    go_wp2_with fail
    refine HG.out.mono ?_
    rintro e w2 ⟨rfl, h2⟩
    obtain ⟨m0, m1, m2, m3, m4⟩ := crCells h2
    have HG2 := Lib.hid (crGet (x := 1) (K' := R) h2 1 (by omega) (by simp) (by rfl) (by rfl))
    clear HG H h2 k0 k1 k2 k3 k4
    go_wp2_with fail
    refine HG2.out.mono ?_
    rintro e w3 ⟨rfl, h3⟩
    obtain ⟨n0, n1, n2, n3, n4⟩ := crCells h3
    have H3 := Lib.hid (fun k => h3.upon0 (thingCR _ _ _ _) (upon_drewN _ w3 k))
    clear HG2 m0 m1 m2 m3 m4 h3
    go_wp2_with fail
    go_quiet (fail)
    have HG3 := Lib.hid (crNo (H3.out nq) 5 h5)
    clear H3 n0 n1 n2 n3 n4
    go_wp2_with fail
    refine HG3.out.mono ?_
    rintro e w4 ⟨rfl, h4⟩
    have HG4 := Lib.hid (crNo h4 6 (by omega))
    clear HG3 h4
    go_wp2_with fail
    refine HG4.out.mono ?_
    rintro e w5 ⟨rfl, h5'⟩
    replace h5' := Lib.hid h5'
    clear HG4
    go_wp2_with fail
    go_ret2
    rw [eg2.out]
    exact ⟨⟨_, rfl⟩, _, h5'.out⟩
  · obtain ⟨P, hP⟩ : ∃ P, numOf (R.take 5) = P := ⟨_, rfl⟩
    rw [hP] at eg
    have hPl : P < 32 := by
      have := numOf_lt (R.take 5)
      rw [hP, List.length_take, Nat.min_eq_left (by omega)] at this
      exact this
    by_cases h11 : R.length < 11
    · have eg2 : Hid (guess c (true :: true :: R) = none) := Lib.hid (by rw [eg, if_neg (by omega)])
      clear eg
      go_enter Tryd.func26, Tryd.ntmps26
      go_wp2_with fail
      refine HG.out.mono ?_
      rintro e w2 ⟨rfl, h2⟩
      obtain ⟨m0, m1, m2, m3, m4⟩ := crCells h2
      have HG2 := Lib.hid (crGet (x := 1) (K' := R) h2 1 (by omega) (by simp) (by rfl) (by rfl))
      clear HG H h2 k0 k1 k2 k3 k4
      go_wp2_with fail
      refine HG2.out.mono ?_
      rintro e w3 ⟨rfl, h3⟩
      obtain ⟨n0, n1, n2, n3, n4⟩ := crCells h3
      have H3 := Lib.hid (fun k => h3.upon0 (thingCR _ _ _ _) (upon_drewN _ w3 k))
      clear HG2 m0 m1 m2 m3 m4 h3
      go_wp2_with fail
      go_quiet (fail)
      have HG3 := Lib.hid (crGet (x := P) (K' := R.drop 5) (H3.out nq) 5 (by omega) (by omega) hP rfl)
      clear H3 n0 n1 n2 n3 n4
      go_wp2_with fail
      refine HG3.out.mono ?_
      rintro e w4 ⟨rfl, h4⟩
      have HG4 := Lib.hid (crNo h4 6 (by rw [List.length_drop]; omega))
      clear HG3 h4
      go_wp2_with fail
      refine HG4.out.mono ?_
      rintro e w5 ⟨rfl, h5'⟩
      replace h5' := Lib.hid h5'
      clear HG4
      go_wp2_with fail
      go_ret2
      rw [eg2.out]
      exact ⟨⟨_, rfl⟩, _, h5'.out⟩
    · obtain ⟨Q, hQ⟩ : ∃ Q, numOf ((R.drop 5).take 6) = Q := ⟨_, rfl⟩
      rw [hQ] at eg
      have hQl : Q < 64 := by
        have := numOf_lt ((R.drop 5).take 6)
        rw [hQ, List.length_take, List.length_drop, Nat.min_eq_left (by omega)] at this
        exact this
      by_cases hsum : P + Q + 1 ≤ 64
      · have hd1 : decide ((64 : Int) < (P : Int) + (Q : Int) + 1) = false := decide_eq_false (by omega)
        have hI1 : (64 : Int) - (P : Int) - ((Q : Int) + 1) = ((63 - P - Q : Nat) : Int) := by omega
        by_cases hle : Q + 1 ≤ (R.drop 11).length
        · have eg2 : Hid (guess c (true :: true :: R) = some (c.v ^^^ (numOf ((R.drop 11).take (Q + 1)) * 2 ^ (63 - P - Q) % 2 ^ 64), 14 + Q)) := Lib.hid (by rw [eg, if_pos ⟨by omega, hsum, hle⟩])
          clear eg
          go_enter Tryd.func26, Tryd.ntmps26
          go_wp2_with fail
          refine HG.out.mono ?_
          rintro e w2 ⟨rfl, h2⟩
          obtain ⟨m0, m1, m2, m3, m4⟩ := crCells h2
          have HG2 := Lib.hid (crGet (x := 1) (K' := R) h2 1 (by omega) (by simp) (by rfl) (by rfl))
          clear HG H h2 k0 k1 k2 k3 k4
          go_wp2_with fail
          refine HG2.out.mono ?_
          rintro e w3 ⟨rfl, h3⟩
          obtain ⟨n0, n1, n2, n3, n4⟩ := crCells h3
          have H3 := Lib.hid (fun k => h3.upon0 (thingCR _ _ _ _) (upon_drewN _ w3 k))
          clear HG2 m0 m1 m2 m3 m4 h3
          go_wp2_with fail
          go_quiet (fail)
          have HG3 := Lib.hid (crGet (x := P) (K' := R.drop 5) (H3.out nq) 5 (by omega) (by omega) hP rfl)
          clear H3 n0 n1 n2 n3 n4
          go_wp2_with fail
          refine HG3.out.mono ?_
          rintro e w4 ⟨rfl, h4⟩
          have HG4 := Lib.hid (crGet (x := Q) (K' := R.drop 11) h4 6 (by omega) (by rw [List.length_drop]; omega) hQ (by rw [List.drop_drop]))
          clear HG3 h4
          go_wp2_with fail
          refine HG4.out.mono ?_
          rintro e w5 ⟨rfl, h5'⟩
          have HG5 := Lib.hid (crGet (x := numOf ((R.drop 11).take (Q + 1))) (K' := (R.drop 11).drop (Q + 1)) h5' (Q + 1) (by omega) hle rfl rfl)
          clear HG4 h5'
          go_wp2_with fail
          refine HG5.out.mono ?_
          rintro e w6 ⟨rfl, h6⟩
          obtain ⟨p0, p1, p2, p3, p4⟩ := crCells h6
          rw [List.drop_drop, show 11 + (Q + 1) = 12 + Q by omega] at h6
          replace h6 := Lib.hid h6
          clear HG5
          go_wp2_with fail
          go_ret2
          rw [eg2.out]
          refine ⟨?_, by have := h6.out; rw [show (true :: true :: R).drop (14 + Q) = R.drop (12 + Q) by rw [show 14 + Q = (12 + Q) + 2 by omega]; rfl]; exact this⟩
          show Ending.returned (.tuple #[.int .u64 (bits .xor .u64 (c.v : Int) ((numOf ((R.drop 11).take (Q + 1)) : Int) * 2 ^ (63 - P - Q) % 18446744073709551616)), .bool true]) = _
          rw [xor_shl _ _ _ hv]
        · have eg2 : Hid (guess c (true :: true :: R) = none) := Lib.hid (by rw [eg, if_neg fun h => hle h.2.2])
          clear eg
          go_enter Tryd.func26, Tryd.ntmps26
          go_wp2_with fail
          refine HG.out.mono ?_
          rintro e w2 ⟨rfl, h2⟩
          obtain ⟨m0, m1, m2, m3, m4⟩ := crCells h2
          have HG2 := Lib.hid (crGet (x := 1) (K' := R) h2 1 (by omega) (by simp) (by rfl) (by rfl))
          clear HG H h2 k0 k1 k2 k3 k4
          go_wp2_with fail
          refine HG2.out.mono ?_
          rintro e w3 ⟨rfl, h3⟩
          obtain ⟨n0, n1, n2, n3, n4⟩ := crCells h3
          have H3 := Lib.hid (fun k => h3.upon0 (thingCR _ _ _ _) (upon_drewN _ w3 k))
          clear HG2 m0 m1 m2 m3 m4 h3
          go_wp2_with fail
          go_quiet (fail)
          have HG3 := Lib.hid (crGet (x := P) (K' := R.drop 5) (H3.out nq) 5 (by omega) (by omega) hP rfl)
          clear H3 n0 n1 n2 n3 n4
          go_wp2_with fail
          refine HG3.out.mono ?_
          rintro e w4 ⟨rfl, h4⟩
          have HG4 := Lib.hid (crGet (x := Q) (K' := R.drop 11) h4 6 (by omega) (by rw [List.length_drop]; omega) hQ (by rw [List.drop_drop]))
          clear HG3 h4
          go_wp2_with fail
          refine HG4.out.mono ?_
          rintro e w5 ⟨rfl, h5'⟩
          have HG5 := Lib.hid (crNo h5' (Q + 1) (by omega))
          clear HG4 h5'
          go_wp2_with fail
          refine HG5.out.mono ?_
          rintro e w6 ⟨rfl, h6⟩
          obtain ⟨p0, p1, p2, p3, p4⟩ := crCells h6
          replace h6 := Lib.hid h6
          clear HG5
          go_wp2_with fail
          go_ret2
          rw [eg2.out]
          exact ⟨⟨_, rfl⟩, _, h6.out⟩
      · have hd1 : decide ((64 : Int) < (P : Int) + (Q : Int) + 1) = true := decide_eq_true (by omega)
        have eg2 : Hid (guess c (true :: true :: R) = none) := Lib.hid (by rw [eg, if_neg fun h => hsum h.2.1])
        clear eg
        go_enter Tryd.func26, Tryd.ntmps26
        go_wp2_with fail
        refine HG.out.mono ?_
        rintro e w2 ⟨rfl, h2⟩
        obtain ⟨m0, m1, m2, m3, m4⟩ := crCells h2
        have HG2 := Lib.hid (crGet (x := 1) (K' := R) h2 1 (by omega) (by simp) (by rfl) (by rfl))
        clear HG H h2 k0 k1 k2 k3 k4
        go_wp2_with fail
        refine HG2.out.mono ?_
        rintro e w3 ⟨rfl, h3⟩
        obtain ⟨n0, n1, n2, n3, n4⟩ := crCells h3
        have H3 := Lib.hid (fun k => h3.upon0 (thingCR _ _ _ _) (upon_drewN _ w3 k))
        clear HG2 m0 m1 m2 m3 m4 h3
        go_wp2_with fail
        go_quiet (fail)
        have HG3 := Lib.hid (crGet (x := P) (K' := R.drop 5) (H3.out nq) 5 (by omega) (by omega) hP rfl)
        clear H3 n0 n1 n2 n3 n4
        go_wp2_with fail
        refine HG3.out.mono ?_
        rintro e w4 ⟨rfl, h4⟩
        have HG4 := Lib.hid (crGet (x := Q) (K' := R.drop 11) h4 6 (by omega) (by rw [List.length_drop]; omega) hQ (by rw [List.drop_drop]))
        clear HG3 h4
        go_wp2_with fail
        refine HG4.out.mono ?_
        rintro e w5 ⟨rfl, h5'⟩
        replace h5' := Lib.hid h5'
        clear HG4
        go_wp2_with fail
        go_ret2
        rw [eg2.out]
        exact ⟨⟨_, rfl⟩, _, h5'.out⟩
/-- guess, whatever the bits. -/
theorem guess_any (S : Nat → Prop) (q p : Nat) (c : Cd) (K : List Bool) (w : World) (h : CR q c p K w S) (hok : c.Ok) :
    Calls Tryd.prog 26 #[.pointer (some ⟨q, 0, none⟩), .pointer (some ⟨p, 0, none⟩)] w (Gs q c p K S w (guess c K)) := by
  by_cases hb : c.begun = false
  · exact guess_first S q p c K w h hb
  · have hb' : c.begun = true := by simpa using hb
    match K, h with
    | [], h => exact guess_short S q p c _ w h hb' (.inl rfl)
    | false :: R, h => exact guess_short S q p c _ w h hb' (.inr (.inl ⟨R, rfl⟩))
    | [true], h => exact guess_short S q p c _ w h hb' (.inr (.inr (.inl rfl)))
    | true :: false :: R, h =>
      cases hw : c.win with
      | false => exact guess_short S q p c _ w h hb' (.inr (.inr (.inr ⟨R, rfl, hw⟩)))
      | true => exact guess_within S q p c R w h hok hb' hw
    | true :: true :: R, h => exact guess_new S q p c R w h hok hb'
end Xr
end Go.Proofs.YtiimdinefkbhlaaDoor
