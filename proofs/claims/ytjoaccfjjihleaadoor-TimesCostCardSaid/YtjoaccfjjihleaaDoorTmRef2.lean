/- The document's own coder of times (layer 8): change. -/
import Derived.Test.YtjoaccfjjihleaaDoorTmRef
import Derived.Deep.Cut
import Derived.Deep.DeepCutAuto
import Derived.Deep.CutBlock
namespace Go.Proofs.YtjoaccfjjihleaaDoor
open Go.RowKit Go.Sort
namespace Tm
open Bit Dsk Ob
set_option linter.unusedVariables false

abbrev R1 (p : Nat) (K : List Bool) : Ob.Rel := fun w S => IsRR w S p K
theorem r1Get {S : Nat → Prop} {w0 w : World} {p : Nat} {K K' : List Bool} {x : Nat} (H : ObjStep (R1 p K) S w0 w) (m : Nat) (hm : m ≤ 64) (hle : m ≤ K.length) (hx : numOf (K.take m) = x) (e : K.drop m = K') :
    Calls Tryd.prog 27 #[.pointer (some ⟨p, 0, none⟩), .int .i64 (m : Int)] w fun e w' => e = .returned (.tuple #[.int .u64 (x : Int), .bool true]) ∧ ObjStep (R1 p K') S w0 w' := by
  subst e; subst hx
  exact callW (Q := fun e => e = .returned (.tuple #[.int .u64 (numOf (K.take m) : Int), .bool true])) H fun A h => refGet_ok A p K m w h hm hle
theorem r1No {S : Nat → Prop} {w0 w : World} {p : Nat} {K : List Bool} (H : ObjStep (R1 p K) S w0 w) (m : Nat) (hle : K.length < m) :
    Calls Tryd.prog 27 #[.pointer (some ⟨p, 0, none⟩), .int .i64 (m : Int)] w fun e w' => e = .returned (.tuple #[.int .u64 0, .bool false]) ∧ ObjStep (R1 p K) S w0 w' := by
  obtain ⟨A, h⟩ := seeW H
  refine (refGet_no A p K m w h (by omega)).mono ?_
  rintro e w' ⟨he, rfl⟩
  exact ⟨he, H⟩
/-- What change leaves. -/
def Cg (p : Nat) (K : List Bool) (S : Nat → Prop) (w : World) (o : Option (Nat × List Bool)) (e : Ending) (w' : World) : Prop :=
  match o with
  | some (k, R) => if sz k ≤ R.length then e = .returned (.tuple #[.int .i64 (num k (R.take (sz k))), .bool true]) ∧ ObjStep (R1 p (R.drop (sz k))) S w w' else (∃ x : Int, e = .returned (.tuple #[.int .i64 x, .bool false])) ∧ ∃ K', ObjStep (R1 p K') S w w'
  | none => (∃ x : Int, e = .returned (.tuple #[.int .i64 x, .bool false])) ∧ ∃ K', ObjStep (R1 p K') S w w'
theorem Cg.off {p : Nat} {K K' : List Bool} {S : Nat → Prop} {w w' : World} {o : Option (Nat × List Bool)} {x : Int} (ho : o = none) (h : ObjStep (R1 p K') S w w') : Cg p K S w o (.returned (.tuple #[.int .i64 x, .bool false])) w' := by
  subst ho; exact ⟨⟨x, rfl⟩, K', h⟩
theorem Cg.short {p k : Nat} {K K' R : List Bool} {S : Nat → Prop} {w w' : World} {o : Option (Nat × List Bool)} {x : Int} (ho : o = some (k, R)) (hs : ¬ sz k ≤ R.length) (h : ObjStep (R1 p K') S w w') : Cg p K S w o (.returned (.tuple #[.int .i64 x, .bool false])) w' := by
  subst ho; unfold Cg; simp only; rw [if_neg hs]; exact ⟨⟨x, rfl⟩, K', h⟩
theorem Cg.yes {p k : Nat} {K R : List Bool} {S : Nat → Prop} {w w' : World} {o : Option (Nat × List Bool)} {x : Int} (ho : o = some (k, R)) (hs : sz k ≤ R.length) (hx : x = num k (R.take (sz k))) (h : ObjStep (R1 p (R.drop (sz k))) S w w') : Cg p K S w o (.returned (.tuple #[.int .i64 x, .bool true])) w' := by
  subst ho; unfold Cg; simp only; rw [if_pos hs, hx]; exact ⟨rfl, h⟩
/-- j bits 1 are read. -/
def Ld (K : List Bool) (j : Nat) (K' : List Bool) : Prop := j ≤ 4 ∧ lead1 4 K = match lead1 (4 - j) K' with | none => none | some (k, R) => some (k + j, R)
theorem Ld.start (K : List Bool) : Ld K 0 K := ⟨by decide, by cases h : lead1 4 K with | none => simp | some y => obtain ⟨k, R⟩ := y; simp⟩
theorem Ld.none {K K' : List Bool} {j : Nat} (h : Ld K j K') (hj : j < 4) (he : K' = []) : lead1 4 K = none := by
  obtain ⟨m, hm⟩ : ∃ m, 4 - j = m + 1 := ⟨3 - j, by omega⟩
  rw [h.2, he, hm]
  rfl
theorem Ld.zero {K R : List Bool} {j : Nat} (h : Ld K j (false :: R)) (hj : j < 4) : lead1 4 K = some (j, R) := by
  obtain ⟨m, hm⟩ : ∃ m, 4 - j = m + 1 := ⟨3 - j, by omega⟩
  rw [h.2, hm]
  simp [lead1]
theorem Ld.one {K R : List Bool} {j : Nat} (h : Ld K j (true :: R)) (hj : j < 4) : Ld K (j + 1) R := by
  refine ⟨by omega, ?_⟩
  obtain ⟨m, hm⟩ : ∃ m, 4 - j = m + 1 := ⟨3 - j, by omega⟩
  have hm2 : 4 - (j + 1) = m := by omega
  rw [h.2, hm, hm2, lead1]
  cases lead1 m R with
  | none => rfl
  | some y => obtain ⟨k, Q⟩ := y; simp; omega
theorem Ld.done {K K' : List Bool} (h : Ld K 4 K') : lead1 4 K = some (4, K') := by rw [h.2]; simp [lead1]
set_option maxRecDepth 100000 in
set_option maxHeartbeats 3200000 in
theorem change_any (S : Nat → Prop) (p : Nat) (K : List Bool) (w : World) (h : R1 p K w S) :
    Calls Tryd.prog 28 #[.pointer (some ⟨p, 0, none⟩)] w (Cg p K S w (lead1 4 K)) := by
  have H := Lib.hid (ObjStep.refl (I := R1 p K) h)
  clear h
  obtain ⟨o, ho⟩ : ∃ o, lead1 4 K = o := ⟨_, rfl⟩
  rw [ho]
  replace ho := Lib.hid ho
  go_enter Tryd.func28, Tryd.ntmps28
  go_upto_block 0 with fail
  go_cut [4] (fun ov wr => ∃ (k : Nat) (R : List Bool), k ≤ 4 ∧ ov = .int .i64 (k : Int) ∧ Hid (o = some (k, R)) ∧ ObjStep (R1 p R) S w wr)
  case first =>
    go_wp2_with fail
    go_loopw [4] (fun ov wr => ∃ (j : Nat) (K' : List Bool), ov = .int .i64 (j : Int) ∧ Hid (Ld K j K') ∧ ObjStep (R1 p K') S w wr) (fun ov _ => 4 - (intOf ov).toNat)
    case atStart => exact ⟨0, K, rfl, Lib.hid (Ld.start K), H.out⟩
    case round =>
      obtain ⟨j, K', rfl, hl, hst⟩ := hrel
      have hj4 := hl.out.1
      by_cases hlt : j < 4
      · match K', hl, hst with
        | [], hl, hst =>
          have hon : Hid (o = none) := Lib.hid (ho.out.symm.trans (hl.out.none hlt rfl))
          have HG := Lib.hid (r1No hst 1 (by simp))
          clear hst H
          go_wp2_with fail
          refine HG.out.mono ?_
          rintro e w2 ⟨rfl, h2⟩
          replace h2 := Lib.hid h2
          clear HG
          go_wp2_with fail
          go_ret2
          exact Cg.off hon.out h2.out
        | false :: R, hl, hst =>
          have hon : Hid (o = some (j, R)) := Lib.hid (ho.out.symm.trans (hl.out.zero hlt))
          have HG := Lib.hid (r1Get (x := 0) (K' := R) hst 1 (by omega) (by simp) (by rfl) (by rfl))
          clear hst H
          go_wp2_with fail
          refine HG.out.mono ?_
          rintro e w2 ⟨rfl, h2⟩
          replace h2 := Lib.hid h2
          clear HG
          go_wp2_with fail
          go_meet
          exact ⟨j, R, hj4, rfl, hon, h2.out⟩
        | true :: R, hl, hst =>
          have HG := Lib.hid (r1Get (x := 1) (K' := R) hst 1 (by omega) (by simp) (by rfl) (by rfl))
          clear hst H
          go_wp2_with fail
          refine HG.out.mono ?_
          rintro e w2 ⟨rfl, h2⟩
          replace h2 := Lib.hid h2
          clear HG
          go_wp2_with fail
          go_roundw
          case rel => exact ⟨j + 1, R, by go_num, Lib.hid (hl.out.one hlt), h2.out⟩
          case measure => simp [intOf]; omega
      · obtain rfl : j = 4 := by omega
        have hon : Hid (o = some (4, K')) := Lib.hid (ho.out.symm.trans hl.out.done)
        clear H
        go_wp2_with fail
        go_meet
        exact ⟨4, K', by decide, rfl, hon, hst⟩
  case rest =>
    obtain ⟨k, R, hk, rfl, hon, hst⟩ := hcut
    clear H ho
    have hst2 := Lib.hid (fun w2 (hu : New0 wc w2) => hst.upon0 (I := R1 p R) (objRR p R) hu)
    have hal : Hid (∀ o1 o2, New0 wc ((wc.alloc o1).alloc o2)) := Lib.hid fun o1 o2 => ((Upon.refl _ wc).alloc o1).alloc o2
    clear hst
    by_cases hs : sz k ≤ R.length
    · obtain ⟨X, hX⟩ : ∃ X, numOf (R.take (sz k)) = X := ⟨_, rfl⟩
      have hXl : X < 18446744073709551616 := by
        have h1 := numOf_lt (R.take (sz k))
        rw [List.length_take, Nat.min_eq_left hs, hX] at h1
        have h2 : 2 ^ sz k ≤ 2 ^ 64 := Nat.pow_le_pow_right (by decide) (by rcases five hk with rfl | rfl | rfl | rfl | rfl <;> decide)
        omega
      have hn : Hid (num k (R.take (sz k)) = wr (wr (X : Int) - ls k)) := Lib.hid (by unfold num; rw [hX])
      have i1 : IntKind.i64.wrap (X : Int) = wr (X : Int) := i64_wr _
      have i2 : IntKind.i64.wrap (wr (X : Int) - ls k) = wr (wr (X : Int) - ls k) := i64_wr _
      have HG := Lib.hid (fun w2 (hu : New0 wc w2) => r1Get (x := X) (K' := R.drop (sz k)) (hst2.out w2 hu) (sz k) (by rcases five hk with rfl | rfl | rfl | rfl | rfl <;> decide) hs hX rfl)
      replace hs := Lib.hid hs
      clear hst2 hX
      have hy := wr_in (X : Int)
      generalize wr (X : Int) = Y at *
      rcases five hk with rfl | rfl | rfl | rfl | rfl
      all_goals
        simp only [ls, Int.sub_zero] at i2
        simp only [sz] at HG
        go_wp2_with fail
        refine (HG.out _ (hal.out _ _)).mono ?_
        rintro e w2 ⟨rfl, h2⟩
        replace h2 := Lib.hid h2
        clear HG hal
        go_wp2_with fail
        go_ret2
        refine Cg.yes hon.out hs.out ?_ h2.out
        rw [hn.out]
        first | rfl | (simp only [ls, Int.sub_zero])
    · have HG := Lib.hid (fun w2 (hu : New0 wc w2) => r1No (hst2.out w2 hu) (sz k) (by omega))
      replace hs := Lib.hid hs
      clear hst2
      rcases five hk with rfl | rfl | rfl | rfl | rfl
      all_goals
        simp only [sz] at HG
        go_wp2_with fail
        refine (HG.out _ (hal.out _ _)).mono ?_
        rintro e w2 ⟨rfl, h2⟩
        replace h2 := Lib.hid h2
        clear HG hal
        go_wp2_with fail
        go_ret2
        exact Cg.short hon.out hs.out h2.out
end Tm
end Go.Proofs.YtjoaccfjjihleaaDoor
