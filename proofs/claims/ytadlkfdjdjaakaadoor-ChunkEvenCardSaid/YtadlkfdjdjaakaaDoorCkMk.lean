/- The program's coder of points: it is made, it puts, it gets; whether a point may stand behind those ahead (layer 9). -/
import Derived.Test.YtadlkfdjdjaakaaDoorCkObj
import Derived.Test.YtadlkfdjdjaakaaDoorCkDec0
set_option maxRecDepth 100000
namespace Go.Proofs.YtadlkfdjdjaakaaDoor
open Go.RowKit Go.Sort
namespace Ck
open Bit Dsk Ob Dig
set_option linter.unusedVariables false

abbrev ptr (q : Nat) : Value := .pointer (some ⟨q, 0, none⟩)
/-- The coder, as a value. -/
abbrev cdv (qt qv : Nat) : Value := .agg #[ptr qt, ptr qv]
abbrev ptv (x : Int) (y : Nat) : Value := .agg #[.int .i64 x, .int .u64 (y : Int)]
theorem thingNew (qt qv : Nat) : Thing (Tens (Tm.IsCd qt Tm.newC) (Xr.IsCd qv Xr.newC)) := Tens.ob (Tm.objCd _ _) (Xr.objCd _ _)
theorem dropBox {B X Y : Ob.Rel} {w0 w : World} (h : Own (Tens (Tens B X) Y) w0 w) : Own (Tens X Y) w0 w := h.mono (fun _ => Tens.assoc) |>.dropl
theorem cell_of_below {w w' : World} (hb : Below w.heap.size w w') {a : Addr} {u : Value} (h : w.cell? a = some u) : w'.cell? a = some u := (hb.cell (World.block_lt_of_cell? w _ h)).trans h
set_option maxHeartbeats 1600000 in
theorem mk_any (w : World) (hT : Tab w) :
    Calls Tryd.prog 15 #[] w fun e w' => ∃ qt qv, e = .returned (cdv qt qv) ∧ Own (Tens (Tm.IsCd qt Tm.newC) (Xr.IsCd qv Xr.newC)) w w' := by
  have hB := Lib.hid (box2Own (Below.refl _ w) (.pointer none) (.pointer none) 42)
  have hT1 := Lib.hid (hT.t.own hB.out.bel)
  clear hT
  go_enter Tryd.func15, Tryd.ntmps15
  go_wp2_with fail
  refine (Tm.new_any _ hT1.out).mono ?_
  intro x w2 hx
  obtain ⟨qt, rfl, h2⟩ := Tm.CMade.beside (thingBox2 _ _ _ _) hB.out hx
  replace h2 := Lib.hid h2
  clear hx hB hT1
  go_wp2_with fail
  refine (Xr.new_any w2).mono ?_
  intro x w3 hx
  obtain ⟨qv, rfl, h3⟩ := Xr.CMade.beside (Tens.ob (thingBox2 _ _ _ _) (Tm.objCd _ _)) h2.out hx
  replace h3 := Lib.hid (h3.assoc.swap)
  clear hx h2
  have hBx := box2Cells h3.out.dropl
  have c0 := hBx.c0
  have c1 := hBx.c1
  have f0 := hBx.f0
  have f1 := hBx.f1
  obtain ⟨s1, s2, s3, s4⟩ := Boxed.set hBx (ptr qt) (ptr qv)
  clear hBx
  have hend := Lib.hid (box2Set (thingNew _ _) h3.out (ptr qt) (ptr qv)).dropr
  clear h3
  go_wp2_with fail
  refine bodyPost_ret (v := cdv qt qv) (by simp [results, Tryd.results15, go_sem, s3, s4]) rfl ⟨_, _, rfl, hend.out⟩

/-! ### may it stand behind -/
def isNx (l : List Pt) (x : Int) : Bool := decide (l.length = 0) || decide (T l (l.length - 1) < x)
set_option maxHeartbeats 1600000 in
theorem next_any (w : World) (S : Nat → Prop) (v : Value) (l : List Pt) (x : Int) (y : Nat) (hv : View w S v l) :
    Calls Tryd.prog 17 #[v, ptv x y] w fun e w' => e = .returned (.bool (isNx l x)) ∧ New0 w w' := by
  have hB := Lib.hid (box2Own (Below.refl _ w) (.int .i64 x) (.int .u64 (y : Int)) 36)
  obtain ⟨A, c, rfl, hc1, hc2, hA⟩ := hv
  have c0 := (box2Cells hB.out).c0
  have c1 := (box2Cells hB.out).c1
  have hN := Lib.hid (fun n => (new0_of_bel hB.out.bel).trans (upon_drewN _ _ n))
  by_cases h0 : l.length = 0
  · have hr : Hid (isNx l x = true) := Lib.hid (by unfold isNx; rw [decide_eq_true h0, Bool.true_or])
    have dg : decide (0 < l.length) = false := decide_eq_false (by omega)
    have d0 : ((l.length : Int) == 0) = true := by rw [h0]; rfl
    clear hA hB
    go_enter Tryd.func17, Tryd.ntmps17
    go_wp2_with fail
    go_quiet (fail)
    go_wp2_with fail
    go_ret
    exact ⟨ret_b hr.out.symm, hN.out _⟩
  · obtain ⟨b, off, rfl, -, hcells⟩ := hA (by omega)
    obtain ⟨z0, -⟩ := hcells (l.length - 1) (by omega)
    obtain ⟨z, hz⟩ : ∃ z, l[l.length - 1].1 = z := ⟨_, rfl⟩
    rw [hz] at z0
    have hr : Hid (isNx l x = decide (z < x)) := Lib.hid (by
      unfold isNx
      rw [decide_eq_false h0, Bool.false_or, T_get (by omega : l.length - 1 < l.length), hz])
    replace z0 := (cell_of_below hB.out.bel z0)
    unfold maxLen at hc2
    have dg : decide (0 < l.length) = true := decide_eq_true (by omega)
    have d0 : ((l.length : Int) == 0) = false := by rw [beq_eq_false_iff_ne]; omega
    have hidx : wrap64 ((l.length : Int) - 1) = ((l.length - 1 : Nat) : Int) := by rw [IntWalk.wrap64_in _ (by omega)]; omega
    have hpos : 1 ≤ l.length := by omega
    clear hcells hB hz h0
    go_enter Tryd.func17, Tryd.ntmps17
    go_wp2_with fail
    go_quiet (fail)
    go_wp2_with fail
    go_ret
    exact ⟨ret_b hr.out.symm, hN.out _⟩

/-! ### a point is put -/
theorem box2Next {I : Ob.Rel} (hI : Thing I) {w0 w : World} {o : Go.Obj} (H : Own I w0 (w.alloc o)) (a b : Value) (T : TypeId) : Own (Tens I (Box2 (w.heap.size + 1) a b T)) w0 ((w.alloc o).alloc (.cells #[a, b] T (0, 0))) := by
  have h := box2Made hI H a b T
  have e : (w.alloc o).heap.size = w.heap.size + 1 := by simp
  rw [e] at h
  exact h
theorem boxed_two {X J B1 B2 : Ob.Rel} {w0 w : World} (h : Own (Tens (Tens (Tens X J) B1) B2) w0 w) : Own (Tens X (Tens (Tens J B1) B2)) w0 w :=
  h.mono fun _ k => Tens.assoc (Tens.mapL (fun _ j => Tens.assoc j) k)
theorem unbox_two {X J B1 B2 : Ob.Rel} {w0 w : World} (h : Own (Tens X (Tens (Tens J B1) B2)) w0 w) : Own (Tens X J) w0 w :=
  (h.mono fun _ k => Tens.mapL (fun _ j => Tens.cossa j) (Tens.cossa k)).dropr.dropr
theorem seeB1 {J B1 B2 X : Ob.Rel} {w0 w : World} (h : Own (Tens X (Tens (Tens J B1) B2)) w0 w) : Own B1 w0 w := h.dropl.dropr.dropl
theorem seeB2 {J B1 B2 X : Ob.Rel} {w0 w : World} (h : Own (Tens X (Tens (Tens J B1) B2)) w0 w) : Own B2 w0 w := h.dropl.dropl
set_option maxHeartbeats 3200000 in
theorem put_any {J : Ob.Rel} (hJ : Thing J) {w0 w : World} {qt qv p : Nat} {c : C2} {L : List Bool} {x : Int} {y : Nat} (hT : Tab w0) (H : Own (PEJ qt qv p c L J) w0 w) (hok : Ok2 c) (hL : L.length ≤ 70000000000000) (hx : Tm.In x) (hy : y < 18446744073709551616) :
    Calls Tryd.prog 18 #[cdv qt qv, ptr p, ptv x y] w fun e w' => e = .returned (.tuple #[]) ∧ Own (PEJ qt qv p (stp c (x, y)) (L ++ ptB c (x, y)) J) w0 w' := by
  have hX := Tens.ob (thingPE qt qv p c L) hJ
  have h1 := box2Made hX H (ptr qt) (ptr qv) 42
  have h2 := Lib.hid (boxed_two (box2Next (Tens.ob hX (thingBox2 _ _ _ _)) h1 (.int .i64 x) (.int .u64 (y : Int)) 36))
  have hJ2 := Lib.hid (Tens.ob (Tens.ob hJ (thingBox2 w.heap.size (ptr qt) (ptr qv) 42)) (thingBox2 (w.heap.size + 1) (.int .i64 x) (.int .u64 (y : Int)) 36))
  replace hT := Lib.hid hT
  have ht := Tm.putB_len (c := c.1) x
  have HP := Lib.hid (pejPutT hJ2.out hT.out h2.out hok.t (by omega) hx rfl rfl)
  have c0 := (box2Cells (seeB1 h2.out)).c0
  have k0 := (box2Cells (seeB2 h2.out)).c0
  replace hok := Lib.hid hok
  have hL2 : Hid ((L ++ Tm.putB c.1 x).length ≤ 80000000000000) := Lib.hid (by rw [List.length_append]; omega)
  replace hy := Lib.hid hy
  clear H h1 hX h2 hL ht hx
  go_enter Tryd.func18, Tryd.ntmps18
  go_wp2_with fail
  refine HP.out.mono ?_
  rintro e w3 ⟨rfl, h3⟩
  have c1 := (box2Cells (seeB1 h3)).c1
  have k1 := (box2Cells (seeB2 h3)).c1
  have HQ := Lib.hid (pejPutV hJ2.out hT.out h3 hok.out.v hok.out.fresh hL2.out hy.out rfl rfl)
  clear HP c0 k0 h3
  go_wp2_with fail
  refine HQ.out.mono ?_
  rintro e w4 ⟨rfl, h4⟩
  replace h4 := Lib.hid (unbox_two h4)
  clear HQ c1 k1
  go_wp2_with fail
  go_end0
  refine ⟨rfl, ?_⟩
  have := h4.out
  rw [List.append_assoc] at this
  exact this

/-! ### a point is got -/
/-- What get leaves. -/
def Gt (J : Ob.Rel) (w0 : World) (qt qv p : Nat) (c : C2) (K : List Bool) (e : Ending) (w' : World) : Prop :=
  match rd1 c K with
  | none => e = .returned (.tuple #[.agg #[.int .i64 0, .int .u64 0], .bool false]) ∧ Own J w0 w'
  | some (q, R) => e = .returned (.tuple #[ptv q.1 q.2, .bool true]) ∧ Own (PGJ qt qv p (stp c q) R J) w0 w'
theorem swapLast {X J B1 B2 : Ob.Rel} {w0 w : World} (h : Own (Tens X (Tens (Tens J B1) B2)) w0 w) : Own (Tens (Tens X (Tens J B1)) B2) w0 w := h.cossa
set_option maxHeartbeats 3200000 in
theorem get_any {J : Ob.Rel} (hJ : Thing J) {w0 w : World} {qt qv p : Nat} {c : C2} {K : List Bool} (hT : Tab w0) (H : Own (PGJ qt qv p c K J) w0 w) (hok : Ok2 c) :
    Calls Tryd.prog 40 #[cdv qt qv, ptr p] w (Gt J w0 qt qv p c K) := by
  have hX := Tens.ob (thingPG qt qv p c K) hJ
  have h1 := box2Made hX H (ptr qt) (ptr qv) 42
  have h2 := Lib.hid (boxed_two (box2Next (Tens.ob hX (thingBox2 _ _ _ _)) h1 (.int .i64 0) (.int .u64 0) 36))
  have hJ1 := Lib.hid (Tens.ob hJ (thingBox2 w.heap.size (ptr qt) (ptr qv) 42))
  have hJ2 := Lib.hid (Tens.ob hJ1.out (thingBox2 (w.heap.size + 1) (.int .i64 0) (.int .u64 0) 36))
  replace hT := Lib.hid hT
  have c0 := (box2Cells (seeB1 h2.out)).c0
  replace hok := Lib.hid hok
  clear H h1 hX
  have shut : Hid (∀ (e : Ending) (w' : World), rd1 c K = none → e = .returned (.tuple #[.agg #[.int .i64 0, .int .u64 0], .bool false]) → Own J w0 w' → Gt J w0 qt qv p c K e w') := Lib.hid (fun e w' h1 h2 h3 => by unfold Gt; rw [h1]; exact ⟨h2, h3⟩)
  have open' : Hid (∀ (e : Ending) (w' : World) (q : Pt) (R : List Bool), rd1 c K = some (q, R) → e = .returned (.tuple #[ptv q.1 q.2, .bool true]) → Own (PGJ qt qv p (stp c q) R J) w0 w' → Gt J w0 qt qv p c K e w') := Lib.hid (fun e w' q R h1 h2 h3 => by unfold Gt; rw [h1]; exact ⟨h2, h3⟩)
  generalize Gt J w0 qt qv p c K = G at *
  cases ht : Tm.getR c.1 K with
  | none =>
    have HP := Lib.hid (pgT_no hJ2.out hT.out h2.out hok.out.t ht)
    have hr := Lib.hid (rd1_t ht)
    clear h2 ht
    go_enter Tryd.func40, Tryd.ntmps40
    go_wp2_with fail
    refine HP.out.mono ?_
    rintro e w3 ⟨rfl, h3⟩
    have hBx := box2Cells h3.dropl
    have k0 := hBx.c0
    have k1 := hBx.c1
    have f0 := hBx.f0
    have f1 := hBx.f1
    obtain ⟨s1, s2, s3, s4⟩ := Boxed.set hBx (.int .i64 0) (.int .u64 0)
    have hend := Lib.hid (box2Set hJ1.out h3 (.int .i64 0) (.int .u64 0)).dropr.dropr
    clear HP c0 hBx h3
    go_wp2_with fail
    refine bodyPost_ret (v := .tuple #[.agg #[.int .i64 0, .int .u64 0], .bool false]) (by simp [results, Tryd.results40, go_sem, s3, s4]) rfl ?_
    exact shut.out _ _ hr.out rfl hend.out
  | some u =>
    obtain ⟨t, a⟩ := u
    have HP := Lib.hid (pgT_yes hJ2.out hT.out h2.out hok.out.t ht)
    clear h2
    cases hx : Xr.getR c.2 (K.drop a) with
    | none =>
      have hr := Lib.hid (rd1_v ht hx)
      replace hx := Lib.hid hx
      clear ht
      go_enter Tryd.func40, Tryd.ntmps40
      go_wp2_with fail
      refine HP.out.mono ?_
      rintro e w3 ⟨rfl, h3⟩
      have c1 := (box2Cells (seeB1 h3)).c1
      have HQ := Lib.hid (pgV_no hJ2.out hT.out h3 hok.out.v hok.out.fresh hx.out)
      clear HP c0 h3
      go_wp2_with fail
      refine HQ.out.mono ?_
      rintro e w4 ⟨rfl, h4⟩
      have hBx := box2Cells h4.dropl
      have k0 := hBx.c0
      have k1 := hBx.c1
      have f0 := hBx.f0
      have f1 := hBx.f1
      obtain ⟨s1, s2, s3, s4⟩ := Boxed.set hBx (.int .i64 0) (.int .u64 0)
      have hend := Lib.hid (box2Set hJ1.out h4 (.int .i64 0) (.int .u64 0)).dropr.dropr
      clear HQ c1 hBx h4
      go_wp2_with fail
      refine bodyPost_ret (v := .tuple #[.agg #[.int .i64 0, .int .u64 0], .bool false]) (by simp [results, Tryd.results40, go_sem, s3, s4]) rfl ?_
      exact shut.out _ _ hr.out rfl hend.out
    | some z =>
      obtain ⟨x, b⟩ := z
      have hr := Lib.hid (rd1_yes ht hx)
      replace hx := Lib.hid hx
      clear ht
      go_enter Tryd.func40, Tryd.ntmps40
      go_wp2_with fail
      refine HP.out.mono ?_
      rintro e w3 ⟨rfl, h3⟩
      have c1 := (box2Cells (seeB1 h3)).c1
      have HQ := Lib.hid (pgV_yes hJ2.out hT.out h3 hok.out.v hok.out.fresh hx.out)
      clear HP c0 h3
      go_wp2_with fail
      refine HQ.out.mono ?_
      rintro e w4 ⟨rfl, h4⟩
      have hBx := box2Cells (seeB2 h4)
      have k0 := hBx.c0
      have k1 := hBx.c1
      have f0 := hBx.f0
      have f1 := hBx.f1
      obtain ⟨s1, s2, s3, s4⟩ := Boxed.set hBx (.int .i64 t) (.int .u64 (x : Int))
      have hend := Lib.hid (box2Set (Tens.ob (thingPG _ _ _ _ _) hJ1.out) (swapLast h4) (.int .i64 t) (.int .u64 (x : Int))).dropr.cossa.dropr
      clear HQ c1 hBx h4
      go_wp2_with fail
      refine bodyPost_ret (v := .tuple #[ptv t x, .bool true]) (by simp [results, Tryd.results40, go_sem, s3, s4]) rfl ?_
      exact open'.out _ _ _ _ hr.out rfl hend.out
end Ck
end Go.Proofs.YtadlkfdjdjaakaaDoor
