/- Parts: PCk2. -/
import Derived.Test.YtgmnhodajngchaaGreatDoorSPCk1
import Derived.Test.YtgmnhodajngchaaGreatDoorSPTm2
import Derived.Test.YtgmnhodajngchaaGreatDoorSPXor2
import Derived.Deep.SlicePairs
import Derived.Stop.LaidErr
set_option maxRecDepth 100000
set_option linter.unusedVariables false
namespace Go.Proofs.YtgmnhodajngchaaGreatDoor
section
section
open Go.RowKit Go.ChangeShapes Go.WideShapes
namespace Ck
open Bit Dsk Ob Dig
structure Tab (w : World) : Prop where
 t : Tm.Tab w
 v : Xr.Tab w
theorem Tab.new {w w' : World} (h : Tab w) (hu : New0 w w') : Tab w' := ⟨h.t.upon hu fun f => f, h.v.upon hu fun f => f⟩
end Ck
end
section
open Go.RowKit Go.Sort
namespace Ck
open Bit Dsk Ob Dig
theorem rcomm {A B C : Ob.Rel} {w : World} {S : Nat -> Prop} (h : Tens (Tens A B) C w S) : Tens (Tens A C) B w S := Tens.cossa (Tens.mapR (fun _ k => Tens.swap k) (Tens.assoc h))
def Box2 (g : Nat) (a b : Value) (T : TypeId) : Ob.Rel := fun w S => w.heap[g]? = some (.cells #[a, b] T (0, 0)) /\ ∀ x, S x ↔ x = g
theorem thingBox2 (g : Nat) (a b : Value) (T : TypeId) : Thing (Box2 g a b T) := ⟨fun w w' S h hk _ => ⟨(hk g ((h.2 g).2 rfl)).trans h.1, h.2⟩, fun w S h x hx => by rw [(h.2 x).1 hx]; exact (Array.getElem?_eq_some_iff.1 h.1).1⟩
theorem box2Own {w0 w : World} (hb : Below w0.heap.size w0 w) (a b : Value) (T : TypeId) : Own (Box2 w.heap.size a b T) w0 (w.alloc (.cells #[a, b] T (0, 0))) :=
 Own.made (S := fun x => x = w.heap.size) hb ⟨cell_new w _, fun _ => Iff.rfl⟩ (fun x hx => by rw [hx]; exact Nat.le_refl _) ((Upon.refl _ w).alloc _)
theorem box2Made {I : Ob.Rel} (hI : Thing I) {w0 w : World} (H : Own I w0 w) (a b : Value) (T : TypeId) : Own (Tens I (Box2 w.heap.size a b T)) w0 (w.alloc (.cells #[a, b] T (0, 0))) :=
 Own.new hI H (T := fun x => x = w.heap.size) ⟨cell_new w _, fun _ => Iff.rfl⟩ (fun x hx => by rw [hx]; exact Nat.le_refl _) ((Upon.refl _ w).alloc _)
theorem box2Cells {g : Nat} {a b : Value} {T : TypeId} {w0 w : World} (H : Own (Box2 g a b T) w0 w) : Boxed g a b w := by
 obtain ⟨⟨S, h, _⟩, _⟩ := H
 exact Boxed.of h.1
theorem box2Set {I : Ob.Rel} (hI : Thing I) {g : Nat} {a b : Value} {T : TypeId} {w0 w : World} (H : Own (Tens I (Box2 g a b T)) w0 w) (x y : Value) : Own (Tens I (Box2 g x y T)) w0 ((w.setCell ⟨g, 0, none⟩ x).setCell ⟨g, 1, none⟩ y) := by
 obtain ⟨A, h, go⟩ := H.right hI
 have hA : A g := (h.2 g).2 rfl
 have hu : Upon A w ((w.setCell ⟨g, 0, none⟩ x).setCell ⟨g, 1, none⟩ y) := Upon.setCell (S := A) (p := ⟨g, 1, none⟩) (Upon.setCell (S := A) (p := ⟨g, 0, none⟩) (Upon.refl _ w) (.inl hA) x) (.inl hA) y
 refine go _ _ ⟨⟨A, ⟨?_, h.2⟩, fun _ h => h, fun _ h => .inl h⟩, hu⟩
 simp [World.setCell, Array.getElem?_modify, h.1]
def RowO (v : Value) (l : List Pt) : Ob.Rel := fun w S => OwnPts w v l /\ (∀ x, v.ownBlock = some x -> S x) /\ ∀ x, S x -> x < w.heap.size
theorem thingRowO (v : Value) (l : List Pt) : Thing (RowO v l) :=
 ⟨fun w w' S h hk hs => ⟨h.1.kept fun b hb => hk b (h.2.1 b hb), h.2.1, fun x hx => Nat.lt_of_lt_of_le (h.2.2 x hx) hs⟩, fun w S h x hx => h.2.2 x hx⟩
theorem RowO.append {w w' : World} {S : Nat -> Prop} {v v' : Value} {l m : List Pt} (h : RowO v l w S) (hown : OwnPts w' v' m) (hg : w.grownBy w' v.ownBlock) (hb : v'.ownBlock = v.ownBlock \/ v'.ownBlock = some w.heap.size) : ObjStep (RowO v' m) S w w' := by
 refine ⟨⟨fun x => S x \/ v'.ownBlock = some x, ⟨hown, fun x hx => .inr hx, fun x hx => ?_⟩, fun b hb => .inl hb, fun b hb2 => ?_⟩, Upon.grown (Upon.refl _ w) hg fun k hk => .inl (h.2.1 k hk)⟩
 ·rcases hx with hx | hx
  ·exact Nat.lt_of_lt_of_le (h.2.2 x hx) hg.size
  ·exact hown.lt hx
 ·rcases hb2 with hb2 | hb2
  ·exact .inl hb2
  ·rcases hb with hb | hb
   ·exact .inl (h.2.1 b (by rw [<- hb]; exact hb2))
   ·rw [hb2] at hb
    have : b = w.heap.size := by simpa using hb
    right; omega
abbrev PG (qt qv p : Nat) (c : C2) (K : List Bool) : Ob.Rel := Tens (Xr.IsCd qv c.2) (Tm.PR qt c.1 p K)
abbrev PGJ (qt qv p : Nat) (c : C2) (K : List Bool) (J : Ob.Rel) : Ob.Rel := Tens (PG qt qv p c K) J
theorem thingPG (qt qv p : Nat) (c : C2) (K : List Bool) : Thing (PG qt qv p c K) := Tens.ob (Xr.objCd _ _) (Tm.thingPR _ _ _ _)
theorem pgT_yes {J : Ob.Rel} (hJ : Thing J) {w0 w : World} {qt qv p n : Nat} {c : C2} {K : List Bool} {t : Int} (hT : Tab w0) (H : Own (PGJ qt qv p c K J) w0 w) (hok : c.1.Ok) (hg : Tm.getR c.1 K = some (t, n)) :
  Calls Tryz.prog 227 #[.pointer (some ⟨qt, 0, none⟩), .pointer (some ⟨p, 0, none⟩)] w fun e w' => e = .returned (.tuple #[.int .i64 t, .bool true]) /\ Own (PGJ qt qv p (Tm.putC c.1 t, c.2) (K.drop n) J) w0 w' := by
 refine (ownR (I := Tens (Xr.IsCd qv c.2) J) (J := Tm.PR qt c.1 p K) (J' := Tm.PR qt (Tm.putC c.1 t) p (K.drop n)) (Q := fun e => e = .returned (.tuple #[.int .i64 t, .bool true])) (Tens.ob (Xr.objCd _ _) hJ) (H.mono fun _ h => rcomm h) fun A hA h => ?_).mono fun e w' ⟨he, h⟩ => ⟨he, h.mono fun _ h => rcomm h⟩
 have := Tm.cdGet_any A qt p c.1 K w h hok (hT.t.beside H.bel hA)
 rw [hg] at this
 exact this
theorem pgT_no {J : Ob.Rel} (hJ : Thing J) {w0 w : World} {qt qv p : Nat} {c : C2} {K : List Bool} (hT : Tab w0) (H : Own (PGJ qt qv p c K J) w0 w) (hok : c.1.Ok) (hg : Tm.getR c.1 K = none) :
  Calls Tryz.prog 227 #[.pointer (some ⟨qt, 0, none⟩), .pointer (some ⟨p, 0, none⟩)] w fun e w' => e = .returned (.tuple #[.int .i64 0, .bool false]) /\ Own J w0 w' := by
 refine (ownR (I := Tens (Xr.IsCd qv c.2) J) (J := Tm.PR qt c.1 p K) (J' := Tm.PX qt p) (Q := fun e => e = .returned (.tuple #[.int .i64 0, .bool false])) (Tens.ob (Xr.objCd _ _) hJ) (H.mono fun _ h => rcomm h) fun A hA h => ?_).mono fun e w' ⟨he, h⟩ => ⟨he, h.dropr.dropl⟩
 have := Tm.cdGet_any A qt p c.1 K w h hok (hT.t.beside H.bel hA)
 rw [hg] at this
 exact this
theorem pg_v {J : Ob.Rel} {qt qv p : Nat} {c : C2} {K : List Bool} {w : World} {S : Nat -> Prop} (h : PGJ qt qv p c K J w S) : Tens (Tens (Tm.IsCd qt c.1) J) (Xr.PR qv c.2 p K) w S := rcomm (Tens.mapL (fun _ k => lcomm k) h)
theorem pg_b {J : Ob.Rel} {qt qv p : Nat} {c : C2} {K : List Bool} {w : World} {S : Nat -> Prop} (h : Tens (Tens (Tm.IsCd qt c.1) J) (Xr.PR qv c.2 p K) w S) : PGJ qt qv p c K J w S := Tens.mapL (fun _ k => lcomm k) (rcomm h)
theorem pgV_yes {J : Ob.Rel} (hJ : Thing J) {w0 w : World} {qt qv p n : Nat} {c : C2} {K : List Bool} {x : Nat} (hT : Tab w0) (H : Own (PGJ qt qv p c K J) w0 w) (hok : c.2.Ok) (hf : c.2.begun = false -> c.2.v = 0) (hg : Xr.getR c.2 K = some (x, n)) :
  Calls Tryz.prog 228 #[.pointer (some ⟨qv, 0, none⟩), .pointer (some ⟨p, 0, none⟩)] w fun e w' => e = .returned (.tuple #[.int .u64 (x : Int), .bool true]) /\ Own (PGJ qt qv p (c.1, Xr.putC c.2 x) (K.drop n) J) w0 w' := by
 refine (ownR (I := Tens (Tm.IsCd qt c.1) J) (J := Xr.PR qv c.2 p K) (J' := Xr.PR qv (Xr.putC c.2 x) p (K.drop n)) (Q := fun e => e = .returned (.tuple #[.int .u64 (x : Int), .bool true])) (Tens.ob (Tm.objCd _ _) hJ) (H.mono fun _ h => pg_v h) fun A hA h => ?_).mono fun e w' ⟨he, h⟩ => ⟨he, h.mono fun _ h => pg_b (c := (c.1, Xr.putC c.2 x)) h⟩
 have := Xr.cdGet_any A qv p c.2 K w h hok hf (hT.v.own H.bel) (Xr.notG hT.v hA)
 rw [hg] at this
 exact this
theorem pgV_no {J : Ob.Rel} (hJ : Thing J) {w0 w : World} {qt qv p : Nat} {c : C2} {K : List Bool} (hT : Tab w0) (H : Own (PGJ qt qv p c K J) w0 w) (hok : c.2.Ok) (hf : c.2.begun = false -> c.2.v = 0) (hg : Xr.getR c.2 K = none) :
  Calls Tryz.prog 228 #[.pointer (some ⟨qv, 0, none⟩), .pointer (some ⟨p, 0, none⟩)] w fun e w' => e = .returned (.tuple #[.int .u64 0, .bool false]) /\ Own J w0 w' := by
 refine (ownR (I := Tens (Tm.IsCd qt c.1) J) (J := Xr.PR qv c.2 p K) (J' := Xr.PX qv c.2 p) (Q := fun e => e = .returned (.tuple #[.int .u64 0, .bool false])) (Tens.ob (Tm.objCd _ _) hJ) (H.mono fun _ h => pg_v h) fun A hA h => ?_).mono fun e w' ⟨he, h⟩ => ⟨he, h.dropr.dropl⟩
 have := Xr.cdGet_any A qv p c.2 K w h hok hf (hT.v.own H.bel) (Xr.notG hT.v hA)
 rw [hg] at this
 exact this
theorem pgLeft {J : Ob.Rel} {w0 w : World} {qt qv p : Nat} {c : C2} {K : List Bool} (H : Own (PGJ qt qv p c K J) w0 w) :
  Calls Tryz.prog 212 #[.pointer (some ⟨p, 0, none⟩)] w fun e w' => e = .returned (.int .i64 (K.length : Int)) /\ ∃ n, w' = w.drewN n := by
 obtain ⟨A, h⟩ := H.seeL
 obtain ⟨_, B, _, h2, _⟩ := h
 obtain ⟨_, D, _, h3, _⟩ := h2
 exact rkLeft D p K w h3
theorem rowSee {v : Value} {l : List Pt} {w0 w : World} (H : Own (RowO v l) w0 w) : OwnPts w v l := by
 obtain ⟨⟨S, h, _⟩, _⟩ := H
 exact h.1
theorem ends_in {s : ByteArray} {m : Nat} (h : m <= 8 * s.size) : ends s (m : Int) = m := by unfold ends; omega
end Ck
end
section
open Go.RowKit Go.Sort
namespace Ck
open Bit Dsk Ob Dig
abbrev ptr (q : Nat) : Value := .pointer (some ⟨q, 0, none⟩)
abbrev cdv (qt qv : Nat) : Value := .agg #[ptr qt, ptr qv]
abbrev ptv (x : Int) (y : Nat) : Value := .agg #[.int .i64 x, .int .u64 (y : Int)]
theorem thingNew (qt qv : Nat) : Thing (Tens (Tm.IsCd qt Tm.newC) (Xr.IsCd qv Xr.newC)) := Tens.ob (Tm.objCd _ _) (Xr.objCd _ _)
theorem cell_of_below {w w' : World} (hb : Below w.heap.size w w') {a : Addr} {u : Value} (h : w.cell? a = some u) : w'.cell? a = some u := (hb.cell (World.block_lt_of_cell? w _ h)).trans h
set_option maxHeartbeats 1600000 in
theorem mk_any (w : World) (hT : Tab w) :
  Calls Tryz.prog 164 #[] w fun e w' => ∃ qt qv, e = .returned (cdv qt qv) /\ Own (Tens (Tm.IsCd qt Tm.newC) (Xr.IsCd qv Xr.newC)) w w' := by
 have hB := Lib.hid (box2Own (Below.refl _ w) (.pointer none) (.pointer none) 251)
 have hT1 := Lib.hid (hT.t.own hB.out.bel)
 clear hT
 go_enter Tryz.func164, Tryz.ntmps164
 go_wp2_with fail
 refine (Tm.new_any _ hT1.out).mono ?_
 intro x w2 hx
 obtain ⟨qt, rfl, h2⟩ := Tm.CMade.beside (thingBox2 _ _ _ _) hB.out hx
 replace h2 := Lib.hid h2
 clear hx hB hT1
 go_wp2_with fail
 refine (Xr.new_any w2).mono ?_
 intro x w3 hx
 obtain ⟨qv, rfl, h3⟩ := Xr.CMade.beside (Tens.ob (thingBox2 _ _ _ _) (Tm.objCd _ _)) h2.out hx
 replace h3 := Lib.hid (h3.assoc.swap)
 clear hx h2
 have hBx := box2Cells h3.out.dropl
 have c0 := hBx.c0
 have c1 := hBx.c1
 have f0 := hBx.f0
 have f1 := hBx.f1
 obtain ⟨s1, s2, s3, s4⟩ := Boxed.set hBx (ptr qt) (ptr qv)
 clear hBx
 have hend := Lib.hid (box2Set (thingNew _ _) h3.out (ptr qt) (ptr qv)).dropr
 clear h3
 go_wp2_with fail
 refine bodyPost_ret (v := cdv qt qv) (by simp [results, Tryz.results164, go_sem, s3, s4]) rfl ⟨_, _, rfl, hend.out⟩
def isNx (l : List Pt) (x : Int) : Bool := decide (l.length = 0) || decide (T l (l.length - 1) < x)
set_option maxHeartbeats 1600000 in
theorem next_any (w : World) (S : Nat -> Prop) (v : Value) (l : List Pt) (x : Int) (y : Nat) (hv : View w S v l) :
  Calls Tryz.prog 166 #[v, ptv x y] w fun e w' => e = .returned (.bool (isNx l x)) /\ New0 w w' := by
 have hB := Lib.hid (box2Own (Below.refl _ w) (.int .i64 x) (.int .u64 (y : Int)) 153)
 obtain ⟨A, c, rfl, hc1, hc2, hA⟩ := hv
 have c0 := (box2Cells hB.out).c0
 have c1 := (box2Cells hB.out).c1
 have hN := Lib.hid (fun n => (new0_of_bel hB.out.bel).trans (upon_drewN _ _ n))
 by_cases h0 : l.length = 0
 ·have hr : Hid (isNx l x = true) := Lib.hid (by unfold isNx; rw [decide_eq_true h0, Bool.true_or])
  have dg : decide (0 < l.length) = false := decide_eq_false (by omega)
  have d0 : ((l.length : Int) == 0) = true := by rw [h0]; rfl
  clear hA hB
  go_enter Tryz.func166, Tryz.ntmps166
  go_wp2_with fail
  go_quiet (fail)
  go_wp2_with fail
  go_ret
  exact ⟨ret_b hr.out.symm, hN.out _⟩
 ·obtain ⟨b, off, rfl, -, hcells⟩ := hA (by omega)
  obtain ⟨z0, -⟩ := hcells (l.length - 1) (by omega)
  obtain ⟨z, hz⟩ : ∃ z, l[l.length - 1].1 = z := ⟨_, rfl⟩
  rw [hz] at z0
  have hr : Hid (isNx l x = decide (z < x)) := Lib.hid (by
   unfold isNx
   rw [decide_eq_false h0, Bool.false_or, T_get (by omega : l.length - 1 < l.length), hz])
  replace z0 := (cell_of_below hB.out.bel z0)
  unfold maxLen at hc2
  have dg : decide (0 < l.length) = true := decide_eq_true (by omega)
  have d0 : ((l.length : Int) == 0) = false := by rw [beq_eq_false_iff_ne]; omega
  have hidx : wrap64 ((l.length : Int) - 1) = ((l.length - 1 : Nat) : Int) := by rw [IntWalk.wrap64_in _ (by omega)]; omega
  have hpos : 1 <= l.length := by omega
  clear hcells hB hz h0
  go_enter Tryz.func166, Tryz.ntmps166
  go_wp2_with fail
  go_quiet (fail)
  go_wp2_with fail
  go_ret
  exact ⟨ret_b hr.out.symm, hN.out _⟩
theorem box2Next {I : Ob.Rel} (hI : Thing I) {w0 w : World} {o : Go.Obj} (H : Own I w0 (w.alloc o)) (a b : Value) (T : TypeId) : Own (Tens I (Box2 (w.heap.size + 1) a b T)) w0 ((w.alloc o).alloc (.cells #[a, b] T (0, 0))) := by
 have h := box2Made hI H a b T
 have e : (w.alloc o).heap.size = w.heap.size + 1 := by simp
 rw [e] at h
 exact h
theorem boxed_two {X J B1 B2 : Ob.Rel} {w0 w : World} (h : Own (Tens (Tens (Tens X J) B1) B2) w0 w) : Own (Tens X (Tens (Tens J B1) B2)) w0 w :=
 h.mono fun _ k => Tens.assoc (Tens.mapL (fun _ j => Tens.assoc j) k)
theorem seeB1 {J B1 B2 X : Ob.Rel} {w0 w : World} (h : Own (Tens X (Tens (Tens J B1) B2)) w0 w) : Own B1 w0 w := h.dropl.dropr.dropl
theorem seeB2 {J B1 B2 X : Ob.Rel} {w0 w : World} (h : Own (Tens X (Tens (Tens J B1) B2)) w0 w) : Own B2 w0 w := h.dropl.dropl
def Gt (J : Ob.Rel) (w0 : World) (qt qv p : Nat) (c : C2) (K : List Bool) (e : Ending) (w' : World) : Prop :=
 match rd1 c K with
 | none => e = .returned (.tuple #[.agg #[.int .i64 0, .int .u64 0], .bool false]) /\ Own J w0 w'
 | some (q, R) => e = .returned (.tuple #[ptv q.1 q.2, .bool true]) /\ Own (PGJ qt qv p (stp c q) R J) w0 w'
theorem swapLast {X J B1 B2 : Ob.Rel} {w0 w : World} (h : Own (Tens X (Tens (Tens J B1) B2)) w0 w) : Own (Tens (Tens X (Tens J B1)) B2) w0 w := h.cossa
set_option maxHeartbeats 3200000 in
theorem get_any {J : Ob.Rel} (hJ : Thing J) {w0 w : World} {qt qv p : Nat} {c : C2} {K : List Bool} (hT : Tab w0) (H : Own (PGJ qt qv p c K J) w0 w) (hok : Ok2 c) :
  Calls Tryz.prog 211 #[cdv qt qv, ptr p] w (Gt J w0 qt qv p c K) := by
 have hX := Tens.ob (thingPG qt qv p c K) hJ
 have h1 := box2Made hX H (ptr qt) (ptr qv) 251
 have h2 := Lib.hid (boxed_two (box2Next (Tens.ob hX (thingBox2 _ _ _ _)) h1 (.int .i64 0) (.int .u64 0) 153))
 have hJ1 := Lib.hid (Tens.ob hJ (thingBox2 w.heap.size (ptr qt) (ptr qv) 251))
 have hJ2 := Lib.hid (Tens.ob hJ1.out (thingBox2 (w.heap.size + 1) (.int .i64 0) (.int .u64 0) 153))
 replace hT := Lib.hid hT
 have c0 := (box2Cells (seeB1 h2.out)).c0
 replace hok := Lib.hid hok
 clear H h1 hX
 have shut : Hid (∀ (e : Ending) (w' : World), rd1 c K = none -> e = .returned (.tuple #[.agg #[.int .i64 0, .int .u64 0], .bool false]) -> Own J w0 w' -> Gt J w0 qt qv p c K e w') := Lib.hid (fun e w' h1 h2 h3 => by unfold Gt; rw [h1]; exact ⟨h2, h3⟩)
 have open' : Hid (∀ (e : Ending) (w' : World) (q : Pt) (R : List Bool), rd1 c K = some (q, R) -> e = .returned (.tuple #[ptv q.1 q.2, .bool true]) -> Own (PGJ qt qv p (stp c q) R J) w0 w' -> Gt J w0 qt qv p c K e w') := Lib.hid (fun e w' q R h1 h2 h3 => by unfold Gt; rw [h1]; exact ⟨h2, h3⟩)
 generalize Gt J w0 qt qv p c K = G at *
 cases ht : Tm.getR c.1 K with
 | none =>
  have HP := Lib.hid (pgT_no hJ2.out hT.out h2.out hok.out.t ht)
  have hr := Lib.hid (rd1_t ht)
  clear h2 ht
  go_enter Tryz.func211, Tryz.ntmps211
  go_wp2_with fail
  refine HP.out.mono ?_
  rintro e w3 ⟨rfl, h3⟩
  have hBx := box2Cells h3.dropl
  have k0 := hBx.c0
  have k1 := hBx.c1
  have f0 := hBx.f0
  have f1 := hBx.f1
  obtain ⟨s1, s2, s3, s4⟩ := Boxed.set hBx (.int .i64 0) (.int .u64 0)
  have hend := Lib.hid (box2Set hJ1.out h3 (.int .i64 0) (.int .u64 0)).dropr.dropr
  clear HP c0 hBx h3
  go_wp2_with fail
  refine bodyPost_ret (v := .tuple #[.agg #[.int .i64 0, .int .u64 0], .bool false]) (by simp [results, Tryz.results211, go_sem, s3, s4]) rfl ?_
  exact shut.out _ _ hr.out rfl hend.out
 | some u =>
  obtain ⟨t, a⟩ := u
  have HP := Lib.hid (pgT_yes hJ2.out hT.out h2.out hok.out.t ht)
  clear h2
  cases hx : Xr.getR c.2 (K.drop a) with
  | none =>
   have hr := Lib.hid (rd1_v ht hx)
   replace hx := Lib.hid hx
   clear ht
   go_enter Tryz.func211, Tryz.ntmps211
   go_wp2_with fail
   refine HP.out.mono ?_
   rintro e w3 ⟨rfl, h3⟩
   have c1 := (box2Cells (seeB1 h3)).c1
   have HQ := Lib.hid (pgV_no hJ2.out hT.out h3 hok.out.v hok.out.fresh hx.out)
   clear HP c0 h3
   go_wp2_with fail
   refine HQ.out.mono ?_
   rintro e w4 ⟨rfl, h4⟩
   have hBx := box2Cells h4.dropl
   have k0 := hBx.c0
   have k1 := hBx.c1
   have f0 := hBx.f0
   have f1 := hBx.f1
   obtain ⟨s1, s2, s3, s4⟩ := Boxed.set hBx (.int .i64 0) (.int .u64 0)
   have hend := Lib.hid (box2Set hJ1.out h4 (.int .i64 0) (.int .u64 0)).dropr.dropr
   clear HQ c1 hBx h4
   go_wp2_with fail
   refine bodyPost_ret (v := .tuple #[.agg #[.int .i64 0, .int .u64 0], .bool false]) (by simp [results, Tryz.results211, go_sem, s3, s4]) rfl ?_
   exact shut.out _ _ hr.out rfl hend.out
  | some z =>
   obtain ⟨x, b⟩ := z
   have hr := Lib.hid (rd1_yes ht hx)
   replace hx := Lib.hid hx
   clear ht
   go_enter Tryz.func211, Tryz.ntmps211
   go_wp2_with fail
   refine HP.out.mono ?_
   rintro e w3 ⟨rfl, h3⟩
   have c1 := (box2Cells (seeB1 h3)).c1
   have HQ := Lib.hid (pgV_yes hJ2.out hT.out h3 hok.out.v hok.out.fresh hx.out)
   clear HP c0 h3
   go_wp2_with fail
   refine HQ.out.mono ?_
   rintro e w4 ⟨rfl, h4⟩
   have hBx := box2Cells (seeB2 h4)
   have k0 := hBx.c0
   have k1 := hBx.c1
   have f0 := hBx.f0
   have f1 := hBx.f1
   obtain ⟨s1, s2, s3, s4⟩ := Boxed.set hBx (.int .i64 t) (.int .u64 (x : Int))
   have hend := Lib.hid (box2Set (Tens.ob (thingPG _ _ _ _ _) hJ1.out) (swapLast h4) (.int .i64 t) (.int .u64 (x : Int))).dropr.cossa.dropr
   clear HQ c1 hBx h4
   go_wp2_with fail
   refine bodyPost_ret (v := .tuple #[ptv t x, .bool true]) (by simp [results, Tryz.results211, go_sem, s3, s4]) rfl ?_
   exact open'.out _ _ _ _ hr.out rfl hend.out
end Ck
end
section
open Go.RowKit Go.Sort
namespace Ck
open Bit Dsk Ob Dig
end Ck
end
section
open Go.RowKit Go.Sort
namespace Ck
open Bit Dsk Ob Dig
end Ck
end
end
end Go.Proofs.YtgmnhodajngchaaGreatDoor
