/- Parts, put together: CkTab, CkObj, CkMk, CkEnc, CkSpl. -/
import Derived.Test.YtlgjbcmloochiaaGreatDoorZaPCk1
import Derived.Test.YtlgjbcmloochiaaGreatDoorZaPTm2
import Derived.Test.YtlgjbcmloochiaaGreatDoorZaPXor2
import Derived.Deep.SlicePairs
import Derived.Stop.LaidErr

/- What the two laid tables give the walks of layer 9; a row of points among the arguments. -/
section
set_option maxRecDepth 100000
namespace Go.Proofs.YtlgjbcmloochiaaGreatDoor
open Go.RowKit Go.ChangeShapes Go.WideShapes
namespace Ck
open Bit Dsk Ob Dig
set_option linter.unusedVariables false

/-- Both tables. -/
structure Tab (w : World) : Prop where
  t : Tm.Tab w
  v : Xr.Tab w
theorem Tab.new {w w' : World} (h : Tab w) (hu : New0 w w') : Tab w' := ⟨h.t.upon hu fun f => f, h.v.upon hu fun f => f⟩
/-! ### from the card's condition -/
end Ck
end Go.Proofs.YtlgjbcmloochiaaGreatDoor
end

/- The program's two coders with a writer, with a reader, and a row of points beside them (layer 9). -/
section
set_option maxRecDepth 100000
namespace Go.Proofs.YtlgjbcmloochiaaGreatDoor
open Go.RowKit Go.Sort
namespace Ck
open Bit Dsk Ob Dig
set_option linter.unusedVariables false

/-! ### writing -/
abbrev PE (qt qv p : Nat) (c : C2) (L : List Bool) : Ob.Rel := Tens (Xr.IsCd qv c.2) (Tm.PW qt c.1 p L)
theorem thingPE (qt qv p : Nat) (c : C2) (L : List Bool) : Thing (PE qt qv p c L) := Tens.ob (Xr.objCd _ _) (Tm.thingPW _ _ _ _)

/-! ### .. with another object beside -/
abbrev PEJ (qt qv p : Nat) (c : C2) (L : List Bool) (J : Ob.Rel) : Ob.Rel := Tens (PE qt qv p c L) J
theorem rcomm {A B C : Ob.Rel} {w : World} {S : Nat → Prop} (h : Tens (Tens A B) C w S) : Tens (Tens A C) B w S := Tens.cossa (Tens.mapR (fun _ k => Tens.swap k) (Tens.assoc h))
theorem pejPutT {J : Ob.Rel} (hJ : Thing J) {w0 w : World} {qt qv p : Nat} {c c' : C2} {L L' : List Bool} {t : Int} (hT : Tab w0) (H : Own (PEJ qt qv p c L J) w0 w) (hok : c.1.Ok) (hL : L.length ≤ 80000000000000) (ht : Tm.In t) (e : (Tm.putC c.1 t, c.2) = c') (e2 : L ++ Tm.putB c.1 t = L') :
    Calls Tryz.prog 189 #[.pointer (some ⟨qt, 0, none⟩), .pointer (some ⟨p, 0, none⟩), .int .i64 t] w fun e w' => e = .returned (.tuple #[]) ∧ Own (PEJ qt qv p c' L' J) w0 w' := by
  subst e; subst e2
  refine (ownR (I := Tens (Xr.IsCd qv c.2) J) (J := Tm.PW qt c.1 p L) (J' := Tm.PW qt (Tm.putC c.1 t) p (L ++ Tm.putB c.1 t)) (Q := fun e => e = .returned (.tuple #[])) (Tens.ob (Xr.objCd _ _) hJ) (H.mono fun _ h => rcomm h) fun A hA h => Tm.cdPut_any A qt p c.1 L t w h hok hL ht (hT.t.beside H.bel hA)).mono fun e w' ⟨he, h⟩ => ⟨he, h.mono fun _ h => rcomm h⟩
theorem pejPutV {J : Ob.Rel} (hJ : Thing J) {w0 w : World} {qt qv p : Nat} {c c' : C2} {L L' : List Bool} {v : Nat} (hT : Tab w0) (H : Own (PEJ qt qv p c L J) w0 w) (hok : c.2.Ok) (hf : c.2.begun = false → c.2.v = 0) (hL : L.length ≤ 80000000000000) (hv : v < 18446744073709551616) (e : (c.1, Xr.putC c.2 v) = c') (e2 : L ++ Xr.putB c.2 v = L') :
    Calls Tryz.prog 190 #[.pointer (some ⟨qv, 0, none⟩), .pointer (some ⟨p, 0, none⟩), .int .u64 (v : Int)] w fun e w' => e = .returned (.tuple #[]) ∧ Own (PEJ qt qv p c' L' J) w0 w' := by
  subst e; subst e2
  refine (ownR (I := Tens (Tm.IsCd qt c.1) J) (J := Xr.PW qv c.2 p L) (J' := Xr.PW qv (Xr.putC c.2 v) p (L ++ Xr.putB c.2 v)) (Q := fun e => e = .returned (.tuple #[])) (Tens.ob (Tm.objCd _ _) hJ) (H.mono fun _ h => rcomm (Tens.mapL (fun _ k => lcomm k) h)) fun A hA h => Xr.cdPut_any A qv p c.2 L v w h hok hf hL hv (hT.v.own H.bel) (Xr.notG hT.v hA)).mono ?_
  rintro e w' ⟨he, h⟩
  exact ⟨he, h.mono fun _ h => Tens.mapL (fun _ k => lcomm k) (rcomm h)⟩
/-- A local struct of two cells in a box. -/
def Box2 (g : Nat) (a b : Value) (T : TypeId) : Ob.Rel := fun w S => w.heap[g]? = some (.cells #[a, b] T (0, 0)) ∧ ∀ x, S x ↔ x = g
theorem thingBox2 (g : Nat) (a b : Value) (T : TypeId) : Thing (Box2 g a b T) := ⟨fun w w' S h hk _ => ⟨(hk g ((h.2 g).2 rfl)).trans h.1, h.2⟩, fun w S h x hx => by rw [(h.2 x).1 hx]; exact (Array.getElem?_eq_some_iff.1 h.1).1⟩
theorem box2Own {w0 w : World} (hb : Below w0.heap.size w0 w) (a b : Value) (T : TypeId) : Own (Box2 w.heap.size a b T) w0 (w.alloc (.cells #[a, b] T (0, 0))) :=
  Own.made (S := fun x => x = w.heap.size) hb ⟨cell_new w _, fun _ => Iff.rfl⟩ (fun x hx => by rw [hx]; exact Nat.le_refl _) ((Upon.refl _ w).alloc _)
theorem box2Made {I : Ob.Rel} (hI : Thing I) {w0 w : World} (H : Own I w0 w) (a b : Value) (T : TypeId) : Own (Tens I (Box2 w.heap.size a b T)) w0 (w.alloc (.cells #[a, b] T (0, 0))) :=
  Own.new hI H (T := fun x => x = w.heap.size) ⟨cell_new w _, fun _ => Iff.rfl⟩ (fun x hx => by rw [hx]; exact Nat.le_refl _) ((Upon.refl _ w).alloc _)
theorem box2Cells {g : Nat} {a b : Value} {T : TypeId} {w0 w : World} (H : Own (Box2 g a b T) w0 w) : Boxed g a b w := by
  obtain ⟨⟨S, h, _⟩, _⟩ := H
  exact Boxed.of h.1
theorem box2Set {I : Ob.Rel} (hI : Thing I) {g : Nat} {a b : Value} {T : TypeId} {w0 w : World} (H : Own (Tens I (Box2 g a b T)) w0 w) (x y : Value) : Own (Tens I (Box2 g x y T)) w0 ((w.setCell ⟨g, 0, none⟩ x).setCell ⟨g, 1, none⟩ y) := by
  obtain ⟨A, h, go⟩ := H.right hI
  have hA : A g := (h.2 g).2 rfl
  have hu : Upon A w ((w.setCell ⟨g, 0, none⟩ x).setCell ⟨g, 1, none⟩ y) := Upon.setCell (S := A) (p := ⟨g, 1, none⟩) (Upon.setCell (S := A) (p := ⟨g, 0, none⟩) (Upon.refl _ w) (.inl hA) x) (.inl hA) y
  refine go _ _ ⟨⟨A, ⟨?_, h.2⟩, fun _ h => h, fun _ h => .inl h⟩, hu⟩
  simp [World.setCell, Array.getElem?_modify, h.1]

/-! ### a row of the call's own, as an object -/
def RowO (v : Value) (l : List Pt) : Ob.Rel := fun w S => OwnPts w v l ∧ (∀ x, v.ownBlock = some x → S x) ∧ ∀ x, S x → x < w.heap.size
theorem RowO.append {w w' : World} {S : Nat → Prop} {v v' : Value} {l m : List Pt} (h : RowO v l w S) (hown : OwnPts w' v' m) (hg : w.grownBy w' v.ownBlock) (hb : v'.ownBlock = v.ownBlock ∨ v'.ownBlock = some w.heap.size) : ObjStep (RowO v' m) S w w' := by
  refine ⟨⟨fun x => S x ∨ v'.ownBlock = some x, ⟨hown, fun x hx => .inr hx, fun x hx => ?_⟩, fun b hb => .inl hb, fun b hb2 => ?_⟩, Upon.grown (Upon.refl _ w) hg fun k hk => .inl (h.2.1 k hk)⟩
  · rcases hx with hx | hx
    · exact Nat.lt_of_lt_of_le (h.2.2 x hx) hg.size
    · exact hown.lt hx
  · rcases hb2 with hb2 | hb2
    · exact .inl hb2
    · rcases hb with hb | hb
      · exact .inl (h.2.1 b (by rw [← hb]; exact hb2))
      · rw [hb2] at hb
        have : b = w.heap.size := by simpa using hb
        right; omega

/-! ### reading -/
/-! ### they are made -/
end Ck
end Go.Proofs.YtlgjbcmloochiaaGreatDoor
end

/- The program's coder of points: it is made, it puts, it gets; whether a point may stand behind those ahead (layer 9). -/
section
set_option maxRecDepth 100000
namespace Go.Proofs.YtlgjbcmloochiaaGreatDoor
open Go.RowKit Go.Sort
namespace Ck
open Bit Dsk Ob Dig
set_option linter.unusedVariables false

abbrev ptr (q : Nat) : Value := .pointer (some ⟨q, 0, none⟩)
/-- The coder, as a value. -/
abbrev cdv (qt qv : Nat) : Value := .agg #[ptr qt, ptr qv]
abbrev ptv (x : Int) (y : Nat) : Value := .agg #[.int .i64 x, .int .u64 (y : Int)]
theorem thingNew (qt qv : Nat) : Thing (Tens (Tm.IsCd qt Tm.newC) (Xr.IsCd qv Xr.newC)) := Tens.ob (Tm.objCd _ _) (Xr.objCd _ _)
theorem cell_of_below {w w' : World} (hb : Below w.heap.size w w') {a : Addr} {u : Value} (h : w.cell? a = some u) : w'.cell? a = some u := (hb.cell (World.block_lt_of_cell? w _ h)).trans h
set_option maxHeartbeats 1600000 in
theorem mk_any (w : World) (hT : Tab w) :
    Calls Tryz.prog 156 #[] w fun e w' => ∃ qt qv, e = .returned (cdv qt qv) ∧ Own (Tens (Tm.IsCd qt Tm.newC) (Xr.IsCd qv Xr.newC)) w w' := by
  have hB := Lib.hid (box2Own (Below.refl _ w) (.pointer none) (.pointer none) 244)
  have hT1 := Lib.hid (hT.t.own hB.out.bel)
  clear hT
  go_enter Tryz.func156, Tryz.ntmps156
  go_wp2_with fail
  refine (Tm.new_any _ hT1.out).mono ?_
  intro x w2 hx
  obtain ⟨qt, rfl, h2⟩ := Tm.CMade.beside (thingBox2 _ _ _ _) hB.out hx
  replace h2 := Lib.hid h2
  clear hx hB hT1
  go_wp2_with fail
  refine (Xr.new_any w2).mono ?_
  intro x w3 hx
  obtain ⟨qv, rfl, h3⟩ := Xr.CMade.beside (Tens.ob (thingBox2 _ _ _ _) (Tm.objCd _ _)) h2.out hx
  replace h3 := Lib.hid (h3.assoc.swap)
  clear hx h2
  have hBx := box2Cells h3.out.dropl
  have c0 := hBx.c0
  have c1 := hBx.c1
  have f0 := hBx.f0
  have f1 := hBx.f1
  obtain ⟨s1, s2, s3, s4⟩ := Boxed.set hBx (ptr qt) (ptr qv)
  clear hBx
  have hend := Lib.hid (box2Set (thingNew _ _) h3.out (ptr qt) (ptr qv)).dropr
  clear h3
  go_wp2_with fail
  refine bodyPost_ret (v := cdv qt qv) (by simp [results, Tryz.results156, go_sem, s3, s4]) rfl ⟨_, _, rfl, hend.out⟩

/-! ### may it stand behind -/
def isNx (l : List Pt) (x : Int) : Bool := decide (l.length = 0) || decide (T l (l.length - 1) < x)
set_option maxHeartbeats 1600000 in
theorem next_any (w : World) (S : Nat → Prop) (v : Value) (l : List Pt) (x : Int) (y : Nat) (hv : View w S v l) :
    Calls Tryz.prog 158 #[v, ptv x y] w fun e w' => e = .returned (.bool (isNx l x)) ∧ New0 w w' := by
  have hB := Lib.hid (box2Own (Below.refl _ w) (.int .i64 x) (.int .u64 (y : Int)) 105)
  obtain ⟨A, c, rfl, hc1, hc2, hA⟩ := hv
  have c0 := (box2Cells hB.out).c0
  have c1 := (box2Cells hB.out).c1
  have hN := Lib.hid (fun n => (new0_of_bel hB.out.bel).trans (upon_drewN _ _ n))
  by_cases h0 : l.length = 0
  · have hr : Hid (isNx l x = true) := Lib.hid (by unfold isNx; rw [decide_eq_true h0, Bool.true_or])
    have dg : decide (0 < l.length) = false := decide_eq_false (by omega)
    have d0 : ((l.length : Int) == 0) = true := by rw [h0]; rfl
    clear hA hB
    go_enter Tryz.func158, Tryz.ntmps158
    go_wp2_with fail
    go_quiet (fail)
    go_wp2_with fail
    go_ret
    exact ⟨ret_b hr.out.symm, hN.out _⟩
  · obtain ⟨b, off, rfl, -, hcells⟩ := hA (by omega)
    obtain ⟨z0, -⟩ := hcells (l.length - 1) (by omega)
    obtain ⟨z, hz⟩ : ∃ z, l[l.length - 1].1 = z := ⟨_, rfl⟩
    rw [hz] at z0
    have hr : Hid (isNx l x = decide (z < x)) := Lib.hid (by
      unfold isNx
      rw [decide_eq_false h0, Bool.false_or, T_get (by omega : l.length - 1 < l.length), hz])
    replace z0 := (cell_of_below hB.out.bel z0)
    unfold maxLen at hc2
    have dg : decide (0 < l.length) = true := decide_eq_true (by omega)
    have d0 : ((l.length : Int) == 0) = false := by rw [beq_eq_false_iff_ne]; omega
    have hidx : wrap64 ((l.length : Int) - 1) = ((l.length - 1 : Nat) : Int) := by rw [IntWalk.wrap64_in _ (by omega)]; omega
    have hpos : 1 ≤ l.length := by omega
    clear hcells hB hz h0
    go_enter Tryz.func158, Tryz.ntmps158
    go_wp2_with fail
    go_quiet (fail)
    go_wp2_with fail
    go_ret
    exact ⟨ret_b hr.out.symm, hN.out _⟩

/-! ### a point is put -/
theorem box2Next {I : Ob.Rel} (hI : Thing I) {w0 w : World} {o : Go.Obj} (H : Own I w0 (w.alloc o)) (a b : Value) (T : TypeId) : Own (Tens I (Box2 (w.heap.size + 1) a b T)) w0 ((w.alloc o).alloc (.cells #[a, b] T (0, 0))) := by
  have h := box2Made hI H a b T
  have e : (w.alloc o).heap.size = w.heap.size + 1 := by simp
  rw [e] at h
  exact h
theorem boxed_two {X J B1 B2 : Ob.Rel} {w0 w : World} (h : Own (Tens (Tens (Tens X J) B1) B2) w0 w) : Own (Tens X (Tens (Tens J B1) B2)) w0 w :=
  h.mono fun _ k => Tens.assoc (Tens.mapL (fun _ j => Tens.assoc j) k)
theorem unbox_two {X J B1 B2 : Ob.Rel} {w0 w : World} (h : Own (Tens X (Tens (Tens J B1) B2)) w0 w) : Own (Tens X J) w0 w :=
  (h.mono fun _ k => Tens.mapL (fun _ j => Tens.cossa j) (Tens.cossa k)).dropr.dropr
theorem seeB1 {J B1 B2 X : Ob.Rel} {w0 w : World} (h : Own (Tens X (Tens (Tens J B1) B2)) w0 w) : Own B1 w0 w := h.dropl.dropr.dropl
theorem seeB2 {J B1 B2 X : Ob.Rel} {w0 w : World} (h : Own (Tens X (Tens (Tens J B1) B2)) w0 w) : Own B2 w0 w := h.dropl.dropl
set_option maxHeartbeats 3200000 in
theorem put_any {J : Ob.Rel} (hJ : Thing J) {w0 w : World} {qt qv p : Nat} {c : C2} {L : List Bool} {x : Int} {y : Nat} (hT : Tab w0) (H : Own (PEJ qt qv p c L J) w0 w) (hok : Ok2 c) (hL : L.length ≤ 70000000000000) (hx : Tm.In x) (hy : y < 18446744073709551616) :
    Calls Tryz.prog 159 #[cdv qt qv, ptr p, ptv x y] w fun e w' => e = .returned (.tuple #[]) ∧ Own (PEJ qt qv p (stp c (x, y)) (L ++ ptB c (x, y)) J) w0 w' := by
  have hX := Tens.ob (thingPE qt qv p c L) hJ
  have h1 := box2Made hX H (ptr qt) (ptr qv) 244
  have h2 := Lib.hid (boxed_two (box2Next (Tens.ob hX (thingBox2 _ _ _ _)) h1 (.int .i64 x) (.int .u64 (y : Int)) 105))
  have hJ2 := Lib.hid (Tens.ob (Tens.ob hJ (thingBox2 w.heap.size (ptr qt) (ptr qv) 244)) (thingBox2 (w.heap.size + 1) (.int .i64 x) (.int .u64 (y : Int)) 105))
  replace hT := Lib.hid hT
  have ht := Tm.putB_len (c := c.1) x
  have HP := Lib.hid (pejPutT hJ2.out hT.out h2.out hok.t (by omega) hx rfl rfl)
  have c0 := (box2Cells (seeB1 h2.out)).c0
  have k0 := (box2Cells (seeB2 h2.out)).c0
  replace hok := Lib.hid hok
  have hL2 : Hid ((L ++ Tm.putB c.1 x).length ≤ 80000000000000) := Lib.hid (by rw [List.length_append]; omega)
  replace hy := Lib.hid hy
  clear H h1 hX h2 hL ht hx
  go_enter Tryz.func159, Tryz.ntmps159
  go_wp2_with fail
  refine HP.out.mono ?_
  rintro e w3 ⟨rfl, h3⟩
  have c1 := (box2Cells (seeB1 h3)).c1
  have k1 := (box2Cells (seeB2 h3)).c1
  have HQ := Lib.hid (pejPutV hJ2.out hT.out h3 hok.out.v hok.out.fresh hL2.out hy.out rfl rfl)
  clear HP c0 k0 h3
  go_wp2_with fail
  refine HQ.out.mono ?_
  rintro e w4 ⟨rfl, h4⟩
  replace h4 := Lib.hid (unbox_two h4)
  clear HQ c1 k1
  go_wp2_with fail
  go_end0
  refine ⟨rfl, ?_⟩
  have := h4.out
  rw [List.append_assoc] at this
  exact this

/-! ### a point is got -/
end Ck
end Go.Proofs.YtlgjbcmloochiaaGreatDoor
end

/- The program's Encode (layer 9). -/
section
set_option maxRecDepth 100000
namespace Go.Proofs.YtlgjbcmloochiaaGreatDoor
open Go.RowKit Go.Sort
namespace Ck
open Bit Dsk Ob Dig
set_option linter.unusedVariables false

/-- The bytes of points, put together out of the objects' calls. -/
theorem peEnd {w0 w : World} {qt qv p : Nat} {c : C2} {L : List Bool} (H : Own (PE qt qv p c L) w0 w) :
    (Calls Tryz.prog 160 #[.pointer (some ⟨p, 0, none⟩)] w fun e w' => e = .returned (.int .i64 (L.length : Int)) ∧ w = w') ∧
    (Calls Tryz.prog 161 #[.pointer (some ⟨p, 0, none⟩)] w fun e w' => e = .returned (.string ⟨(pack L).toArray⟩) ∧ w = w') := by
  obtain ⟨A, h⟩ := H.seeR
  obtain ⟨_, B, _, h2, _⟩ := h
  exact ⟨wlen_any B p L w h2, Bit.text_any B p L w h2⟩
theorem peStart {w0 w : World} {qt qv p : Nat} (H : Own (Tens (Tens (Tm.IsCd qt Tm.newC) (Xr.IsCd qv Xr.newC)) (fun w S => IsW w S p [])) w0 w) : Own (PE qt qv p c0 []) w0 w :=
  H.mono fun _ h => Tens.assoc (Tens.mapL (fun _ k => Tens.swap k) h)
/-- A beginning of what is read. -/
theorem View.begin {w : World} {S : Nat → Prop} {a : Addr} {c : Nat} {l : List Pt} (h : View w S (.slice (some a) l.length c) l) {j : Nat} (hj : j ≤ l.length) : View w S (.slice (some a) j c) (l.take j) := by
  obtain ⟨A, c', h1, h2, h3, h4⟩ := h
  injection h1 with h1 _ hc
  subst h1 hc
  have hl : (l.take j).length = j := by rw [List.length_take]; omega
  refine ⟨some a, c, by rw [hl], by omega, h3, fun hp => ?_⟩
  obtain ⟨b, off, k1, k2, k3⟩ := h4 (by omega)
  refine ⟨b, off, k1, k2, fun i hi => ?_⟩
  rw [List.getElem_take]
  exact k3 i (by omega)
theorem isNx_take {l : List Pt} {j : Nat} (hj : j < l.length) {x : Int} : isNx (l.take j) x = (decide (j = 0) || decide (T l (j - 1) < x)) := by
  have hl : (l.take j).length = j := by rw [List.length_take]; omega
  unfold isNx
  rw [hl]
  by_cases h : j = 0
  · rw [decide_eq_true h, Bool.true_or, Bool.true_or]
  · rw [decide_eq_false h, Bool.false_or, Bool.false_or]
    unfold T
    rw [List.getD_eq_getElem?_getD, List.getD_eq_getElem?_getD, List.getElem?_take_of_lt (by omega)]
theorem nextB {w : World} {S : Nat → Prop} {v : Value} {l : List Pt} {x : Int} {y : Nat} (hv : View w S v l) {b : Bool} (hb : isNx l x = b) (d : Nat) (os : Array Go.Obj) :
    Calls Tryz.prog 158 #[v, ptv x y] (grow (redrawn w d) os) fun e w' => e = .returned (.bool b) ∧ Below (grow (redrawn w d) os).heap.size (grow (redrawn w d) os) w' := by
  subst hb
  exact (next_any _ S v l x y (hv.new (newOf (below_regrown w d os)))).mono fun e w' ⟨he, hu⟩ => ⟨he, belowOf hu⟩
set_option maxHeartbeats 6400000 in
theorem encode_any (w : World) (S : Nat → Prop) (v : Value) (l : List Pt) (hv : View w S v l) (hin : ∀ p ∈ l, PtIn p) (hT : Tab w) :
    Calls Tryz.prog 113 #[v] w fun e w' => e = encR l ∧ New0 w w' := by
  by_cases h1 : 1 ≤ l.length
  · by_cases h64 : l.length ≤ 64
    · have d1 : decide ((l.length : Int) < 1) = false := decide_eq_false (by omega)
      have d2 : decide ((64 : Int) < (l.length : Int)) = false := decide_eq_false (by omega)
      have hv2 := Lib.hid hv
      replace hT := Lib.hid hT
      replace hin := Lib.hid hin
      obtain ⟨A, c, rfl, hc1, hc2, hA⟩ := hv
      obtain ⟨b, off, rfl, -, hcells⟩ := hA h1
      replace hcells := Lib.hid hcells
      have hcb := hc2
      unfold maxLen at hcb
      clear hA hc2
      go_enter Tryz.func113, Tryz.ntmps113
      go_wp2_with fail
      refine (mk_any w hT.out).mono ?_
      rintro e w1 ⟨qt, qv, rfl, h1'⟩
      replace h1' := Lib.hid h1'
      go_wp2_with fail
      refine (newWriter_any w1).mono ?_
      intro x w2 hx
      obtain ⟨p, rfl, h2'⟩ := Tm.WMade.beside (thingNew qt qv) h1'.out hx
      have hM : Hid (Own (PEJ qt qv p c0 [] (Box2 w2.heap.size (ptr qt) (ptr qv) 244)) w (w2.alloc (.cells #[ptr qt, ptr qv] 244 (0, 0)))) := Lib.hid (box2Made (thingPE _ _ _ _ _) (peStart h2') _ _ _)
      clear hx h1' h2'
      go_wp2_with fail
      go_loopw [20] (fun ov wr => ∃ j : Nat, ov = .int .i64 (j : Int) ∧ j ≤ l.length ∧ Hid (Rises l j) ∧ Hid (Own (PEJ qt qv p (stps c0 (l.take j)) (ptsB c0 (l.take j)) (Box2 w2.heap.size (ptr qt) (ptr qv) 244)) w wr)) (fun ov _ => l.length - (intOf ov).toNat)
      case atStart => exact ⟨0, rfl, Nat.zero_le _, Lib.hid (Rises.zero l), hM⟩
      case round =>
        obtain ⟨j, rfl, hj, hri, hst⟩ := hrel
        clear hM d1 d2
        by_cases hlt : j < l.length
        · obtain ⟨c0', c1'⟩ := hcells.out j hlt
          obtain ⟨x, hx⟩ : ∃ x, l[j].1 = x := ⟨_, rfl⟩
          obtain ⟨y, hy⟩ : ∃ y, l[j].2 = y := ⟨_, rfl⟩
          rw [hx] at c0'
          rw [hy] at c1'
          have hxy : l[j] = (x, y) := by rw [← hx, ← hy]
          have hT' : Hid (T l j = x) := Lib.hid ((T_get hlt).trans hx)
          have hp := Lib.hid (hxy ▸ hin.out _ (List.getElem_mem hlt))
          obtain ⟨e1, e2⟩ := ptsB_take hlt c0
          rw [hxy] at e1 e2
          have hst' := hst.out
          have hb10 := lenB h64 j
          have hok := Lib.hid (ok_at hin.out j)
          have hB := Lib.hid (box2Made (Tens.ob (thingPE _ _ _ _ _) (thingBox2 _ _ _ _)) hst' (.int .i64 x) (.int .u64 (y : Int)) 105).assoc
          have hbel0 := hst'.bel
          have r0 := cell_of_below hbel0 c0'
          have r1 := cell_of_below hbel0 c1'
          have hvj := Lib.hid (((hv2.out.begin hj).new (new0_of_bel hbel0)).new ((Upon.refl _ wr).alloc (.cells #[.int .i64 x, .int .u64 (y : Int)] 105 (0, 0))))
          have q0 := (box2Cells hB.out.dropl.dropl).c0
          have q1 := (box2Cells hB.out.dropl.dropl).c1
          have y0 := fun d os => cell_regrown q0 d os
          have y1 := fun d os => cell_regrown q1 d os
          have hend := Lib.hid (new0_of_bel hB.out.bel)
          have hIn := Lib.hid (fun (w5 : World) (hu : New0 (wr.alloc (.cells #[.int .i64 x, .int .u64 (y : Int)] 105 (0, 0))) w5) => Own.upon0 (Tens.ob (thingPE _ _ _ _ _) (Tens.ob (thingBox2 _ _ _ _) (thingBox2 _ _ _ _))) hB.out hu)
          replace e1 := Lib.hid e1
          replace e2 := Lib.hid e2
          by_cases hnx : isNx (l.take j) x = true
          · have hn : Hid (Rises l (j + 1)) := Lib.hid (by
              rw [isNx_take hlt] at hnx
              by_cases h0 : j = 0
              · rw [h0]; exact Rises.one l
              · obtain ⟨k, rfl⟩ : ∃ k, j = k + 1 := ⟨j - 1, by omega⟩
                rw [decide_eq_false h0, Bool.false_or, decide_eq_true_iff] at hnx
                exact hri.out.next (by rw [hT'.out]; exact hnx))
            have hh := Lib.hid (fun d os => nextB (y := y) hvj.out hnx d os)
            clear hst' hst hbel0 hri hnx hvj hB q0 q1 hxy hx hy
            go_wp2_with fail
            refine wp_region_quiet_below (by kernel_rfl) (by kernel_rfl) ?_
            repeat (go_big_quiet_step (first
              | exact Calls.regrown_of (hh.out _ _)))
            refine wpQuiet_nil ?_
            intro _ hw'
            obtain ⟨⟨dq, osq⟩, hw''⟩ := hw'
            subst hw''
            have h5 := hIn.out _ (newOf (below_regrown _ dq osq))
            clear hIn hh r0 r1 y0 y1 hend
            generalize grow (redrawn (wr.alloc (.cells #[.int .i64 x, .int .u64 (y : Int)] 105 (0, 0))) dq) osq = w5 at *
            have k0 := (box2Cells h5.dropl.dropr).c0
            have k1 := (box2Cells h5.dropl.dropr).c1
            have q0 := (box2Cells h5.dropl.dropl).c0
            have q1 := (box2Cells h5.dropl.dropl).c1
            have HP := Lib.hid (put_any (Tens.ob (thingBox2 _ _ _ _) (thingBox2 _ _ _ _)) hT.out h5 hok.out (by omega) hp.out.1 hp.out.2)
            rw [← e1.out, ← e2.out] at HP
            clear h5 hok hp e1 e2 c0' c1' hb10
            go_wp2_with fail
            refine HP.out.mono ?_
            rintro e w6 ⟨rfl, h6⟩
            replace h6 := Lib.hid h6.cossa.dropr
            clear HP k0 k1 q0 q1
            go_wp2_with fail
            go_roundw
            case rel => exact ⟨j + 1, by go_num, hlt, hn, h6⟩
            case measure => simp [intOf]; omega
          · have hnx' : isNx (l.take j) x = false := by simpa using hnx
            have hnr := Lib.hid (show Ending.returned _ = encR l from encR_order h1 h64 (by
              rw [isNx_take hlt] at hnx'
              have h0 : j ≠ 0 := fun h => by rw [decide_eq_true h, Bool.true_or] at hnx'; cases hnx'
              obtain ⟨k, rfl⟩ : ∃ k, j = k + 1 := ⟨j - 1, by omega⟩
              rw [decide_eq_false h0, Bool.false_or, decide_eq_false_iff_not] at hnx'
              exact Rises.not hlt (by rw [hT'.out]; exact hnx')))
            have hh := Lib.hid (fun d os => nextB (y := y) hvj.out hnx' d os)
            clear hst' hst hbel0 hri hnx hnx' hvj hB q0 q1 hxy hx hy hIn hok hp e1 e2 hb10
            go_wp2_with fail
            refine wp_region_quiet_below (by kernel_rfl) (by kernel_rfl) ?_
            repeat (go_big_quiet_step (first
              | exact Calls.regrown_of (hh.out _ _)))
            refine wpQuiet_nil ?_
            intro _ hw'
            obtain ⟨⟨dq, osq⟩, hw''⟩ := hw'
            subst hw''
            have hend2 := Lib.hid (hend.out.trans (newOf (below_regrown _ dq osq)))
            clear hh r0 r1 y0 y1 hend
            generalize grow (redrawn (wr.alloc (.cells #[.int .i64 x, .int .u64 (y : Int)] 105 (0, 0))) dq) osq = w5 at *
            go_wp2_with fail
            go_ret2
            exact ⟨hnr.out, hend2.out⟩
        · obtain rfl : j = l.length := by omega
          have hrise := hri.out
          rw [List.take_length] at hst
          have hR := Lib.hid (fun s => encR_ok h1 h64 hrise (s := s))
          have hb := bits_few h64
          have hbel := Lib.hid hst.out.bel
          obtain ⟨f, hf⟩ : ∃ f : Nat → ByteArray, ∀ n, (⟨(numL n).toArray⟩ : ByteArray) = f n := ⟨_, fun _ => rfl⟩
          have t1 : Hid (∀ (w : World) (n : Nat), n ≤ 10000 → Calls Tryz.prog 109 #[.int .u64 (n : Int)] w fun e w' => e = .returned (.string (f n)) ∧ New0 w w') :=
            Lib.hid fun w n hn => (hf n ▸ Dig.num_calls n (by omega) w).mono fun e w' ⟨he, hb⟩ => ⟨he, new0_of_bel hb⟩
          have hcat := cat3 l
          have hfs : ∀ n, (f n).size ≤ 9 := fun n => by
            rw [← hf]; show (numL n).toArray.size ≤ 9; rw [List.size_toArray, numL_length]; have := nd_le n; omega
          have hs3 : (⟨(pack (ptsB c0 l)).toArray⟩ : ByteArray).size ≤ 2000 := by
            show (pack (ptsB c0 l)).toArray.size ≤ 2000; rw [List.size_toArray, pack_length]; unfold nb; omega
          rw [hf, hf] at hcat
          replace hcat := Lib.hid hcat
          have HL := Lib.hid (fun w1 (h : New0 wr w1) => peEnd (Own.upon0 (thingPE _ _ _ _ _) hst.out.dropr h))
          have i1 : IntKind.u64.wrap (l.length : Int) = (l.length : Int) := by rw [IntKind.wrap_u64]; omega
          have i2 : IntKind.u64.wrap ((ptsB c0 l).length : Int) = ((ptsB c0 l).length : Int) := by rw [IntKind.wrap_u64]; omega
          clear hst hri hrise hcells hf hv2
          generalize (⟨(pack (ptsB c0 l)).toArray⟩ : ByteArray) = s3 at *
          generalize (ptsB c0 l).length = m at *
          have hadd1 := fun (W : World) => run_string_add_sum (P := Tryz.prog) W (f l.length) (f m) (by have := hfs l.length; have := hfs m; omega)
          have hadd2 := fun (W : World) => run_string_add_sum (P := Tryz.prog) W (f l.length ++ f m) s3 (by rw [ByteArray.size_append]; have := hfs l.length; have := hfs m; omega)
          clear hfs hs3
          go_wp2_with fail
          refine (t1.out _ l.length (by omega)).mono ?_
          rintro e w4 ⟨rfl, hu4⟩
          obtain ⟨HLen, HText⟩ := HL.out w4 hu4
          clear HText
          replace HLen := Lib.hid HLen
          go_wp2_with fail
          refine HLen.out.mono ?_
          rintro e w5 ⟨rfl, rfl⟩
          clear HLen
          go_wp2_with fail
          refine (t1.out _ m (by omega)).mono ?_
          rintro e w6 ⟨rfl, hu6⟩
          obtain ⟨HLen, HText⟩ := HL.out w6 (hu4.trans hu6)
          clear HLen
          have hend := Lib.hid ((new0_of_bel hbel.out).trans (hu4.trans hu6))
          replace HText := Lib.hid HText
          clear HL hu4 hu6 t1
          go_wp2_with fail
          refine HText.out.mono ?_
          rintro e w7 ⟨rfl, rfl⟩
          clear HText
          go_wp2_with fail
          go_ret2
          exact ⟨hR.out _ hcat.out, hend.out⟩
    · have d1 : decide ((l.length : Int) < 1) = false := decide_eq_false (by omega)
      have d2 : decide ((64 : Int) < (l.length : Int)) = true := decide_eq_true (by omega)
      obtain ⟨A, c, rfl, -, -, -⟩ := hv
      have he := Lib.hid (encR_range (l := l) (.inr (by omega)))
      go_enter Tryz.func113, Tryz.ntmps113
      go_wp2_with fail
      go_ret2
      exact ⟨he.out, Upon.refl _ _⟩
  · have d1 : decide ((l.length : Int) < 1) = true := decide_eq_true (by omega)
    obtain ⟨A, c, rfl, -, -, -⟩ := hv
    have he := Lib.hid (encR_range (l := l) (.inl (by omega)))
    go_enter Tryz.func113, Tryz.ntmps113
    go_wp2_with fail
    go_ret2
    exact ⟨he.out, Upon.refl _ _⟩
end Ck
end Go.Proofs.YtlgjbcmloochiaaGreatDoor
end

/- The program's Split (layer 9). -/
section
set_option maxRecDepth 100000
namespace Go.Proofs.YtlgjbcmloochiaaGreatDoor
open Go.RowKit Go.Sort
namespace Ck
open Bit Dsk Ob Dig
set_option linter.unusedVariables false

set_option maxHeartbeats 1600000 in
theorem clone_any (w : World) (S : Nat → Prop) (v : Value) (l : List Pt) (hv : View w S v l) (hn : l.length ≤ 100000) :
    Calls Tryz.prog 152 #[v] w fun e w' => ∃ u, e = .returned u ∧ OwnPts w' u l ∧ (∀ b, u.ownBlock = some b → w.heap.size ≤ b) ∧ New0 w w' := by
  obtain ⟨A, c, rfl, -, -⟩ := hv.shape
  cases A with
  | none =>
    have h0 : Hid (l = []) := Lib.hid (by
      obtain ⟨A', c', h1, h2, h3, h4⟩ := hv
      by_cases hp : 0 < l.length
      · obtain ⟨b, off, k1, -⟩ := h4 hp
        injection h1 with h1
        rw [← h1] at k1; cases k1
      · exact List.length_eq_zero_iff.1 (by omega))
    have hq := fun W => Lib.run_eql_slice_nil (P := Tryz.prog) W 64 105 none l.length c 0 0 Tryz.underlying64
    clear hv
    go_enter Tryz.func152, Tryz.ntmps152
    go_wp2_with fail
    go_ret
    exact ⟨_, rfl, (by rw [h0.out]; exact OwnPts.nil _), (fun b h => (by cases h)), Upon.refl _ _⟩
  | some a =>
    have hq := fun W => Lib.run_eql_slice_nil (P := Tryz.prog) W 64 105 (some a) l.length c 0 0 Tryz.underlying64
    replace hv := Lib.hid (hv.new ((Upon.refl _ w).alloc (.cells #[] 105 (0, 0))))
    go_enter Tryz.func152, Tryz.ntmps152
    go_wp2_with (at_builtin; refine wpList_append_pts rfl _ _ rfl _ _ [] l S rfl rfl (OwnPts.empty (cell_new w _)) hv.out (by rw [List.length_nil]; omega) ?_)
    intro v' w2 hown hg hb
    have hu2 : New0 w w2 := Upon.grown ((Upon.refl (fun _ => False) w).alloc _) hg (fun k hk => .inr (by
      have hk' : w.heap.size = k := by simpa [Value.ownBlock] using hk
      omega))
    have hmine : ∀ g, v'.ownBlock = some g → w.heap.size ≤ g := fun g hk => by
      rw [hk] at hb
      rcases hb with hb | hb
      · have : g = w.heap.size := by simpa [Value.ownBlock] using hb
        omega
      · have : g = w.heap.size + 1 := by simpa using hb
        omega
    replace hown := Lib.hid hown
    replace hu2 := Lib.hid hu2
    replace hmine := Lib.hid hmine
    clear hg hb hv
    go_wp2_with fail
    go_ret
    exact ⟨v', rfl, hown.out, hmine.out, hu2.out⟩
/-! ### beginnings and ends of a view -/
theorem View.till {w : World} {S : Nat → Prop} {A : Option Addr} {c e n : Nat} {l : List Pt} (h : View w S (.slice A n c) l) (hn : n = l.length) (he : e ≤ l.length) : View w S (.slice A e e) (l.take e) := by
  subst hn
  obtain ⟨A', c', h1, h2, h3, h4⟩ := h
  injection h1 with h1 _ h1c
  subst h1 h1c
  have hpl : (l.take e).length = e := by rw [List.length_take]; omega
  refine ⟨A, e, by rw [hpl], by omega, by omega, fun hp => ?_⟩
  obtain ⟨b, off, k1, k2, k3⟩ := h4 (by omega)
  refine ⟨b, off, k1, k2, fun k hk => ?_⟩
  rw [List.getElem_take]
  exact k3 k (by omega)
theorem View.from {w : World} {S : Nat → Prop} {b off c e n : Nat} {l : List Pt} (h : View w S (.slice (some ⟨b, off, none⟩) n c) l) (hn : n = l.length) (he : e ≤ l.length) : View w S (.slice (some ⟨b, off + e * 2, none⟩) (n - e) (c - e)) (l.drop e) := by
  subst hn
  obtain ⟨A', c', h1, h2, h3, h4⟩ := h
  injection h1 with h1 _ h1c
  subst h1 h1c
  have hpl : (l.drop e).length = l.length - e := List.length_drop
  refine ⟨_, c - e, by rw [hpl], by omega, by omega, fun hp => ?_⟩
  obtain ⟨b', off', k1, k2, k3⟩ := h4 (by omega)
  injection k1 with k1
  injection k1 with e1 e2
  subst e1 e2
  refine ⟨b, off + e * 2, rfl, k2, fun k hk => ?_⟩
  rw [List.getElem_drop, show off + e * 2 + k * 2 = off + (e + k) * 2 by omega]
  exact k3 (e + k) (by omega)
theorem part_is (l : List Pt) (j e : Nat) (he : e = min (l.length - 64 * j) 64) : (l.drop (64 * j)).take e = part l j := by
  unfold part
  rw [List.take_eq_take_iff, List.length_drop]
  omega
def lenV : Value → Nat
  | .slice _ n _ => n
  | _ => 0
abbrev Low (w0 w : World) : Nat → Prop := fun b => b < w.heap.size ∧ w0.heap.size ≤ b
theorem nparts_zero {l : List Pt} {j n : Nat} (hn : n = l.length - 64 * j) : 0 < n ↔ j < nparts l := by rw [← nparts_iff]; omega
set_option maxHeartbeats 6400000 in
theorem split_new (w : World) (S : Nat → Prop) (v : Value) (l : List Pt) (hv : View w S v l) (hn : l.length ≤ 100000) :
    Calls Tryz.prog 112 #[v] w fun e w' => ∃ u, e = .returned u ∧ PartsN (fun b => w.heap.size ≤ b) w' u l ∧ New0 w w' := by
  have HC := Lib.hid (clone_any w S v l hv hn)
  obtain ⟨A0, c0, rfl, -, -⟩ := hv.shape
  clear hv
  obtain ⟨i0, hi, hz0, hz1, hz2⟩ := info_parts infoRow
  go_enter Tryz.func112, Tryz.ntmps112
  go_wp2_with fail
  refine HC.out.mono ?_
  rintro e w1 ⟨u, rfl, hown, hnew, hu1⟩
  have hv1 : Hid (View w1 (Low w w1) u l) := Lib.hid (hown.view.mono fun b h k => ⟨h, hnew b k⟩)
  obtain ⟨A, c, rfl, hc1, hc2⟩ := hown.view.shape
  replace hu1 := Lib.hid hu1
  clear HC hown hnew
  unfold maxLen at hc2
  go_wp2_with fail
  go_loopw [3, 4] (fun pv rv wr => ∃ (j n c : Nat) (A : Option Addr) (vs : List Value), rv = .slice A n c ∧ n ≤ c ∧ c ≤ 2 ^ 63 - 1 ∧ n ≤ 100000 ∧ Hid (n = l.length - 64 * j) ∧ Hid (j ≤ nparts l) ∧ Hid (View wr (Low w w1) (.slice A n c) (l.drop (64 * j))) ∧ Hid (OutsQ (fun b => w.heap.size ≤ b) w1 wr pv l j vs)) (fun _ rv _ => lenV rv)
  case atStart => exact ⟨0, l.length, c, A, [], rfl, hc1, hc2, hn, Lib.hid (by omega), Lib.hid (Nat.zero_le _), hv1, Lib.hid (OutsQ.start _ w1 l)⟩
  case round =>
    clear hv1 hc1 hc2
    obtain ⟨j, n, c, A, vs, rfl, hc1, hc2, hn5, hnj, hj, hvr, ho⟩ := hrel
    by_cases hlt : 0 < n
    · have hjn : Hid (j < nparts l) := Lib.hid ((nparts_zero hnj.out).1 hlt)
      have hdl : Hid (n = (l.drop (64 * j)).length) := Lib.hid (by rw [List.length_drop]; exact hnj.out)
      obtain ⟨b, off, rfl⟩ : ∃ b off, A = some ⟨b, off, none⟩ := by
        obtain ⟨A', c', h1, h2, h3, h4⟩ := hvr.out
        injection h1 with h1
        obtain ⟨b, off, k1, -⟩ := h4 (by rw [← hdl.out]; exact hlt)
        exact ⟨b, off, by rw [h1, k1]⟩
      obtain ⟨e, he⟩ : ∃ e, e = min n 64 := ⟨_, rfl⟩
      have he1 : 0 < e ∧ e ≤ n ∧ e ≤ 64 := by omega
      have dm : min (n : Int) 64 = (e : Int) := by omega
      have hpart : Hid (View wr (Low w w1) (.slice (some ⟨b, off, none⟩) e e) (part l j)) := Lib.hid (by
        rw [← part_is l j e (by rw [← hnj.out]; exact he)]
        exact hvr.out.till hdl.out (by rw [← hdl.out]; exact he1.2.1))
      have hrest : Hid (∀ A' n' c', n' = n - e → c' = c - e → (n' = 0 ∨ A' = some ⟨b, off + e * 2, none⟩) → View wr (Low w w1) (.slice A' n' c') (l.drop (64 * (j + 1)))) := Lib.hid fun A' n' c' hn' hc' hA' => by
        subst hn' hc'
        by_cases h0 : n - e = 0
        · have hz : l.drop (64 * (j + 1)) = [] := List.drop_eq_nil_of_le (by have := hnj.out; omega)
          rw [hz, h0]
          exact ⟨A', c - e, rfl, Nat.zero_le _, by unfold maxLen; omega, fun h => absurd h (by simp)⟩
        · have h := hvr.out.from hdl.out (e := e) (by rw [← hdl.out]; exact he1.2.1)
          rw [List.drop_drop, show 64 * j + e = 64 * (j + 1) by omega] at h
          rcases hA' with hA' | rfl
          · exact absurd hA' h0
          · exact h
      replace he := Lib.hid he
      obtain ⟨he1, he2, he3⟩ := he1
      clear hvr
      have hjl : j ≤ 1563 := by have := hjn.out; unfold nparts at this; omega
      have hrow := Lib.hid (fun o => ownsRow_kept ho.out.row (fun b hb => ((Upon.refl (fun _ => False) wr).alloc o).block b (World.ownsRow.lt ho.out.row b hb).2 fun f => f))
      have hstep := Lib.hid (fun o w' g cap (h1 : w'.ownsRow 0 64 1 (.slice (some ⟨g, 0, none⟩) (j + 1) cap) (j + 1) (vs ++ [.slice (some ⟨b, off, none⟩) e e])) (h2 : (wr.alloc o).grownBy w' u3.ownBlock) (h3 : u3.ownBlock = some g ∨ g = (wr.alloc o).heap.size) =>
        And.intro (ho.out.step ((Upon.refl _ wr).alloc o) (hpart.out.new ((Upon.refl _ wr).alloc o)) (fun b hb he => Nat.lt_irrefl _ (Nat.lt_of_lt_of_le hb.1 (ho.out.mine b he))) (fun b hb => hb.2) h1 h2 h3)
          (fun A' n' c' hn' hc' hA' => ((hrest.out A' n' c' hn' hc' hA').new ((Upon.refl _ wr).alloc o)).upon (Upon.grown (Upon.refl (fun b => u3.ownBlock = some b) (wr.alloc o)) h2 (fun k hk => .inl hk)) (fun b hb he => Nat.lt_irrefl _ (Nat.lt_of_lt_of_le hb.1 (ho.out.mine b he)))))
      clear hpart hrest ho hdl
      by_cases hec : c = e
      · have hne : n = e := by omega
        subst hec hne
        go_wp2_with (at_builtin; refine wpList_append_lies _ rfl _ _ 93 rfl 0 64 i0 (.slice none 0 0) 1 24 Tryz.underlying93 hi hz0 hz1 hz2 rfl (by decide) _ j vs rfl (hrow.out _) ⟨wr.heap.size, 0, none⟩ 1 1 [.slice (some ⟨b, off, none⟩) n n] rfl rfl ?c1 ?c2 (by decide) ?c3 ?c4 ?c5 _ rfl ?_)
        case c1 => exact World.news_of_block (cell_new wr _)
        case c2 => intro u hu; rw [List.mem_singleton.1 hu]; rfl
        case c3 => unfold maxLen; omega
        case c4 => omega
        case c5 => exact Nat.zero_le _
        intro g cap w' h1 h2 h3 h4
        obtain ⟨hO, hR⟩ := hstep.out _ _ _ _ h1 h2 (h3.imp id fun h => h.trans (by simp))
        replace hO := Lib.hid hO
        replace hR := Lib.hid hR
        clear hstep hrow h1 h2 h3 h4
        go_wp2_with fail
        go_roundw
        case rel => exact ⟨j + 1, _, _, _, _, rfl, by omega, by omega, by omega, Lib.hid (by have := hnj.out; omega), Lib.hid hjn.out, Lib.hid (hR.out _ _ _ (by omega) (by omega) (.inl rfl)), hO⟩
        case measure => simp [lenV]; omega
      · have hce : e < c := by omega
        go_wp2_with (at_builtin; refine wpList_append_lies _ rfl _ _ 93 rfl 0 64 i0 (.slice none 0 0) 1 24 Tryz.underlying93 hi hz0 hz1 hz2 rfl (by decide) _ j vs rfl (hrow.out _) ⟨wr.heap.size, 0, none⟩ 1 1 [.slice (some ⟨b, off, none⟩) e e] rfl rfl ?c1 ?c2 (by decide) ?c3 ?c4 ?c5 _ rfl ?_)
        case c1 => exact World.news_of_block (cell_new wr _)
        case c2 => intro u hu; rw [List.mem_singleton.1 hu]; rfl
        case c3 => unfold maxLen; omega
        case c4 => omega
        case c5 => exact Nat.zero_le _
        intro g cap w' h1 h2 h3 h4
        obtain ⟨hO, hR⟩ := hstep.out _ _ _ _ h1 h2 (h3.imp id fun h => h.trans (by simp))
        replace hO := Lib.hid hO
        replace hR := Lib.hid hR
        clear hstep hrow h1 h2 h3 h4
        go_wp2_with fail
        go_roundw
        case rel => exact ⟨j + 1, _, _, _, _, rfl, by omega, by omega, by omega, Lib.hid (by have := hnj.out; omega), Lib.hid hjn.out, Lib.hid (hR.out _ _ _ (by omega) (by omega) (.inr rfl)), hO⟩
        case measure => simp [lenV]; omega
    · have hjn : Hid (j = nparts l) := Lib.hid (by
        have h1 := hj.out
        have h2 : ¬ j < nparts l := fun h => hlt ((nparts_zero hnj.out).2 h)
        omega)
      have hP := Lib.hid (ho.out.parts hjn.out (fun b hb => Nat.le_trans hu1.out.size hb))
      have hN := Lib.hid (hu1.out.trans ho.out.new)
      have hn0 : n = 0 := by omega
      subst hn0
      clear ho hvr hnj hj hjn hlt
      go_wp2_with fail
      go_ret
      exact ⟨u3, rfl, hP.out, hN.out⟩
end Ck
end Go.Proofs.YtlgjbcmloochiaaGreatDoor
end
