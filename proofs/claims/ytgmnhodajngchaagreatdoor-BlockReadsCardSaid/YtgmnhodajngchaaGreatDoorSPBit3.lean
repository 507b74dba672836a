/- Parts: PBit3. -/
import Derived.Test.YtgmnhodajngchaaGreatDoorSPBit2
import Derived.Test.YtgmnhodajngchaaGreatDoorSPObj
import Derived.Lib.QuietBelow
import Derived.StillTailTactics
set_option maxRecDepth 100000
set_option linter.unusedVariables false
namespace Go.Proofs.YtgmnhodajngchaaGreatDoor
section
section
open Go.RowKit Go.Sort
namespace Bit
open Dsk Ob
def IsRK (w : World) (S : Nat -> Prop) (q : Nat) (K : List Bool) : Prop := ∃ s a e, IsR w S q s a e /\ bitsAt s.data.toList a (e - a) = K
theorem objRK (q : Nat) (K : List Bool) : Thing (fun w S => IsRK w S q K) where
 kept := fun _ _ _ ⟨s, a, e, h, k⟩ hk hs => ⟨s, a, e, h.kept hk hs, k⟩
 lt := fun _ _ ⟨_, _, _, h, _⟩ => h.lt
theorem rkGet_ok (S : Nat -> Prop) (q : Nat) (K : List Bool) (m : Nat) (w : World) (h : IsRK w S q K) (hm : m <= 64) (hle : m <= K.length) :
  Calls Tryz.prog 259 #[.pointer (some ⟨q, 0, none⟩), .int .i64 (m : Int)] w fun x w' => x = .returned (.tuple #[.int .u64 (numOf (K.take m) : Int), .bool true]) /\ ObjStep (fun w S => IsRK w S q (K.drop m)) S w w' := by
 obtain ⟨s, a, e, h, rfl⟩ := h
 rw [bitsAt_length] at hle
 rw [bitsAt_take _ _ _ _ hle, bitsAt_drop _ _ _ _ hle]
 refine (get_ok S q s a e m w h hm hle).mono fun x w' ⟨hx, hs⟩ => ⟨hx, hs.mono fun S' h' => ⟨s, a + m, e, h', ?_⟩⟩
 rw [Nat.sub_sub]
theorem rkGet_no (S : Nat -> Prop) (q : Nat) (K : List Bool) (n : Int) (w : World) (h : IsRK w S q K) (hn : n < 0 \/ 64 < n \/ (K.length : Int) < n) :
  Calls Tryz.prog 259 #[.pointer (some ⟨q, 0, none⟩), .int .i64 n] w fun x w' => x = .returned (.tuple #[.int .u64 0, .bool false]) /\ ObjStep (fun w S => IsRK w S q K) S w w' := by
 obtain ⟨s, a, e, h, rfl⟩ := h
 rw [bitsAt_length] at hn
 have := h.le
 exact (get_no S q s a e n w h (by omega)).mono fun x w' ⟨hx, hs⟩ => ⟨hx, hs.mono fun S' h' => ⟨s, a, e, h', rfl⟩⟩
theorem rkLeft (S : Nat -> Prop) (q : Nat) (K : List Bool) (w : World) (h : IsRK w S q K) :
  Calls Tryz.prog 212 #[.pointer (some ⟨q, 0, none⟩)] w fun x w' => x = .returned (.int .i64 (K.length : Int)) /\ ∃ n, w' = w.drewN n := by
 obtain ⟨s, a, e, h, rfl⟩ := h
 rw [bitsAt_length]
 exact left_any S q s a e w h
end Bit
end
section
open Go.RowKit Go.Sort
namespace Bit
open Dsk Ob
theorem wpList_append_none {ops : Array Oper} {rest : List Oper} {o : Oper} {a : Act} {Q : Exit -> Act -> World -> Prop} {w : World} (hgd : o.guard = none) (s x : Operand) (t : TypeId)
  (ho : o.op = .call { callee := .builtin .append, args := #[s, x], argTypes := #[t, t] }) (e : TypeId) (i : TypeInfo) (ht : Tryz.prog.underlying t = some (.slice e)) (hi : Tryz.prog.info? e = some i)
  (ad : Addr) (n c : Nat) (hs : a.eval s = .slice (some ad) n c) (hnc : n <= c) (ga : Option Addr) (c2 : Nat) (hx : a.eval x = .slice ga 0 c2)
  (h : wpList Tryz.prog ops Q rest (a.put o.dst (.slice (some ad) n c)) w) : wpList Tryz.prog ops Q (o :: rest) a w := by
 refine wpList_plain hgd fun K hK => ?_
 have hr : (Builtin.append_ #[t, t] o.type #[.slice (some ad) n c, .slice ga 0 c2]).run Tryz.prog w = .ok (.slice (some ad) n c) w := by
  cases ga with
  | none => simp [Builtin.append_, run_underlying ht, sizeOf, typeInfo, hi, Builtin.lenOf, Builtin.firstCells, loadCells, storeCells, hnc]
  | some a2 => simp [Builtin.append_, run_underlying ht, sizeOf, typeInfo, hi, Builtin.lenOf, Builtin.firstCells, loadCells, loadCellsFrom, storeCells, hnc]
 unfold Oper.wp execOp
 simp only [ho, resolve, invoke, builtin, Sem.run_bind, Sem.run_pure, Result.andThen_ok, List.map_toArray, List.map_cons, List.map_nil, hs, hx, hr]
 exact hK _ _ h
theorem own_b {X : World} {g : Nat} (h : X.heap[g]? = some (.cells #[] 4 (0, 0))) : X.ownsRow 0 4 1 (.slice (some ⟨g, 0, none⟩) 0 0) 0 [] :=
 ⟨rfl, .inr ⟨g, 0, #[], rfl, Nat.zero_le _, h, Nat.le_refl _, Nat.zero_le _, rfl, rfl⟩⟩
def IsRow (v : Value) (K : List Bool) : Ob.Rel := fun w S => w.ownsRow 0 4 1 v K.length (boolCells K) /\ ∀ x, S x ↔ v.ownBlock = some x
theorem objRow (v : Value) (K : List Bool) : Thing (IsRow v K) := ⟨fun w w' S h hk _ => ⟨ownsRow_kept h.1 fun b hb => hk b ((h.2 b).2 hb), h.2⟩, fun w S h x hx => (h.1.lt x ((h.2 x).1 hx)).2⟩
theorem rowCells {w : World} {v : Value} {K : List Bool} (h : w.ownsRow 0 4 1 v K.length (boolCells K)) : ∃ g c A, v = .slice A K.length c /\ K.length <= c /\ c <= maxLen /\ (0 < K.length -> A = some ⟨g, 0, none⟩) /\ ∀ i (h : i < K.length), w.cell? ⟨g, i, none⟩ = some (.bool K[i]) := by
 have hcells := fun g => World.ownsRow.cells h (g := g)
 rcases h.2 with ⟨hv, h0⟩ | ⟨gb, cap, cur, hv, hb, hg, hnc, hcm, _⟩
 ·exact ⟨0, 0, none, by rw [hv, h0], by omega, Nat.zero_le _, fun hn => by omega, fun i hi => by omega⟩
 ·refine ⟨gb, cap, _, hv, hnc, hcm, fun _ => rfl, fun i hi => ?_⟩
  have := hcells gb (by rw [hv]; rfl) i (.bool K[i]) (by simp [boolCells, hi])
  have e : (⟨gb, 0, none⟩ : Addr).add i = ⟨gb, i, none⟩ := by unfold Addr.add; split <;> simp_all
  rwa [e] at this
theorem perm4 {A B C D : Ob.Rel} {w : World} {S : Nat -> Prop} (h : Tens (Tens (Tens A B) C) D w S) : Tens (Tens A D) (Tens B C) w S :=
 Tens.cossa (Tens.mapR (fun _ k => Tens.swap (Tens.cossa k)) (Tens.assoc (Tens.assoc h)))
structure Fall (I : Ob.Rel) (S : Nat -> Prop) (w w' : World) : Prop where
 obj : ∃ S', I w' S' /\ ∀ b, S' b -> S b \/ w.heap.size <= b
 upon : Upon S w w'
theorem Fall.of {I J : Ob.Rel} {S : Nat -> Prop} {w w' : World} (h : ObjStep I S w w') (k : ∀ S', I w' S' -> ∃ S'', J w' S'' /\ ∀ b, S'' b -> S' b) : Fall J S w w' := by
 obtain ⟨⟨S', h1, h2, h3⟩, hu⟩ := h
 obtain ⟨S'', k1, k2⟩ := k S' h1
 exact ⟨⟨S'', k1, fun b hb => h3 b (k2 b hb)⟩, hu⟩
theorem Fall.own {I : Ob.Rel} {w0 w : World} (h : Own I w0 w) : ∃ S, I w S /\ ∀ (J : Ob.Rel) (w' : World), Fall J S w w' -> Own J w0 w' := by
 obtain ⟨⟨S, h1, h2⟩, hb⟩ := h
 refine ⟨S, h1, fun J w' ⟨⟨S', k1, k3⟩, ku⟩ => ⟨⟨S', k1, fun b hS => ?_⟩, ?_⟩⟩
 ·rcases k3 b hS with h | h
  ·exact h2 b h
  ·exact Nat.le_trans hb.size h
 ·exact hb.trans (ku.below hb.size h2)
theorem Fall.left {I J : Ob.Rel} (hJ : Thing J) {w : World} {S : Nat -> Prop} (h : Tens I J w S) : ∃ A, I w A /\ ∀ (I' : Ob.Rel) (w' : World), Fall I' A w w' -> Fall (Tens I' J) S w w' := by
 obtain ⟨A, B, h1, h2, h3, h4⟩ := h
 refine ⟨A, h1, fun I' w' ⟨⟨A', k1, k3⟩, ku⟩ => ⟨⟨fun b => A' b \/ B b, ⟨A', B, k1, ?_, ?_, fun b => Iff.rfl⟩, ?_⟩, ?_⟩⟩
 ·exact hJ.kept w w' B h2 (fun b hb => ku.block b (hJ.lt w B h2 b hb) (fun ha => h3 b ha hb)) ku.size
 ·intro b ha hb
  rcases k3 b ha with h | h
  ·exact h3 b h hb
  ·have := hJ.lt w B h2 b hb; omega
 ·intro b hb
  rcases hb with hb | hb
  ·exact (k3 b hb).imp (fun h => (h4 b).2 (.inl h)) id
  ·exact .inl ((h4 b).2 (.inr hb))
 ·exact ku.mono fun b _ hb => (h4 b).2 (.inl hb)
theorem Fall.right {I J : Ob.Rel} (hI : Thing I) {w : World} {S : Nat -> Prop} (h : Tens I J w S) : ∃ B, J w B /\ ∀ (J' : Ob.Rel) (w' : World), Fall J' B w w' -> Fall (Tens I J') S w w' := by
 obtain ⟨B, h1, h2⟩ := Fall.left hI h.swap
 refine ⟨B, h1, fun J' w' k => ?_⟩
 obtain ⟨⟨S', a, b⟩, c⟩ := h2 J' w' k
 exact ⟨⟨S', a.swap, b⟩, c⟩
theorem fall_four {A B C D : Ob.Rel} {S : Nat -> Prop} {w w' : World} (h : ObjStep (Tens (Tens A B) (Tens C D)) S w w') : Fall (Tens A C) S w w' :=
 Fall.of h fun S' ⟨X, Y, ⟨a, b, ha, _, d1, i1⟩, ⟨c, d, hc, _, d2, i2⟩, d3, i3⟩ =>
  ⟨fun x => a x \/ c x, ⟨a, c, ha, hc, fun x h1 h2 => d3 x ((i1 x).2 (.inl h1)) ((i2 x).2 (.inl h2)), fun x => Iff.rfl⟩, fun x h => (i3 x).2 (h.imp (fun h => (i1 x).2 (.inl h)) fun h => (i2 x).2 (.inl h))⟩
theorem viewShape {w : World} {S : Nat -> Prop} {v : Value} {K : List Bool} (h : ViewAt w S v K) : ∃ A c, v = .slice A K.length c := by
 rcases h with ⟨e, e2⟩ | ⟨g, off, cap, e, _⟩
 ·exact ⟨none, 0, by rw [e, e2]; rfl⟩
 ·exact ⟨_, cap, e⟩
theorem newRow {w : World} {T : TypeId} : (w.alloc (.cells #[.slice none 0 0] T (0, 0))).heap[w.heap.size]? = some (.cells #[.slice none 0 0] T (0, 0)) := cell_new w _
theorem newRW (w : World) : IsRW (w.alloc (.cells #[.slice none 0 0] 204 (0, 0))) (fun x => x = w.heap.size) w.heap.size [] :=
 ⟨.slice none 0 0, { cell := newRow, row := ⟨rfl, .inl ⟨rfl, rfl⟩⟩, s_q := rfl, s_v := fun b hb => (by cases hb), lt := fun b hb => (by rw [hb]; exact (Array.getElem?_eq_some_iff.1 (newRow (w := w) (T := 204))).1) }⟩
theorem infoBl : (Tryz.prog.info? 4).map (fun i => (i.zero, i.size, i.bytes)) = some (some (.bool false), 1, 1) := by kernel_rfl
theorem int_div_pow (d k : Nat) : ((d : Int) / 2 ^ k) = ((d / 2 ^ k : Nat) : Int) := by rw [Int.natCast_ediv, Int.natCast_pow]; rfl
theorem shl_u64 (d k : Nat) : IntKind.u64.wrap ((d : Int) * 2 ^ k) = ((d * 2 ^ k % 2 ^ 64 : Nat) : Int) := by
 rw [IntKind.wrap_u64, Int.natCast_emod, Int.natCast_mul, Int.natCast_pow]
 rfl
theorem cnt_nat {m : Nat} (h : m <= 64) : cnt (m : Int) = m := by unfold cnt; omega
abbrev New0 (w w' : World) : Prop := Upon (fun _ => False) w w'
theorem New0.cell {w w' : World} (h : New0 w w') {b o : Nat} {v : Value} (hc : w.cell? ⟨b, o, none⟩ = some v) : w'.cell? ⟨b, o, none⟩ = some v :=
 ((h.below (Nat.le_refl _) fun _ f => f.elim).cell (p := ⟨b, o, none⟩) (World.block_lt_of_cell? w _ hc)).trans hc
theorem stepNew {I : Ob.Rel} (hI : Thing I) {S : Nat -> Prop} {w0 w w' : World} (H : ObjStep I S w0 w) (h : New0 w w') : ObjStep I S w0 w' := H.upon0 hI h
theorem preNew {I : Ob.Rel} {S : Nat -> Prop} {w0 w w' : World} (h : New0 w0 w) (H : ObjStep I S w w') : ObjStep I S w0 w' := by
 obtain ⟨⟨S', h1, h2, h3⟩, hu⟩ := H
 exact ⟨⟨S', h1, h2, fun b hb => (h3 b hb).imp id fun hb2 => Nat.le_trans h.size hb2⟩, (h.mono (T := S) fun _ _ f => f.elim).trans hu⟩
theorem cellBeside {I : Ob.Rel} {S : Nat -> Prop} {w w' : World} (H : ObjStep I S w w') {b o : Nat} {v : Value} (hb : ¬ S b) (hc : w.cell? ⟨b, o, none⟩ = some v) : w'.cell? ⟨b, o, none⟩ = some v := by
 have hl := World.block_lt_of_cell? w _ hc
 rw [<- hc, World.cell?, World.cell?, H.upon.block _ hl hb]
theorem frozenBeside {I : Ob.Rel} {S : Nat -> Prop} {w w' : World} (H : ObjStep I S w w') {b o : Nat} (hb : ¬ S b) (hl : b < w.heap.size) (hc : w.frozen? ⟨b, o, none⟩ = false) : w'.frozen? ⟨b, o, none⟩ = false := by
 rw [<- hc, World.frozen?, World.frozen?, H.upon.block _ hl hb]
theorem endBeside {I : Ob.Rel} (hI : Thing I) {S : Nat -> Prop} {w wb w' w'' : World} {g : Nat} (hbox : New0 w wb) (H : ObjStep I S wb w') (hg : ¬ S g) (h1 : w.heap.size <= g) (h2 : g < wb.heap.size) (hu : Upon (fun b => b = g) w' w'') : ObjStep I S w w'' := by
 obtain ⟨⟨S', k1, k2, k3⟩, ku⟩ := H
 refine ⟨⟨S', hI.kept _ _ S' k1 (fun b hb => hu.block b (hI.lt _ S' k1 b hb) fun e => ?_) hu.size, k2, fun b hb => (k3 b hb).imp id fun h => Nat.le_trans hbox.size h⟩, ((hbox.mono (T := S) fun _ _ f => f.elim).trans ku).trans' hu fun i hi e => ?_⟩
 ·subst e
  rcases k3 b hb with h | h
  ·exact hg h
  ·omega
 ·omega
structure Boxed (g : Nat) (a b : Value) (w : World) : Prop where
 c0 : w.cell? ⟨g, 0, none⟩ = some a
 c1 : w.cell? ⟨g, 1, none⟩ = some b
 f0 : w.frozen? ⟨g, 0, none⟩ = false
 f1 : w.frozen? ⟨g, 1, none⟩ = false
theorem Boxed.of {g : Nat} {a b : Value} {w : World} {T : TypeId} (h : w.heap[g]? = some (.cells #[a, b] T (0, 0))) : Boxed g a b w :=
 ⟨(cell2 h).1, (cell2 h).2.1, (cell2 h).2.2 0, (cell2 h).2.2 1⟩
theorem Boxed.beside {g : Nat} {a b : Value} {I : Ob.Rel} {S : Nat -> Prop} {w w' : World} (h : Boxed g a b w) (H : ObjStep I S w w') (hb : ¬ S g) : Boxed g a b w' :=
 have hl := World.block_lt_of_cell? w _ h.c0
 ⟨cellBeside H hb h.c0, cellBeside H hb h.c1, frozenBeside H hb hl h.f0, frozenBeside H hb hl h.f1⟩
theorem World.set_other {w : World} {g : Nat} {o o2 : Nat} {v x : Value} (hne : o2 ≠ o) (h : w.cell? ⟨g, o, none⟩ = some x) : (w.setCell ⟨g, o2, none⟩ v).cell? ⟨g, o, none⟩ = some x :=
 (World.cell?_setCell_other w _ _ _ (by intro e; injection e with _ e2; exact hne (by first | exact e2 | exact e2.symm))).trans h
theorem Boxed.set {g : Nat} {a b : Value} {w : World} (h : Boxed g a b w) (x y : Value) : (w.setCell ⟨g, 0, none⟩ x).cell? ⟨g, 1, none⟩ = some b /\ (w.setCell ⟨g, 0, none⟩ x).frozen? ⟨g, 1, none⟩ = false /\ ((w.setCell ⟨g, 0, none⟩ x).setCell ⟨g, 1, none⟩ y).cell? ⟨g, 0, none⟩ = some x /\ ((w.setCell ⟨g, 0, none⟩ x).setCell ⟨g, 1, none⟩ y).cell? ⟨g, 1, none⟩ = some y := by
 have h1 : (w.setCell ⟨g, 0, none⟩ x).cell? ⟨g, 1, none⟩ = some b := World.set_other (by decide) h.c1
 refine ⟨h1, ?_, World.set_other (by decide) (World.cell?_setCell_same w _ _ h.c0), World.cell?_setCell_same _ _ _ h1⟩
 exact (World.frozen?_setCell w _ _ _).trans h.f1
theorem upon_set2 (w : World) (g : Nat) (x y : Value) : Upon (fun b => b = g) w ((w.setCell ⟨g, 0, none⟩ x).setCell ⟨g, 1, none⟩ y) :=
 Upon.setCell (S := fun b => b = g) (p := ⟨g, 1, none⟩) (Upon.setCell (S := fun b => b = g) (p := ⟨g, 0, none⟩) (Upon.refl _ w) (.inl rfl) x) (.inl rfl) y
theorem rkStep {S : Nat -> Prop} {w0 w : World} {p : Nat} {K K' : List Bool} {x : Nat} (H : ObjStep (fun w S => IsRK w S p K) S w0 w) (m : Nat) (hm : m <= 64) (hle : m <= K.length) (hx : numOf (K.take m) = x) (e : K.drop m = K') :
  Calls Tryz.prog 259 #[.pointer (some ⟨p, 0, none⟩), .int .i64 (m : Int)] w fun e w' => e = .returned (.tuple #[.int .u64 (x : Int), .bool true]) /\ ObjStep (fun w S => IsRK w S p K') S w0 w' := by
 subst e; subst hx
 exact callW (Q := fun e => e = .returned (.tuple #[.int .u64 (numOf (K.take m) : Int), .bool true])) H fun A h => rkGet_ok A p K m w h hm hle
theorem rkStepNo {S : Nat -> Prop} {w0 w : World} {p : Nat} {K : List Bool} (H : ObjStep (fun w S => IsRK w S p K) S w0 w) (m : Nat) (hle : K.length < m) :
  Calls Tryz.prog 259 #[.pointer (some ⟨p, 0, none⟩), .int .i64 (m : Int)] w fun e w' => e = .returned (.tuple #[.int .u64 0, .bool false]) /\ ObjStep (fun w S => IsRK w S p K) S w0 w' :=
 callW (Q := fun e => e = .returned (.tuple #[.int .u64 0, .bool false])) H fun A h => rkGet_no A p K m w h (by omega)
theorem belowOf {w w' : World} (h : New0 w w') : Below w.heap.size w w' := h.below (Nat.le_refl _) fun _ f => f.elim
theorem newOf {w w' : World} (h : Below w.heap.size w w') : New0 w w' := Upon.of_below h _
theorem boxStart {I : Ob.Rel} (hI : Thing I) {S : Nat -> Prop} {w w3 : World} (H : ObjStep I S w w3) (a b : Value) (T : TypeId) :
  ∃ S', I (w3.alloc (.cells #[a, b] T (0, 0))) S' /\ (∀ (J : Ob.Rel) (c : World), ObjStep J S' (w3.alloc (.cells #[a, b] T (0, 0))) c -> ObjStep J S w c) /\ ¬ S' w3.heap.size /\ Boxed w3.heap.size a b (w3.alloc (.cells #[a, b] T (0, 0))) /\ ∀ x, S' x -> S x \/ w.heap.size <= x := by
 have hu : New0 w3 (w3.alloc (.cells #[a, b] T (0, 0))) := (Upon.refl _ w3).alloc _
 obtain ⟨⟨S', h1, h2, h3⟩, hw⟩ := H
 have go : ∀ (J : Ob.Rel) (c : World), ObjStep J S' w3 c -> ObjStep J S w c := fun J c k => ObjStep.then (I := fun w T => w = w3 /\ T = S') ⟨⟨S', ⟨rfl, rfl⟩, h2, h3⟩, hw⟩ (fun T hT => by rw [hT.2]; exact k)
 exact ⟨S', hI.kept _ _ S' h1 (fun b hb => hu.block b (hI.lt w3 S' h1 b hb) fun f => f) hu.size, fun J c h => go J c (preNew hu h), fun hs => by have := hI.lt w3 S' h1 _ hs; omega, Boxed.of (cell_new w3 _), h3⟩
theorem ret_ub {a b : Int} {x y : Bool} (h : a = b) (k : x = y) : Ending.returned (.tuple #[.int .u64 a, .bool x]) = .returned (.tuple #[.int .u64 b, .bool y]) := by rw [h, k]
theorem shl_u (d k : Nat) : IntKind.u64.wrap ((d : Int) * 2 ^ k) = ((d * 2 ^ k % 2 ^ 64 : Nat) : Int) := by
 rw [IntKind.wrap_u64, Int.natCast_emod, Int.natCast_mul, Int.natCast_pow]
 rfl
end Bit
end
end
end Go.Proofs.YtgmnhodajngchaaGreatDoor
