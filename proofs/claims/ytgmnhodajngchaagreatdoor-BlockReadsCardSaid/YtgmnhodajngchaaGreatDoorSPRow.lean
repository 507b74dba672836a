/- Parts: PRow. -/
import Derived.Test.YtgmnhodajngchaaGreatDoorSArgNums
import Derived.Test.YtgmnhodajngchaaGreatDoorSPDig
import Derived.Test.YtgmnhodajngchaaGreatDoorSPBit3
import Derived.Test.YtgmnhodajngchaaGreatDoorSPObj
import Derived.Deep.AppendLies
import Derived.Deep.Slices
set_option maxRecDepth 100000
set_option linter.unusedVariables false
namespace Go.Proofs.YtgmnhodajngchaaGreatDoor
section
section
open Go.RowKit Go.Sort
namespace Rw
open Bit Dsk Ob Dig
structure Lay (α : Type) where
 k : Nat
 pos : 0 < k
 enc : α -> List Value
 len : ∀ a, (enc a).length = k
 one : ∀ a, ∀ u ∈ enc a, u.oneCell' = true
def cells {α : Type} (L : Lay α) (l : List α) : List Value := l.flatMap L.enc
theorem cells_cons {α : Type} (L : Lay α) (p : α) (l : List α) : cells L (p :: l) = L.enc p ++ cells L l := by simp [cells]
theorem cells_app {α : Type} (L : Lay α) (a b : List α) : cells L (a ++ b) = cells L a ++ cells L b := by simp [cells]
theorem cells_len {α : Type} (L : Lay α) : ∀ l : List α, (cells L l).length = l.length * L.k
 | [] => by simp [cells]
 | p :: l => by rw [cells_cons, List.length_append, L.len, cells_len L l, List.length_cons, Nat.succ_mul]; omega
theorem cells_get {α : Type} (L : Lay α) : ∀ (l : List α) (i : Nat) (h : i < l.length) (t : Nat), t < L.k -> (cells L l)[i * L.k + t]? = (L.enc l[i])[t]?
 | p :: l, 0, _, t, ht => by rw [cells_cons, List.getElem?_append_left (by rw [L.len]; omega)]; simp
 | p :: l, i + 1, h, t, ht => by
  have := cells_get L l i (by simpa using h) t ht
  rw [cells_cons, List.getElem?_append_right (by rw [L.len, Nat.succ_mul]; omega), L.len, show (i + 1) * L.k + t - L.k = i * L.k + t by rw [Nat.succ_mul]; omega, this]
  rfl
theorem cells_one {α : Type} (L : Lay α) (l : List α) : ∀ u ∈ cells L l, u.oneCell' = true := fun u hu => by
 obtain ⟨p, _, hp⟩ := List.mem_flatMap.1 hu
 exact L.one p u hp
theorem cells_inv {α : Type} (L : Lay α) {l : List α} {j : Nat} {u : Value} (h : (cells L l)[j]? = some u) : ∃ (i t : Nat) (hi : i < l.length), t < L.k /\ j = i * L.k + t /\ (L.enc l[i])[t]? = some u := by
 have hj : j < l.length * L.k := by rw [<- cells_len]; exact (List.getElem?_eq_some_iff.1 h).1
 have hi : j / L.k < l.length := Nat.div_lt_of_lt_mul (by rw [Nat.mul_comm]; exact hj)
 have ht : j % L.k < L.k := Nat.mod_lt _ L.pos
 have e : j = j / L.k * L.k + j % L.k := by rw [Nat.mul_comm]; exact (Nat.div_add_mod j L.k).symm
 refine ⟨j / L.k, j % L.k, hi, ht, e, ?_⟩
 rw [<- cells_get L l _ hi _ ht, <- e]; exact h
def View {α : Type} (L : Lay α) (w : World) (S : Nat -> Prop) (v : Value) (l : List α) : Prop :=
 ∃ A c, v = .slice A l.length c /\ l.length <= c /\ c <= maxLen /\ (0 < l.length -> ∃ b off, A = some ⟨b, off, none⟩ /\ S b /\ ∀ i (h : i < l.length) t u, (L.enc l[i])[t]? = some u -> w.cell? ⟨b, off + i * L.k + t, none⟩ = some u)
abbrev All : Nat -> Prop := fun _ => True
theorem first {α : Type} (L : Lay α) (a : α) : ∃ u, (L.enc a)[0]? = some u := ⟨_, List.getElem?_eq_getElem (by rw [L.len]; exact L.pos)⟩
theorem View.upon {α : Type} {L : Lay α} {w w' : World} {S T : Nat -> Prop} {v : Value} {l : List α} (h : View L w S v l) (hu : Upon T w w') (hd : ∀ b, S b -> ¬ T b) : View L w' S v l :=
 let ⟨A, c, h1, h2, h3, h4⟩ := h
 ⟨A, c, h1, h2, h3, fun hp => let ⟨b, off, k1, k2, k3⟩ := h4 hp
  have ⟨u, hu0⟩ := first L (l[0]'hp)
  have hb := hu.block b (World.block_lt_of_cell? w _ (k3 0 hp 0 u hu0)) (hd b k2)
  ⟨b, off, k1, k2, fun i hi t u ht => by rw [<- k3 i hi t u ht, World.cell?, World.cell?, hb]⟩⟩
theorem View.new {α : Type} {L : Lay α} {w w' : World} {S : Nat -> Prop} {v : Value} {l : List α} (h : View L w S v l) (hu : New0 w w') : View L w' S v l := h.upon hu fun _ _ f => f
theorem View.mono {α : Type} {L : Lay α} {w : World} {S S' : Nat -> Prop} {v : Value} {l : List α} (h : View L w S v l) (hS : ∀ b, b < w.heap.size -> S b -> S' b) : View L w S' v l :=
 let ⟨A, c, h1, h2, h3, h4⟩ := h
 ⟨A, c, h1, h2, h3, fun hp => let ⟨b, off, k1, k2, k3⟩ := h4 hp
  have ⟨u, hu0⟩ := first L (l[0]'hp)
  ⟨b, off, k1, hS b (World.block_lt_of_cell? w _ (k3 0 hp 0 u hu0)) k2, k3⟩⟩
theorem View.all {α : Type} {L : Lay α} {w : World} {S : Nat -> Prop} {v : Value} {l : List α} (h : View L w S v l) : View L w All v l := h.mono fun _ _ _ => trivial
theorem View.shape {α : Type} {L : Lay α} {w : World} {S : Nat -> Prop} {v : Value} {l : List α} (h : View L w S v l) : ∃ A c, v = .slice A l.length c /\ l.length <= c /\ c <= maxLen := let ⟨A, c, h1, h2, h3, _⟩ := h; ⟨A, c, h1, h2, h3⟩
theorem View.open {α : Type} {L : Lay α} {w : World} {S : Nat -> Prop} {A : Option Addr} {n c : Nat} {l : List α} (h : View L w S (.slice A n c) l) (hp : 0 < l.length) : ∃ b off, A = some ⟨b, off, none⟩ /\ S b /\ b < w.heap.size /\ ∀ i (h : i < l.length) t u, (L.enc l[i])[t]? = some u -> w.cell? ⟨b, off + i * L.k + t, none⟩ = some u := by
 obtain ⟨A', c', h1, h2, h3, h4⟩ := h
 injection h1 with h1
 subst h1
 obtain ⟨b, off, k1, k2, k3⟩ := h4 hp
 obtain ⟨u, hu0⟩ := first L (l[0]'hp)
 exact ⟨b, off, k1, k2, World.block_lt_of_cell? w _ (k3 0 hp 0 u hu0), k3⟩
theorem View.noth {α : Type} (L : Lay α) (w : World) (S : Nat -> Prop) : View L w S (.slice none 0 0) [] := ⟨_, 0, rfl, Nat.le_refl _, Nat.zero_le _, fun h => absurd h (by simp)⟩
def Mine {α : Type} (L : Lay α) (T : TypeId) (w : World) (v : Value) (l : List α) : Prop := w.ownsRow 0 T L.k v l.length (cells L l)
theorem Mine.nil {α : Type} (L : Lay α) (T : TypeId) (w : World) : Mine L T w (.slice none 0 0) [] := ⟨by simp [cells], .inl ⟨rfl, rfl⟩⟩
theorem Mine.view {α : Type} {L : Lay α} {T : TypeId} {w : World} {v : Value} {l : List α} (h : Mine L T w v l) : View L w (fun b => v.ownBlock = some b) v l := by
 have hcells := fun g => World.ownsRow.cells h (g := g)
 rcases h.2 with ⟨hv, h0⟩ | ⟨gb, cap, cur, hv, hb, hg, hnc, hcm, _⟩
 ·exact ⟨none, 0, by rw [hv, h0], by omega, Nat.zero_le _, fun hp => by omega⟩
 ·refine ⟨_, cap, hv, hnc, hcm, fun _ => ⟨gb, 0, rfl, by rw [hv]; rfl, fun i hi t u ht => ?_⟩⟩
  have htk : t < L.k := by have := (List.getElem?_eq_some_iff.1 ht).1; rwa [L.len] at this
  have e1 := cells_get L l i hi t htk
  have k1 := hcells gb (by rw [hv]; rfl) _ _ (e1.trans ht)
  rw [Arg.addr_plain] at k1
  rw [Nat.add_assoc]
  exact k1
theorem Mine.kept {α : Type} {L : Lay α} {T : TypeId} {w w' : World} {v : Value} {l : List α} (h : Mine L T w v l) (hk : ∀ b, v.ownBlock = some b -> w'.heap[b]? = w.heap[b]?) : Mine L T w' v l := ownsRow_kept h hk
theorem Mine.lt {α : Type} {L : Lay α} {T : TypeId} {w : World} {v : Value} {l : List α} (h : Mine L T w v l) {b : Nat} (hb : v.ownBlock = some b) : b < w.heap.size := (World.ownsRow.lt h b hb).2
theorem Mine.new {α : Type} {L : Lay α} {T : TypeId} {w w' : World} {v : Value} {l : List α} (h : Mine L T w v l) (hu : New0 w w') : Mine L T w' v l := h.kept fun b hb => hu.block b (h.lt hb) fun f => f
theorem Mine.upon {α : Type} {L : Lay α} {T : TypeId} {w w' : World} {U : Nat -> Prop} {v : Value} {l : List α} (h : Mine L T w v l) (hu : Upon U w w') (hd : ∀ b, v.ownBlock = some b -> ¬ U b) : Mine L T w' v l := h.kept fun b hb => hu.block b (h.lt hb) (hd b hb)
theorem View.news {α : Type} {L : Lay α} {w : World} {S : Nat -> Prop} {v : Value} {l : List α} (h : View L w S v l) (hp : 0 < l.length) : ∃ ad c, v = .slice (some ad) l.length c /\ ∀ j u, (cells L l)[j]? = some u -> w.cell? (ad.add j) = some u := by
 obtain ⟨A, c, rfl, h2, h3, h4⟩ := h
 obtain ⟨b, off, rfl, k2, k3⟩ := h4 hp
 refine ⟨⟨b, off, none⟩, c, rfl, fun j u hj => ?_⟩
 obtain ⟨i, t, hi, ht, rfl, hu⟩ := cells_inv L hj
 rw [Arg.addr_plain, <- Nat.add_assoc]
 exact k3 i hi t u hu
structure Typ {α : Type} (L : Lay α) (sT T : TypeId) (bytes : Nat) : Prop where
 under : Tryz.prog.underlying sT = some (.slice T)
 info : ∃ i z, Tryz.prog.info? T = some i /\ i.zero = some z /\ i.size = L.k /\ i.bytes = bytes /\ z.cells.size = L.k
theorem Typ.mk' {α : Type} {L : Lay α} {sT T : TypeId} {bytes : Nat} {z : Value} (h : Tryz.prog.underlying sT = some (.slice T)) (hi : (Tryz.prog.info? T).map (fun i => (i.zero, i.size, i.bytes)) = some (some z, L.k, bytes)) (hz : z.cells.size = L.k) : Typ L sT T bytes := by
 obtain ⟨i0, h1, h2, h3, h4⟩ := info_parts hi
 exact ⟨h, i0, z, h1, h2, h3, h4, hz⟩
theorem run_append {α : Type} {L : Lay α} {sT T : TypeId} {bytes : Nat} (ty : Typ L sT T bytes) {w : World} {v x : Value} {l m : List α} {S : Nat -> Prop} (hown : Mine L T w v l) (hx : View L w S x m) (hlen : (l.length + m.length) * bytes <= 140737488355328) (hcount : l.length + m.length <= 140737488355328) (ty' : TypeId) :
  ∃ v' w', (Builtin.append_ #[sT, sT] ty' #[v, x]).run Tryz.prog w = .ok v' w' /\ Mine L T w' v' (l ++ m) /\ w.grownBy w' v.ownBlock /\ (v'.ownBlock = v.ownBlock \/ v'.ownBlock = some w.heap.size) := by
 obtain ⟨hu, i0, z, hi, hz0, hz1, hz2, hz3⟩ := ty
 by_cases hp : 0 < m.length
 ·obtain ⟨ad, c, rfl, hnews⟩ := hx.news hp
  obtain ⟨g, cap, w', hr, h2, h3, h4, h5⟩ := run_append_lies (P := Tryz.prog) w sT ty' 0 T i0 z L.k bytes hu hi hz0 hz1 hz2 hz3 L.pos v l.length (cells L l) hown ad m.length c (cells L m) (cells_len L m) hnews (cells_one L m) hp (by unfold maxLen; omega) hlen (Nat.zero_le _) _ rfl
  refine ⟨_, w', hr, ?_, h3, ?_⟩
  ·unfold Mine; rw [List.length_append, cells_app]; exact h2
  ·rcases h4 with h4 | h4
   ·exact .inl h4.symm
   ·right; rw [h4]; rfl
 ·have hm : m = [] := by cases m with | nil => rfl | cons a b => simp at hp
  subst hm
  obtain ⟨A, c, rfl, -, -, -⟩ := hx
  refine ⟨v, w, ?_, by rw [List.append_nil]; exact hown, World.grownBy.refl _ _, .inl rfl⟩
  rcases hown.2 with ⟨hv, h0⟩ | ⟨gb, cap, cur, hv, hb, hg, hnc, hcm, _⟩
  ·subst hv
   cases A with
   | none => simp [Builtin.append_, run_underlying hu, sizeOf, typeInfo, hi, Builtin.lenOf, Builtin.firstCells]
   | some a2 => simp [Builtin.append_, run_underlying hu, sizeOf, typeInfo, hi, Builtin.lenOf, Builtin.firstCells, loadCells, loadCellsFrom]
  ·subst hv
   cases A with
   | none => simp [Builtin.append_, run_underlying hu, sizeOf, typeInfo, hi, Builtin.lenOf, Builtin.firstCells, loadCells, storeCells, hnc]
   | some a2 => simp [Builtin.append_, run_underlying hu, sizeOf, typeInfo, hi, Builtin.lenOf, Builtin.firstCells, loadCells, loadCellsFrom, storeCells, hnc]
theorem wpList_append {α : Type} {L : Lay α} {sT T : TypeId} {bytes : Nat} (ty : Typ L sT T bytes) {w : World} {ops : Array Oper} {rest : List Oper} {o : Oper} {a : Act} {Q : Exit -> Act -> World -> Prop} (hgd : o.guard = none) (sl x : Operand)
  (ho : o.op = .call { callee := .builtin .append, args := #[sl, x], argTypes := #[sT, sT] })
  (v xv : Value) (l m : List α) (S : Nat -> Prop) (hs : a.eval sl = v) (hx : a.eval x = xv) (hown : Mine L T w v l) (hxv : View L w S xv m) (hlen : (l.length + m.length) * bytes <= 140737488355328) (hcount : l.length + m.length <= 140737488355328)
  (hK : ∀ v' w', Mine L T w' v' (l ++ m) -> w.grownBy w' v.ownBlock -> (v'.ownBlock = v.ownBlock \/ v'.ownBlock = some w.heap.size) -> wpList Tryz.prog ops Q rest (a.put o.dst v') w') : wpList Tryz.prog ops Q (o :: rest) a w := by
 refine wpList_plain hgd fun K hK' => ?_
 obtain ⟨v', w', hr, h2, h3, h4⟩ := run_append ty hown hxv hlen hcount o.type
 unfold Oper.wp execOp
 simp only [ho, resolve, invoke, builtin, Sem.run_bind, Sem.run_pure, Result.andThen_ok, List.map_toArray, List.map_cons, List.map_nil, hs, hx, hr]
 exact hK' _ _ (hK v' w' h2 h3 h4)
theorem step_append {α : Type} {L : Lay α} {sT T : TypeId} {bytes : Nat} (ty : Typ L sT T bytes) {w : World} {ops : Array Oper} {o : Oper} {a : Act} {K : Act -> World -> Prop} {Q : Exit -> Act -> World -> Prop} {E : Prop} (hgd : o.guard = none) (sl x : Operand)
  (ho : o.op = .call { callee := .builtin .append, args := #[sl, x], argTypes := #[sT, sT] })
  (v xv : Value) (l m : List α) (S : Nat -> Prop) (hs : a.eval sl = v) (hx : a.eval x = xv) (hown : Mine L T w v l) (hxv : View L w S xv m) (hlen : (l.length + m.length) * bytes <= 140737488355328) (hcount : l.length + m.length <= 140737488355328)
  (h : ∀ v' w', Mine L T w' v' (l ++ m) -> w.grownBy w' v.ownBlock -> (v'.ownBlock = v.ownBlock \/ v'.ownBlock = some w.heap.size) -> K (a.put o.dst v') w') :
  if Region.wanted o (yielded ops a.tmps) = true then Oper.wp Tryz.prog o a w K Q else E := by
 have hw : Region.wanted o (yielded ops a.tmps) = true := by simp [Region.wanted, hgd]
 rw [if_pos hw]
 obtain ⟨v', w', hr, h2, h3, h4⟩ := run_append ty hown hxv hlen hcount o.type
 unfold Oper.wp execOp
 simp only [ho, resolve, invoke, builtin, Sem.run_bind, Sem.run_pure, Result.andThen_ok, List.map_toArray, List.map_cons, List.map_nil, hs, hx, hr]
 exact h v' w' h2 h3 h4
def RowO {α : Type} (L : Lay α) (T : TypeId) (v : Value) (l : List α) : Ob.Rel := fun w S => Mine L T w v l /\ (∀ x, v.ownBlock = some x -> S x) /\ ∀ x, S x -> x < w.heap.size
theorem thingRow {α : Type} (L : Lay α) (T : TypeId) (v : Value) (l : List α) : Thing (RowO L T v l) :=
 ⟨fun w w' S h hk hs => ⟨h.1.kept fun b hb => hk b (h.2.1 b hb), h.2.1, fun x hx => Nat.lt_of_lt_of_le (h.2.2 x hx) hs⟩, fun w S h x hx => h.2.2 x hx⟩
theorem RowO.append {α : Type} {L : Lay α} {T : TypeId} {w w' : World} {S : Nat -> Prop} {v v' : Value} {l m : List α} (h : RowO L T v l w S) (hown : Mine L T w' v' m) (hg : w.grownBy w' v.ownBlock) (hb : v'.ownBlock = v.ownBlock \/ v'.ownBlock = some w.heap.size) : ObjStep (RowO L T v' m) S w w' := by
 refine ⟨⟨fun x => S x \/ v'.ownBlock = some x, ⟨hown, fun x hx => .inr hx, fun x hx => ?_⟩, fun b hb => .inl hb, fun b hb2 => ?_⟩, Upon.grown (Upon.refl _ w) hg fun k hk => .inl (h.2.1 k hk)⟩
 ·rcases hx with hx | hx
  ·exact Nat.lt_of_lt_of_le (h.2.2 x hx) hg.size
  ·exact hown.lt hx
 ·rcases hb2 with hb2 | hb2
  ·exact .inl hb2
  ·rcases hb with hb | hb
   ·exact .inl (h.2.1 b (by rw [<- hb]; exact hb2))
   ·rw [hb2] at hb
    have : b = w.heap.size := by simpa using hb
    right; omega
theorem rowAppend {α : Type} {L : Lay α} {T : TypeId} {I : Ob.Rel} (hI : Thing I) {w0 w w' : World} {v v' : Value} {l m : List α} (H : Own (Tens I (RowO L T v l)) w0 w) (hown : Mine L T w' v' m) (hg : w.grownBy w' v.ownBlock) (hb : v'.ownBlock = v.ownBlock \/ v'.ownBlock = some w.heap.size) : Own (Tens I (RowO L T v' m)) w0 w' := by
 obtain ⟨A, h, go⟩ := H.right hI
 exact go _ _ (h.append hown hg hb)
theorem rowNone {α : Type} (L : Lay α) (T : TypeId) {I : Ob.Rel} (hI : Thing I) {w0 w : World} (H : Own I w0 w) : Own (Tens I (RowO L T (.slice none 0 0) [])) w0 w :=
 Own.new hI H (T := fun _ => False) ⟨Mine.nil L T w, fun x hx => (by cases hx), fun x hx => hx.elim⟩ (fun x hx => hx.elim) (Upon.refl _ w)
theorem rowMade {α : Type} {L : Lay α} {T : TypeId} {I : Ob.Rel} (hI : Thing I) {w0 w w' : World} {n : Nat} (H : Own I w0 w) (hrow : w'.ownsRow 0 T L.k (.slice (some ⟨w.heap.size, 0, none⟩) 0 n) 0 []) (hg : w.grownBy w' none) : Own (Tens I (RowO L T (.slice (some ⟨w.heap.size, 0, none⟩) 0 n) [])) w0 w' :=
 Own.new hI H (T := fun x => x = w.heap.size) ⟨hrow, fun x hx => (by simpa [Value.ownBlock, eq_comm] using hx), fun x hx => by rw [hx]; exact (World.ownsRow.lt hrow _ rfl).2⟩ (fun x hx => by rw [hx]; exact Nat.le_refl _) (Upon.grown (Upon.refl _ w) hg fun k hk => (by cases hk))
theorem rowSee {α : Type} {L : Lay α} {T : TypeId} {I : Ob.Rel} {w0 w : World} {v : Value} {l : List α} (H : Own (Tens I (RowO L T v l)) w0 w) : Mine L T w v l := by
 obtain ⟨S, h⟩ := H.seeR
 exact h.1
def Box2 (T : TypeId) (g : Nat) (a b : Value) : Ob.Rel := fun w S => w.heap[g]? = some (.cells #[a, b] T (0, 0)) /\ ∀ x, S x ↔ x = g
theorem thingBox2 (T : TypeId) (g : Nat) (a b : Value) : Thing (Box2 T g a b) := ⟨fun w w' S h hk _ => ⟨(hk g ((h.2 g).2 rfl)).trans h.1, h.2⟩, fun w S h x hx => by rw [(h.2 x).1 hx]; exact (Array.getElem?_eq_some_iff.1 h.1).1⟩
theorem box2Own {w0 w : World} (hb : Below w0.heap.size w0 w) (a b : Value) (T : TypeId) : Own (Box2 T w.heap.size a b) w0 (w.alloc (.cells #[a, b] T (0, 0))) :=
 Own.made (S := fun x => x = w.heap.size) hb ⟨cell_new w _, fun _ => Iff.rfl⟩ (fun x hx => by rw [hx]; exact Nat.le_refl _) ((Upon.refl _ w).alloc _)
theorem box2See {T : TypeId} {g : Nat} {a b : Value} {w : World} {S : Nat -> Prop} (h : Box2 T g a b w S) : Boxed g a b w := Boxed.of h.1
theorem box2Set10 {T : TypeId} {g : Nat} {a b x y : Value} {w w' : World} {S : Nat -> Prop} (h : Box2 T g a b w S) (hu : New0 w w') : ObjStep (Box2 T g x y) S w ((w'.setCell ⟨g, 1, none⟩ y).setCell ⟨g, 0, none⟩ x) := by
 have hS : S g := (h.2 g).2 rfl
 have hb : w'.heap[g]? = w.heap[g]? := hu.block g (Array.getElem?_eq_some_iff.1 h.1).1 (fun f => f)
 refine ⟨⟨S, ⟨?_, h.2⟩, fun _ h => h, fun _ h => .inl h⟩, ?_⟩
 ·simp [World.setCell, Array.getElem?_modify, hb, h.1]
 ·have h0 : Upon S w w' := hu.mono fun _ _ f => f.elim
  exact Upon.setCell (p := ⟨g, 0, none⟩) (Upon.setCell (p := ⟨g, 1, none⟩) h0 (.inl hS) y) (.inl hS) x
theorem box2Set1 {T : TypeId} {g : Nat} {a b y : Value} {w w' : World} {S : Nat -> Prop} (h : Box2 T g a b w S) (hu : New0 w w') : ObjStep (Box2 T g a y) S w (w'.setCell ⟨g, 1, none⟩ y) := by
 have hS : S g := (h.2 g).2 rfl
 have hb : w'.heap[g]? = w.heap[g]? := hu.block g (Array.getElem?_eq_some_iff.1 h.1).1 (fun f => f)
 refine ⟨⟨S, ⟨?_, h.2⟩, fun _ h => h, fun _ h => .inl h⟩, ?_⟩
 ·simp [World.setCell, Array.getElem?_modify, hb, h.1]
 ·have h0 : Upon S w w' := hu.mono fun _ _ f => f.elim
  exact Upon.setCell (p := ⟨g, 1, none⟩) h0 (.inl hS) y
theorem grown_new {w w' : World} {v v' : Value} (hg : w.grownBy w' v.ownBlock) {B : Nat} (hv : ∀ g, v.ownBlock = some g -> B <= g) (w0 : World) (hB : w0.heap.size <= B) (h : New0 w0 w) : New0 w0 w' := Upon.grown h hg (fun k hk => .inr (Nat.le_trans hB (hv k hk)))
end Rw
end
section
open Go.RowKit Go.ChangeShapes Go.WideShapes
namespace Rw
open Bit Dsk Ob Dig
end Rw
end
section
open Go.RowKit Go.ChangeShapes Go.WideShapes
namespace Rw
open Bit Dsk Ob Dig
structure Sl where
 a : Option Addr
 n : Nat
 c : Nat
abbrev Sl.v (s : Sl) : Value := .slice s.a s.n s.c
structure Inner (α β : Type) where
 rel : World -> (Nat -> Prop) -> α -> β -> Prop
 upon : ∀ {w w' : World} {S T : Nat -> Prop} {a : α} {b : β}, rel w S a b -> Upon T w w' -> (∀ x, S x -> ¬ T x) -> rel w' S a b
 mono : ∀ {w : World} {S S' : Nat -> Prop} {a : α} {b : β}, rel w S a b -> (∀ x, x < w.heap.size -> S x -> S' x) -> rel w S' a b
def DView {α β : Type} (L : Lay α) (I : Inner α β) (w : World) (S : Nat -> Prop) (v : Value) (l : List β) : Prop :=
 ∃ rs, View L w S v rs /\ rs.length = l.length /\ ∀ i (h1 : i < rs.length) (h2 : i < l.length), I.rel w S rs[i] l[i]
section
variable {α β : Type} {L : Lay α} {I : Inner α β} {w w' : World} {S S' T : Nat -> Prop} {v : Value} {l : List β}
theorem DView.upon (h : DView L I w S v l) (hu : Upon T w w') (hd : ∀ b, S b -> ¬ T b) : DView L I w' S v l :=
 let ⟨rs, h1, h2, h3⟩ := h
 ⟨rs, h1.upon hu hd, h2, fun i k1 k2 => I.upon (h3 i k1 k2) hu hd⟩
theorem DView.mono (h : DView L I w S v l) (hS : ∀ b, b < w.heap.size -> S b -> S' b) : DView L I w S' v l :=
 let ⟨rs, h1, h2, h3⟩ := h
 ⟨rs, h1.mono hS, h2, fun i k1 k2 => I.mono (h3 i k1 k2) hS⟩
theorem DView.shape (h : DView L I w S v l) : ∃ A c, v = .slice A l.length c /\ l.length <= c /\ c <= maxLen := by
 obtain ⟨rs, h1, h2, -⟩ := h
 obtain ⟨A, c, e, k1, k2⟩ := h1.shape
 rw [h2] at e k1
 exact ⟨A, c, e, k1, k2⟩
theorem DView.noth (L : Lay α) (I : Inner α β) (w : World) (S : Nat -> Prop) : DView L I w S (.slice none 0 0) [] := ⟨[], View.noth _ _ _, rfl, fun i h => absurd h (by simp)⟩
theorem DView.open {A : Option Addr} {n c : Nat} (h : DView L I w S (.slice A n c) l) (hp : 0 < l.length) : ∃ b off, A = some ⟨b, off, none⟩ /\ b < w.heap.size /\
  ∀ i (hi : i < l.length), ∃ r, I.rel w S r l[i] /\ ∀ t u, (L.enc r)[t]? = some u -> w.cell? ⟨b, off + i * L.k + t, none⟩ = some u := by
 obtain ⟨rs, h1, h2, h3⟩ := h
 obtain ⟨b, off, k1, -, k2, k3⟩ := View.open h1 (by omega)
 exact ⟨b, off, k1, k2, fun i hi => ⟨rs[i]'(by omega), h3 i (by omega) hi, k3 i (by omega)⟩⟩
end
end Rw
end
section
open Go.RowKit
namespace Rw
open Bit Dsk Ob Dig
theorem Mine.typ {α : Type} {L : Lay α} {T : TypeId} {w : World} {v : Value} {l : List α} (h : Mine L T w v l) {g : Nat} (hg : v.ownBlock = some g) : ∃ cs, w.heap[g]? = some (.cells cs T (0, 0)) := by
 rcases h.2 with ⟨hv, h0⟩ | ⟨g', c', cur, hv, -, hb, -⟩
 ·rw [hv] at hg; cases hg
 ·rw [hv] at hg
  cases hg
  exact ⟨cur, hb⟩
end Rw
end
section
open Go.RowKit
namespace Rw
open Bit Dsk Ob Dig
end Rw
end
section
open Go.RowKit Go.ChangeShapes Go.WideShapes
namespace Rw
open Bit Dsk Ob Dig
end Rw
end
end
end Go.Proofs.YtgmnhodajngchaaGreatDoor
