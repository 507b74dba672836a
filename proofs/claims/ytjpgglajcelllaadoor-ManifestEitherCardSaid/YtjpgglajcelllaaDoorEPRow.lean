/- Parts, put together: RowG, RowOpen, RowDeep, RowSet, RowOwn, RowOpenC. -/
import Derived.Test.YtjpgglajcelllaaDoorEArgNums
import Derived.Test.YtjpgglajcelllaaDoorEPDig
import Derived.Test.YtjpgglajcelllaaDoorEPBit3
import Derived.Test.YtjpgglajcelllaaDoorEPObj
import Derived.Deep.AppendLies
import Derived.Deep.Slices

/- Rows of structs, over how an element lies in its cells: a row that is read (View), a row of the call's own (Mine), append. Names no function of the program. -/
section
set_option maxRecDepth 100000
namespace Go.Proofs.YtjpgglajcelllaaDoor
open Go.RowKit Go.Sort
namespace Rw
open Bit Dsk Ob Dig
set_option linter.unusedVariables false
/-- How an element lies in cells. -/
structure Lay (α : Type) where
  k : Nat
  pos : 0 < k
  enc : α → List Value
  len : ∀ a, (enc a).length = k
  one : ∀ a, ∀ u ∈ enc a, u.oneCell' = true
def cells {α : Type} (L : Lay α) (l : List α) : List Value := l.flatMap L.enc
theorem cells_cons {α : Type} (L : Lay α) (p : α) (l : List α) : cells L (p :: l) = L.enc p ++ cells L l := by simp [cells]
theorem cells_app {α : Type} (L : Lay α) (a b : List α) : cells L (a ++ b) = cells L a ++ cells L b := by simp [cells]
theorem cells_len {α : Type} (L : Lay α) : ∀ l : List α, (cells L l).length = l.length * L.k
  | [] => by simp [cells]
  | p :: l => by rw [cells_cons, List.length_append, L.len, cells_len L l, List.length_cons, Nat.succ_mul]; omega
theorem cells_get {α : Type} (L : Lay α) : ∀ (l : List α) (i : Nat) (h : i < l.length) (t : Nat), t < L.k → (cells L l)[i * L.k + t]? = (L.enc l[i])[t]?
  | p :: l, 0, _, t, ht => by rw [cells_cons, List.getElem?_append_left (by rw [L.len]; omega)]; simp
  | p :: l, i + 1, h, t, ht => by
    have := cells_get L l i (by simpa using h) t ht
    rw [cells_cons, List.getElem?_append_right (by rw [L.len, Nat.succ_mul]; omega), L.len, show (i + 1) * L.k + t - L.k = i * L.k + t by rw [Nat.succ_mul]; omega, this]
    rfl
theorem cells_one {α : Type} (L : Lay α) (l : List α) : ∀ u ∈ cells L l, u.oneCell' = true := fun u hu => by
  obtain ⟨p, _, hp⟩ := List.mem_flatMap.1 hu
  exact L.one p u hp
theorem cells_inv {α : Type} (L : Lay α) {l : List α} {j : Nat} {u : Value} (h : (cells L l)[j]? = some u) : ∃ (i t : Nat) (hi : i < l.length), t < L.k ∧ j = i * L.k + t ∧ (L.enc l[i])[t]? = some u := by
  have hj : j < l.length * L.k := by rw [← cells_len]; exact (List.getElem?_eq_some_iff.1 h).1
  have hi : j / L.k < l.length := Nat.div_lt_of_lt_mul (by rw [Nat.mul_comm]; exact hj)
  have ht : j % L.k < L.k := Nat.mod_lt _ L.pos
  have e : j = j / L.k * L.k + j % L.k := by rw [Nat.mul_comm]; exact (Nat.div_add_mod j L.k).symm
  refine ⟨j / L.k, j % L.k, hi, ht, e, ?_⟩
  rw [← cells_get L l _ hi _ ht, ← e]; exact h
/-- v reads as l, out of a block of S. -/
def View {α : Type} (L : Lay α) (w : World) (S : Nat → Prop) (v : Value) (l : List α) : Prop :=
  ∃ A c, v = .slice A l.length c ∧ l.length ≤ c ∧ c ≤ maxLen ∧ (0 < l.length → ∃ b off, A = some ⟨b, off, none⟩ ∧ S b ∧ ∀ i (h : i < l.length) t u, (L.enc l[i])[t]? = some u → w.cell? ⟨b, off + i * L.k + t, none⟩ = some u)
abbrev All : Nat → Prop := fun _ => True
theorem first {α : Type} (L : Lay α) (a : α) : ∃ u, (L.enc a)[0]? = some u := ⟨_, List.getElem?_eq_getElem (by rw [L.len]; exact L.pos)⟩
theorem View.upon {α : Type} {L : Lay α} {w w' : World} {S T : Nat → Prop} {v : Value} {l : List α} (h : View L w S v l) (hu : Upon T w w') (hd : ∀ b, S b → ¬ T b) : View L w' S v l :=
  let ⟨A, c, h1, h2, h3, h4⟩ := h
  ⟨A, c, h1, h2, h3, fun hp => let ⟨b, off, k1, k2, k3⟩ := h4 hp
    have ⟨u, hu0⟩ := first L (l[0]'hp)
    have hb := hu.block b (World.block_lt_of_cell? w _ (k3 0 hp 0 u hu0)) (hd b k2)
    ⟨b, off, k1, k2, fun i hi t u ht => by rw [← k3 i hi t u ht, World.cell?, World.cell?, hb]⟩⟩
theorem View.new {α : Type} {L : Lay α} {w w' : World} {S : Nat → Prop} {v : Value} {l : List α} (h : View L w S v l) (hu : New0 w w') : View L w' S v l := h.upon hu fun _ _ f => f
theorem View.mono {α : Type} {L : Lay α} {w : World} {S S' : Nat → Prop} {v : Value} {l : List α} (h : View L w S v l) (hS : ∀ b, b < w.heap.size → S b → S' b) : View L w S' v l :=
  let ⟨A, c, h1, h2, h3, h4⟩ := h
  ⟨A, c, h1, h2, h3, fun hp => let ⟨b, off, k1, k2, k3⟩ := h4 hp
    have ⟨u, hu0⟩ := first L (l[0]'hp)
    ⟨b, off, k1, hS b (World.block_lt_of_cell? w _ (k3 0 hp 0 u hu0)) k2, k3⟩⟩
theorem View.all {α : Type} {L : Lay α} {w : World} {S : Nat → Prop} {v : Value} {l : List α} (h : View L w S v l) : View L w All v l := h.mono fun _ _ _ => trivial
theorem View.drew {α : Type} {L : Lay α} {w : World} {S : Nat → Prop} {n : Nat} {v : Value} {l : List α} (h : View L w S v l) : View L (w.drewN n) S v l := h.new (upon_drewN _ w n)
theorem View.shape {α : Type} {L : Lay α} {w : World} {S : Nat → Prop} {v : Value} {l : List α} (h : View L w S v l) : ∃ A c, v = .slice A l.length c ∧ l.length ≤ c ∧ c ≤ maxLen := let ⟨A, c, h1, h2, h3, _⟩ := h; ⟨A, c, h1, h2, h3⟩
/-- Its block, off a length. -/
theorem View.open {α : Type} {L : Lay α} {w : World} {S : Nat → Prop} {A : Option Addr} {n c : Nat} {l : List α} (h : View L w S (.slice A n c) l) (hp : 0 < l.length) : ∃ b off, A = some ⟨b, off, none⟩ ∧ S b ∧ b < w.heap.size ∧ ∀ i (h : i < l.length) t u, (L.enc l[i])[t]? = some u → w.cell? ⟨b, off + i * L.k + t, none⟩ = some u := by
  obtain ⟨A', c', h1, h2, h3, h4⟩ := h
  injection h1 with h1
  subst h1
  obtain ⟨b, off, k1, k2, k3⟩ := h4 hp
  obtain ⟨u, hu0⟩ := first L (l[0]'hp)
  exact ⟨b, off, k1, k2, World.block_lt_of_cell? w _ (k3 0 hp 0 u hu0), k3⟩
theorem View.noth {α : Type} (L : Lay α) (w : World) (S : Nat → Prop) : View L w S (.slice none 0 0) [] := ⟨_, 0, rfl, Nat.le_refl _, Nat.zero_le _, fun h => absurd h (by simp)⟩
theorem View.nil {α : Type} (L : Lay α) (w : World) (S : Nat → Prop) (A : Option Addr) {c : Nat} (hc : c ≤ maxLen) : View L w S (.slice A 0 c) [] := ⟨A, c, rfl, Nat.zero_le _, hc, fun h => absurd h (by simp)⟩
/-! ### rows of the call's own -/
/-- v owns the row l, of the type T. -/
def Mine {α : Type} (L : Lay α) (T : TypeId) (w : World) (v : Value) (l : List α) : Prop := w.ownsRow 0 T L.k v l.length (cells L l)
theorem Mine.nil {α : Type} (L : Lay α) (T : TypeId) (w : World) : Mine L T w (.slice none 0 0) [] := ⟨by simp [cells], .inl ⟨rfl, rfl⟩⟩
theorem Mine.empty {α : Type} (L : Lay α) {T : TypeId} {w : World} {g : Nat} (h : w.heap[g]? = some (.cells #[] T (0, 0))) : Mine L T w (.slice (some ⟨g, 0, none⟩) 0 0) [] :=
  ⟨by simp [cells], .inr ⟨g, 0, #[], rfl, Nat.zero_le _, h, Nat.le_refl _, Nat.zero_le _, by simp, by simp [cells]⟩⟩
theorem Mine.view {α : Type} {L : Lay α} {T : TypeId} {w : World} {v : Value} {l : List α} (h : Mine L T w v l) : View L w (fun b => v.ownBlock = some b) v l := by
  have hcells := fun g => World.ownsRow.cells h (g := g)
  rcases h.2 with ⟨hv, h0⟩ | ⟨gb, cap, cur, hv, hb, hg, hnc, hcm, _⟩
  · exact ⟨none, 0, by rw [hv, h0], by omega, Nat.zero_le _, fun hp => by omega⟩
  · refine ⟨_, cap, hv, hnc, hcm, fun _ => ⟨gb, 0, rfl, by rw [hv]; rfl, fun i hi t u ht => ?_⟩⟩
    have htk : t < L.k := by have := (List.getElem?_eq_some_iff.1 ht).1; rwa [L.len] at this
    have e1 := cells_get L l i hi t htk
    have k1 := hcells gb (by rw [hv]; rfl) _ _ (e1.trans ht)
    rw [Arg.addr_plain] at k1
    rw [Nat.add_assoc]
    exact k1
theorem Mine.kept {α : Type} {L : Lay α} {T : TypeId} {w w' : World} {v : Value} {l : List α} (h : Mine L T w v l) (hk : ∀ b, v.ownBlock = some b → w'.heap[b]? = w.heap[b]?) : Mine L T w' v l := ownsRow_kept h hk
theorem Mine.lt {α : Type} {L : Lay α} {T : TypeId} {w : World} {v : Value} {l : List α} (h : Mine L T w v l) {b : Nat} (hb : v.ownBlock = some b) : b < w.heap.size := (World.ownsRow.lt h b hb).2
theorem Mine.new {α : Type} {L : Lay α} {T : TypeId} {w w' : World} {v : Value} {l : List α} (h : Mine L T w v l) (hu : New0 w w') : Mine L T w' v l := h.kept fun b hb => hu.block b (h.lt hb) fun f => f
theorem Mine.upon {α : Type} {L : Lay α} {T : TypeId} {w w' : World} {U : Nat → Prop} {v : Value} {l : List α} (h : Mine L T w v l) (hu : Upon U w w') (hd : ∀ b, v.ownBlock = some b → ¬ U b) : Mine L T w' v l := h.kept fun b hb => hu.block b (h.lt hb) (hd b hb)
theorem View.news {α : Type} {L : Lay α} {w : World} {S : Nat → Prop} {v : Value} {l : List α} (h : View L w S v l) (hp : 0 < l.length) : ∃ ad c, v = .slice (some ad) l.length c ∧ ∀ j u, (cells L l)[j]? = some u → w.cell? (ad.add j) = some u := by
  obtain ⟨A, c, rfl, h2, h3, h4⟩ := h
  obtain ⟨b, off, rfl, k2, k3⟩ := h4 hp
  refine ⟨⟨b, off, none⟩, c, rfl, fun j u hj => ?_⟩
  obtain ⟨i, t, hi, ht, rfl, hu⟩ := cells_inv L hj
  rw [Arg.addr_plain, ← Nat.add_assoc]
  exact k3 i hi t u hu
/-- What the program says of the row's type and its elements'. -/
structure Typ {α : Type} (L : Lay α) (sT T : TypeId) (bytes : Nat) : Prop where
  under : Tryd.prog.underlying sT = some (.slice T)
  info : ∃ i z, Tryd.prog.info? T = some i ∧ i.zero = some z ∧ i.size = L.k ∧ i.bytes = bytes ∧ z.cells.size = L.k
theorem Typ.mk' {α : Type} {L : Lay α} {sT T : TypeId} {bytes : Nat} {z : Value} (h : Tryd.prog.underlying sT = some (.slice T)) (hi : (Tryd.prog.info? T).map (fun i => (i.zero, i.size, i.bytes)) = some (some z, L.k, bytes)) (hz : z.cells.size = L.k) : Typ L sT T bytes := by
  obtain ⟨i0, h1, h2, h3, h4⟩ := info_parts hi
  exact ⟨h, i0, z, h1, h2, h3, h4, hz⟩
/-- Elements are appended to a row of one's own. -/
theorem run_append {α : Type} {L : Lay α} {sT T : TypeId} {bytes : Nat} (ty : Typ L sT T bytes) {w : World} {v x : Value} {l m : List α} {S : Nat → Prop} (hown : Mine L T w v l) (hx : View L w S x m) (hlen : (l.length + m.length) * bytes ≤ 140737488355328) (hcount : l.length + m.length ≤ 140737488355328) (ty' : TypeId) :
    ∃ v' w', (Builtin.append_ #[sT, sT] ty' #[v, x]).run Tryd.prog w = .ok v' w' ∧ Mine L T w' v' (l ++ m) ∧ w.grownBy w' v.ownBlock ∧ (v'.ownBlock = v.ownBlock ∨ v'.ownBlock = some w.heap.size) := by
  obtain ⟨hu, i0, z, hi, hz0, hz1, hz2, hz3⟩ := ty
  by_cases hp : 0 < m.length
  · obtain ⟨ad, c, rfl, hnews⟩ := hx.news hp
    obtain ⟨g, cap, w', hr, h2, h3, h4, h5⟩ := run_append_lies (P := Tryd.prog) w sT ty' 0 T i0 z L.k bytes hu hi hz0 hz1 hz2 hz3 L.pos v l.length (cells L l) hown ad m.length c (cells L m) (cells_len L m) hnews (cells_one L m) hp (by unfold maxLen; omega) hlen (Nat.zero_le _) _ rfl
    refine ⟨_, w', hr, ?_, h3, ?_⟩
    · unfold Mine; rw [List.length_append, cells_app]; exact h2
    · rcases h4 with h4 | h4
      · exact .inl h4.symm
      · right; rw [h4]; rfl
  · have hm : m = [] := by cases m with | nil => rfl | cons a b => simp at hp
    subst hm
    obtain ⟨A, c, rfl, -, -, -⟩ := hx
    refine ⟨v, w, ?_, by rw [List.append_nil]; exact hown, World.grownBy.refl _ _, .inl rfl⟩
    rcases hown.2 with ⟨hv, h0⟩ | ⟨gb, cap, cur, hv, hb, hg, hnc, hcm, _⟩
    · subst hv
      cases A with
      | none => simp [Builtin.append_, run_underlying hu, sizeOf, typeInfo, hi, Builtin.lenOf, Builtin.firstCells]
      | some a2 => simp [Builtin.append_, run_underlying hu, sizeOf, typeInfo, hi, Builtin.lenOf, Builtin.firstCells, loadCells, loadCellsFrom]
    · subst hv
      cases A with
      | none => simp [Builtin.append_, run_underlying hu, sizeOf, typeInfo, hi, Builtin.lenOf, Builtin.firstCells, loadCells, storeCells, hnc]
      | some a2 => simp [Builtin.append_, run_underlying hu, sizeOf, typeInfo, hi, Builtin.lenOf, Builtin.firstCells, loadCells, loadCellsFrom, storeCells, hnc]
/-- .. at a step of a region that draws. -/
theorem step_append {α : Type} {L : Lay α} {sT T : TypeId} {bytes : Nat} (ty : Typ L sT T bytes) {w : World} {ops : Array Oper} {o : Oper} {a : Act} {K : Act → World → Prop} {Q : Exit → Act → World → Prop} {E : Prop} (hgd : o.guard = none) (sl x : Operand)
    (ho : o.op = .call { callee := .builtin .append, args := #[sl, x], argTypes := #[sT, sT] })
    (v xv : Value) (l m : List α) (S : Nat → Prop) (hs : a.eval sl = v) (hx : a.eval x = xv) (hown : Mine L T w v l) (hxv : View L w S xv m) (hlen : (l.length + m.length) * bytes ≤ 140737488355328) (hcount : l.length + m.length ≤ 140737488355328)
    (h : ∀ v' w', Mine L T w' v' (l ++ m) → w.grownBy w' v.ownBlock → (v'.ownBlock = v.ownBlock ∨ v'.ownBlock = some w.heap.size) → K (a.put o.dst v') w') :
    if Region.wanted o (yielded ops a.tmps) = true then Oper.wp Tryd.prog o a w K Q else E := by
  have hw : Region.wanted o (yielded ops a.tmps) = true := by simp [Region.wanted, hgd]
  rw [if_pos hw]
  obtain ⟨v', w', hr, h2, h3, h4⟩ := run_append ty hown hxv hlen hcount o.type
  unfold Oper.wp execOp
  simp only [ho, resolve, invoke, builtin, Sem.run_bind, Sem.run_pure, Result.andThen_ok, List.map_toArray, List.map_cons, List.map_nil, hs, hx, hr]
  exact h v' w' h2 h3 h4
/-- A row of the call's own, as an object. -/
def RowO {α : Type} (L : Lay α) (T : TypeId) (v : Value) (l : List α) : Ob.Rel := fun w S => Mine L T w v l ∧ (∀ x, v.ownBlock = some x → S x) ∧ ∀ x, S x → x < w.heap.size
theorem RowO.append {α : Type} {L : Lay α} {T : TypeId} {w w' : World} {S : Nat → Prop} {v v' : Value} {l m : List α} (h : RowO L T v l w S) (hown : Mine L T w' v' m) (hg : w.grownBy w' v.ownBlock) (hb : v'.ownBlock = v.ownBlock ∨ v'.ownBlock = some w.heap.size) : ObjStep (RowO L T v' m) S w w' := by
  refine ⟨⟨fun x => S x ∨ v'.ownBlock = some x, ⟨hown, fun x hx => .inr hx, fun x hx => ?_⟩, fun b hb => .inl hb, fun b hb2 => ?_⟩, Upon.grown (Upon.refl _ w) hg fun k hk => .inl (h.2.1 k hk)⟩
  · rcases hx with hx | hx
    · exact Nat.lt_of_lt_of_le (h.2.2 x hx) hg.size
    · exact hown.lt hx
  · rcases hb2 with hb2 | hb2
    · exact .inl hb2
    · rcases hb with hb | hb
      · exact .inl (h.2.1 b (by rw [← hb]; exact hb2))
      · rw [hb2] at hb
        have : b = w.heap.size := by simpa using hb
        right; omega
/-! ### a struct of two cells in a box -/
def Box2 (T : TypeId) (g : Nat) (a b : Value) : Ob.Rel := fun w S => w.heap[g]? = some (.cells #[a, b] T (0, 0)) ∧ ∀ x, S x ↔ x = g
theorem thingBox2 (T : TypeId) (g : Nat) (a b : Value) : Thing (Box2 T g a b) := ⟨fun w w' S h hk _ => ⟨(hk g ((h.2 g).2 rfl)).trans h.1, h.2⟩, fun w S h x hx => by rw [(h.2 x).1 hx]; exact (Array.getElem?_eq_some_iff.1 h.1).1⟩
theorem box2See {T : TypeId} {g : Nat} {a b : Value} {w : World} {S : Nat → Prop} (h : Box2 T g a b w S) : Boxed g a b w := Boxed.of h.1
/-- Behind an append the world has turned in what is one's own alone, or in what is new. -/
theorem grown_new {w w' : World} {v v' : Value} (hg : w.grownBy w' v.ownBlock) {B : Nat} (hv : ∀ g, v.ownBlock = some g → B ≤ g) (w0 : World) (hB : w0.heap.size ≤ B) (h : New0 w0 w) : New0 w0 w' := Upon.grown h hg (fun k hk => .inr (Nat.le_trans hB (hv k hk)))
end Rw
end Go.Proofs.YtjpgglajcelllaaDoor
end
/- A row of structs among the arguments, opened: over how an element lies in its cells. Names no function of the program. -/
section
set_option maxRecDepth 100000
namespace Go.Proofs.YtjpgglajcelllaaDoor
open Go.RowKit Go.ChangeShapes Go.WideShapes
namespace Rw
open Bit Dsk Ob Dig
set_option linter.unusedVariables false
end Rw
end Go.Proofs.YtjpgglajcelllaaDoor
end
/- Rows of structs that hold rows: what is in the cells (raw), and what it reads as. Names no function of the program. -/
section
set_option maxRecDepth 100000
namespace Go.Proofs.YtjpgglajcelllaaDoor
open Go.RowKit Go.ChangeShapes Go.WideShapes
namespace Rw
open Bit Dsk Ob Dig
set_option linter.unusedVariables false
/-- A slice's three parts. -/
structure Sl where
  a : Option Addr
  n : Nat
  c : Nat
abbrev Sl.v (s : Sl) : Value := .slice s.a s.n s.c
/-- What raw cells read as, out of blocks of S. -/
structure Inner (α β : Type) where
  rel : World → (Nat → Prop) → α → β → Prop
  upon : ∀ {w w' : World} {S T : Nat → Prop} {a : α} {b : β}, rel w S a b → Upon T w w' → (∀ x, S x → ¬ T x) → rel w' S a b
  mono : ∀ {w : World} {S S' : Nat → Prop} {a : α} {b : β}, rel w S a b → (∀ x, x < w.heap.size → S x → S' x) → rel w S' a b
/-- v reads as the deep row l, out of blocks of S. -/
def DView {α β : Type} (L : Lay α) (I : Inner α β) (w : World) (S : Nat → Prop) (v : Value) (l : List β) : Prop :=
  ∃ rs, View L w S v rs ∧ rs.length = l.length ∧ ∀ i (h1 : i < rs.length) (h2 : i < l.length), I.rel w S rs[i] l[i]
section
variable {α β : Type} {L : Lay α} {I : Inner α β} {w w' : World} {S S' T : Nat → Prop} {v : Value} {l : List β}
theorem DView.upon (h : DView L I w S v l) (hu : Upon T w w') (hd : ∀ b, S b → ¬ T b) : DView L I w' S v l :=
  let ⟨rs, h1, h2, h3⟩ := h
  ⟨rs, h1.upon hu hd, h2, fun i k1 k2 => I.upon (h3 i k1 k2) hu hd⟩
theorem DView.new (h : DView L I w S v l) (hu : New0 w w') : DView L I w' S v l := h.upon hu fun _ _ f => f
theorem DView.mono (h : DView L I w S v l) (hS : ∀ b, b < w.heap.size → S b → S' b) : DView L I w S' v l :=
  let ⟨rs, h1, h2, h3⟩ := h
  ⟨rs, h1.mono hS, h2, fun i k1 k2 => I.mono (h3 i k1 k2) hS⟩
theorem DView.all (h : DView L I w S v l) : DView L I w All v l := h.mono fun _ _ _ => trivial
theorem DView.shape (h : DView L I w S v l) : ∃ A c, v = .slice A l.length c ∧ l.length ≤ c ∧ c ≤ maxLen := by
  obtain ⟨rs, h1, h2, -⟩ := h
  obtain ⟨A, c, e, k1, k2⟩ := h1.shape
  rw [h2] at e k1
  exact ⟨A, c, e, k1, k2⟩
theorem DView.noth (L : Lay α) (I : Inner α β) (w : World) (S : Nat → Prop) : DView L I w S (.slice none 0 0) [] := ⟨[], View.noth _ _ _, rfl, fun i h => absurd h (by simp)⟩
/-- Its elements: the raw one at each place, its cells, what it reads as. -/
theorem DView.open {A : Option Addr} {n c : Nat} (h : DView L I w S (.slice A n c) l) (hp : 0 < l.length) : ∃ b off, A = some ⟨b, off, none⟩ ∧ b < w.heap.size ∧
    ∀ i (hi : i < l.length), ∃ r, I.rel w S r l[i] ∧ ∀ t u, (L.enc r)[t]? = some u → w.cell? ⟨b, off + i * L.k + t, none⟩ = some u := by
  obtain ⟨rs, h1, h2, h3⟩ := h
  obtain ⟨b, off, k1, -, k2, k3⟩ := View.open h1 (by omega)
  exact ⟨b, off, k1, k2, fun i hi => ⟨rs[i]'(by omega), h3 i (by omega) hi, k3 i (by omega)⟩⟩
end
end Rw
end Go.Proofs.YtjpgglajcelllaaDoor
end
/- A row of structs of the call's own, of which one cell is written; a part of a row. Names no function of the program. -/
section
set_option maxRecDepth 100000
namespace Go.Proofs.YtjpgglajcelllaaDoor
open Go.RowKit
namespace Rw
open Bit Dsk Ob Dig
set_option linter.unusedVariables false
theorem row_setCell {w : World} {e : TypeId} {size n g cap j : Nat} {u : Value} {xs : List Value} (h : w.ownsRow 0 e size (.slice (some ⟨g, 0, none⟩) n cap) n xs) :
    (w.setCell ⟨g, j, none⟩ u).ownsRow 0 e size (.slice (some ⟨g, 0, none⟩) n cap) n (xs.set j u) := by
  rcases h.2 with ⟨h0, _⟩ | ⟨g', cap', cur, hv, hb, hg, hmc, hcm, hcs, ht⟩
  · cases h0
  · cases hv
    refine ⟨by rw [List.length_set]; exact h.1, .inr ⟨g, cap, cur.setIfInBounds j u, rfl, hb, ?_, hmc, hcm, ?_, ?_⟩⟩
    · simp [World.setCell, Array.getElem?_modify, hg]
    · simpa using hcs
    · rw [← ht, Array.toList_setIfInBounds, List.take_set]
theorem cells_set {α : Type} (L : Lay α) {a : α} {t : Nat} {x : Value} (ht : t < L.k) : ∀ (l : List α) (i : Nat) (h : i < l.length), L.enc a = (L.enc l[i]).set t x → cells L (l.set i a) = (cells L l).set (i * L.k + t) x
  | p :: l, 0, _, e => by
    rw [List.set_cons_zero, cells_cons, cells_cons, e, Nat.zero_mul, Nat.zero_add, List.set_append_left _ _ (by rw [L.len]; exact ht)]
    rfl
  | p :: l, i + 1, h, e => by
    have ih := cells_set L ht l i (by simpa using h) e
    rw [List.set_cons_succ, cells_cons, cells_cons, ih, List.set_append_right _ _ (by rw [L.len, Nat.succ_mul]; omega), L.len, show (i + 1) * L.k + t - L.k = i * L.k + t by rw [Nat.succ_mul]; omega]
/-- One cell of an element is written. -/
theorem Mine.set {α : Type} {L : Lay α} {T : TypeId} {w : World} {g n c : Nat} {l : List α} (h : Mine L T w (.slice (some ⟨g, 0, none⟩) n c) l) (hn : n = l.length) {i t : Nat} {a : α} {x : Value} (hi : i < l.length) (ht : t < L.k) (e : L.enc a = (L.enc l[i]).set t x) :
    Mine L T (w.setCell ⟨g, i * L.k + t, none⟩ x) (.slice (some ⟨g, 0, none⟩) n c) (l.set i a) := by
  subst hn
  unfold Mine at *
  rw [List.length_set, cells_set L ht l i hi e]
  exact row_setCell h
/-- What a row of one's own is: nothing, or a block. -/
theorem Mine.shape {α : Type} {L : Lay α} {T : TypeId} {w : World} {v : Value} {l : List α} (h : Mine L T w v l) : (v = .slice none 0 0 ∧ l = []) ∨ ∃ g c, v = .slice (some ⟨g, 0, none⟩) l.length c ∧ l.length ≤ c ∧ c ≤ maxLen ∧ g < w.heap.size := by
  rcases h.2 with ⟨hv, h0⟩ | ⟨g, c, cur, hv, -, hg, h1, h2, -, -⟩
  · exact .inl ⟨hv, List.eq_nil_of_length_eq_zero h0⟩
  · exact .inr ⟨g, c, hv, h1, h2, (Array.getElem?_eq_some_iff.1 hg).1⟩
theorem Mine.frozen {α : Type} {L : Lay α} {T : TypeId} {w : World} {g n c : Nat} {l : List α} (h : Mine L T w (.slice (some ⟨g, 0, none⟩) n c) l) (j : Nat) : w.frozen? ⟨g, j, none⟩ = false := by
  rcases h.2 with ⟨hv, h0⟩ | ⟨g', c', cur, hv, -, hg, -⟩
  · cases hv
  · cases hv
    simp [World.frozen?, hg]
theorem Mine.cells {α : Type} {L : Lay α} {T : TypeId} {w : World} {g n c : Nat} {l : List α} (h : Mine L T w (.slice (some ⟨g, 0, none⟩) n c) l) {i t : Nat} {u : Value} (hi : i < l.length) (ht : (L.enc l[i])[t]? = some u) : w.cell? ⟨g, i * L.k + t, none⟩ = some u := by
  have htk : t < L.k := by have := (List.getElem?_eq_some_iff.1 ht).1; rwa [L.len] at this
  have k1 := World.ownsRow.cells h (g := g) rfl _ _ ((cells_get L l i hi t htk).trans ht)
  rw [Arg.addr_plain] at k1
  rw [← Nat.zero_add (i * L.k + t)]
  exact k1
/-! ### a block of three cells -/
def Blk3 (T : TypeId) (g : Nat) (a b c : Value) (w : World) : Prop := w.heap[g]? = some (.cells #[a, b, c] T (0, 0))
section
variable {T : TypeId} {g : Nat} {a b c : Value} {w w' : World}
theorem Blk3.cells (h : Blk3 T g a b c w) : w.cell? ⟨g, 0, none⟩ = some a ∧ w.cell? ⟨g, 1, none⟩ = some b ∧ w.cell? ⟨g, 2, none⟩ = some c :=
  ⟨by rw [Lib.cell_of_heap h]; rfl, by rw [Lib.cell_of_heap h]; rfl, by rw [Lib.cell_of_heap h]; rfl⟩
theorem Blk3.frozen (h : Blk3 T g a b c w) (i : Nat) : w.frozen? ⟨g, i, none⟩ = false := by unfold Blk3 at h; simp [World.frozen?, h]
theorem Blk3.lt (h : Blk3 T g a b c w) : g < w.heap.size := (Array.getElem?_eq_some_iff.1 h).1
theorem Blk3.upon {U : Nat → Prop} (h : Blk3 T g a b c w) (hu : Upon U w w') (hn : ¬ U g) : Blk3 T g a b c w' := (hu.block g h.lt hn).trans h
theorem Blk3.new (h : Blk3 T g a b c w) (hu : New0 w w') : Blk3 T g a b c w' := h.upon hu fun f => f
theorem Blk3.grown {row : Option Nat} (h : Blk3 T g a b c w) (hg : w.grownBy w' row) (hn : row ≠ some g) : Blk3 T g a b c w' := (hg.block g h.lt (fun e => hn e.symm)).trans h
theorem Blk3.set0 (h : Blk3 T g a b c w) (x : Value) : Blk3 T g x b c (w.setCell ⟨g, 0, none⟩ x) := by unfold Blk3 at *; simp [World.setCell, Array.getElem?_modify, h]
theorem Blk3.set1 (h : Blk3 T g a b c w) (x : Value) : Blk3 T g a x c (w.setCell ⟨g, 1, none⟩ x) := by unfold Blk3 at *; simp [World.setCell, Array.getElem?_modify, h]
theorem Blk3.set2 (h : Blk3 T g a b c w) (x : Value) : Blk3 T g a b x (w.setCell ⟨g, 2, none⟩ x) := by unfold Blk3 at *; simp [World.setCell, Array.getElem?_modify, h]
end
end Rw
end Go.Proofs.YtjpgglajcelllaaDoor
end
/- A row of structs that hold rows, of the call's own: it grows; what its elements lead to lies beside it. Names no function of the program. -/
section
set_option maxRecDepth 100000
namespace Go.Proofs.YtjpgglajcelllaaDoor
open Go.RowKit
namespace Rw
open Bit Dsk Ob Dig
set_option linter.unusedVariables false
/-- u owns the cells rs, made since w0; they read as l, out of blocks that are new, too, and beside the row's own. -/
structure DOwn {α β : Type} (L : Lay α) (I : Inner α β) (T : TypeId) (w0 w : World) (u : Value) (rs : List α) (l : List β) : Prop where
  row : Mine L T w u rs
  base : ∀ g, u.ownBlock = some g → w0.heap.size ≤ g
  len : rs.length = l.length
  els : ∃ S : Nat → Prop, (∀ i (h1 : i < rs.length) (h2 : i < l.length), I.rel w S rs[i] l[i]) ∧ ∀ x, S x → x < w.heap.size ∧ w0.heap.size ≤ x ∧ u.ownBlock ≠ some x
  new : New0 w0 w
section
variable {α β : Type} {L : Lay α} {I : Inner α β} {T : TypeId} {w0 w w' : World} {u u' : Value} {rs : List α} {l : List β}
theorem DOwn.step (h : DOwn L I T w0 w u rs l) (hu : New0 w w') : DOwn L I T w0 w' u rs l :=
  let ⟨S, h1, h2⟩ := h.els
  ⟨h.row.new hu, h.base, h.len, ⟨S, fun i k1 k2 => I.upon (h1 i k1 k2) hu fun _ _ f => f, fun x hx => ⟨Nat.lt_of_lt_of_le (h2 x hx).1 hu.size, (h2 x hx).2⟩⟩, h.new.trans hu⟩
theorem DOwn.app (h : DOwn L I T w0 w u rs l) {a : α} {b : β} {S' : Nat → Prop} (hx : I.rel w S' a b) (hS : ∀ x, S' x → x < w.heap.size ∧ w0.heap.size ≤ x ∧ u.ownBlock ≠ some x)
    (hown : Mine L T w' u' (rs ++ [a])) (hg : w.grownBy w' u.ownBlock) (hb : u'.ownBlock = u.ownBlock ∨ u'.ownBlock = some w.heap.size) : DOwn L I T w0 w' u' (rs ++ [a]) (l ++ [b]) := by
  obtain ⟨S, h1, h2⟩ := h.els
  have hu : Upon (fun x => u.ownBlock = some x) w w' := Upon.grown (Upon.refl _ w) hg (fun k hk => .inl hk)
  have hne : ∀ x, x < w.heap.size → u.ownBlock ≠ some x → u'.ownBlock ≠ some x := fun x hx hn e => by
    rcases hb with hb | hb
    · exact hn (hb.symm.trans e)
    · rw [hb] at e
      injection e with e
      omega
  refine ⟨hown, fun g hk => ?_, by simp [h.len], ⟨fun x => S x ∨ S' x, fun i k1 k2 => ?_, fun x hx => ?_⟩, grown_new (v' := u') hg (fun g hk => h.base g hk) w0 (Nat.le_refl _) h.new⟩
  · rcases hb with hb | hb
    · exact h.base g (hb.symm.trans hk)
    · rw [hb] at hk
      injection hk with hk
      have := h.new.size
      omega
  · by_cases hi : i < rs.length
    · rw [List.getElem_append_left hi, List.getElem_append_left (by have := h.len; omega)]
      exact I.mono (I.upon (h1 i hi (by have := h.len; omega)) hu fun y hy e => (h2 y hy).2.2 e) fun y _ hy => .inl hy
    · have e : i = rs.length := by rw [List.length_append, List.length_singleton] at k1; omega
      subst e
      have e1 : (rs ++ [a])[rs.length]'k1 = a := by simp
      have e2 : (l ++ [b])[rs.length]'k2 = b := by
        have : (l ++ [b])[l.length]'(by simp) = b := by simp
        simp only [h.len]; exact this
      rw [e1, e2]
      exact I.mono (I.upon hx hu fun y hy e => (hS y hy).2.2 e) fun y _ hy => .inr hy
  · rcases hx with hx | hx
    · exact ⟨Nat.lt_of_lt_of_le (h2 x hx).1 hg.size, (h2 x hx).2.1, hne x (h2 x hx).1 (h2 x hx).2.2⟩
    · exact ⟨Nat.lt_of_lt_of_le (hS x hx).1 hg.size, (hS x hx).2.1, hne x (hS x hx).1 (hS x hx).2.2⟩
/-- It reads as l, out of new blocks. -/
theorem DOwn.view (h : DOwn L I T w0 w u rs l) : DView L I w (fun b => w0.heap.size ≤ b) u l := by
  obtain ⟨S, h1, h2⟩ := h.els
  exact ⟨rs, h.row.view.mono fun b _ hb => h.base b hb, h.len, fun i k1 k2 => I.mono (h1 i k1 k2) fun x _ hx => (h2 x hx).2.1⟩
end
end Rw
end Go.Proofs.YtjpgglajcelllaaDoor
end
/- A row of structs, opened out of its cells (it may lie in a struct), with what the reach says of all rows inside. Names no function of the program. -/
section
set_option maxRecDepth 100000
namespace Go.Proofs.YtjpgglajcelllaaDoor
open Go.RowKit Go.ChangeShapes Go.WideShapes
namespace Rw
open Bit Dsk Ob Dig
set_option linter.unusedVariables false
theorem weights_all {H : Type} {P : Program} {e : TypeId} {x : DataW H} {n : Nat} : ∀ {l : List (DataW H)}, x ∈ l → n ∈ x.weights P e → n ∈ DataW.weightsAll P e l
  | y :: l, hx, hn => by
    rw [DataW.weightsAll]
    rcases List.mem_cons.1 hx with rfl | hx
    · exact List.mem_append_left _ hn
    · exact List.mem_append_right _ (weights_all hx hn)
theorem open_rowC {α : Type} {L : Lay α} {sT T : TypeId} {bytes : Nat} {G : α → Prop} {H : Type} {enc : TypeId × Value → H} {W : World} {cs : List Value} {d : DataW H} {p : List MemPlace} {N fuel0 : Nat}
    (hu : Tryd.prog.underlying sT = some (.slice T)) (hk : Tryd.prog.cellsOf T = L.k) (hby : Tryd.prog.bytesOf T = bytes)
    (hone : ∀ (fuel : Nat) (cs : List Value) (d : DataW H) (p : List MemPlace), cs.length = L.k → DataW.trod enc Tryd.prog W 0 (fun _ => true) true fuel T cs = some (d, p) → (∀ n ∈ d.weights Tryd.prog T, n ≤ N) → ∃ a, cs = L.enc a ∧ G a)
    (h : DataW.trod enc Tryd.prog W 0 (fun _ => true) true fuel0 sT cs = some (d, p))
    (hz : ∀ n ∈ d.weights Tryd.prog sT, n ≤ N) : ∃ A n c l, cs = [.slice A n c] ∧ View L W All (.slice A n c) l ∧ (∀ a ∈ l, G a) ∧ l.length * bytes ≤ N := by
  rcases Go.Deep.open_slice hu h with ⟨hcs, _⟩ | ⟨a, len, cap, m, n, D, Pl, hcs, hb, hl, hm, hmm, hx, hall⟩
  · exact ⟨none, 0, 0, [], hcs, View.noth _ _ _, fun a ha => by simp at ha, by simp⟩
  · refine ⟨some a, len, cap, ?_⟩
    have hlm : len ≤ m := by rw [hmm]; simp; exact hl
    have hd := (Prod.mk.inj hx).1
    have hsz : len * bytes ≤ N := by
      have h1 := hz ((((List.range len).map D).length + ((List.range (m - len)).map fun j => D (len + j)).length) * Tryd.prog.bytesOf T) (by rw [hd]; simp [DataW.weights, hu])
      rw [hby] at h1
      simp only [List.length_map, List.length_range] at h1
      have h4 : len * bytes ≤ (len + (m - len)) * bytes := Nat.mul_le_mul_right _ (by omega)
      omega
    have each : ∀ i, i < len → ∃ x : α, G x ∧ ∀ t u, (L.enc x)[t]? = some u → W.cell? (a.add (i * L.k + t)) = some u := by
      intro i hi
      obtain ⟨cs', h1, h2⟩ := hall i (by omega)
      rw [hk] at h1
      obtain ⟨_, hlen, hcell⟩ := World.cells?_some h1
      obtain ⟨x, rfl, hG⟩ := hone _ _ _ _ hlen h2 (fun n hn => hz n (by
        rw [hd]
        simp only [DataW.weights, hu]
        exact List.mem_cons_of_mem _ (List.mem_append_left _ (weights_all (x := D i) (List.mem_map.2 ⟨i, List.mem_range.2 hi, rfl⟩) hn))))
      refine ⟨x, hG, fun t u ht => ?_⟩
      have htk : t < L.k := by have := (List.getElem?_eq_some_iff.1 ht).1; rwa [L.len] at this
      have := hcell t htk
      rw [Go.Deep.add_add] at this
      rw [this]; exact ht
    by_cases h00 : len = 0
    · subst h00
      exact ⟨[], hcs, View.nil _ _ _ _ hm, fun a ha => by simp at ha, by simp⟩
    obtain ⟨b, off, spot⟩ := a
    have hspot : spot = none := by
      obtain ⟨x, -, hc⟩ := each 0 (by omega)
      obtain ⟨u, hu0⟩ := first L x
      have := World.cell?_spot (hc 0 u hu0)
      simpa [Addr.add] using this
    subst hspot
    have e : ∀ j, (⟨b, off, none⟩ : Addr).add j = ⟨b, off + j, none⟩ := fun j => by unfold Addr.add; split <;> simp_all
    obtain ⟨f, hf⟩ : ∃ f : Nat → α, ∀ i, i < len → G (f i) ∧ ∀ t u, (L.enc (f i))[t]? = some u → W.cell? (Addr.add ⟨b, off, none⟩ (i * L.k + t)) = some u := by
      classical
      obtain ⟨x0, -⟩ := each 0 (by omega)
      refine ⟨fun i => if h : i < len then Classical.choose (each i h) else x0, fun i hi => ?_⟩
      simp only [hi, dif_pos]
      exact Classical.choose_spec (each i hi)
    have hfs : ((List.range len).map f).length = len := by simp
    refine ⟨(List.range len).map f, hcs, ⟨_, cap, by rw [hfs], by rw [hfs]; exact hl, hm, fun _ => ⟨b, off, rfl, trivial, fun i hi t u ht => ?_⟩⟩, fun a ha => ?_, by rw [hfs]; exact hsz⟩
    · rw [hfs] at hi
      simp only [List.getElem_map, List.getElem_range] at ht
      have := (hf i hi).2 t u ht
      rw [e, ← Nat.add_assoc] at this
      exact this
    · obtain ⟨i, hi, rfl⟩ := List.mem_map.1 ha
      exact (hf i (List.mem_range.1 hi)).1
/-- What the reach says of a struct's parts. -/
theorem weights_part {H : Type} {P : Program} {t : TypeId} {fs : Array Field} {parts : List (DataW H)} (ht : P.underlying t = some (.struct fs)) {j : Nat} {e : TypeId} {d : DataW H} {n : Nat} (he : (fs.toList.map (·.type))[j]? = some e) (hd : parts[j]? = some d) (hn : n ∈ d.weights P e) : n ∈ (DataW.agg parts).weights P t := by
  simp only [DataW.weights, ht]
  exact DataW.weights_mem_each he hd n hn
end Rw
end Go.Proofs.YtjpgglajcelllaaDoor
end
