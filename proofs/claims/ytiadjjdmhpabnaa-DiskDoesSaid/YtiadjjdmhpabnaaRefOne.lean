/- The document's own disk (layer 4) in memory as plain data; what its small functions do: New, write, Fuse, SyncNames, at, name, kept. -/
import Derived.Test.YtiadjjdmhpabnaaPDisk3
namespace Go.Proofs.Ytiadjjdmhpabnaa
open Go.RowKit
namespace Dsk
open Go.Maps

/-- A text as a value. -/
abbrev sv (k : Str) : Value := .string ⟨k.toArray⟩
def fC (f : FileS) : List Value := [sv f.s, .int .i64 (f.lasts : Int)]
def eC (p : Str × Nat) : List Value := [sv p.1, .int .i64 (p.2 : Int)]
def cC : Chg → List Value
  | .put k i => [sv [], sv k, .int .i64 (i : Int)]
  | .move a b i => [sv a, sv b, .int .i64 (i : Int)]
  | .del a => [sv a, sv [], .int .i64 0]

structure RGhost where
  fv : Value
  nv : Value
  lv : Value
  cv : Value

def rCells (st : St) (g : RGhost) : Array Value := #[.int .i64 st.room, g.fv, g.nv, g.lv, g.cv, .bool st.dead, .int .i64 st.left]

structure RefM (w : World) (S : Nat → Prop) (q : Nat) (st : St) (g : RGhost) : Prop where
  cell : w.heap[q]? = some (.cells (rCells st g) 42 (0, 0))
  F : w.ownsRow 0 66 2 g.fv st.F.length (st.F.flatMap fC)
  N : w.ownsRow 0 68 2 g.nv st.N.length (st.N.flatMap eC)
  L : w.ownsRow 0 68 2 g.lv st.L.length (st.L.flatMap eC)
  C : w.ownsRow 0 85 3 g.cv st.C.length (st.C.flatMap cC)
  wl : -1 ≤ st.left ∧ st.left ≤ 9223372036854775807
  wr : -9223372036854775808 ≤ st.room ∧ st.room ≤ 9223372036854775807
  s_q : S q
  s_f : ∀ b, g.fv.ownBlock = some b → S b
  s_n : ∀ b, g.nv.ownBlock = some b → S b
  s_l : ∀ b, g.lv.ownBlock = some b → S b
  s_c : ∀ b, g.cv.ownBlock = some b → S b
  lt : ∀ b, S b → b < w.heap.size

def IsRef (w : World) (S : Nat → Prop) (q : Nat) (st : St) : Prop := ∃ g, RefM w S q st g

theorem RefM.kept {w w' : World} {S : Nat → Prop} {q : Nat} {st : St} {g : RGhost} (h : RefM w S q st g) (hk : ∀ b, S b → w'.heap[b]? = w.heap[b]?) (hs : w.heap.size ≤ w'.heap.size) : RefM w' S q st g :=
  { h with cell := (hk q h.s_q).trans h.cell, F := ownsRow_kept h.F fun b hb => hk b (h.s_f b hb), N := ownsRow_kept h.N fun b hb => hk b (h.s_n b hb), L := ownsRow_kept h.L fun b hb => hk b (h.s_l b hb), C := ownsRow_kept h.C fun b hb => hk b (h.s_c b hb), lt := fun b hb => Nat.lt_of_lt_of_le (h.lt b hb) hs }
theorem IsRef.upon {w w' : World} {S T : Nat → Prop} {q : Nat} {st : St} (h : IsRef w S q st) (hu : Upon T w w') (ha : ∀ b, S b → ¬ T b) : IsRef w' S q st :=
  let ⟨g, hg⟩ := h; ⟨g, hg.kept (fun b hb => hu.block b (hg.lt b hb) (ha b hb)) hu.size⟩
theorem IsRef.lt {w : World} {S : Nat → Prop} {q : Nat} {st : St} (h : IsRef w S q st) : ∀ b, S b → b < w.heap.size := let ⟨_, hg⟩ := h; hg.lt

/-- What a step leaves. -/
structure RStep (S : Nat → Prop) (q : Nat) (st : St) (w w' : World) : Prop where
  disk : ∃ S', IsRef w' S' q st ∧ (∀ b, S b → S' b) ∧ ∀ b, S' b → S b ∨ w.heap.size ≤ b
  upon : Upon S w w'
theorem RStep.same {w : World} {S : Nat → Prop} {q : Nat} {st : St} (h : IsRef w S q st) : RStep S q st w w := ⟨⟨S, h, fun _ h => h, fun _ h => .inl h⟩, Upon.refl _ _⟩
theorem RStep.get {S : Nat → Prop} {q : Nat} {st : St} {a b : World} (h : RStep S q st a b) : ∃ S' g, RefM b S' q st g ∧ Been S S' a b := by
  obtain ⟨⟨S', ⟨g, h1⟩, h2, h3⟩, hu⟩ := h; exact ⟨S', g, h1, h2, h3, hu⟩
theorem Been.rstep {S S' : Nat → Prop} {q : Nat} {st : St} {a b c : World} (h : Been S S' a b) (k : RStep S' q st b c) : RStep S q st a c := by
  obtain ⟨⟨S'', k1, k2, k3⟩, ku⟩ := k
  have hb := h.trans ⟨k2, k3, ku⟩
  exact ⟨⟨S'', k1, hb.sub, hb.new⟩, hb.upon⟩
theorem RStep.then {a b c : World} {S : Nat → Prop} {q : Nat} {st : St} (h : RStep S q st a b) (k : Upon (fun _ => False) b c) : RStep S q st a c := by
  obtain ⟨⟨S', h1, h2, h3⟩, hu⟩ := h
  exact ⟨⟨S', h1.upon k fun _ _ h => h, h2, h3⟩, hu.trans' k fun _ _ => False.elim⟩

theorem r7 {w : World} {q : Nat} {st : St} {g : RGhost} (h : w.heap[q]? = some (.cells (rCells st g) 42 (0, 0))) :
    w.cell? ⟨q, 0, none⟩ = some (.int .i64 st.room) ∧ w.cell? ⟨q, 1, none⟩ = some g.fv ∧ w.cell? ⟨q, 2, none⟩ = some g.nv ∧ w.cell? ⟨q, 3, none⟩ = some g.lv ∧
    w.cell? ⟨q, 4, none⟩ = some g.cv ∧ w.cell? ⟨q, 5, none⟩ = some (.bool st.dead) ∧ w.cell? ⟨q, 6, none⟩ = some (.int .i64 st.left) ∧ ∀ o, w.frozen? ⟨q, o, none⟩ = false := by
  refine ⟨?_, ?_, ?_, ?_, ?_, ?_, ?_, fun o => Lib.frozen_of_heap h o⟩ <;> (rw [Lib.cell_of_heap h]; rfl)
theorem setR {w : World} {q o : Nat} {c : Array Value} {v : Value} (h : w.heap[q]? = some (.cells c 42 (0, 0))) : (w.setCell ⟨q, o, none⟩ v).heap[q]? = some (.cells (c.setIfInBounds o v) 42 (0, 0)) := by
  simp [World.setCell, Array.getElem?_modify, h]

theorem rowT {w : World} {base : Nat} {e : TypeId} {size n : Nat} {v : Value} {xs : List Value} (h : w.ownsRow base e size v n xs) {b : Nat} (hb : v.ownBlock = some b) : ∃ c, w.heap[b]? = some (.cells c e (0, 0)) := by
  rcases h.2 with ⟨hv, _⟩ | ⟨g, cap, cur, hv, _, hg, _⟩
  · rw [hv] at hb; cases hb
  · rw [hv] at hb; cases hb; exact ⟨_, hg⟩

/-- The disk's own cells turn, nothing else. -/
theorem RefM.turn {w w' : World} {S : Nat → Prop} {q : Nat} {st st' : St} {g g' : RGhost} (h : RefM w S q st g) (hq : w'.heap[q]? = some (.cells (rCells st' g') 42 (0, 0)))
    (hk : ∀ b, b ≠ q → w'.heap[b]? = w.heap[b]?) (hs : w.heap.size ≤ w'.heap.size) (eF : st'.F = st.F ∧ g'.fv = g.fv) (eN : st'.N = st.N ∧ g'.nv = g.nv) (eL : (st'.L = st.L ∧ g'.lv = g.lv) ∨ (st'.L = st.N ∧ g'.lv = g.nv)) (eC : (st'.C = st.C ∧ g'.cv = g.cv) ∨ (st'.C = [] ∧ g'.cv = .slice none 0 0)) (er : st'.room = st.room)
    (hw : -1 ≤ st'.left ∧ st'.left ≤ 9223372036854775807) : RefM w' S q st' g' := by
  have hr : ∀ {e : TypeId} {size n : Nat} {v : Value} {xs : List Value}, w.ownsRow 0 e size v n xs → e ≠ 42 → w'.ownsRow 0 e size v n xs := fun hrow he => ownsRow_kept hrow fun b hb => hk b (by
    rintro rfl
    obtain ⟨c, hc⟩ := rowT hrow hb
    rw [h.cell] at hc
    simp at hc
    exact he hc.2.symm)
  have n1 : (66 : TypeId) ≠ 42 := by decide
  have n2 : (68 : TypeId) ≠ 42 := by decide
  have n3 : (85 : TypeId) ≠ 42 := by decide
  refine ⟨hq, by rw [eF.1, eF.2]; exact hr h.F n1, by rw [eN.1, eN.2]; exact hr h.N n2, ?_, ?_, hw, by rw [er]; exact h.wr, h.s_q, by rw [eF.2]; exact h.s_f, by rw [eN.2]; exact h.s_n, ?_, ?_, fun b hb => Nat.lt_of_lt_of_le (h.lt b hb) hs⟩
  · rcases eL with ⟨e1, e2⟩ | ⟨e1, e2⟩
    · rw [e1, e2]; exact hr h.L n2
    · rw [e1, e2]; exact hr h.N n2
  · rcases eC with ⟨e1, e2⟩ | ⟨e1, e2⟩
    · rw [e1, e2]; exact hr h.C n3
    · rw [e1, e2]; exact World.ownsRow_nil _ _ _ _
  · rcases eL with ⟨_, e2⟩ | ⟨_, e2⟩
    · rw [e2]; exact h.s_l
    · rw [e2]; exact h.s_n
  · rcases eC with ⟨_, e2⟩ | ⟨_, e2⟩
    · rw [e2]; exact h.s_c
    · rw [e2]; intro b hb; cases hb

theorem RefM.turn1 {w : World} {S : Nat → Prop} {q o : Nat} {st st' : St} {g : RGhost} {v : Value} (h : RefM w S q st g) (hq : (rCells st g).setIfInBounds o v = rCells st' g)
    (eF : st'.F = st.F) (eN : st'.N = st.N) (eL : st'.L = st.L) (eC : st'.C = st.C) (er : st'.room = st.room) (hw : -1 ≤ st'.left ∧ st'.left ≤ 9223372036854775807) : RStep S q st' w (w.setCell ⟨q, o, none⟩ v) :=
  ⟨⟨S, ⟨g, h.turn (by rw [setR h.cell, hq]) (fun b hb => Below.heap_setCell _ _ _ _ hb) (by simp [World.setCell]) ⟨eF, rfl⟩ ⟨eN, rfl⟩ (.inl ⟨eL, rfl⟩) (.inl ⟨eC, rfl⟩) er hw⟩, fun _ h => h, fun _ h => .inl h⟩, (Upon.refl S w).setCell (p := ⟨q, o, none⟩) (.inl h.s_q) v⟩

/-! ### New -/
def RMade (room : Int) (w : World) (e : Ending) (w' : World) : Prop :=
  ∃ S q, e = .returned (.pointer (some ⟨q, 0, none⟩)) ∧ IsRef w' S q (new room) ∧ (∀ b, S b → w.heap.size ≤ b) ∧ Upon (fun _ => False) w w'
set_option maxHeartbeats 800000 in
theorem refnew_any (room : Int) (hr : -9223372036854775808 ≤ room ∧ room ≤ 9223372036854775807) (w : World) : Calls Try.prog 6 #[.int .i64 room] w (RMade room w) := by
  have H : Hid (RMade room w (.returned (.pointer (some ⟨w.heap.size, 0, none⟩))) (w.alloc (.cells #[.int .i64 room, .slice none 0 0, .slice none 0 0, .slice none 0 0, .slice none 0 0, .bool false, .int .i64 (-1)] 42 (0, 0)))) := Lib.hid (by
    refine ⟨fun b => b = w.heap.size, w.heap.size, rfl, ⟨⟨.slice none 0 0, .slice none 0 0, .slice none 0 0, .slice none 0 0⟩, ?_⟩, fun b hb => by rw [hb]; exact Nat.le_refl _, (Upon.refl _ w).alloc _⟩
    exact ⟨cell_new w _, World.ownsRow_nil _ _ _ _, World.ownsRow_nil _ _ _ _, World.ownsRow_nil _ _ _ _, World.ownsRow_nil _ _ _ _, ⟨by simp [new], by simp [new]⟩, hr, rfl, (fun b h => by cases h), (fun b h => by cases h), (fun b h => by cases h), (fun b h => by cases h), (fun b hb => by rw [hb]; simp)⟩)
  go_enter Try.func6, Try.ntmps6
  go_wp2
  go_ret
  exact H.out

/-! ### write, Fuse, SyncNames -/
set_option maxHeartbeats 1600000 in
theorem refwr_any (S : Nat → Prop) (q : Nat) (st : St) (w : World) (h : IsRef w S q st) :
    Calls Try.prog 45 #[.pointer (some ⟨q, 0, none⟩)] w fun e w' => e = .returned (.bool (wrB st)) ∧ RStep S q (wrS st) w w' := by
  have hst := h
  obtain ⟨g, h⟩ := h
  obtain ⟨-, -, -, -, -, k5, k6, kf⟩ := r7 h.cell
  have kf5 := kf 5
  have kf6 := kf 6
  obtain ⟨w0, w1⟩ := h.wl
  clear kf
  by_cases h0 : st.left = 0
  · have e : wrS st = { st with dead := true } := by unfold wrS; simp [h0]
    have e2 : wrB st = false := by simp [wrB, h0]
    have hs : RStep S q (wrS st) w (w.setCell ⟨q, 5, none⟩ (.bool true)) := by
      rw [e]; exact h.turn1 rfl rfl rfl rfl rfl rfl h.wl
    rw [e2]
    replace hs := Lib.hid hs
    rw [h0] at k6
    clear h e e2 h0 w0 w1 hst
    go_enter Try.func45, Try.ntmps45
    go_wp2
    go_ret
    exact ⟨rfl, hs.out⟩
  · have h0' : (st.left == 0) = false := by simpa using h0
    cases hd : st.dead with
    | true =>
      have e : wrS st = st := by unfold wrS; rw [hd]; simp; cases st; simp_all
      have e2 : wrB st = false := by simp [wrB, hd]
      rw [e, e2]
      have hs := Lib.hid (RStep.same hst)
      rw [hd] at k5
      clear h e e2 hd hst
      go_enter Try.func45, Try.ntmps45
      go_wp2
      go_ret
      exact ⟨rfl, hs.out⟩
    | false =>
      rw [hd] at k5
      have e2 : wrB st = true := by simp [wrB, hd, h0]
      by_cases h1 : 0 < st.left
      · have e : wrS st = { st with left := st.left - 1 } := by unfold wrS; simp [hd, h0, h1]
        have hs : RStep S q (wrS st) w (w.setCell ⟨q, 6, none⟩ (.int .i64 (st.left - 1))) := by
          rw [e]; exact h.turn1 rfl rfl rfl rfl rfl rfl ⟨by simp only; omega, by simp only; omega⟩
        rw [e2]
        replace hs := Lib.hid hs
        clear h e e2 hd hst
        go_enter Try.func45, Try.ntmps45
        go_wp2
        go_ret
        exact ⟨rfl, hs.out⟩
      · have e : wrS st = st := by unfold wrS; simp [hd, h0, h1]
        rw [e, e2]
        have hs := Lib.hid (RStep.same hst)
        clear h e e2 hd hst
        go_enter Try.func45, Try.ntmps45
        go_wp2
        go_ret
        exact ⟨rfl, hs.out⟩
theorem refwr_is (S : Nat → Prop) (q : Nat) (st : St) (w : World) (h : IsRef w S q st) {b : Bool} (hb : wrB st = b) :
    Calls Try.prog 45 #[.pointer (some ⟨q, 0, none⟩)] w fun e w' => e = .returned (.bool b) ∧ RStep S q (wrS st) w w' := by
  subst hb; exact refwr_any S q st w h

set_option maxHeartbeats 800000 in
theorem reffuse_any (S : Nat → Prop) (q : Nat) (st : St) (n : Int) (hn : -9223372036854775808 ≤ n ∧ n ≤ 9223372036854775807) (w : World) (h : IsRef w S q st) :
    Calls Try.prog 29 #[.pointer (some ⟨q, 0, none⟩), .int .i64 n] w fun e w' => e = .returned (.tuple #[]) ∧ RStep S q (fuse st n) w w' := by
  have hst := h
  obtain ⟨g, h⟩ := h
  obtain ⟨-, -, -, -, -, k5, k6, kf⟩ := r7 h.cell
  have kf6 := kf 6
  clear kf
  cases hd : st.dead with
  | true =>
    have hs := Lib.hid (show RStep S q (fuse st n) w w by unfold fuse; rw [hd]; exact RStep.same hst)
    rw [hd] at k5
    clear h hd hst
    go_enter Try.func29, Try.ntmps29
    go_wp2
    go_end0
    exact ⟨rfl, hs.out⟩
  | false =>
    have hs := Lib.hid (show RStep S q (fuse st n) w (w.setCell ⟨q, 6, none⟩ (.int .i64 (max (-1) n))) by
      have e : fuse st n = { st with left := max (-1) n } := by unfold fuse; rw [hd]; rfl
      rw [e]
      exact h.turn1 rfl rfl rfl rfl rfl rfl ⟨by simp only; omega, by simp only; omega⟩)
    rw [hd] at k5
    clear h hd hst
    go_enter Try.func29, Try.ntmps29
    go_wp2
    go_end0
    exact ⟨rfl, hs.out⟩
end Dsk
end Go.Proofs.Ytiadjjdmhpabnaa
