/- Kit for the disk (layer 4): what a call leaves alone but for a set of blocks; a buffer of bytes whose head may be frozen, and append to it; maps whose elements are pointers to files. -/
import Derived.Test.YtfpphahdbhelcaaDiskPure
import Derived.WalkKit
import Derived.WalkSpells
import Derived.WalkLawsBesides
import Derived.Handy
import Derived.Below
import Derived.OneCell
import Derived.Lib.Hide
import Derived.Lib.FrozenHead
import Derived.Maps.OwnOps
import Derived.Maps.AppendAt
import Derived.Maps.RangeWalk
namespace Go.Proofs.Ytfpphahdbhelcaa
open Go.RowKit
namespace Dsk
open Go.Maps

/-- But for the blocks of S, all that lay in w lies as it did. -/
structure Upon (S : Nat → Prop) (w w' : World) : Prop where
  os : w'.os = w.os
  tape : w'.tape = w.tape
  output : w'.output = w.output
  size : w.heap.size ≤ w'.heap.size
  block : ∀ k, k < w.heap.size → ¬ S k → w'.heap[k]? = w.heap[k]?

theorem Upon.refl (S : Nat → Prop) (w : World) : Upon S w w := ⟨rfl, rfl, rfl, Nat.le_refl _, fun _ _ _ => rfl⟩
theorem Upon.trans {S : Nat → Prop} {a b c : World} (h : Upon S a b) (k : Upon S b c) : Upon S a c :=
  ⟨k.os.trans h.os, k.tape.trans h.tape, k.output.trans h.output, Nat.le_trans h.size k.size, fun i hi hn => (k.block i (Nat.lt_of_lt_of_le hi h.size) hn).trans (h.block i hi hn)⟩
/-- .. the second step may write to what was new behind the first one. -/
theorem Upon.trans' {S T : Nat → Prop} {a b c : World} (h : Upon S a b) (k : Upon T b c) (hT : ∀ i, i < a.heap.size → T i → S i) : Upon S a c :=
  ⟨k.os.trans h.os, k.tape.trans h.tape, k.output.trans h.output, Nat.le_trans h.size k.size, fun i hi hn => (k.block i (Nat.lt_of_lt_of_le hi h.size) (fun ht => hn (hT i hi ht))).trans (h.block i hi hn)⟩
theorem Upon.mono {S T : Nat → Prop} {a b : World} (h : Upon S a b) (hT : ∀ i, i < a.heap.size → S i → T i) : Upon T a b :=
  ⟨h.os, h.tape, h.output, h.size, fun i hi hn => h.block i hi (fun hs => hn (hT i hi hs))⟩
theorem Upon.drew {S : Nat → Prop} {a w : World} (h : Upon S a w) : Upon S a w.drew := ⟨h.os, h.tape, h.output, h.size, h.block⟩
theorem Upon.alloc {S : Nat → Prop} {a w : World} (h : Upon S a w) (o : Obj) : Upon S a (w.alloc o) :=
  h.trans' (T := fun _ => False) ⟨rfl, rfl, rfl, by simp, fun k hk _ => Below.heap_alloc _ _ _ hk⟩ (fun _ _ => False.elim)
theorem Upon.setCell {S : Nat → Prop} {a w : World} (h : Upon S a w) {p : Addr} (hp : S p.block ∨ a.heap.size ≤ p.block) (u : Value) : Upon S a (w.setCell p u) :=
  h.trans' (T := fun k => k = p.block) ⟨rfl, rfl, rfl, by simp [World.setCell], fun k _ hk => Below.heap_setCell _ _ _ _ hk⟩ (fun i hi e => by
    subst e; rcases hp with h | h
    · exact h
    · omega)
theorem Upon.grown {S : Nat → Prop} {a w w' : World} {row : Option Nat} (h : Upon S a w) (hg : w.grownBy w' row) (hr : ∀ k, row = some k → S k ∨ a.heap.size ≤ k) : Upon S a w' :=
  h.trans' (T := fun k => some k = row) ⟨hg.os, hg.tape, hg.output, hg.size, fun k hk hn => hg.block k hk hn⟩ (fun i hi e => by
    rcases hr i e.symm with h | h
    · exact h
    · omega)
theorem Upon.freeze {S : Nat → Prop} {a w : World} (h : Upon S a w) {p : Addr} (hp : S p.block) (n : Nat) : Upon S a (w.freeze p n) := by
  refine h.trans' (T := fun k => k = p.block) ?_ (fun i _ e => by rw [e]; exact hp)
  unfold World.freeze
  split
  · exact Upon.refl _ w
  · refine ⟨rfl, rfl, rfl, by simp, fun k _ hk => ?_⟩
    simp only [Array.getElem?_modify]
    rw [if_neg (fun e => hk e.symm)]
theorem Upon.below {S : Nat → Prop} {a w : World} (h : Upon S a w) {B : Nat} (hB : B ≤ a.heap.size) (hS : ∀ k, S k → B ≤ k) : Below B a w :=
  ⟨h.os, h.tape, h.output, h.size, fun k hk => h.block k (by omega) (fun hs => by have := hS k hs; omega)⟩
theorem Upon.of_below {a w : World} (h : Below a.heap.size a w) (S : Nat → Prop) : Upon S a w := ⟨h.os, h.tape, h.output, h.size, fun k hk _ => h.block k hk⟩
theorem Upon.to_grown {a w : World} {p : Nat} (h : Upon (fun k => k = p) a w) : a.grownBy w (some p) :=
  ⟨h.os, h.tape, h.output, h.size, fun k hk hn => h.block k hk (fun e => hn (by rw [e]))⟩

/-! ### a buffer of bytes -/
/-- The slice v holds the bytes l, in row r (none: nil). -/
def BufAt (w : World) (v : Value) (r : Option Nat) (l : Str) : Prop := v.ownBlock = r ∧ w.ownsRowF 0 5 1 v l.length (Lib.byteCells l)

theorem BufAt.nil (w : World) : BufAt w (.slice none 0 0) none [] := ⟨rfl, World.ownsRowF_nil _ _ _ _⟩
theorem BufAt.lt {w : World} {v : Value} {r : Option Nat} {l : Str} (h : BufAt w v r l) : ∀ g, r = some g → g < w.heap.size := fun g hg => (h.2.lt g (h.1.trans hg)).2
theorem BufAt.kept {w w' : World} {v : Value} {r : Option Nat} {l : Str} (h : BufAt w v r l) (hk : ∀ g, r = some g → w'.heap[g]? = w.heap[g]?) : BufAt w' v r l := by
  refine ⟨h.1, h.2.1, ?_⟩
  rcases h.2.2 with hn | ⟨g, cap, cur, fz, rfl, hb, hg, r⟩
  · exact .inl hn
  · exact .inr ⟨g, cap, cur, fz, rfl, hb, (hk g h.1.symm).trans hg, r⟩
theorem BufAt.type {w : World} {v : Value} {r : Option Nat} {l : Str} (h : BufAt w v r l) : ∀ g, r = some g → ∃ c fz, w.heap[g]? = some (.cells c 5 fz) := by
  intro g hg
  rcases h.2.2 with ⟨rfl, _⟩ | ⟨g', cap, cur, fz, rfl, hb, hgg, _⟩
  · rw [← h.1] at hg; simp [Value.ownBlock] at hg
  · rw [← h.1] at hg; simp [Value.ownBlock] at hg; subst hg; exact ⟨_, _, hgg⟩
theorem BufAt.slice {w : World} {v : Value} {r : Option Nat} {l : Str} (h : BufAt w v r l) : ∃ a c, v = .slice a l.length c := by
  rcases h.2.2 with ⟨hv, h0⟩ | ⟨g, cap, cur, fz, hv, _⟩
  · exact ⟨none, 0, by rw [hv, h0]⟩
  · exact ⟨_, _, hv⟩

theorem infoByte : (Try.prog.info? 5).map (fun i => (i.zero, i.size, i.bytes)) = some (some (.int .u8 0), 1, 1) := by kernel_rfl

theorem cells_app (l : Str) (s : ByteArray) : Lib.byteCells l ++ Lib.strCells s = Lib.byteCells (l ++ s.data.toList) := by
  simp [Lib.byteCells, Lib.strCells]

theorem run_buf_append (w : World) (v : Value) (r : Option Nat) (l : Str) (h : BufAt w v r l) (s : ByteArray) (hlen : l.length + s.size ≤ 140737488355328) (ty : TypeId) :
    ∃ v' r' w', (Builtin.append_ #[54, 9] ty #[v, .string s]).run Try.prog w = .ok v' w' ∧ BufAt w' v' r' (l ++ s.data.toList) ∧ w.grownBy w' r ∧ (r' = r ∨ ∃ g, r' = some g ∧ w.heap.size ≤ g) := by
  obtain ⟨i0, hi, hz0, hz1, hz2⟩ := info_parts infoByte
  have hm : l.length + s.size ≤ maxLen := by unfold maxLen; omega
  have hlen2 : (l ++ s.data.toList).length = l.length + s.size := by simp
  obtain ⟨rfl, hown⟩ := h
  rcases hown.2 with ⟨rfl, h0⟩ | ⟨g, cap, cur, fz, rfl, hbg, hg, hfz, hnc, hcm, hcs, htake⟩
  · have hl : l = [] := List.eq_nil_of_length_eq_zero h0
    subst hl
    obtain ⟨v', w', h1, h2, h3, _⟩ := Lib.run_append_own_stringF (P := Try.prog) w w.heap.size 54 9 ty 5 i0 Try.underlying54 Try.underlying9 hi hz0 hz1 hz2 (.slice none 0 0) 0 [] (World.ownsRowF_nil _ _ _ _) s (by simpa using hm) (by simpa using hlen) (Nat.le_refl _)
    refine ⟨v', v'.ownBlock, w', h1, ⟨rfl, ?_, ?_⟩, h3, ?_⟩
    · simp [Lib.byteCells]
    · rcases h2.2 with ⟨hv, hn⟩ | ⟨g, cap, cur, fz, hv, _, r1, r2, r3, r4, r5, r6⟩
      · exact .inl ⟨hv, by simpa using hn⟩
      · refine .inr ⟨g, cap, cur, fz, ?_, Nat.zero_le _, r1, ?_, ?_, r4, r5, ?_⟩
        · rw [hv]; simp
        · simpa using r2
        · simpa using r3
        · have e := cells_app [] s; simp [Lib.byteCells] at e r6 ⊢; simpa [Lib.strCells] using r6
    · cases hv : v'.ownBlock with
      | none => exact .inl rfl
      | some g => exact .inr ⟨g, rfl, (h2.lt g hv).1⟩
  · by_cases hroom : l.length + s.size ≤ cap
    · have hcs' : cur.size = cap := by simpa using hcs
      have hr := Lib.run_append_room_stringF (P := Try.prog) w 54 9 ty 5 i0 Try.underlying54 Try.underlying9 hi hz1 g l.length cap cur fz hg (by simpa using hfz) s hroom (by omega)
      refine ⟨_, some g, _, hr, ⟨rfl, ?_, .inr ⟨g, cap, _, fz, ?_, Nat.zero_le _, setRow_heap w g cur _ _ _ hg, ?_, by omega, hcm, ?_, ?_⟩⟩, ⟨rfl, rfl, rfl, by simp, fun k _ hk => setRow_other w g k _ (fun e => hk (by simp [Value.ownBlock, e]))⟩, .inl rfl⟩
      · simp [Lib.byteCells]
      · rw [hlen2]
      · rw [hlen2]; omega
      · simp only [List.size_toArray, List.length_append, List.length_take, List.length_drop, Array.length_toList, Lib.strCells_length]
        omega
      · have ht' : cur.toList.take l.length = Lib.byteCells l := by simpa using htake
        rw [ht', ← cells_app]
        have e : (l ++ s.data.toList).length * 1 = (Lib.byteCells l ++ Lib.strCells s).length := by simp [Lib.byteCells, Lib.strCells]
        rw [e]
        exact List.take_left
    · have holds : ∀ j u, (Lib.byteCells l)[j]? = some u → w.cell? ((⟨g, 0, none⟩ : Addr).add j) = some u := hown.cells (g := g) rfl
      have hr := Lib.run_append_grow_string (P := Try.prog) w 54 9 ty 5 i0 (.int .u8 0) Try.underlying54 Try.underlying9 hi hz0 ⟨g, 0, none⟩ l.length cap (Lib.byteCells l) (by rw [hz1]; simp [Lib.byteCells]) holds s (by omega) (by unfold maxLen at hm; omega) (by rw [hz2]; exact growslice_fits (by omega) (by omega))
      have hge := grownCap_ge w (l.length + s.size) cap 5
      have hcm2 : grownCap w (l.length + s.size) cap 5 ≤ maxLen := grownCap_le_maxLen w (l.length + s.size) cap 5 hm
      refine ⟨_, some w.heap.size, _, hr, ⟨rfl, ?_, .inr ⟨w.heap.size, _, _, (0, 0), ?_, Nat.zero_le _, heap_alloc_new w.drew _, Nat.zero_le _, ?_, hcm2, ?_, ?_⟩⟩, ⟨rfl, rfl, rfl, by simp, fun k hk _ => Below.heap_alloc w.drew _ k hk⟩, .inr ⟨_, rfl, Nat.le_refl _⟩⟩
      · simp [Lib.byteCells]
      · rw [hlen2]
      · rw [hlen2]; exact hge
      · have hz1' : (Value.int IntKind.u8 0).cells.size = 1 := rfl
        simp only [Array.size_append, List.size_toArray, size_zeroCells, hz1', Lib.strCells_length, Lib.byteCells_length]
        omega
      · have e : (l ++ s.data.toList).length * 1 = (Lib.byteCells l ++ Lib.strCells s).length := by simp [Lib.byteCells, Lib.strCells]
        simp only [Array.toList_append, List.append_assoc]
        rw [← List.append_assoc, ← cells_app, e]
        exact List.take_left

theorem wpList_buf_append (w : World) {ops : Array Oper} {rest : List Oper} {o : Oper} {a : Act} {Q : Exit → Act → World → Prop} (hgd : o.guard = none) (sl x : Operand)
    (ho : o.op = .call { callee := .builtin .append, args := #[sl, x], argTypes := #[54, 9] })
    (v : Value) (r : Option Nat) (l : Str) (hs : a.eval sl = v) (h : BufAt w v r l) (s : ByteArray) (hx : a.eval x = .string s) (hlen : l.length + s.size ≤ 140737488355328)
    (hK : ∀ v' r' w', BufAt w' v' r' (l ++ s.data.toList) → w.grownBy w' r → (r' = r ∨ ∃ g, r' = some g ∧ w.heap.size ≤ g) → wpList Try.prog ops Q rest (a.put o.dst v') w') : wpList Try.prog ops Q (o :: rest) a w := by
  refine wpList_plain hgd fun K hK' => ?_
  obtain ⟨v', r', w', hr, h2, h3, h4⟩ := run_buf_append w v r l h s hlen o.type
  unfold Oper.wp execOp
  simp only [ho, resolve, invoke, builtin, Sem.run_bind, Sem.run_pure, Result.andThen_ok, List.map_toArray, List.map_cons, List.map_nil, hs, hx, hr]
  exact hK' _ _ (hK v' r' w' h2 h3 h4)

/-! ### maps of pointers to files -/
/-- How a pointer to a file reads: by its block's number. -/
def ptrElem : Value → Option (DataW Unit × List MemPlace)
  | .pointer none => some (.lit (.int .i64 (-1)), [])
  | .pointer (some ⟨b, 0, none⟩) => some (.lit (.int .i64 (b : Int)), [])
  | _ => none

theorem ptrElem_inv {v : Value} {n : Nat} {ps : List MemPlace} (h : ptrElem v = some (.lit (.int .i64 (n : Int)), ps)) : v = .pointer (some ⟨n, 0, none⟩) := by
  unfold ptrElem at h
  split at h
  · simp at h
  · rename_i b
    simp at h
    obtain ⟨h, _⟩ := h
    have : b = n := by omega
    rw [this]
  · cases h
theorem ptrElem_none {v : Value} {ps : List MemPlace} (h : ptrElem v = some (.lit (.int .i64 (-1)), ps)) : v = .pointer none := by
  unfold ptrElem at h
  split at h
  · rfl
  · simp at h
  · cases h

theorem keyed9 : Keyed Try.prog 9 := string_keyed Try.underlying9
theorem zeroP (w : World) : (zeroValue 61).run Try.prog w = .ok (.pointer none) w := by kernel_rfl

/-- The map in block b holds the names N, file number i in block 'fs[i]'. -/
def MapAt (w : World) (b : Nat) (fs : List Nat) (N : Nms) : Prop := w.ownsMap Try.prog 9 ptrElem b N.length (toD fs N)

theorem MapAt.of {w : World} {b n : Nat} {fs : List Nat} {N : Nms} (h : w.ownsMap Try.prog 9 ptrElem b n (toD fs N)) : MapAt w b fs N := by
  obtain ⟨es, clock, hb, F, hs, hD⟩ := h
  refine ⟨es, clock, hb, F, ?_, hD⟩
  have e := congrArg Maps.size hD
  rw [toD_size] at e
  simp only [Maps.size] at e
  rw [length_sorted] at e
  simp at e
  omega
theorem MapAt.lt {w : World} {b : Nat} {fs : List Nat} {N : Nms} (h : MapAt w b fs N) : b < w.heap.size := World.ownsMap.lt h
theorem MapAt.kept {w w' : World} {b : Nat} {fs : List Nat} {N : Nms} (h : MapAt w b fs N) (hk : w'.heap[b]? = w.heap[b]?) : MapAt w' b fs N := by
  obtain ⟨es, clock, hb, F, hs, hD⟩ := h
  exact ⟨es, clock, hk.trans hb, F, hs, hD⟩
theorem MapAt.more {w : World} {b : Nat} {fs : List Nat} {N : Nms} (h : MapAt w b fs N) (hi : ∀ p ∈ N, p.2 < fs.length) (e : List Nat) : MapAt w b (fs ++ e) N := by
  unfold MapAt; rw [toD_more hi]; exact h

/-- What a look-up tells. -/
def ptrOf (fs : List Nat) : Option Nat → Value
  | some i => .pointer (some ⟨blk fs i, 0, none⟩)
  | none => .pointer none

theorem wpList_lookup_run {P : Program} (w : World) {ops : Array Oper} {rest : List Oper} {o : Oper} {a : Act} {Q : Exit → Act → World → Prop}
    (hg : o.guard = none) (m x : Operand) (t : TypeId) (hop : o.op = Op.lookup t m x false) (mv key v : Value) (hm : a.eval m = mv) (hx : a.eval x = key) (hrun : (Instr.lookup t mv key false).run P w = .ok v w)
    (hK : wpList P ops Q rest (a.put o.dst v) w) : wpList P ops Q (o :: rest) a w := by
  refine wpList_plain hg fun K' hK' => ?_
  unfold Oper.wp
  simp [execOp, hop, hm, hx, hrun, Result.andThen]
  exact hK' _ _ hK
theorem wpList_look (w : World) {ops : Array Oper} {rest : List Oper} {o : Oper} {a : Act} {Q : Exit → Act → World → Prop}
    (hg : o.guard = none) (m x : Operand) (hop : o.op = Op.lookup 57 m x false) (b : Nat) (fs : List Nat) (N : Nms)
    (hm : a.eval m = .map (some b)) (h : MapAt w b fs N) (k : ByteArray) (hx : a.eval x = .string k) (hk : k.size ≤ maxLen)
    (hK : wpList Try.prog ops Q rest (a.put o.dst (ptrOf fs (lookN N k.data.toList))) w) :
    wpList Try.prog ops Q (o :: rest) a w := by
  obtain ⟨v, ps, hrun, hv⟩ := World.ownsMap.lookup h keyed9 Try.underlying57 (zeroP w) (zd := .lit (.int .i64 (-1))) (zp := []) rfl (WideMaps.keyOf_string_mk Try.underlying9 hk)
  rw [toD_at] at hv
  have hv' : v = ptrOf fs (lookN N k.data.toList) := by
    cases e : lookN N k.data.toList with
    | none => rw [e] at hv; exact ptrElem_none hv
    | some i => rw [e] at hv; exact ptrElem_inv hv
  subst hv'
  exact wpList_lookup_run w hg m x _ hop _ _ _ hm hx hrun hK

theorem wpList_putN (w : World) {ops : Array Oper} {rest : List Oper} {o : Oper} {a : Act} {Q : Exit → Act → World → Prop}
    (hg : o.guard = none) (m x y : Operand) (hop : o.op = Op.mapUpdate 57 m x y) (b : Nat) (fs : List Nat) (N : Nms)
    (hm : a.eval m = .map (some b)) (h : MapAt w b fs N) (hn : N.length < maxLen) (k : ByteArray) (hx : a.eval x = .string k) (hk : k.size ≤ maxLen) (i : Nat) (hy : a.eval y = .pointer (some ⟨blk fs i, 0, none⟩))
    (hK : ∀ w', MapAt w' b fs (putN N k.data.toList i) → w.grownBy w' (some b) → wpList Try.prog ops Q rest (a.put o.dst undef) w') :
    wpList Try.prog ops Q (o :: rest) a w :=
  wpList_mapUpdate_own w hg m x y _ hop 9 61 keyed9 Try.underlying57 ptrElem b N.length (toD fs N) hm h hn (.string k) (.pointer (some ⟨blk fs i, 0, none⟩)) (.string k.data.toList) hx hy (WideMaps.keyOf_string_mk Try.underlying9 hk)
    (.lit (.int .i64 ((blk fs i : Nat) : Int))) [] rfl (fun w' h1 h2 => hK w' (MapAt.of (by rw [← toD_put]; exact h1)) h2)

theorem wpList_delN (w : World) {ops : Array Oper} {rest : List Oper} {o : Oper} {a : Act} {Q : Exit → Act → World → Prop}
    (hg : o.guard = none) (m x : Operand) (hop : o.op = Op.call { callee := Callee.builtin Builtin.delete, args := #[m, x], argTypes := #[57, 9] }) (b : Nat) (fs : List Nat) (N : Nms)
    (hm : a.eval m = .map (some b)) (h : MapAt w b fs N) (k : ByteArray) (hx : a.eval x = .string k) (hk : k.size ≤ maxLen)
    (hK : ∀ w', MapAt w' b fs (delN N k.data.toList) → w.grownBy w' (some b) → wpList Try.prog ops Q rest (a.put o.dst (.tuple #[])) w') :
    wpList Try.prog ops Q (o :: rest) a w :=
  wpList_delete_own w hg m x _ _ hop 61 keyed9 Try.underlying57 ptrElem b N.length (toD fs N) hm h (.string k) (.string k.data.toList) hx (WideMaps.keyOf_string_mk Try.underlying9 hk)
    (fun w' h1 h2 => hK w' (MapAt.of (by rw [← toD_del]; exact h1)) h2.grown)

theorem wpList_lenN (w : World) {ops : Array Oper} {rest : List Oper} {o : Oper} {a : Act} {Q : Exit → Act → World → Prop}
    (hg : o.guard = none) (m : Operand) (hop : o.op = Op.call { callee := Callee.builtin Builtin.len, args := #[m], argTypes := #[57] }) (b : Nat) (fs : List Nat) (N : Nms)
    (hm : a.eval m = .map (some b)) (h : MapAt w b fs N)
    (hK : wpList Try.prog ops Q rest (a.put o.dst (.int .i64 N.length)) w) :
    wpList Try.prog ops Q (o :: rest) a w :=
  wpList_len_own w hg m _ hop 9 61 Try.underlying57 ptrElem b N.length (toD fs N) hm h (by rw [toD_size]; exact hK)
end Dsk
end Go.Proofs.Ytfpphahdbhelcaa
