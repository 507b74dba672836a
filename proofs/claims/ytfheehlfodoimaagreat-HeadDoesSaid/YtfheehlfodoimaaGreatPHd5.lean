/- Parts, put together: HdNms, HdMap, HdSer, HdFin, HdCnt, HdTop, HdLk. -/
import Derived.Test.YtfheehlfodoimaaGreatRows
import Derived.Maps.OwnSet
import Derived.Maps.Ext
import Derived.WalkKit
import Derived.Test.YtfheehlfodoimaaGreatPHd3
import Derived.WalkSpells
import Derived.WalkLawsBesides
import Derived.Handy
import Derived.Below
import Derived.Lib.Hide
import Derived.Lib.FrozenHead
import Derived.Maps.OwnOps
import Derived.Maps.RangeWalk
import Derived.Sort.MapsRangeIn
import Derived.Deep.QuietTactic
import Derived.BigQuiet
import Derived.Test.YtfheehlfodoimaaGreatPHd4
import Derived.Test.YtfheehlfodoimaaGreatPLb2

/- Maps from texts to numbers as plain data: names in rising order, each for a number. Names no function of the program. -/
section
set_option maxRecDepth 100000
namespace Go.Proofs.YtfheehlfodoimaaGreat
namespace Nm
open Go.Maps

abbrev Str := List UInt8
abbrev Nms := List (Str × Int)

def insN (x : Str × Int) : Nms → Nms
  | [] => [x]
  | y :: r => if bytesBefore x.1 y.1 then x :: y :: r else y :: insN x r
def delN (N : Nms) (k : Str) : Nms := N.filter fun p => !(p.1 == k)
def putN (N : Nms) (k : Str) (i : Int) : Nms := insN (k, i) (delN N k)
def lookN (N : Nms) (k : Str) : Option Int := (N.find? fun p => p.1 == k).map (·.2)

/-- What a map of names reads as. -/
def ent (p : Str × Int) : Lit × DataW Unit := (.string p.1, .lit (.int .i64 p.2))
def toD (N : Nms) : DataW Unit := .map (N.map ent)

theorem same_str (a b : Str) : (Lit.string a).sameKey (.string b) = (a == b) := rfl

theorem ent_filter (k : Str) : ∀ N : Nms, (N.map ent).filter (fun p => !p.1.sameKey (.string k)) = (delN N k).map ent
  | [] => rfl
  | p :: r => by
    have ih := ent_filter k r
    unfold delN at ih ⊢
    rw [List.map_cons, List.filter_cons, List.filter_cons, ih]
    show (if (!(Lit.string p.1).sameKey (.string k)) = true then _ else _) = _
    rw [same_str]
    split <;> rfl

theorem ent_insert (x : Str × Int) : ∀ N : Nms, DataW.insert (ent x) (N.map ent) = (insN x N).map ent
  | [] => rfl
  | y :: r => by
    unfold DataW.insert insN
    show (if bytesBefore x.1 y.1 = true then _ else _) = _
    split
    · simp [List.map]
    · rw [List.map_cons]; exact congrArg _ (ent_insert x r)

theorem toD_del (N : Nms) (k : Str) : (toD N).del (.string k) = toD (delN N k) := by
  unfold toD DataW.del; simp only; rw [ent_filter]
theorem toD_put (N : Nms) (k : Str) (i : Int) : (toD N).put (.string k) (.lit (.int .i64 i)) = toD (putN N k i) := by
  unfold toD DataW.put putN; simp only; rw [ent_filter]; exact congrArg _ (ent_insert (k, i) _)
theorem toD_size (N : Nms) : Maps.size (toD N) = N.length := by simp [toD, Maps.size]
theorem toD_at (N : Nms) (k : Str) (z : DataW Unit) : (toD N).atKey (.string k) z = match lookN N k with | some i => .lit (.int .i64 i) | none => z := by
  unfold toD DataW.atKey lookN
  simp only
  induction N with
  | nil => rfl
  | cons p r ih =>
    rw [List.map_cons, List.find?_cons, List.find?_cons]
    have e : ((ent p).1.sameKey (.string k)) = (p.1 == k) := rfl
    rw [e]
    cases h : (p.1 == k) with
    | true => rfl
    | false => exact ih
theorem toD_has (N : Nms) (k : Str) : Maps.has (toD N) (.string k) = (lookN N k).isSome := by
  unfold toD Maps.has lookN
  simp only
  induction N with
  | nil => rfl
  | cons p r ih =>
    rw [List.map_cons, List.any_cons, List.find?_cons]
    have e : ((ent p).1.sameKey (.string k)) = (p.1 == k) := rfl
    rw [e]
    cases h : (p.1 == k) with
    | true => rfl
    | false => exact ih
/-! ### names in rising order -/
def Rising (N : Nms) : Prop := N.Pairwise fun p q => bytesBefore p.1 q.1 = true

theorem mem_insN {x q : Str × Int} : ∀ {N : Nms}, q ∈ insN x N ↔ q = x ∨ q ∈ N
  | [] => by simp [insN]
  | y :: r => by
    unfold insN
    split
    · simp
    · rw [List.mem_cons, mem_insN, List.mem_cons]
      constructor
      · rintro (h | h | h) <;> simp [h]
      · rintro (h | h | h) <;> simp [h]
theorem mem_delN {q : Str × Int} {N : Nms} {k : Str} : q ∈ delN N k ↔ q ∈ N ∧ q.1 ≠ k := by
  unfold delN; simp
theorem mem_putN {q : Str × Int} {N : Nms} {k : Str} {i : Int} : q ∈ putN N k i ↔ q = (k, i) ∨ (q ∈ N ∧ q.1 ≠ k) := by
  unfold putN; rw [mem_insN, mem_delN]

theorem Rising.del {N : Nms} (h : Rising N) (k : Str) : Rising (delN N k) := List.Pairwise.sublist List.filter_sublist h
theorem rising_ins {x : Str × Int} : ∀ {N : Nms}, Rising N → (∀ p ∈ N, p.1 ≠ x.1) → Rising (insN x N)
  | [], _, _ => by simp [insN, Rising]
  | y :: r, h, hx => by
    unfold insN
    have hy : ∀ q ∈ r, bytesBefore y.1 q.1 = true := fun q hq => List.rel_of_pairwise_cons h hq
    have ht : Rising r := List.Pairwise.of_cons h
    by_cases hb : bytesBefore x.1 y.1 = true
    · rw [if_pos hb]
      refine List.Pairwise.cons ?_ h
      intro q hq
      rcases List.mem_cons.1 hq with rfl | hq
      · exact hb
      · exact WideShapes.bytes_trans _ _ _ hb (hy q hq)
    · rw [if_neg hb]
      refine List.Pairwise.cons ?_ (rising_ins ht fun p hp => hx p (List.mem_cons_of_mem _ hp))
      intro q hq
      rcases mem_insN.1 hq with rfl | hq
      · rcases WideAt.bytes_total _ _ (hx y List.mem_cons_self) with h1 | h1
        · exact h1
        · exact absurd h1 hb
      · exact hy q hq
theorem Rising.put {N : Nms} (h : Rising N) (k : Str) (i : Int) : Rising (putN N k i) :=
  rising_ins (h.del k) fun _ hp => (mem_delN.1 hp).2

theorem before_ne {a b : Str} (h : bytesBefore a b = true) : a ≠ b := by
  rintro rfl; rw [WideAt.bytes_irrefl] at h; cases h
theorem look_of_mem {N : Nms} (h : Rising N) {k : Str} {i : Int} (hm : (k, i) ∈ N) : lookN N k = some i := by
  induction N with
  | nil => cases hm
  | cons p r ih =>
    unfold lookN
    rw [List.find?_cons]
    rcases List.mem_cons.1 hm with rfl | hm
    · simp
    · have hb := before_ne (List.rel_of_pairwise_cons h hm)
      have e : (p.1 == k) = false := by simpa using hb
      rw [e]
      exact ih (List.Pairwise.of_cons h) hm
theorem mem_of_look {N : Nms} {k : Str} {i : Int} (h : lookN N k = some i) : (k, i) ∈ N := by
  unfold lookN at h
  obtain ⟨p, hp, rfl⟩ := Option.map_eq_some_iff.1 h
  have h1 := List.mem_of_find?_eq_some hp
  have h2 := List.find?_some hp
  simp at h2
  rw [← h2]; exact h1
theorem look_none {N : Nms} {k : Str} (h : lookN N k = none) : ∀ p ∈ N, p.1 ≠ k := by
  unfold lookN at h
  have := List.find?_eq_none.1 (Option.map_eq_none_iff.1 h)
  intro p hp; simpa using this p hp
theorem look_none_of {N : Nms} {k : Str} (h : ∀ p ∈ N, p.1 ≠ k) : lookN N k = none := by
  unfold lookN
  rw [Option.map_eq_none_iff, List.find?_eq_none]
  intro p hp; simpa using h p hp

theorem look_put_same {N : Nms} (h : Rising N) (k : Str) (i : Int) : lookN (putN N k i) k = some i := look_of_mem (h.put k i) (mem_putN.2 (.inl rfl))
theorem look_del_same {N : Nms} (k : Str) : lookN (delN N k) k = none := look_none_of fun _ hp => (mem_delN.1 hp).2
theorem look_del_other {N : Nms} (h : Rising N) {k j : Str} (hne : j ≠ k) : lookN (delN N k) j = lookN N j := by
  cases e : lookN N j with
  | none => exact look_none_of fun p hp => look_none e p (mem_delN.1 hp).1
  | some i => exact look_of_mem (h.del k) (mem_delN.2 ⟨mem_of_look e, hne⟩)
theorem look_put_other {N : Nms} (h : Rising N) {k j : Str} (i : Int) (hne : j ≠ k) : lookN (putN N k i) j = lookN N j := by
  cases e : lookN N j with
  | none =>
    refine look_none_of fun p hp => ?_
    rcases mem_putN.1 hp with rfl | hp
    · exact fun e => hne e.symm
    · exact look_none e p hp.1
  | some m => exact look_of_mem (h.put k i) (mem_putN.2 (.inr ⟨mem_of_look e, hne⟩))

theorem len_ins (x : Str × Int) : ∀ N : Nms, (insN x N).length = N.length + 1
  | [] => rfl
  | y :: r => by unfold insN; split <;> simp [len_ins x r]
theorem len_del_le (N : Nms) (k : Str) : (delN N k).length ≤ N.length := List.length_filter_le _ _
theorem len_del_some {N : Nms} {k : Str} {i : Int} (h : lookN N k = some i) : (delN N k).length + 1 ≤ N.length := by
  have hm := mem_of_look h
  unfold delN
  have := List.length_filter_lt_length_iff_exists (l := N) (p := fun p => !(p.1 == k))
  have := this.2 ⟨_, hm, by simp⟩
  omega
theorem len_put_le (N : Nms) (k : Str) (i : Int) : (putN N k i).length ≤ N.length + 1 := by
  unfold putN; rw [len_ins]; have := len_del_le N k; omega
theorem len_put_some {N : Nms} {k : Str} {j : Int} (h : lookN N k = some j) (i : Int) : (putN N k i).length ≤ N.length := by
  unfold putN; rw [len_ins]; exact len_del_some h
theorem del_none {N : Nms} {k : Str} (h : lookN N k = none) : delN N k = N := by
  unfold delN
  rw [List.filter_eq_self]
  intro p hp; simpa using look_none h p hp


theorem insN_perm (x : Str × Int) : ∀ N : Nms, (insN x N).Perm (x :: N)
  | [] => List.Perm.refl _
  | y :: r => by
    unfold insN
    split
    · exact List.Perm.refl _
    · exact ((insN_perm x r).cons y).trans (List.Perm.swap x y r)
theorem put_perm {N : Nms} {k : Str} (h : lookN N k = none) (i : Int) : (putN N k i).Perm ((k, i) :: N) := by
  unfold putN; rw [del_none h]; exact insN_perm _ _
end Nm
end Go.Proofs.YtfheehlfodoimaaGreat
end

/- The program's maps (layer 13): from keys to series, from keys to times. -/
section
set_option maxRecDepth 100000
namespace Go.Proofs.YtfheehlfodoimaaGreat
open Go.RowKit
namespace Hd
open Dsk Ob Nm
open Go.Maps (Keyed string_keyed)
set_option linter.unusedVariables false

/-- How a pointer to a series reads: by its block's number. -/
def ptrE : Value → Option (DataW Unit × List MemPlace)
  | .pointer none => some (.lit (.int .i64 (-1)), [])
  | .pointer (some ⟨b, 0, none⟩) => some (.lit (.int .i64 (b : Int)), [])
  | _ => none
theorem ptrE_inv {v : Value} {n : Nat} {ps : List MemPlace} (h : ptrE v = some (.lit (.int .i64 (n : Int)), ps)) : v = .pointer (some ⟨n, 0, none⟩) := by
  unfold ptrE at h
  split at h
  · simp at h
  · rename_i b
    simp at h
    obtain ⟨h, _⟩ := h
    have : b = n := by omega
    rw [this]
  · cases h
theorem ptrE_none {v : Value} {ps : List MemPlace} (h : ptrE v = some (.lit (.int .i64 (-1)), ps)) : v = .pointer none := by
  unfold ptrE at h
  split at h
  · rfl
  · simp at h
  · cases h
theorem keyedS : Keyed Tryz.prog 9 := string_keyed Tryz.underlying9
theorem zeroS (w : World) : (zeroValue 82).run Tryz.prog w = .ok (.pointer none) w := by kernel_rfl
theorem zeroI (w : World) : (zeroValue 2).run Tryz.prog w = .ok (.int .i64 0) w := by kernel_rfl

/-- The map in block b: each key's series' block. -/
def MapS (w : World) (b : Nat) (N : Nms) : Prop := w.ownsMap Tryz.prog 9 ptrE b N.length (toD N)
theorem fit_len {k : TypeId} {R : Value → Option (DataW Unit × List MemPlace)} {w : World} {b n : Nat} {N : Nms} (h : w.ownsMap Tryz.prog k R b n (toD N)) : w.ownsMap Tryz.prog k R b N.length (toD N) := by
  obtain ⟨es, clock, hb, F, hs, hD⟩ := h
  refine ⟨es, clock, hb, F, ?_, hD⟩
  have e := congrArg Maps.size hD
  rw [toD_size] at e
  simp only [Maps.size] at e
  rw [length_sorted] at e
  simp at e
  omega
theorem MapS.lt {w : World} {b : Nat} {N : Nms} (h : MapS w b N) : b < w.heap.size := World.ownsMap.lt h
theorem MapS.kept {w w' : World} {b : Nat} {N : Nms} (h : MapS w b N) (hk : w'.heap[b]? = w.heap[b]?) : MapS w' b N := by
  obtain ⟨es, clock, hb, F, hs, hD⟩ := h
  exact ⟨es, clock, hk.trans hb, F, hs, hD⟩
/-- A map's block is no block of cells. -/
theorem MapS.ne {w : World} {b c : Nat} {N : Nms} {x : Array Value} {T : TypeId} {z : Nat × Nat} (h : MapS w b N) (hc : w.heap[c]? = some (.cells x T z)) : c ≠ b := by
  obtain ⟨es, clock, hb, _⟩ := h
  rintro rfl
  rw [hb] at hc; cases hc
theorem MapS.made (w : World) : MapS (w.alloc (.map #[] 0)) w.heap.size [] := fit_len (N := []) (World.ownsMap_made w Tryz.prog 9 ptrE)

theorem wpList_lookup_run {P : Program} (w : World) {ops : Array Oper} {rest : List Oper} {o : Oper} {a : Act} {Q : Exit → Act → World → Prop}
    (hg : o.guard = none) (m x : Operand) (t : TypeId) (hop : o.op = Op.lookup t m x false) (mv key v : Value) (hm : a.eval m = mv) (hx : a.eval x = key) (hrun : (Instr.lookup t mv key false).run P w = .ok v w)
    (hK : wpList P ops Q rest (a.put o.dst v) w) : wpList P ops Q (o :: rest) a w := by
  refine wpList_plain hg fun K' hK' => ?_
  unfold Oper.wp
  simp [execOp, hop, hm, hx, hrun, Result.andThen]
  exact hK' _ _ hK
theorem run_lookS_some {w : World} {b : Nat} {N : Nms} (h : MapS w b N) {k : ByteArray} (hk : k.size ≤ maxLen) {s : Nat} (hs : lookN N k.data.toList = some (s : Int)) :
    (Instr.lookup 48 (.map (some b)) (.string k) false).run Tryz.prog w = .ok (.pointer (some ⟨s, 0, none⟩)) w := by
  obtain ⟨v, ps, hrun, hv⟩ := World.ownsMap.lookup h keyedS Tryz.underlying48 (zeroS w) (zd := .lit (.int .i64 (-1))) (zp := []) rfl (WideMaps.keyOf_string_mk Tryz.underlying9 hk)
  rw [toD_at, hs] at hv
  rw [← ptrE_inv hv]; exact hrun
theorem run_lookS_none {w : World} {b : Nat} {N : Nms} (h : MapS w b N) {k : ByteArray} (hk : k.size ≤ maxLen) (hs : lookN N k.data.toList = none) :
    (Instr.lookup 48 (.map (some b)) (.string k) false).run Tryz.prog w = .ok (.pointer none) w := by
  obtain ⟨v, ps, hrun, hv⟩ := World.ownsMap.lookup h keyedS Tryz.underlying48 (zeroS w) (zd := .lit (.int .i64 (-1))) (zp := []) rfl (WideMaps.keyOf_string_mk Tryz.underlying9 hk)
  rw [toD_at, hs] at hv
  rw [← ptrE_none hv]; exact hrun
theorem wpList_lookS_some (w : World) {ops : Array Oper} {rest : List Oper} {o : Oper} {a : Act} {Q : Exit → Act → World → Prop}
    (hg : o.guard = none) (m x : Operand) (hop : o.op = Op.lookup 48 m x false) (b : Nat) (N : Nms)
    (hm : a.eval m = .map (some b)) (h : MapS w b N) (k : ByteArray) (hx : a.eval x = .string k) (hk : k.size ≤ maxLen) (s : Nat) (hs : lookN N k.data.toList = some (s : Int))
    (hK : wpList Tryz.prog ops Q rest (a.put o.dst (.pointer (some ⟨s, 0, none⟩))) w) :
    wpList Tryz.prog ops Q (o :: rest) a w := wpList_lookup_run w hg m x _ hop _ _ _ hm hx (run_lookS_some h hk hs) hK
theorem wpList_lookS_none (w : World) {ops : Array Oper} {rest : List Oper} {o : Oper} {a : Act} {Q : Exit → Act → World → Prop}
    (hg : o.guard = none) (m x : Operand) (hop : o.op = Op.lookup 48 m x false) (b : Nat) (N : Nms)
    (hm : a.eval m = .map (some b)) (h : MapS w b N) (k : ByteArray) (hx : a.eval x = .string k) (hk : k.size ≤ maxLen) (hs : lookN N k.data.toList = none)
    (hK : wpList Tryz.prog ops Q rest (a.put o.dst (.pointer none)) w) :
    wpList Tryz.prog ops Q (o :: rest) a w := wpList_lookup_run w hg m x _ hop _ _ _ hm hx (run_lookS_none h hk hs) hK
theorem wpList_putS (w : World) {ops : Array Oper} {rest : List Oper} {o : Oper} {a : Act} {Q : Exit → Act → World → Prop}
    (hg : o.guard = none) (m x y : Operand) (hop : o.op = Op.mapUpdate 48 m x y) (b : Nat) (N : Nms)
    (hm : a.eval m = .map (some b)) (h : MapS w b N) (hn : N.length < maxLen) (k : ByteArray) (hx : a.eval x = .string k) (hk : k.size ≤ maxLen) (s : Nat) (hy : a.eval y = .pointer (some ⟨s, 0, none⟩))
    (hK : ∀ w', MapS w' b (putN N k.data.toList (s : Int)) → w.grownBy w' (some b) → wpList Tryz.prog ops Q rest (a.put o.dst undef) w') :
    wpList Tryz.prog ops Q (o :: rest) a w :=
  wpList_mapUpdate_own w hg m x y _ hop 9 82 keyedS Tryz.underlying48 ptrE b N.length (toD N) hm h hn (.string k) (.pointer (some ⟨s, 0, none⟩)) (.string k.data.toList) hx hy (WideMaps.keyOf_string_mk Tryz.underlying9 hk)
    (.lit (.int .i64 (s : Int))) [] rfl (fun w' h1 h2 => hK w' (fit_len (by rw [← toD_put]; exact h1)) h2)
theorem wpList_lenS (w : World) {ops : Array Oper} {rest : List Oper} {o : Oper} {a : Act} {Q : Exit → Act → World → Prop}
    (hg : o.guard = none) (m : Operand) (hop : o.op = Op.call { callee := Callee.builtin Builtin.len, args := #[m], argTypes := #[48] }) (b : Nat) (N : Nms)
    (hm : a.eval m = .map (some b)) (h : MapS w b N)
    (hK : wpList Tryz.prog ops Q rest (a.put o.dst (.int .i64 N.length)) w) :
    wpList Tryz.prog ops Q (o :: rest) a w :=
  wpList_len_own w hg m _ hop 9 82 Tryz.underlying48 ptrE b N.length (toD N) hm h (by rw [toD_size]; exact hK)

/-! ### a range over it -/
abbrev RanS (w : World) (b r : Nat) (N : Nms) (left : Lit → Bool) (cnt : Nat) : Prop := w.ranges Tryz.prog 9 ptrE b r N.length (toD N) left cnt
theorem RanS.kept {w w' : World} {b r : Nat} {N : Nms} {left : Lit → Bool} {cnt : Nat} (h : RanS w b r N left cnt) (hb : w'.heap[b]? = w.heap[b]?) (hr : w'.heap[r]? = w.heap[r]?) : RanS w' b r N left cnt := by
  obtain ⟨es, clock, since, seen, c0, h1, F, hs, hD, h2, rest⟩ := h
  exact ⟨es, clock, since, seen, c0, hb.trans h1, F, hs, hD, hr.trans h2, rest⟩
theorem wpList_rangeS (w : World) {ops : Array Oper} {rest : List Oper} {o : Oper} {a : Act} {Q : Exit → Act → World → Prop} (hg : o.guard = none) (m : Operand) (hop : o.op = Op.range 48 m)
    (b : Nat) (N : Nms) (hm : a.eval m = .map (some b)) (h : MapS w b N)
    (hK : ∀ w', RanS w' b w.heap.size N (Maps.has (toD N)) (Maps.size (toD N)) → w.grownBy w' none → w'.heap.size = w.heap.size + 1 → wpList Tryz.prog ops Q rest (a.put o.dst (.pointer (some ⟨w.heap.size, 0, none⟩))) w') :
    wpList Tryz.prog ops Q (o :: rest) a w :=
  wpList_range_own w hg m _ hop 9 82 keyedS Tryz.underlying48 ptrE b N.length (toD N) hm h hK
theorem wpList_nextS (w : World) {ops : Array Oper} {rest : List Oper} {o : Oper} {a : Act} {Q : Exit → Act → World → Prop} (hg : o.guard = none) (it : Operand) (hop : o.op = Op.next it false)
    (b r : Nat) (N : Nms) (hN : ∀ p ∈ N, ∃ s : Nat, p.2 = (s : Int)) (left : Lit → Bool) (cnt : Nat) (hit : a.eval it = .pointer (some ⟨r, 0, none⟩)) (h : RanS w b r N left cnt)
    (hDone : (∀ kl, left kl = false) → wpList Tryz.prog ops Q rest (a.put o.dst (.tuple #[.bool false])) w)
    (hMore : ∀ (k : ByteArray) (s : Nat) (w' : World) (cnt' : Nat), k.size ≤ maxLen → lookN N k.data.toList = some (s : Int) → left (.string k.data.toList) = true → RanS w' b r N (fun z => left z && !z.sameKey (.string k.data.toList)) cnt' → cnt' < cnt →
      w.grownBy w' (some r) → w'.heap.size = w.heap.size → (Instr.entry (.pointer (some ⟨r, 0, none⟩))).run Tryz.prog w' = .ok (.tuple #[.string k, .pointer (some ⟨s, 0, none⟩)]) w' → wpList Tryz.prog ops Q rest (a.put o.dst (.tuple #[.bool true, .string k, .pointer (some ⟨s, 0, none⟩)])) w') :
    wpList Tryz.prog ops Q (o :: rest) a w := by
  refine wpList_next_ranges w hg it hop 9 keyedS ptrE (Value.string) (fun c : Option Nat => .pointer (c.map fun b => ⟨b, 0, none⟩))
    (fun key kl hkey => Maps.keyOf_string_inv Tryz.underlying9 hkey) (fun v y hv => ?_) b r N.length (toD N) left cnt hit h (fun _ => hDone) ?_
  · unfold ptrE at hv
    split at hv
    · exact ⟨none, rfl⟩
    · exact ⟨some _, rfl⟩
    · cases hv
  · intro k c kl y w' cnt' hkey hl hv hat hrg hlt hgr hsz hen
    have hkl : k.size ≤ maxLen ∧ kl = .string k.data.toList := by
      simp [keyOf, mapKey, Tryz.underlying9] at hkey
      exact ⟨hkey.1, hkey.2.symm⟩
    obtain ⟨hksz, rfl⟩ := hkl
    have h0 := hat (.lit (.int .i64 0))
    have h1 := hat (.lit (.int .i64 1))
    rw [toD_at] at h0 h1
    cases e : lookN N k.data.toList with
    | none =>
      rw [e] at h0 h1
      rw [← h0] at h1
      simp at h1
    | some i =>
      obtain ⟨s, hs⟩ := hN _ (mem_of_look e)
      simp only at hs
      subst hs
      rw [e] at h0
      simp only at h0
      have hc : Value.pointer (c.map fun b => ⟨b, 0, none⟩) = .pointer (some ⟨s, 0, none⟩) := ptrE_inv (ps := y.2) (by rw [hv, h0])
      rw [hc] at hen
      rw [hc]
      exact hMore k s w' cnt' hksz e hl hrg hlt hgr hsz hen

/-! ### from keys to times -/
def MapL (w : World) (b : Nat) (N : Nms) : Prop := w.ownsMap Tryz.prog 9 (plainElem Tryz.prog 2) b N.length (toD N)
theorem MapL.lt {w : World} {b : Nat} {N : Nms} (h : MapL w b N) : b < w.heap.size := World.ownsMap.lt h
theorem MapL.kept {w w' : World} {b : Nat} {N : Nms} (h : MapL w b N) (hk : w'.heap[b]? = w.heap[b]?) : MapL w' b N := by
  obtain ⟨es, clock, hb, F, hs, hD⟩ := h
  exact ⟨es, clock, hk.trans hb, F, hs, hD⟩
theorem MapL.made (w : World) : MapL (w.alloc (.map #[] 0)) w.heap.size [] := fit_len (N := []) (World.ownsMap_made w Tryz.prog 9 (plainElem Tryz.prog 2))
/-- What a look-up tells. -/
def lastN (N : Nms) (k : Str) : Int := (lookN N k).getD 0
theorem run_lookL {w : World} {b : Nat} {N : Nms} (h : MapL w b N) {k : ByteArray} (hk : k.size ≤ maxLen) :
    (Instr.lookup 73 (.map (some b)) (.string k) true).run Tryz.prog w = .ok (.tuple #[.int .i64 (lastN N k.data.toList), .bool (lookN N k.data.toList).isSome]) w := by
  obtain ⟨v, ps, hrun, hv⟩ := World.ownsMap.look_ok h keyedS Tryz.underlying73 (zeroI w) (zd := .lit (.int .i64 0)) (zp := []) (plainElem_int Tryz.underlying2 (by decide)) (WideMaps.keyOf_string_mk Tryz.underlying9 hk)
  obtain ⟨c, rfl, hc, hwc⟩ := plainElem_int_inv Tryz.underlying2 hv
  have hc2 : c = lastN N k.data.toList := by
    have hat := congrArg Prod.fst hc
    simp only at hat
    rw [toD_at] at hat
    unfold lastN
    cases e : lookN N k.data.toList with
    | none => rw [e] at hat; simp at hat; simp [hat]
    | some i => rw [e] at hat; simp at hat; simp [hat]
  rw [hrun, hc2, toD_has]
theorem run_lookL_some {w : World} {b : Nat} {N : Nms} (h : MapL w b N) {k : ByteArray} (hk : k.size ≤ maxLen) {t : Int} (e : lookN N k.data.toList = some t) :
    (Instr.lookup 73 (.map (some b)) (.string k) true).run Tryz.prog w = .ok (.tuple #[.int .i64 t, .bool true]) w := by
  rw [run_lookL h hk, lastN, e]; rfl
theorem run_lookL_none {w : World} {b : Nat} {N : Nms} (h : MapL w b N) {k : ByteArray} (hk : k.size ≤ maxLen) (e : lookN N k.data.toList = none) :
    (Instr.lookup 73 (.map (some b)) (.string k) true).run Tryz.prog w = .ok (.tuple #[.int .i64 0, .bool false]) w := by
  rw [run_lookL h hk, lastN, e]; rfl
theorem wpList_lookL (w : World) {ops : Array Oper} {rest : List Oper} {o : Oper} {a : Act} {Q : Exit → Act → World → Prop}
    (hg : o.guard = none) (m x : Operand) (hop : o.op = Op.lookup 73 m x true) (b : Nat) (N : Nms)
    (hm : a.eval m = .map (some b)) (h : MapL w b N) (k : ByteArray) (hx : a.eval x = .string k) (hk : k.size ≤ maxLen)
    (hK : wpList Tryz.prog ops Q rest (a.put o.dst (.tuple #[.int .i64 (lastN N k.data.toList), .bool (lookN N k.data.toList).isSome])) w) :
    wpList Tryz.prog ops Q (o :: rest) a w := by
  refine wpList_lookup_own_ok_int w hg m x _ hop 9 2 .i64 keyedS Tryz.underlying73 Tryz.underlying2 (zeroI w) b N.length (toD N) hm h (.string k) (.string k.data.toList) hx (WideMaps.keyOf_string_mk Tryz.underlying9 hk) ?_
  intro c hat _
  rw [toD_has]
  have hc : c = lastN N k.data.toList := by
    rw [toD_at] at hat
    unfold lastN
    cases e : lookN N k.data.toList with
    | none => rw [e] at hat; simp at hat; simp [hat]
    | some i => rw [e] at hat; simp at hat; simp [hat]
  rw [hc]; exact hK
theorem wpList_putL (w : World) {ops : Array Oper} {rest : List Oper} {o : Oper} {a : Act} {Q : Exit → Act → World → Prop}
    (hg : o.guard = none) (m x y : Operand) (hop : o.op = Op.mapUpdate 73 m x y) (b : Nat) (N : Nms)
    (hm : a.eval m = .map (some b)) (h : MapL w b N) (hn : N.length < maxLen) (k : ByteArray) (hx : a.eval x = .string k) (hk : k.size ≤ maxLen) (t : Int) (ht : (Lit.int .i64 t).wf = true) (hy : a.eval y = .int .i64 t)
    (hK : ∀ w', MapL w' b (putN N k.data.toList t) → w.grownBy w' (some b) → wpList Tryz.prog ops Q rest (a.put o.dst undef) w') :
    wpList Tryz.prog ops Q (o :: rest) a w :=
  wpList_mapUpdate_own w hg m x y _ hop 9 2 keyedS Tryz.underlying73 (plainElem Tryz.prog 2) b N.length (toD N) hm h hn (.string k) (.int .i64 t) (.string k.data.toList) hx hy (WideMaps.keyOf_string_mk Tryz.underlying9 hk)
    (.lit (.int .i64 t)) [] (plainElem_int Tryz.underlying2 ht) (fun w' h1 h2 => hK w' (fit_len (by rw [← toD_put]; exact h1)) h2)
end Hd
end Go.Proofs.YtfheehlfodoimaaGreat
end

/- The program's head in memory (layer 13): a map from keys to series. A: the blocks that are its own; R: those that it only reads (labels). -/
section
set_option maxRecDepth 100000
namespace Go.Proofs.YtfheehlfodoimaaGreat
open Go.RowKit Go.Sort
namespace Hd
open Bit Dsk Ob Dig Nm
set_option linter.unusedVariables false

/-! ### keys -/
theorem encB_pos (l : List Lb.Pr) : 1 ≤ (Lb.encB l).length := by rw [Lb.encB, List.length_append, numL_length]; omega
theorem encB_few {l : List Lb.Pr} (h : Lb.Ok l) : (Lb.encB l).length ≤ 1000 := by
  have h1 : (l.flatMap Lb.pB).length ≤ 114 * l.length := Lb.flat_len fun p hp => by
    have := h.good.each p hp
    exact ⟨(Lb.nm_size this.1).2, (Lb.vl_size this.2).2⟩
  have := nd_le l.length
  have := h.few
  rw [Lb.encB, List.length_append, numL_length]; omega
theorem encB_inj {l m : List Lb.Pr} (hl : Lb.Ok l) (hm : Lb.Ok m) (e : Lb.encB l = Lb.encB m) : l = m := by
  have h1 := Lb.dec_enc hl []
  have h2 := Lb.dec_enc hm []
  rw [e, h2] at h1
  simp at h1
  exact h1.symm
open Classical in
/-- What labels stand under. -/
noncomputable def keyP (l : List Lb.Pr) : Str := if Lb.Ok l then Lb.encB l else []
theorem keyP_ok {l : List Lb.Pr} (h : Lb.Ok l) : keyP l = Lb.encB l := if_pos h
theorem keyP_no {l : List Lb.Pr} (h : ¬ Lb.Ok l) : keyP l = [] := if_neg h
theorem keyP_few (l : List Lb.Pr) : (keyP l).length ≤ 1000 := by
  by_cases h : Lb.Ok l
  · rw [keyP_ok h]; exact encB_few h
  · rw [keyP_no h]; simp
theorem keyP_inj {l m : List Lb.Pr} (hl : Lb.Ok l) (e : keyP m = Lb.encB l) : m = l := by
  by_cases h : Lb.Ok m
  · rw [keyP_ok h] at e; exact encB_inj h hl e
  · rw [keyP_no h] at e
    have := encB_pos l
    rw [← e] at this; simp at this
def keyV (l : List UInt8) : ByteArray := ⟨l.toArray⟩
theorem keyV_list (l : List UInt8) : (keyV l).data.toList = l := rfl
theorem keyV_size (l : List UInt8) : (keyV l).size = l.length := by simp [keyV, ByteArray.size]

/-! ### a map's names -/
def names : List (List Lb.Pr) → List Nat → Nms
  | l :: ls, s :: bs => (Lb.encB l, (s : Int)) :: names ls bs
  | _, _ => []
theorem names_len : ∀ {ls : List (List Lb.Pr)} {bs : List Nat}, bs.length = ls.length → (names ls bs).length = ls.length
  | [], [], _ => rfl
  | l :: ls, s :: bs, h => by simp [names, names_len (ls := ls) (bs := bs) (by simpa using h)]
theorem mem_names : ∀ {ls : List (List Lb.Pr)} {bs : List Nat} {x : Str × Int}, x ∈ names ls bs ↔ ∃ (i : Nat) (h1 : i < ls.length) (h2 : i < bs.length), x = (Lb.encB ls[i], (bs[i] : Int))
  | [], bs, x => by simp [names]
  | l :: ls, [], x => by simp [names]
  | l :: ls, s :: bs, x => by
    rw [names, List.mem_cons, mem_names]
    constructor
    · rintro (rfl | ⟨i, h1, h2, rfl⟩)
      · exact ⟨0, by simp, by simp, rfl⟩
      · exact ⟨i + 1, by simpa using h1, by simpa using h2, rfl⟩
    · rintro ⟨i, h1, h2, rfl⟩
      cases i with
      | zero => exact .inl rfl
      | succ i => exact .inr ⟨i, by simpa using h1, by simpa using h2, rfl⟩
theorem names_put : ∀ (ls : List (List Lb.Pr)) (bs : List Nat) (i : Nat) (l : List Lb.Pr) (s : Nat), bs.length = ls.length → (names (ls.take i ++ l :: ls.drop i) (bs.take i ++ s :: bs.drop i)).Perm ((Lb.encB l, (s : Int)) :: names ls bs)
  | ls, bs, 0, l, s, _ => by simp [names]
  | [], [], i + 1, l, s, _ => by simp [names]
  | x :: ls, y :: bs, i + 1, l, s, h => by
    simp only [List.take_succ_cons, List.drop_succ_cons, List.cons_append, names]
    exact ((names_put ls bs i l s (by simpa using h)).cons _).trans (List.Perm.swap _ _ _)

theorem lit64 {k : Int} (h : -9223372036854775808 ≤ k ∧ k ≤ 9223372036854775807) : (Lit.int .i64 k).wf = true := by
  simp [Lit.wf, IntKind.min, IntKind.max, IntKind.signed, IntKind.bits]; omega
/-- What holds of a head's rows, plainly. -/
structure Inv (h : H) : Prop where
  ok : ∀ r ∈ h, Lb.Ok r.lab
  rise : ∀ r ∈ h, r.pts.Pairwise fun a b => a.1 < b.1
  most : ∀ r ∈ h, ∀ x ∈ r.pts, x.1 ≤ r.last
  wf : ∀ r ∈ h, -9223372036854775808 ≤ r.last ∧ r.last ≤ 9223372036854775807
theorem Inv.nil : Inv [] := ⟨fun r h => (by cases h), fun r h => (by cases h), fun r h => (by cases h), fun r h => (by cases h)⟩

/-- The head at block p. -/
structure HeadP (w : World) (A R : Nat → Prop) (p b : Nat) (N : Nms) (bs : List Nat) (rs : List RR) (h : H) : Prop where
  box : w.heap[p]? = some (.cells #[.map (some b)] 50 (0, 0))
  map : MapS w b N
  rise : Rising N
  nam : N.Perm (names (labs h) bs)
  blen : bs.length = h.length
  ser : ∀ i (h1 : i < bs.length) (h2 : i < rs.length), Rw.Blk3 86 bs[i] rs[i].lab.v rs[i].pts.v (.int .i64 rs[i].last) w
  nod : bs.Nodup
  rows : RowsR w A R rs h
  pA : A p
  bA : A b
  sA : ∀ s ∈ bs, A s
  dis : ∀ x, A x → ¬ R x
  lt : ∀ x, A x ∨ R x → x < w.heap.size
  inv : Inv h
section
variable {w w' : World} {A R : Nat → Prop} {p b : Nat} {N : Nms} {bs : List Nat} {rs : List RR} {h : H}
theorem HeadP.upon {T : Nat → Prop} (hh : HeadP w A R p b N bs rs h) (hu : Upon T w w') (h1 : ∀ x, A x → ¬ T x) (h2 : ∀ x, R x → ¬ T x) : HeadP w' A R p b N bs rs h :=
  ⟨(hu.block p (Array.getElem?_eq_some_iff.1 hh.box).1 (h1 p hh.pA)).trans hh.box, hh.map.kept (hu.block b hh.map.lt (h1 b hh.bA)), hh.rise, hh.nam, hh.blen, fun i k1 k2 => (hh.ser i k1 k2).upon hu (h1 _ (hh.sA _ (List.getElem_mem k1))), hh.nod,
    hh.rows.upon hu h1 h2, hh.pA, hh.bA, hh.sA, hh.dis, fun x hx => Nat.lt_of_lt_of_le (hh.lt x hx) hu.size, hh.inv⟩
theorem HeadP.new (hh : HeadP w A R p b N bs rs h) (hu : New0 w w') : HeadP w' A R p b N bs rs h := hh.upon hu (fun _ _ f => f) fun _ _ f => f
theorem HeadP.keep (hh : HeadP w A R p b N bs rs h) (hk : ∀ x, A x ∨ R x → w'.heap[x]? = w.heap[x]?) (hs : w.heap.size ≤ w'.heap.size) : HeadP w' A R p b N bs rs h :=
  ⟨(hk p (.inl hh.pA)).trans hh.box, hh.map.kept (hk b (.inl hh.bA)), hh.rise, hh.nam, hh.blen, fun i k1 k2 => (hk _ (.inl (hh.sA _ (List.getElem_mem k1)))).trans (hh.ser i k1 k2), hh.nod,
    ⟨hh.rows.len, fun i k1 k2 => row_keep (fun x hx => hk x (.inr hx)) (hh.rows.lab i k1 k2), fun i k1 k2 => mine_keep (S := A) (fun x hx => hk x (.inl hx)) (hh.rows.pts i k1 k2) (hh.rows.own i k1), hh.rows.last, hh.rows.own, hh.rows.apart⟩,
    hh.pA, hh.bA, hh.sA, hh.dis, fun x hx => Nat.lt_of_lt_of_le (hh.lt x hx) hs, hh.inv⟩
theorem HeadP.nlen (hh : HeadP w A R p b N bs rs h) : N.length = h.length := by
  rw [hh.nam.length_eq, names_len (by rw [hh.blen]; simp [labs])]; simp [labs]
theorem HeadP.nats (hh : HeadP w A R p b N bs rs h) : ∀ x ∈ N, ∃ s : Nat, x.2 = (s : Int) := fun x hx => by
  obtain ⟨i, h1, h2, rfl⟩ := mem_names.1 (hh.nam.mem_iff.1 hx)
  exact ⟨_, rfl⟩
theorem HeadP.box0 (hh : HeadP w A R p b N bs rs h) : w.cell? ⟨p, 0, none⟩ = some (.map (some b)) := by rw [Lib.cell_of_heap hh.box]; rfl
/-- Row i stands under its key. -/
theorem HeadP.look (hh : HeadP w A R p b N bs rs h) {i : Nat} (hi : i < h.length) : lookN N (Lb.encB h[i].lab) = some ((bs[i]'(by have := hh.blen; omega) : Nat) : Int) := by
  have hb : i < bs.length := by have := hh.blen; omega
  refine look_of_mem hh.rise (hh.nam.mem_iff.2 (mem_names.2 ⟨i, by simpa [labs] using hi, hb, ?_⟩))
  simp [labs]
theorem HeadP.look_inv (hh : HeadP w A R p b N bs rs h) {k : Str} {s : Int} (hk : lookN N k = some s) : ∃ (i : Nat) (hi : i < h.length) (hb : i < bs.length), k = Lb.encB h[i].lab ∧ s = (bs[i] : Int) := by
  obtain ⟨i, h1, h2, e⟩ := mem_names.1 (hh.nam.mem_iff.1 (mem_of_look hk))
  have hi : i < h.length := by simpa [labs] using h1
  refine ⟨i, hi, h2, ?_, congrArg Prod.snd e⟩
  have := congrArg Prod.fst e
  simpa [labs] using this
theorem HeadP.okAt (hh : HeadP w A R p b N bs rs h) {i : Nat} (hi : i < h.length) : Lb.Ok h[i].lab := hh.inv.ok _ (List.getElem_mem hi)
/-- .. and labels that are there stand there. -/
theorem HeadP.look_in (hh : HeadP w A R p b N bs rs h) {l : List Lb.Pr} (hin : isIn h l = true) : ∃ (i : Nat) (hi : i < h.length) (hb : i < bs.length), i = ix h l ∧ h[i].lab = l ∧ lookN N (keyP l) = some ((bs[i] : Nat) : Int) := by
  obtain ⟨hj, e⟩ := isIn_lt hin
  have hb : ix h l < bs.length := by have := hh.blen; omega
  have hok := hh.okAt hj
  rw [e] at hok
  refine ⟨ix h l, hj, hb, rfl, e, ?_⟩
  rw [keyP_ok hok]
  have := hh.look hj
  rw [e] at this
  exact this
theorem HeadP.look_out (hh : HeadP w A R p b N bs rs h) (hs : Srt h) {l : List Lb.Pr} (hin : isIn h l = false) : lookN N (keyP l) = none := by
  cases e : lookN N (keyP l) with
  | none => rfl
  | some s =>
    obtain ⟨i, hi, hb, e1, -⟩ := hh.look_inv e
    have e2 := keyP_inj (hh.okAt hi) e1
    have := (hs.isIn hi e2.symm).1
    rw [hin] at this; cases this
theorem HeadP.at (hh : HeadP w A R p b N bs rs h) {i : Nat} (hi : i < h.length) : ∃ (hb : i < bs.length) (hr : i < rs.length), Rw.Blk3 86 bs[i] (.slice rs[i].lab.a rs[i].lab.n rs[i].lab.c) (.slice rs[i].pts.a rs[i].pts.n rs[i].pts.c) (.int .i64 h[i].last) w ∧
    Lb.View w R (.slice rs[i].lab.a rs[i].lab.n rs[i].lab.c) h[i].lab ∧ PMine w (.slice rs[i].pts.a rs[i].pts.n rs[i].pts.c) h[i].pts := by
  have hb : i < bs.length := by have := hh.blen; omega
  have hr : i < rs.length := by have := hh.rows.len; omega
  refine ⟨hb, hr, ?_, hh.rows.lab i hr hi, hh.rows.pts i hr hi⟩
  have := hh.ser i hb hr
  rw [hh.rows.last i hr hi] at this
  exact this
end
theorem nameT : (50 : TypeId) ≠ 86 := by decide

/-! ### keyOf, lastOf, Last, New -/
set_option maxHeartbeats 1600000 in
theorem keyOf_any (w : World) (S : Nat → Prop) (v : Value) (l : List Lb.Pr) (hv : Lb.View w S v l) (hsm : Lb.Sml l) :
    Calls Tryz.prog 36 #[v] w fun e w' => e = .returned (.string (keyV (keyP l))) ∧ New0 w w' := by
  have HC := Lib.hid (Lb.encode_any w S v l hv hsm)
  obtain ⟨A, c, rfl, -, -⟩ := Rw.View.shape hv
  clear hv hsm
  by_cases hok : Lb.Ok l
  · rw [Lb.encR_ok hok] at HC
    rw [keyP_ok hok]
    clear hok
    go_enter Tryz.func36, Tryz.ntmps36
    go_wp2_with fail
    refine HC.out.mono ?_
    rintro e w2 ⟨rfl, hu⟩
    replace hu := Lib.hid hu
    clear HC
    go_wp2
    go_ret
    exact ⟨rfl, hu.out⟩
  · rw [Lb.encR_no hok] at HC
    rw [keyP_no hok]
    clear hok
    go_enter Tryz.func36, Tryz.ntmps36
    go_wp2_with fail
    refine HC.out.mono ?_
    rintro e w2 ⟨rfl, hu⟩
    replace hu := Lib.hid hu
    clear HC
    go_wp2
    go_ret
    exact ⟨rfl, hu.out⟩
section
variable {A R : Nat → Prop} {p b : Nat} {N : Nms} {bs : List Nat} {rs : List RR} {h : H}
set_option maxHeartbeats 1600000 in
theorem lastOf_any (w : World) (hh : HeadP w A R p b N bs rs h) (hs : Srt h) (l : List Lb.Pr) (k : ByteArray) (hk : k.data.toList = keyP l) (hks : k.size ≤ 1000) :
    Calls Tryz.prog 37 #[.pointer (some ⟨p, 0, none⟩), .string k] w fun e w' => e = .returned (.tuple #[.int .i64 (last h l).1, .bool (last h l).2]) ∧ w' = w := by
  have b0 := hh.box0
  have HM := Lib.hid hh.map
  cases hin : isIn h l with
  | true =>
    obtain ⟨i, hi, hb, e1, e2, e3⟩ := hh.look_in hin
    obtain ⟨hb2, hr, hblk, hq1, hq2⟩ := hh.at hi
    obtain ⟨-, -, c2⟩ := hblk.cells
    have hlast : last h l = (h[i].last, true) := by
      rw [last, if_pos hin, (hs.isIn hi e2).2]
    rw [hlast]
    rw [← hk] at e3
    replace e3 := Lib.hid e3
    obtain ⟨s, hse⟩ : ∃ s, bs[i] = s := ⟨_, rfl⟩
    rw [hse] at e3 c2
    clear hlast hblk hq1 hq2 hh hs hk e1 e2 hse
    go_enter Tryz.func37, Tryz.ntmps37
    go_wp2_with (at_lookup; refine wpList_lookS_some _ rfl _ _ rfl b N rfl HM.out k rfl (by unfold maxLen; omega) s e3.out ?_)
    go_ret2
    exact ⟨rfl, rfl⟩
  | false =>
    have e3 := hh.look_out hs hin
    have hlast : last h l = (0, false) := by rw [last, if_neg (by rw [hin]; decide)]
    rw [hlast]
    rw [← hk] at e3
    replace e3 := Lib.hid e3
    clear hlast hh hs hk hin
    go_enter Tryz.func37, Tryz.ntmps37
    go_wp2_with (at_lookup; refine wpList_lookS_none _ rfl _ _ rfl b N rfl HM.out k rfl (by unfold maxLen; omega) e3.out ?_)
    go_ret2
    exact ⟨rfl, rfl⟩
end
set_option maxHeartbeats 1600000 in
theorem hnew_any (w : World) : Calls Tryz.prog 5 #[] w fun e w' => ∃ (p b : Nat), e = .returned (.pointer (some ⟨p, 0, none⟩)) ∧ HeadP w' (fun x => x = p ∨ x = b) (fun _ => False) p b [] [] [] [] ∧ w.heap.size ≤ p ∧ w.heap.size ≤ b ∧ New0 w w' := by
  have hmm := @run_makeMap Tryz.prog
  have h1 := MapS.made w
  have hu1 := (Upon.refl (fun _ => False) w).alloc (.map #[] 0)
  have hu2 := (Upon.refl (fun _ => False) (w.alloc (.map #[] 0))).alloc (.cells #[.map (some w.heap.size)] 50 (0, 0))
  have h2 := h1.kept (hu2.block w.heap.size (by simp) fun f => f)
  have h3 := cell_new (w.alloc (.map #[] 0)) (.cells #[.map (some w.heap.size)] 50 (0, 0))
  have hs : (w.alloc (.map #[] 0)).heap.size = w.heap.size + 1 := by simp
  rw [hs] at h3
  have hfin : Hid (HeadP ((w.alloc (.map #[] 0)).alloc (.cells #[.map (some w.heap.size)] 50 (0, 0))) (fun x => x = w.heap.size + 1 ∨ x = w.heap.size) (fun _ => False) (w.heap.size + 1) w.heap.size [] [] [] []) := Lib.hid
    ⟨h3, h2, List.Pairwise.nil, List.Perm.refl _, rfl, fun i k1 => absurd k1 (by simp), List.nodup_nil, ⟨rfl, fun i k1 => absurd k1 (by simp), fun i k1 => absurd k1 (by simp), fun i k1 => absurd k1 (by simp), fun i k1 => absurd k1 (by simp), fun i j k1 => absurd k1 (by simp)⟩, .inl rfl, .inr rfl, fun s hs => (by cases hs), fun x _ f => f,
      fun x hx => by
        rcases hx with (hx | hx) | hx
        · rw [hx]; simp
        · rw [hx]; simp; omega
        · exact hx.elim, Inv.nil⟩
  have hu := Lib.hid (hu1.trans hu2)
  clear h1 h2 h3 hu1 hu2 hs
  go_enter Tryz.func5, Tryz.ntmps5
  go_wp2_with fail
  go_ret
  exact ⟨w.heap.size + 1, w.heap.size, by simp, hfin.out, by omega, Nat.le_refl _, hu.out⟩
end Hd
end Go.Proofs.YtfheehlfodoimaaGreat
end

/- A head's rows that a range over its map is done with, plainly. Names no function of the program. -/
section
set_option maxRecDepth 100000
namespace Go.Proofs.YtfheehlfodoimaaGreat
open Go.RowKit Go.Sort
namespace Hd
open Bit Dsk Ob Dig Nm
set_option linter.unusedVariables false

/-- Is the range done with the row? -/
def fin (left : Lit → Bool) (r : Row) : Bool := !left (.string (Lb.encB r.lab))
abbrev Left : Type := Lit → Bool
def strike (left : Left) (k : Str) : Left := fun z => left z && !z.sameKey (.string k)
theorem fin_strike_same {left : Left} {r : Row} : fin (strike left (Lb.encB r.lab)) r = true := by
  simp [fin, strike, same_str]
theorem fin_strike_other {left : Left} {r q : Row} (h : Lb.encB r.lab ≠ Lb.encB q.lab) : fin (strike left (Lb.encB q.lab)) r = fin left r := by
  have : ((Lit.string (Lb.encB r.lab)).sameKey (.string (Lb.encB q.lab))) = false := by rw [same_str]; simpa using h
  simp [fin, strike, this]
section
variable {w : World} {A R : Nat → Prop} {p b : Nat} {N : Nms} {bs : List Nat} {rs : List RR} {h : H}
theorem HeadP.keys_ne (hh : HeadP w A R p b N bs rs h) (hs : Srt h) {i j : Nat} (hi : i < h.length) (hj : j < h.length) (hij : i ≠ j) : Lb.encB h[i].lab ≠ Lb.encB h[j].lab := fun e => by
  have e2 := encB_inj (hh.okAt hi) (hh.okAt hj) e
  have := hs.one (List.getElem_mem hi) (List.getElem_mem hj) e2
  have h1 := hs.ix hi e2
  have h2 := hs.ix hj rfl
  omega
theorem HeadP.fin_step (hh : HeadP w A R p b N bs rs h) (hs : Srt h) {left : Left} {i : Nat} (hi : i < h.length) (hl : left (.string (Lb.encB h[i].lab)) = true) :
    (h.take i).filter (fin (strike left (Lb.encB h[i].lab))) = (h.take i).filter (fin left) ∧ (h.drop (i + 1)).filter (fin (strike left (Lb.encB h[i].lab))) = (h.drop (i + 1)).filter (fin left) := by
  constructor
  · apply List.filter_congr
    intro r hr
    obtain ⟨j, hj, rfl⟩ := List.mem_iff_getElem.1 hr
    have hj2 := hj
    rw [List.length_take] at hj2
    rw [List.getElem_take]
    exact fin_strike_other (hh.keys_ne hs (by omega) hi (by omega))
  · apply List.filter_congr
    intro r hr
    obtain ⟨j, hj, rfl⟩ := List.mem_iff_getElem.1 hr
    have hj2 := hj
    rw [List.length_drop] at hj2
    rw [List.getElem_drop]
    exact fin_strike_other (hh.keys_ne hs (by omega) hi (by omega))
theorem split_at {α : Type} {l : List α} {i : Nat} (hi : i < l.length) : l = l.take i ++ l[i] :: l.drop (i + 1) := by
  rw [List.getElem_cons_drop, List.take_append_drop]
theorem HeadP.fin_put (hh : HeadP w A R p b N bs rs h) (hs : Srt h) {left : Left} {i : Nat} (hi : i < h.length) (hl : left (.string (Lb.encB h[i].lab)) = true) :
    h.filter (fin left) = (h.take i).filter (fin left) ++ (h.drop (i + 1)).filter (fin left) ∧ h.filter (fin (strike left (Lb.encB h[i].lab))) = (h.take i).filter (fin left) ++ h[i] :: (h.drop (i + 1)).filter (fin left) := by
  obtain ⟨e1, e2⟩ := hh.fin_step hs hi hl
  have h0 : fin left h[i] = false := by simp [fin, hl]
  constructor
  · conv => lhs; rw [split_at hi]
    rw [List.filter_append, List.filter_cons_of_neg (by rw [h0]; decide)]
  · have hf : fin (strike left (Lb.encB h[i].lab)) h[i] = true := fin_strike_same
    generalize fin (strike left (Lb.encB h[i].lab)) = f at *
    conv => lhs; rw [split_at hi]
    rw [List.filter_append, List.filter_cons_of_pos hf, e1, e2]
theorem HeadP.fin_start (hh : HeadP w A R p b N bs rs h) : h.filter (fin (Maps.has (toD N))) = [] := by
  rw [List.filter_eq_nil_iff]
  intro r hr
  obtain ⟨i, hi, rfl⟩ := List.mem_iff_getElem.1 hr
  rw [fin, toD_has, hh.look hi]
  simp
theorem fin_end {left : Left} (hl : ∀ kl, left kl = false) : h.filter (fin left) = h := by
  rw [List.filter_eq_self]
  intro r _
  simp [fin, hl]
end
/-! ### what is reckoned of them -/
theorem points_put (a c : H) (r : Row) : points (a ++ r :: c) = points (a ++ c) + r.pts.length := by
  simp [points]; omega
theorem points_filter (f : Row → Bool) : ∀ h : H, points (h.filter f) ≤ points h
  | [] => Nat.le_refl _
  | r :: h => by
    have ih := points_filter f h
    rw [List.filter_cons]
    split
    · simp [points] at ih ⊢; omega
    · simp [points] at ih ⊢; omega
/-- The greatest of all, from the least number on. -/
def maxL (h : H) : Int := h.foldr (fun r m => max r.last m) (-9223372036854775808)
theorem maxL_put : ∀ (a c : H) (r : Row), maxL (a ++ r :: c) = max (maxL (a ++ c)) r.last
  | [], c, r => by simp [maxL]; omega
  | x :: a, c, r => by
    have := maxL_put a c r
    simp only [maxL, List.cons_append, List.foldr_cons] at this ⊢
    rw [this]; omega
theorem tops_maxL : ∀ (h : H) (t : Int), -9223372036854775808 ≤ t → tops (some t) h = some (max t (maxL h))
  | [], t, ht => by simp [tops, maxL]; omega
  | r :: h, t, ht => by
    rw [tops, tops_maxL h _ (by omega)]
    simp [maxL]
    try omega
theorem top_max {h : H} (hi : Inv h) (hp : 0 < h.length) : (top h).1 = maxL h := by
  cases h with
  | nil => simp at hp
  | cons r h =>
    have hw := hi.wf r List.mem_cons_self
    have hw2 : -9223372036854775808 ≤ r.last := hw.1
    rw [top, tops, tops_maxL h _ hw2]
    simp [maxL]
end Hd
end Go.Proofs.YtfheehlfodoimaaGreat
end

/- The program's head (layer 13): Counts. -/
section
set_option maxRecDepth 100000
namespace Go.Proofs.YtfheehlfodoimaaGreat
open Go.RowKit Go.Sort
namespace Hd
open Bit Dsk Ob Dig Nm
set_option linter.unusedVariables false
section
variable {A R : Nat → Prop} {p b : Nat} {N : Nms} {bs : List Nat} {rs : List RR} {h : H}
set_option maxHeartbeats 1600000 in
theorem hcounts_any (w : World) (hh : HeadP w A R p b N bs rs h) (hs : Srt h) (hp : points h ≤ 4611686018427387904) :
    Calls Tryz.prog 25 #[.pointer (some ⟨p, 0, none⟩)] w fun e w' => e = .returned (.tuple #[.int .i64 (h.length : Int), .int .i64 (points h : Int)]) ∧ New0 w w' := by
  have b0 := hh.box0
  have HM := Lib.hid hh.map
  have HH := Lib.hid hh
  have HS := Lib.hid hs
  have HN := Lib.hid hh.nlen
  clear hh hs
  go_enter Tryz.func25, Tryz.ntmps25
  go_wp2_with (at_range; refine wpList_rangeS _ rfl _ rfl b N rfl HM.out ?_; intro w0 hrg0 hg0 hs0)
  have HU0 := Lib.hid (show New0 w w0 from (Upon.refl _ w).grown hg0 (fun k e => by cases e))
  have HG0 := Lib.hid hrg0
  clear hrg0 hg0 hs0 b0
  go_frame
  go_loopw [4] (fun t wr => ∃ (left : Left) (cnt : Nat), Hid (RanS wr b w.heap.size N left cnt) ∧ t = .int .i64 (points (h.filter (fin left)) : Int) ∧ Hid (New0 w wr))
    (fun _ wr => wr.rangeLeft b w.heap.size)
  case atStart => exact ⟨_, _, HG0, by rw [HH.out.fin_start]; rfl, HU0⟩
  case round =>
    obtain ⟨left, cnt, HRG, rfl, HUP⟩ := hrel
    have hle : points (h.filter (fin left)) ≤ 4611686018427387904 := Nat.le_trans (points_filter _ _) hp
    go_wp2_with (at_next; refine wpList_nextS _ rfl _ rfl b w.heap.size N HH.out.nats left cnt rfl HRG.out ?_ ?_)
    · intro hl0
      have HE := Lib.hid (show h.filter (fin left) = h from fin_end hl0)
      have hb2 := (HH.out.new HUP.out).box0
      have HM2 := Lib.hid (HH.out.new HUP.out).map
      clear hl0
      go_wp2_with (at_len; refine wpList_lenS _ rfl _ rfl b N rfl HM2.out ?_)
      go_ret2
      exact ⟨by rw [HE.out, HN.out]; rfl, HUP.out⟩
    · intro k s w1 cnt1 hksz hlk hlx hrg1 hlt hg1 hsz hen
      have HUP1 := Lib.hid (show New0 w w1 from Upon.grown HUP.out hg1 (fun k e => by cases e; exact .inr (Nat.le_refl _)))
      have hd1 := HH.out.new HUP1.out
      obtain ⟨i, hi, hb, e1, e2⟩ := hd1.look_inv hlk
      obtain ⟨hb2, hr, hblk, hq1, hq2⟩ := hd1.at hi
      have e2' : bs[i] = s := by omega
      rw [e2'] at hblk
      obtain ⟨-, c1, -⟩ := hblk.cells
      rw [e1] at hlx hrg1
      obtain ⟨f1, f2⟩ := hd1.fin_put HS.out hi hlx
      have hst : points (h.filter (fin (strike left (Lb.encB h[i].lab)))) = points (h.filter (fin left)) + h[i].pts.length := by rw [f1, f2, points_put]
      have hle2 := Nat.le_trans (points_filter (fin (strike left (Lb.encB h[i].lab))) h) hp
      rw [hst] at hle2
      obtain ⟨Ap, cp, hpv, -, -⟩ := Rw.View.shape hq2.view
      rw [hpv] at c1
      obtain ⟨pl, hpl⟩ : ∃ pl, h[i].pts.length = pl := ⟨_, rfl⟩
      rw [hpl] at c1 hle2 hst
      have HRG1 : Hid (RanS w1 b w.heap.size N (strike left (Lb.encB h[i].lab)) cnt1) := Lib.hid hrg1
      have HLT := Lib.hid hlt
      have HST := Lib.hid hst
      clear hd1 hblk hq1 hq2 hpv e1 e2 f1 f2 hst hlk hlx hrg1 hg1 hlt e2' hpl hsz hksz hr
      go_wp2_with fail
      go_roundw
      case rel => exact ⟨_, cnt1, HRG1, by rw [HST.out]; go_num, HUP1⟩
      case measure => rw [HRG1.out.left_eq, HRG.out.left_eq]; exact HLT.out
end
end Hd
end Go.Proofs.YtfheehlfodoimaaGreat
end

/- The program's head (layer 13): Top. -/
section
set_option maxRecDepth 100000
namespace Go.Proofs.YtfheehlfodoimaaGreat
open Go.RowKit Go.Sort
namespace Hd
open Bit Dsk Ob Dig Nm
set_option linter.unusedVariables false
section
variable {A R : Nat → Prop} {p b : Nat} {N : Nms} {bs : List Nat} {rs : List RR} {h : H}
set_option maxHeartbeats 3200000 in
theorem htop_any (w : World) (hh : HeadP w A R p b N bs rs h) (hs : Srt h) (hfew : h.length ≤ 1000000000) :
    Calls Tryz.prog 27 #[.pointer (some ⟨p, 0, none⟩)] w fun e w' => e = .returned (.tuple #[.int .i64 (top h).1, .bool (top h).2]) ∧ New0 w w' := by
  have b0 := hh.box0
  have HM := Lib.hid hh.map
  have HH := Lib.hid hh
  have HS := Lib.hid hs
  have HN := Lib.hid hh.nlen
  have hn := hh.nlen
  clear hh hs
  by_cases h0 : N.length = 0
  · have hR : Hid (top h = (0, false)) := Lib.hid (by
      have : h = [] := List.eq_nil_of_length_eq_zero (by omega)
      rw [this]; rfl)
    clear hn
    have d0 : decide ((N.length : Int) = 0) = true := by simp [h0]
    go_enter Tryz.func27, Tryz.ntmps27
    go_wp2_with (at_len; refine wpList_lenS _ rfl _ rfl b N rfl HM.out ?_)
    go_ret2
    exact ⟨by rw [hR.out]; rfl, Upon.refl _ _⟩
  have d0 : decide ((N.length : Int) = 0) = false := by simp [h0]
  have HP := Lib.hid (show 0 < h.length by omega)
  clear hn
  go_enter Tryz.func27, Tryz.ntmps27
  go_wp2_with (first
    | (at_len; refine wpList_lenS _ rfl _ rfl b N rfl HM.out ?_)
    | (at_range; refine wpList_rangeS _ rfl _ rfl b N rfl HM.out ?_; intro w0 hrg0 hg0 hs0))
  have HU0 := Lib.hid (show New0 w w0 from (Upon.refl _ w).grown hg0 (fun k e => by cases e))
  have HG0 := Lib.hid hrg0
  clear hrg0 hg0 hs0 b0 d0 h0
  go_frame
  go_loopw [4] (fun t wr => ∃ (left : Left) (cnt : Nat), Hid (RanS wr b w.heap.size N left cnt) ∧ t = .int .i64 (maxL (h.filter (fin left))) ∧ Hid (New0 w wr))
    (fun _ wr => wr.rangeLeft b w.heap.size)
  case atStart => exact ⟨_, _, HG0, by rw [HH.out.fin_start]; rfl, HU0⟩
  case round =>
    obtain ⟨left, cnt, HRG, rfl, HUP⟩ := hrel
    go_wp2_with (at_next; refine wpList_nextS _ rfl _ rfl b w.heap.size N HH.out.nats left cnt rfl HRG.out ?_ ?_)
    · intro hl0
      have HE := Lib.hid (show h.filter (fin left) = h from fin_end hl0)
      clear hl0
      go_wp2
      go_ret2
      exact ⟨by rw [HE.out, ← top_max HH.out.inv HP.out, show (top h).2 = true by simp [top, HP.out]]; rfl, HUP.out⟩
    · intro k s w1 cnt1 hksz hlk hlx hrg1 hlt hg1 hsz hen
      have HUP1 := Lib.hid (show New0 w w1 from Upon.grown HUP.out hg1 (fun k e => by cases e; exact .inr (Nat.le_refl _)))
      have hd1 := HH.out.new HUP1.out
      obtain ⟨i, hi, hb, e1, e2⟩ := hd1.look_inv hlk
      obtain ⟨hb2, hr, hblk, hq1, hq2⟩ := hd1.at hi
      have e2' : bs[i] = s := by omega
      rw [e2'] at hblk
      obtain ⟨-, -, c2⟩ := hblk.cells
      rw [e1] at hlx hrg1
      obtain ⟨f1, f2⟩ := hd1.fin_put HS.out hi hlx
      have hst : maxL (h.filter (fin (strike left (Lb.encB h[i].lab)))) = max (maxL (h.filter (fin left))) h[i].last := by rw [f1, f2, maxL_put]
      obtain ⟨tl, htl⟩ : ∃ tl, h[i].last = tl := ⟨_, rfl⟩
      rw [htl] at c2 hst
      obtain ⟨ml, hml⟩ : ∃ ml, maxL (h.filter (fin left)) = ml := ⟨_, rfl⟩
      rw [hml] at hst
      have HRG1 : Hid (RanS w1 b w.heap.size N (strike left (Lb.encB h[i].lab)) cnt1) := Lib.hid hrg1
      have HLT := Lib.hid hlt
      have HST := Lib.hid hst
      clear hd1 hblk hq1 hq2 e1 e2 f1 f2 hst hlk hlx hrg1 hg1 hlt e2' htl hsz hksz hr
      rw [hml]
      clear hml
      go_wp2_with fail
      all_goals
        exact ⟨⟨_, ⟨cnt1, HRG1⟩, by rw [HST.out]; omega⟩, by rw [HRG1.out.left_eq, HRG.out.left_eq]; exact HLT.out⟩
end
end Hd
end Go.Proofs.YtfheehlfodoimaaGreat
end

/- Heads, plainly: the greatest time of labels, if they are there; the times that a commit has so far. Names no function of the program. -/
section
set_option maxRecDepth 100000
namespace Go.Proofs.YtfheehlfodoimaaGreat
open Go.RowKit Go.Sort
namespace Hd
open Bit Dsk Ob Dig Nm
set_option linter.unusedVariables false

def lk (h : H) (l : List Lb.Pr) : Option Int := if isIn h l = true then some (lastAt h l) else none
theorem lk_iff {h : H} (hs : Srt h) {l : List Lb.Pr} {t : Int} : lk h l = some t ↔ ∃ r ∈ h, r.lab = l ∧ r.last = t := by
  unfold lk
  constructor
  · intro e
    split at e
    · rename_i hi
      obtain ⟨r, hr, rfl⟩ := isIn_mem hi
      injection e with e
      exact ⟨r, hr, rfl, by rw [← (hs.mem hr).2]; exact e⟩
    · cases e
  · rintro ⟨r, hr, rfl, rfl⟩
    rw [if_pos (hs.mem hr).1, (hs.mem hr).2]
theorem lk_last (h : H) (l : List Lb.Pr) : last h l = ((lk h l).getD 0, (lk h l).isSome) := by
  unfold last lk
  split <;> rfl
theorem lk_in (h : H) (l : List Lb.Pr) : (lk h l).isSome = isIn h l := by
  unfold lk
  cases isIn h l <;> rfl
theorem old_lk {h : H} (hs : Srt h) {s : Rc.Smp} : old h s = true ↔ ∃ t, lk h s.1 = some t ∧ s.2.1 ≤ t := by
  rw [old_is hs]
  constructor
  · rintro ⟨r, hr, e, ht⟩
    exact ⟨_, (lk_iff hs).2 ⟨r, hr, e, rfl⟩, ht⟩
  · rintro ⟨t, e, ht⟩
    obtain ⟨r, hr, e1, rfl⟩ := (lk_iff hs).1 e
    exact ⟨r, hr, e1, ht⟩
theorem opt_ext {α : Type} {a b : Option α} (h : ∀ t, a = some t ↔ b = some t) : a = b := by
  cases a with
  | none => cases b with
    | none => rfl
    | some y => exact ((h y).2 rfl)
  | some x => exact ((h x).1 rfl).symm
theorem lk_add_same {h : H} (hs : Srt h) (s : Rc.Smp) : lk (add h s) s.1 = some s.2.1 := (lk_iff (hs.add s)).2 ⟨_, rowOf_mem h s, rowOf_lab h s, rowOf_last h s⟩
theorem lk_add_other {h : H} (hs : Srt h) {s : Rc.Smp} {l : List Lb.Pr} (hl : l ≠ s.1) : lk (add h s) l = lk h l := by
  apply opt_ext
  intro t
  rw [lk_iff (hs.add s), lk_iff hs]
  constructor
  · rintro ⟨r, hr, rfl, rfl⟩
    rcases add_mem hs hr with rfl | ⟨h1, -⟩
    · exact absurd (rowOf_lab h s) hl
    · exact ⟨r, h1, rfl, rfl⟩
  · rintro ⟨r, hr, rfl, rfl⟩
    exact ⟨r, add_other hr hl, rfl, rfl⟩
theorem add_len_in {h : H} {s : Rc.Smp} : (add h s).length = if isIn h s.1 = true then h.length else h.length + 1 := by
  rw [add, List.length_set]
  have := ix_le h s.1
  cases hi : isIn h s.1 with
  | true => rw [room_in hi]; simp
  | false => rw [room_new hi]; simp; omega
/-- The times so far: what they don't have is as it was. -/
structure Lst (h g : H) (M : Nms) (j : Nat) : Prop where
  rise : Rising M
  len : M.length ≤ j
  at_ : ∀ l, Lb.Ok l → ((lookN M (Lb.encB l)).orElse fun _ => lk h l) = lk g l
theorem Lst.start (h : H) : Lst h h [] 0 := ⟨List.Pairwise.nil, Nat.le_refl _, fun l _ => rfl⟩
theorem Lst.some {h g : H} {M : Nms} {j : Nat} (k : Lst h g M j) {l : List Lb.Pr} (hl : Lb.Ok l) {t : Int} (e : lookN M (Lb.encB l) = some t) : lk g l = Option.some t := by
  rw [← k.at_ l hl, e]; rfl
theorem Lst.none {h g : H} {M : Nms} {j : Nat} (k : Lst h g M j) {l : List Lb.Pr} (hl : Lb.Ok l) (e : lookN M (Lb.encB l) = Option.none) : lk g l = lk h l := by
  rw [← k.at_ l hl, e]; rfl
theorem Lst.put {h g : H} {M : Nms} {j : Nat} (k : Lst h g M j) (hg : Srt g) {s : Rc.Smp} (hl : Lb.Ok s.1) : Lst h (add g s) (putN M (Lb.encB s.1) s.2.1) (j + 1) := by
  refine ⟨k.rise.put _ _, Nat.le_trans (len_put_le _ _ _) (Nat.succ_le_succ k.len), fun l hl2 => ?_⟩
  by_cases e : l = s.1
  · subst e
    rw [look_put_same k.rise, lk_add_same hg]; rfl
  · rw [look_put_other k.rise _ (fun e2 => e (encB_inj hl2 hl e2)), lk_add_other hg e]
    exact k.at_ l hl2
end Hd
end Go.Proofs.YtfheehlfodoimaaGreat
end
