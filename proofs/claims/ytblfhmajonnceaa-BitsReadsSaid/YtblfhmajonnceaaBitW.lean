/- The writer of bits (layer 6) in memory as plain data, and what each of its calls does. -/
import Derived.Test.YtblfhmajonnceaaObj
import Derived.Test.YtblfhmajonnceaaBitPure
import Derived.WalkKit
import Derived.WalkSpells
import Derived.WalkLawsBesides
import Derived.Handy
import Derived.Below
import Derived.OneCell
import Derived.Lib.Hide
import Derived.Lib.UnsafeStr
import Derived.Lib.Strings
import Derived.RegionTactic
import Derived.BigRegion
import Derived.StillTailTactics
import Derived.Deep.QuietTactic
import Derived.BigQuiet
import Derived.Deep.Cut
import Derived.Deep.DeepCutAuto
import Derived.Outline
import Derived.Deep.AppendLies
import Derived.Laws.IdiomStrings
namespace Go.Proofs.Ytblfhmajonnceaa
open Go.RowKit
namespace Bit
open Dsk Ob

structure WrM (w : World) (S : Nat → Prop) (q : Nat) (L : List Bool) (v : Value) : Prop where
  cell : w.heap[q]? = some (.cells #[v, .int .i64 (L.length : Int)] 49 (0, 0))
  row : w.ownsRow 0 5 1 v (nb L.length) (Lib.byteCells (pack L))
  s_q : S q
  s_v : ∀ b, v.ownBlock = some b → S b
  lt : ∀ b, S b → b < w.heap.size
/-- The writer at block q, of blocks S, holds the bits L. -/
def IsW (w : World) (S : Nat → Prop) (q : Nat) (L : List Bool) : Prop := ∃ v, WrM w S q L v

theorem WrM.kept {w w' : World} {S : Nat → Prop} {q : Nat} {L : List Bool} {v : Value} (h : WrM w S q L v) (hk : ∀ b, S b → w'.heap[b]? = w.heap[b]?) (hs : w.heap.size ≤ w'.heap.size) : WrM w' S q L v :=
  { h with cell := (hk q h.s_q).trans h.cell, row := ownsRow_kept h.row fun b hb => hk b (h.s_v b hb), lt := fun b hb => Nat.lt_of_lt_of_le (h.lt b hb) hs }
theorem IsW.upon {w w' : World} {S T : Nat → Prop} {q : Nat} {L : List Bool} (h : IsW w S q L) (hu : Upon T w w') (ha : ∀ b, S b → ¬ T b) : IsW w' S q L :=
  let ⟨v, hv⟩ := h; ⟨v, hv.kept (fun b hb => hu.block b (hv.lt b hb) (ha b hb)) hu.size⟩
theorem IsW.lt {w : World} {S : Nat → Prop} {q : Nat} {L : List Bool} (h : IsW w S q L) : ∀ b, S b → b < w.heap.size := let ⟨_, hv⟩ := h; hv.lt

theorem objW (q : Nat) (L : List Bool) : Thing (fun w S => IsW w S q L) := ⟨fun _ _ _ ⟨v, h⟩ hk hs => ⟨v, h.kept hk hs⟩, fun _ _ h => h.lt⟩
abbrev WStep (S : Nat → Prop) (q : Nat) (L : List Bool) (w w' : World) : Prop := ObjStep (fun w S => IsW w S q L) S w w'

theorem ret_int {k : IntKind} {a b : Int} (h : a = b) : Ending.returned (.int k a) = .returned (.int k b) := by rw [h]
theorem infoU8 : (Try.prog.info? 5).map (fun i => (i.zero, i.size, i.bytes)) = some (some (.int .u8 0), 1, 1) := by kernel_rfl
theorem cell2 {w : World} {q : Nat} {a b : Value} {T : TypeId} (h : w.heap[q]? = some (.cells #[a, b] T (0, 0))) :
    w.cell? ⟨q, 0, none⟩ = some a ∧ w.cell? ⟨q, 1, none⟩ = some b ∧ ∀ o, w.frozen? ⟨q, o, none⟩ = false := by
  refine ⟨?_, ?_, fun o => Lib.frozen_of_heap h o⟩ <;> (rw [Lib.cell_of_heap h]; rfl)

/-! ### NewWriter, Len, shift -/
def WMade (w : World) (e : Ending) (w' : World) : Prop :=
  ∃ S q, e = .returned (.pointer (some ⟨q, 0, none⟩)) ∧ IsW w' S q [] ∧ (∀ b, S b → w.heap.size ≤ b) ∧ Upon (fun _ => False) w w'
set_option maxHeartbeats 800000 in
theorem newWriter_any (w : World) : Calls Try.prog 7 #[] w (WMade w) := by
  have H : Hid (WMade w (.returned (.pointer (some ⟨w.heap.size, 0, none⟩))) (w.alloc (.cells #[.slice none 0 0, .int .i64 0] 49 (0, 0)))) := Lib.hid (by
    refine ⟨fun b => b = w.heap.size, w.heap.size, rfl, ⟨.slice none 0 0, ?_⟩, fun b hb => by rw [hb]; exact Nat.le_refl _, (Upon.refl _ w).alloc _⟩
    exact ⟨cell_new w _, World.ownsRow_nil _ _ _ _, rfl, (fun b h => by cases h), (fun b hb => by rw [hb]; simp)⟩)
  go_enter Try.func7, Try.ntmps7
  go_wp2
  go_ret
  exact H.out

set_option maxHeartbeats 800000 in
theorem shift_any (n : Nat) (hn : n ≤ 2000000000000000) (w : World) : Calls Try.prog 21 #[.int .i64 (n : Int)] w fun e w' => e = .returned (.int .i64 ((7 - n % 8 : Nat) : Int)) ∧ w = w' := by
  go_enter Try.func21, Try.ntmps21
  go_wp2
  go_ret
  exact ⟨ret_int (by omega), rfl⟩

set_option maxHeartbeats 800000 in
theorem wlen_any (S : Nat → Prop) (q : Nat) (L : List Bool) (w : World) (h : IsW w S q L) :
    Calls Try.prog 10 #[.pointer (some ⟨q, 0, none⟩)] w fun e w' => e = .returned (.int .i64 (L.length : Int)) ∧ w = w' := by
  obtain ⟨v, h⟩ := h
  obtain ⟨-, k1, kf⟩ := cell2 h.cell
  clear h kf
  go_enter Try.func10, Try.ntmps10
  go_wp2
  go_ret
  exact ⟨rfl, rfl⟩

/-! ### putBit -/
/-- What region 2 finds: the byte that the bit goes into. -/
theorem WrM.byte {w : World} {L : List Bool} {v : Value} {m : Nat} (hm : L.length / 8 < m) (h : w.ownsRow 0 5 1 v m (Lib.byteCells (packTo m L))) :
    ∃ g cap, v = .slice (some ⟨g, 0, none⟩) m cap ∧ w.cell? ⟨g, L.length / 8, none⟩ = some (.int .u8 ((pk L (L.length / 8) : Nat) : Int)) ∧ (∀ o, w.frozen? ⟨g, o, none⟩ = false) ∧ g < w.heap.size ∧ (∃ c, w.heap[g]? = some (.cells c 5 (0, 0))) := by
  rcases h.2 with ⟨_, h0⟩ | ⟨g, cap, cur, hv, _, hg, hmc, _, hcs, ht⟩
  · omega
  · refine ⟨g, cap, hv, ?_, fun o => Lib.frozen_of_heap hg o, (Array.getElem?_eq_some_iff.1 hg).1, _, hg⟩
    rw [Lib.cell_of_heap hg]
    have h1 : (cur.toList.take (m * 1))[L.length / 8]? = (Lib.byteCells (packTo m L))[L.length / 8]? := by rw [ht]
    rw [List.getElem?_take_of_lt (by omega)] at h1
    have h2 : (Lib.byteCells (packTo m L))[L.length / 8]? = some (.int .u8 ((pk L (L.length / 8) : Nat) : Int)) := by
      unfold Lib.byteCells packTo
      rw [List.map_map, List.getElem?_map, List.getElem?_range hm]
      simp [UInt8.toNat_ofNat', Nat.mod_eq_of_lt (pk_lt L (L.length / 8))]
    rw [h2] at h1
    simpa using h1
theorem byteCells_set (l : List UInt8) (j : Nat) (b : UInt8) : Lib.byteCells (l.set j b) = (Lib.byteCells l).set j (.int .u8 (b.toNat : Int)) := by
  unfold Lib.byteCells; rw [List.map_set]
theorem row_set {w : World} {g m cap j : Nat} {l : List UInt8} {b : UInt8} (h : w.ownsRow 0 5 1 (.slice (some ⟨g, 0, none⟩) m cap) m (Lib.byteCells l)) :
    (w.setCell ⟨g, j, none⟩ (.int .u8 (b.toNat : Int))).ownsRow 0 5 1 (.slice (some ⟨g, 0, none⟩) m cap) m (Lib.byteCells (l.set j b)) := by
  rcases h.2 with ⟨h0, _⟩ | ⟨g', cap', cur, hv, hb, hg, hmc, hcm, hcs, ht⟩
  · cases h0
  · cases hv
    refine ⟨by rw [byteCells_set, List.length_set]; exact h.1, .inr ⟨g, cap, cur.setIfInBounds j (.int .u8 (b.toNat : Int)), rfl, hb, ?_, hmc, hcm, ?_, ?_⟩⟩
    · simp [World.setCell, Array.getElem?_modify, hg]
    · simpa using hcs
    · rw [byteCells_set, ← ht, Array.toList_setIfInBounds, List.take_set]
/-- What is left when the bit is in. -/
theorem WrM.done {w w1 w2 : World} {S S1 : Nat → Prop} {q g cap : Nat} {L : List Bool} {b : Bool}
    (hq : w1.heap[q]? = some (.cells #[.slice (some ⟨g, 0, none⟩) (nb (L.length + 1)) cap, .int .i64 (L.length : Int)] 49 (0, 0)))
    (hrow : w1.ownsRow 0 5 1 (.slice (some ⟨g, 0, none⟩) (nb (L.length + 1)) cap) (nb (L.length + 1)) (Lib.byteCells (packTo (nb (L.length + 1)) L)))
    (hS1 : ∀ x, S1 x ↔ S x ∨ x = g) (hsq : S q) (hlt : ∀ x, S x → x < w.heap.size) (hg : S g ∨ w.heap.size ≤ g) (hgl : g < w1.heap.size) (hu : Upon S w w1)
    (hw2 : w2 = (w1.setCell ⟨g, L.length / 8, none⟩ (.int .u8 ((pk L (L.length / 8) + b.toNat * 2 ^ (7 - L.length % 8) : Nat) : Int))).setCell ⟨q, 1, none⟩ (.int .i64 ((L.length : Int) + 1))) :
    WStep S q (L ++ [b]) w w2 := by
  have hgq : g ≠ q := by
    rintro rfl
    obtain ⟨c, hc⟩ : ∃ c, w1.heap[g]? = some (.cells c 5 (0, 0)) := by
      rcases hrow.2 with ⟨h0, _⟩ | ⟨g', cap', cur, hv, _, hgg, _⟩
      · cases h0
      · cases hv; exact ⟨_, hgg⟩
    rw [hq] at hc
    simp at hc
  have hpl : pk L (L.length / 8) + b.toNat * 2 ^ (7 - L.length % 8) < 256 := by rw [← pk_at]; exact pk_lt _ _
  have hset := row_set (j := L.length / 8) (b := UInt8.ofNat (pk L (L.length / 8) + b.toNat * 2 ^ (7 - L.length % 8))) hrow
  rw [UInt8.toNat_ofNat', Nat.mod_eq_of_lt hpl, ← pack_snoc] at hset
  subst hw2
  refine ⟨⟨S1, ⟨.slice (some ⟨g, 0, none⟩) (nb (L.length + 1)) cap, ?_, ?_, (hS1 q).2 (.inl hsq), ?_, ?_⟩, fun x hx => (hS1 x).2 (.inl hx), fun x hx => ?_⟩, ?_⟩
  · rw [List.length_append]
    simp [World.setCell, Array.getElem?_modify, hq, hgq]
  · rw [show (L ++ [b]).length = L.length + 1 from List.length_append]
    refine ownsRow_kept hset fun x hx => Below.heap_setCell _ _ _ _ ?_
    exact fun e => hgq ((Option.some.inj hx).trans e)
  · intro x hx
    simp [Value.ownBlock] at hx
    subst hx
    exact (hS1 _).2 (.inr rfl)
  · intro x hx
    have : (((w1.setCell ⟨g, L.length / 8, none⟩ (.int .u8 ((pk L (L.length / 8) + b.toNat * 2 ^ (7 - L.length % 8) : Nat) : Int))).setCell ⟨q, 1, none⟩ (.int .i64 ((L.length : Int) + 1)))).heap.size = w1.heap.size := by simp [World.setCell]
    rw [this]
    rcases (hS1 x).1 hx with h | h
    · exact Nat.lt_of_lt_of_le (hlt x h) hu.size
    · rw [h]; exact hgl
  · rcases (hS1 x).1 hx with h | h
    · exact .inl h
    · rw [h]; exact hg
  · exact (hu.setCell (p := ⟨g, L.length / 8, none⟩) hg _).setCell (p := ⟨q, 1, none⟩) (.inl hsq) _

theorem or_put (L : List Bool) (b : Bool) : bits .or .u8 ((pk L (L.length / 8) : Nat) : Int) (IntKind.u8.wrap (((b.toNat : Nat) : Int) * 2 ^ (7 - L.length % 8))) = ((pk L (L.length / 8) + b.toNat * 2 ^ (7 - L.length % 8) : Nat) : Int) := by
  have h3 : L.length % 8 < 8 := Nat.mod_lt _ (by decide)
  have h2 : 2 ^ (7 - L.length % 8) ≤ 2 ^ 7 := Nat.pow_le_pow_right (by decide) (by omega)
  have h1 := Nat.mul_le_mul (bool_le b) h2
  have e : (((b.toNat : Nat) : Int) * 2 ^ (7 - L.length % 8)) = ((b.toNat * 2 ^ (7 - L.length % 8) : Nat) : Int) := by simp
  rw [e, IntKind.wrap_u8, Int.emod_eq_of_lt (by omega) (by omega), or_byte]
theorem ne_of_types {w : World} {q g : Nat} {c d : Array Value} {f k : Nat × Nat} (h1 : w.heap[q]? = some (.cells c 49 f)) (h2 : w.heap[g]? = some (.cells d 5 k)) : g ≠ q := by
  rintro rfl
  rw [h1] at h2
  simp at h2
/-- Behind the store into the byte the writer's own cells read as before. -/
theorem cell2_behind {w : World} {q g j : Nat} {a b u : Value} (h : w.heap[q]? = some (.cells #[a, b] 49 (0, 0))) (hne : g ≠ q) :
    (w.setCell ⟨g, j, none⟩ u).cell? ⟨q, 1, none⟩ = some b ∧ ∀ o, (w.setCell ⟨g, j, none⟩ u).frozen? ⟨q, o, none⟩ = false := by
  have h' : (w.setCell ⟨g, j, none⟩ u).heap[q]? = some (.cells #[a, b] 49 (0, 0)) := by
    rw [Below.heap_setCell _ _ _ _ (Ne.symm hne)]; exact h
  exact (cell2 h').2

set_option maxHeartbeats 1600000 in
theorem putBit_in (S : Nat → Prop) (q : Nat) (L : List Bool) (b : Bool) (w : World) (h : IsW w S q L) (hL : L.length ≤ 100000000000000) (hne : L.length % 8 ≠ 0) :
    Calls Try.prog 19 #[.pointer (some ⟨q, 0, none⟩), .int .u64 (b.toNat : Int)] w fun e w' => e = .returned (.tuple #[]) ∧ WStep S q (L ++ [b]) w w' := by
  obtain ⟨v, h⟩ := h
  have hcell := h.cell
  have hrow := h.row
  rw [← pack_same L hne, show nb L.length = nb (L.length + 1) by rw [nb_snoc, if_neg hne]] at hrow
  obtain ⟨g, cap, rfl, kb, kf, kl, c, hgc⟩ := WrM.byte (nb_at L.length) hrow
  obtain ⟨k0, k1, -⟩ := cell2 hcell
  obtain ⟨P, hP⟩ : ∃ P : Nat, P = pk L (L.length / 8) + b.toNat * 2 ^ (7 - L.length % 8) := ⟨_, rfl⟩
  obtain ⟨n1, n2⟩ := cell2_behind (w := w) (j := L.length / 8) (u := .int .u8 (P : Int)) hcell (ne_of_types hcell hgc)
  have HD : ∀ w2, w2 = (w.drew.setCell ⟨g, L.length / 8, none⟩ (.int .u8 (P : Int))).setCell ⟨q, 1, none⟩ (.int .i64 ((L.length : Int) + 1)) → WStep S q (L ++ [b]) w w2 := fun w2 e =>
    WrM.done (w1 := w.drew) (S1 := S) hcell hrow (fun x => ⟨.inl, fun hx => hx.elim id fun e => by rw [e]; exact h.s_v g rfl⟩) h.s_q h.lt (.inl (h.s_v g rfl)) kl ((Upon.refl S w).drew) (by rw [← hP]; exact e)
  replace HD := Lib.hid HD
  have hor := or_put L b
  rw [← hP] at hor
  clear hP
  have hne2 : (((L.length : Int) % 8) == 0) = false := by rw [beq_eq_false_iff_ne]; omega
  have hidx : (L.length : Int) / 8 < (nb (L.length + 1) : Nat) := by have := nb_at L.length; omega
  have f1 := n2 1
  have f2 := kf (L.length / 8)
  clear h hcell hrow n2 kf hgc
  go_enter Try.func19, Try.ntmps19
  go_wp2_with fail
  have i1 : IntKind.i64.wrap ((L.length : Int) / 8) = (L.length : Int) / 8 := IntWalk.i64_in _ (by omega)
  have i4 : ((L.length : Int) / 8).toNat = L.length / 8 := by omega
  have i5 : 0 ≤ (L.length : Int) / 8 := by omega
  have i7 : IntKind.u8.wrap ((b.toNat : Nat) : Int) = ((b.toNat : Nat) : Int) := by have := bool_le b; rw [IntKind.wrap_u8]; omega
  have hL' := Lib.hid hL
  clear hL
  go_still_tail 21, (by kernel_rfl)
  still_call ((shift_any L.length (by have := hL'.out; omega) _).mono fun _ _ ⟨he, hw⟩ => ⟨he, hw.symm⟩)
  repeat still_step
  refine wpStill_nil ?_
  change wpList _ _ _ _ _ w.drew
  clear i1 i4 i5 i7 hor hidx hne2
  have hL := hL'.out
  go_wp2_with fail
  go_end0
  exact ⟨rfl, HD.out _ rfl⟩

/-- A byte is begun. -/
theorem WrM.begun {w w' : World} {S : Nat → Prop} {q g cap : Nat} {L : List Bool} {v : Value} {o : Obj} (h : WrM w S q L v) (ha : L.length % 8 = 0)
    (hown : w'.ownsRow 0 5 1 (.slice (some ⟨g, 0, none⟩) (nb L.length + 1) cap) (nb L.length + 1) (Lib.byteCells (pack L) ++ [.int .u8 0])) (hg : (w.alloc o).grownBy w' v.ownBlock) :
    w'.heap[q]? = some (.cells #[v, .int .i64 (L.length : Int)] 49 (0, 0)) ∧ g ≠ q ∧
    (w'.setCell ⟨q, 0, none⟩ (.slice (some ⟨g, 0, none⟩) (nb L.length + 1) cap)).heap[q]? = some (.cells #[.slice (some ⟨g, 0, none⟩) (nb (L.length + 1)) cap, .int .i64 (L.length : Int)] 49 (0, 0)) ∧
      (w'.setCell ⟨q, 0, none⟩ (.slice (some ⟨g, 0, none⟩) (nb L.length + 1) cap)).ownsRow 0 5 1 (.slice (some ⟨g, 0, none⟩) (nb (L.length + 1)) cap) (nb (L.length + 1)) (Lib.byteCells (packTo (nb (L.length + 1)) L)) ∧
      g < (w'.setCell ⟨q, 0, none⟩ (.slice (some ⟨g, 0, none⟩) (nb L.length + 1) cap)).heap.size ∧ Upon S w (w'.setCell ⟨q, 0, none⟩ (.slice (some ⟨g, 0, none⟩) (nb L.length + 1) cap)) := by
  have e : nb (L.length + 1) = nb L.length + 1 := by rw [nb_snoc, if_pos ha]
  rw [e]
  have hrow : w'.ownsRow 0 5 1 (.slice (some ⟨g, 0, none⟩) (nb L.length + 1) cap) (nb L.length + 1) (Lib.byteCells (packTo (nb L.length + 1) L)) := by
    have e3 := packTo_more L ha
    rw [e] at e3
    rw [e3]
    have e2 : Lib.byteCells (pack L ++ [0]) = Lib.byteCells (pack L) ++ [.int .u8 0] := by unfold Lib.byteCells; rw [List.map_append]; rfl
    rw [e2]; exact hown
  have hvq : some q ≠ v.ownBlock := by
    intro e3
    rcases h.row.2 with ⟨hv, _⟩ | ⟨g', cap', cur, hv, _, hgg, _⟩
    · rw [hv] at e3; cases e3
    · rw [hv] at e3
      have e4 : q = g' := Option.some.inj e3
      subst e4
      exact ne_of_types h.cell hgg rfl
  have hql : q < w.heap.size := h.lt q h.s_q
  have hq : w'.heap[q]? = some (.cells #[v, .int .i64 (L.length : Int)] 49 (0, 0)) := by
    rw [hg.block q (by simp; omega) hvq, Below.heap_alloc _ _ _ hql]; exact h.cell
  obtain ⟨g', cap', hv', -, -, hgl, c, hgc⟩ := WrM.byte (show L.length / 8 < nb L.length + 1 by unfold nb; omega) hrow
  cases hv'
  have hgq : g ≠ q := ne_of_types hq hgc
  refine ⟨hq, hgq, ?_, ?_, ?_, ?_⟩
  · simp [World.setCell, Array.getElem?_modify, hq]
  · exact ownsRow_kept hrow fun x hx => Below.heap_setCell _ _ _ _ fun e3 => hgq ((Option.some.inj hx).trans e3)
  · simpa [World.setCell] using hgl
  · exact (((Upon.refl S w).alloc o).grown hg (fun k hk => .inl (h.s_v k hk))).setCell (p := ⟨q, 0, none⟩) (.inl h.s_q) _

set_option maxHeartbeats 1600000 in
theorem putBit_new (S : Nat → Prop) (q : Nat) (L : List Bool) (b : Bool) (w : World) (h : IsW w S q L) (hL : L.length ≤ 100000000000000) (ha : L.length % 8 = 0) :
    Calls Try.prog 19 #[.pointer (some ⟨q, 0, none⟩), .int .u64 (b.toNat : Int)] w fun e w' => e = .returned (.tuple #[]) ∧ WStep S q (L ++ [b]) w w' := by
  obtain ⟨v, h⟩ := h
  have hcell := h.cell
  obtain ⟨k0, k1, kz⟩ := cell2 hcell
  have kz0 := kz 0
  have hown := Lib.hid h.row
  have hne2 : (((L.length : Int) % 8) == 0) = true := by rw [beq_iff_eq]; omega
  obtain ⟨i0, hi, hz0, hz1, hz2⟩ := info_parts infoU8
  have hq := h.lt q h.s_q
  replace h := Lib.hid h
  have hnb : nb L.length + 1 ≤ 100000000000000 := by unfold nb; omega
  replace hnb := Lib.hid hnb
  clear hcell kz
  go_enter Try.func19, Try.ntmps19
  go_wp2_with (at_builtin; refine wpList_append_lies _ rfl _ _ 47 rfl 0 5 i0 (.int .u8 0) 1 1 Try.underlying47 hi hz0 hz1 hz2 rfl (by decide) _ _ _ rfl (hown.out.alloc _) ⟨w.heap.size, 0, none⟩ 1 1 [.int .u8 0] rfl rfl ?c1 ?c2 (by decide) ?c3 ?c4 ?c5 _ rfl ?_)
  case c1 => exact World.news_of_block (cell_new w _)
  case c2 => simp [Value.oneCell']
  case c3 => have := hnb.out; unfold maxLen; omega
  case c4 => have := hnb.out; omega
  case c5 => exact Nat.zero_le _
  intro g cap w1 hown1 hgrow hgS _
  obtain ⟨hq1, hgq, hcell, hrow, hgl, hupon⟩ := WrM.begun h.out ha hown1 hgrow
  have hgS2 : S g ∨ w.heap.size ≤ g := hgS.elim (fun e => .inl (h.out.s_v g e)) (fun e => .inr (by rw [e]; simp))
  replace hgS2 := Lib.hid hgS2
  clear hgS
  obtain ⟨j0, -, jz⟩ := cell2 hq1
  have jz0 := jz 0
  obtain ⟨k0', k1', kg⟩ := cell2 hcell
  replace hcell := Lib.hid hcell
  replace hrow := Lib.hid hrow
  replace hupon := Lib.hid hupon
  replace hgl := Lib.hid hgl
  clear jz hq1 hown1 hgrow k0 k1 kz0 hi hz0 hz1 hz2 hown hq
  go_wp2_with fail
  generalize w1.setCell ⟨q, 0, none⟩ (.slice (some ⟨g, 0, none⟩) (nb L.length + 1) cap) = w2 at *
  clear j0 jz0
  obtain ⟨g', cap', hg', kb, kf, -, -⟩ := WrM.byte (nb_at L.length) hrow.out
  cases hg'
  obtain ⟨P, hP⟩ : ∃ P : Nat, P = pk L (L.length / 8) + b.toNat * 2 ^ (7 - L.length % 8) := ⟨_, rfl⟩
  obtain ⟨n1, n2⟩ := cell2_behind (w := w2) (j := L.length / 8) (u := .int .u8 (P : Int)) hcell.out hgq
  have HD : ∀ w3, w3 = (w2.drew.setCell ⟨g, L.length / 8, none⟩ (.int .u8 (P : Int))).setCell ⟨q, 1, none⟩ (.int .i64 ((L.length : Int) + 1)) → WStep S q (L ++ [b]) w w3 := fun w3 e =>
    WrM.done (w1 := w2.drew) (S1 := fun x => S x ∨ x = g) hcell.out hrow.out (fun x => Iff.rfl) h.out.s_q h.out.lt hgS2.out hgl.out hupon.out.drew (by rw [← hP]; exact e)
  replace HD := Lib.hid HD
  have hor := or_put L b
  rw [← hP] at hor
  clear hP
  have hidx : (L.length : Int) / 8 < (nb (L.length + 1) : Nat) := by have := nb_at L.length; omega
  have f1 := n2 1
  have f2 := kf (L.length / 8)
  have f3 := kg 1
  clear ha
  clear h n2 kf hne2 hnb hcell hrow hgl hupon kg
  have i1 : IntKind.i64.wrap ((L.length : Int) / 8) = (L.length : Int) / 8 := IntWalk.i64_in _ (by omega)
  have i4 : ((L.length : Int) / 8).toNat = L.length / 8 := by omega
  have i5 : 0 ≤ (L.length : Int) / 8 := by omega
  have i7 : IntKind.u8.wrap ((b.toNat : Nat) : Int) = ((b.toNat : Nat) : Int) := by have := bool_le b; rw [IntKind.wrap_u8]; omega
  have hL' := Lib.hid hL
  clear hL
  go_still_tail 21, (by kernel_rfl)
  still_call ((shift_any L.length (by have := hL'.out; omega) _).mono fun _ _ ⟨he, hw⟩ => ⟨he, hw.symm⟩)
  repeat still_step
  refine wpStill_nil ?_
  change wpList _ _ _ _ _ w2.drew
  clear i1 i4 i5 i7 hor hidx
  have hL := hL'.out
  go_wp2_with fail
  go_end0
  exact ⟨rfl, HD.out _ rfl⟩

theorem putBit_any (S : Nat → Prop) (q : Nat) (L : List Bool) (b : Bool) (w : World) (h : IsW w S q L) (hL : L.length ≤ 100000000000000) :
    Calls Try.prog 19 #[.pointer (some ⟨q, 0, none⟩), .int .u64 (b.toNat : Int)] w fun e w' => e = .returned (.tuple #[]) ∧ WStep S q (L ++ [b]) w w' := by
  by_cases ha : L.length % 8 = 0
  · exact putBit_new S q L b w h hL ha
  · exact putBit_in S q L b w h hL ha
end Bit
end Go.Proofs.Ytblfhmajonnceaa
