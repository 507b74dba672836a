/- The document's own reader of bits (layer 6): Get. -/
import Derived.Test.YtblfhmajonnceaaBitRefR
namespace Go.Proofs.Ytblfhmajonnceaa
open Go.RowKit
namespace Bit
open Dsk Ob
set_option linter.unusedVariables false

/-- A row of bits behind a view: its cells, and its block among S. -/
def ViewAt (w : World) (S : Nat → Prop) (v : Value) (K : List Bool) : Prop :=
  (v = .slice none 0 0 ∧ K = []) ∨ ∃ g off cap, v = .slice (some ⟨g, off, none⟩) K.length cap ∧ K.length ≤ cap ∧ cap < 9223372036854775808 ∧ S g ∧ ∀ i (h : i < K.length), w.cell? ⟨g, off + i, none⟩ = some (.bool K[i])
structure RvM (w : World) (S : Nat → Prop) (q : Nat) (K : List Bool) (v : Value) : Prop where
  cell : w.heap[q]? = some (.cells #[v] 43 (0, 0))
  view : ViewAt w S v K
  s_q : S q
  lt : ∀ b, S b → b < w.heap.size
  ne : ∀ g off n cap, v = .slice (some ⟨g, off, none⟩) n cap → g ≠ q
/-- The document's reader at block q, of blocks S: the bits K are left. -/
def IsRR (w : World) (S : Nat → Prop) (q : Nat) (K : List Bool) : Prop := ∃ v, RvM w S q K v
theorem ViewAt.kept {w w' : World} {S : Nat → Prop} {v : Value} {K : List Bool} (h : ViewAt w S v K) (hk : ∀ b, S b → w'.heap[b]? = w.heap[b]?) : ViewAt w' S v K := by
  rcases h with h | ⟨g, off, cap, h1, h2, hc, h3, h4⟩
  · exact .inl h
  · exact .inr ⟨g, off, cap, h1, h2, hc, h3, fun i hi => (World.cell?_of_block (hk g h3)).trans (h4 i hi)⟩
theorem objRR (q : Nat) (K : List Bool) : Thing (fun w S => IsRR w S q K) where
  kept := fun w w' S ⟨v, h⟩ hk hs => ⟨v, { h with cell := (hk q h.s_q).trans h.cell, view := h.view.kept hk, lt := fun b hb => Nat.lt_of_lt_of_le (h.lt b hb) hs }⟩
  lt := fun _ _ ⟨_, h⟩ => h.lt
theorem IsRR.of_filled {w : World} {S : Nat → Prop} {q : Nat} {L : List Bool} (h : IsRR0 w S q L) : IsRR w S q L := by
  obtain ⟨v, h⟩ := h
  refine ⟨v, h.cell, ?_, h.s_q, h.lt, ?_⟩
  · rcases h.row.2 with ⟨hv, h0⟩ | ⟨g, cap, cur, hv, hb, hg, hmc, hcm, hcs, ht⟩
    · exact .inl ⟨hv, List.length_eq_zero_iff.1 h0⟩
    · refine .inr ⟨g, 0, cap, hv, hmc, ?_, h.s_v g (by rw [hv]; rfl), fun i hi => ?_⟩
      · have := hcm; unfold maxLen at this; omega
      · have hc := h.row.cells (g := g) (by rw [hv]; rfl) i (.bool L[i]) (by simp [boolCells, hi])
        rw [Arg.addr_plain] at hc
        exact hc
  · rintro g off n cap rfl
    obtain ⟨c, hc⟩ := own_block_of h.row rfl
    exact ne_of_bool (by decide) h.cell hc

theorem refGet_no (S : Nat → Prop) (q : Nat) (K : List Bool) (n : Int) (w : World) (h : IsRR w S q K) (hn : n < 0 ∨ 64 < n ∨ (K.length : Int) < n) :
    Calls Try.prog 16 #[.pointer (some ⟨q, 0, none⟩), .int .i64 n] w fun x w' => x = .returned (.tuple #[.int .u64 0, .bool false]) ∧ w = w' := by
  obtain ⟨v, h⟩ := h
  have k0 : w.cell? ⟨q, 0, none⟩ = some v := by rw [Lib.cell_of_heap h.cell]; rfl
  have hv : ∃ A c, v = .slice A K.length c := by
    rcases h.view with ⟨h1, h2⟩ | ⟨g, off, cap, h1, _⟩
    · exact ⟨none, 0, by rw [h1, h2]; rfl⟩
    · exact ⟨_, _, h1⟩
  obtain ⟨A, c, rfl⟩ := hv
  clear h
  have hc : decide (n < 0) = true ∨ (decide (n < 0) = false ∧ decide (64 < n) = true) ∨ (decide (n < 0) = false ∧ decide (64 < n) = false ∧ decide ((K.length : Int) < n) = true) := by
    by_cases h1 : n < 0
    · left; simpa using h1
    · by_cases h2 : 64 < n
      · right; left; exact ⟨by simpa using h1, by simpa using h2⟩
      · right; right; exact ⟨by simpa using h1, by simpa using h2, by simp; omega⟩
  rcases hc with h1 | ⟨h1, h2⟩ | ⟨h1, h2, h3⟩
  all_goals
    clear hn
    go_enter Try.func16, Try.ntmps16
    go_wp2_with fail
    go_ret2
    exact ⟨rfl, rfl⟩

theorem numOf_step (K : List Bool) (k : Nat) (h : k < K.length) : numOf (K.take (k + 1)) = 2 * numOf (K.take k) + (K[k]).toNat := by
  rw [List.take_succ_eq_append_getElem h, numOf_snoc]
theorem numOf_small (K : List Bool) (k : Nat) (h : k < 64) : numOf (K.take k) < 9223372036854775808 := by
  have h1 := numOf_lt (K.take k)
  have h2 : 2 ^ (K.take k).length ≤ 2 ^ 63 := Nat.pow_le_pow_right (by decide) (by rw [List.length_take]; omega)
  omega
/-- Behind the store of the shorter view. -/
theorem RvM.cut {w : World} {S : Nat → Prop} {q g off off' cap cap' m : Nat} {K : List Bool} (h : RvM w S q K (.slice (some ⟨g, off, none⟩) K.length cap)) (hm : m ≤ K.length) (hc : K.length - m ≤ cap') (hc2 : cap' < 9223372036854775808) (hS : S g) (hall : ∀ i (h : i < K.length), w.cell? ⟨g, off + i, none⟩ = some (.bool K[i])) (ho : off' = off + m ∨ m = K.length) :
    ObjStep (fun w S => IsRR w S q (K.drop m)) S w (w.setCell ⟨q, 0, none⟩ (.slice (some ⟨g, off', none⟩) (K.length - m) cap')) := by
  have hq : w.heap[q]? = some (.cells #[.slice (some ⟨g, off, none⟩) K.length cap] 43 (0, 0)) := h.cell
  have hne := h.ne g off _ _ rfl
  refine ⟨⟨S, ⟨.slice (some ⟨g, off', none⟩) (K.length - m) cap', ?_, .inr ⟨g, off', cap', by rw [List.length_drop], by rw [List.length_drop]; omega, by omega, hS, fun i hi => ?_⟩, h.s_q, fun b hb => ?_, ?_⟩, fun _ h => h, fun _ h => .inl h⟩, (Upon.refl S w).setCell (p := ⟨q, 0, none⟩) (.inl h.s_q) _⟩
  · simp [World.setCell, Array.getElem?_modify, hq]
  · rw [World.cell?_of_block (w := w) (Below.heap_setCell _ _ _ _ hne)]
    rw [List.length_drop] at hi
    rcases ho with ho | ho
    · rw [List.getElem_drop, ho, Nat.add_assoc]
      exact hall (m + i) (by omega)
    · omega
  · have : (w.setCell ⟨q, 0, none⟩ (.slice (some ⟨g, off', none⟩) (K.length - m) cap')).heap.size = w.heap.size := by simp [World.setCell]
    rw [this]; exact h.lt b hb
  · rintro g' off' n' cap' hv
    cases hv
    exact hne

set_option maxRecDepth 100000 in
set_option maxHeartbeats 1600000 in
theorem refGet_ok (S : Nat → Prop) (q : Nat) (K : List Bool) (m : Nat) (w : World) (h : IsRR w S q K) (hm : m ≤ 64) (hle : m ≤ K.length) :
    Calls Try.prog 16 #[.pointer (some ⟨q, 0, none⟩), .int .i64 (m : Int)] w fun x w' => x = .returned (.tuple #[.int .u64 (numOf (K.take m) : Int), .bool true]) ∧ ObjStep (fun w S => IsRR w S q (K.drop m)) S w w' := by
  obtain ⟨v, h⟩ := h
  have k0 : w.cell? ⟨q, 0, none⟩ = some v := by rw [Lib.cell_of_heap h.cell]; rfl
  have hf := Lib.frozen_of_heap h.cell 0
  have hd1 : decide ((m : Int) < 0) = false := by simp
  have hd2 : decide (64 < (m : Int)) = false := by simp; omega
  have hd3 : decide (K.length < m) = false := by simp; omega
  rcases h.view with ⟨rfl, rfl⟩ | ⟨g, off, cap, rfl, hcap, hcap2, hS, hall⟩
  · obtain rfl : m = 0 := by simpa using hle
    have H : Hid (ObjStep (fun w S => IsRR w S q []) S w (w.setCell ⟨q, 0, none⟩ (.slice none 0 0))) := Lib.hid (by
      have hq := h.cell
      refine ⟨⟨S, ⟨.slice none 0 0, ?_, .inl ⟨rfl, rfl⟩, h.s_q, fun b hb => ?_, ?_⟩, fun _ h => h, fun _ h => .inl h⟩, (Upon.refl S w).setCell (p := ⟨q, 0, none⟩) (.inl h.s_q) _⟩
      · simp [World.setCell, Array.getElem?_modify, hq]
      · have : (w.setCell ⟨q, 0, none⟩ (.slice none 0 0)).heap.size = w.heap.size := by simp [World.setCell]
        rw [this]; exact h.lt b hb
      · rintro g' off' n' cap' hv; cases hv)
    clear h hd3 hle hm
    go_enter Try.func16, Try.ntmps16
    go_wp2_with fail
    go_loopw [6, 7] (fun v i wr => v = .int .u64 0 ∧ i = .int .i64 0 ∧ w = wr) (fun _ i _ => (intOf i).toNat)
    case atStart => exact ⟨rfl, rfl, rfl⟩
    case round =>
      obtain ⟨rfl, rfl, rfl⟩ := hrel
      go_wp2_with fail
      go_ret2
      exact ⟨rfl, H.out⟩
  · have HC : Hid (∀ off' cap', K.length - m ≤ cap' → cap' < 9223372036854775808 → (off' = off + m ∨ m = K.length) → ObjStep (fun w S => IsRR w S q (K.drop m)) S w (w.setCell ⟨q, 0, none⟩ (.slice (some ⟨g, off', none⟩) (K.length - m) cap'))) := Lib.hid fun off' cap' h1 h2 h3 => h.cut hle h1 h2 hS hall h3
    replace hall := Lib.hid hall
    have hKc : K.length < 9223372036854775808 := by omega
    clear h
    go_enter Try.func16, Try.ntmps16
    go_wp2_with fail
    clear hd1 hd2 hd3
    go_loopw [6, 7] (fun v i wr => ∃ k : Nat, k ≤ m ∧ i = .int .i64 k ∧ v = .int .u64 (numOf (K.take k) : Int) ∧ w = wr) (fun _ i _ => m - (intOf i).toNat)
    case atStart => exact ⟨0, Nat.zero_le _, rfl, rfl, rfl⟩
    case round =>
      obtain ⟨k, hk, rfl, rfl, rfl⟩ := hrel
      by_cases hlt : k < m
      · have hkl : k < K.length := by omega
        have c0 := hall.out k hkl
        have hV := numOf_small K k (by omega)
        have hnx : Hid (numOf (K.take (k + 1)) = 2 * numOf (K.take k) + (K[k]).toNat) := Lib.hid (numOf_step K k hkl)
        generalize numOf (K.take k) = V at *
        have w1 : IntKind.u64.wrap (2 * (V : Int)) = 2 * (V : Int) := by rw [IntKind.wrap_u64]; omega
        have w2 : IntKind.u64.wrap (2 * (V : Int) + 1) = 2 * (V : Int) + 1 := by rw [IntKind.wrap_u64]; omega
        cases hb : K[k] with
        | true =>
          rw [hb] at c0
          have hnx2 : Hid (numOf (K.take (k + 1)) = 2 * V + 1) := Lib.hid (by rw [hnx.out, hb]; rfl)
          clear hb hnx
          go_wp2_with fail
          go_roundw
          case rel => exact ⟨k + 1, by omega, by go_num, by rw [hnx2.out]; exact ⟨by go_num, trivial⟩⟩
          case measure => simp [intOf]; omega
        | false =>
          rw [hb] at c0
          have hnx2 : Hid (numOf (K.take (k + 1)) = 2 * V) := Lib.hid (by rw [hnx.out, hb]; rfl)
          clear hb hnx
          go_wp2_with fail
          go_roundw
          case rel => exact ⟨k + 1, by omega, by go_num, by rw [hnx2.out]; exact ⟨by go_num, trivial⟩⟩
          case measure => simp [intOf]; omega
      · obtain rfl : k = m := by omega
        clear hlt
        by_cases hck : cap = k
        all_goals
          go_wp2_with fail
          go_ret2
          exact ⟨rfl, HC.out _ _ (by omega) (by omega) (by omega)⟩
end Bit
end Go.Proofs.Ytblfhmajonnceaa
