/- Plain facts on rows of frames: all that are got from the front on, whatever the bytes; frames that are written one behind the other are got as they were, cut off anywhere those that are whole. Conditions: those that each lemma states. -/
import Derived.Test.YtcjfnkgjjhlbnaaDoorFramePure
import Derived.Laws.OwnMore
import Derived.Laws.AppendOwn
import Derived.Below
namespace Go.Proofs.YtcjfnkgjjhlbnaaDoor
open Go.RowKit
namespace Frm
open Dig

/-- All frames from place m on: the frames, the place behind them, the error. -/
def scanF : Nat → ByteArray → Nat → List (Nat × ByteArray) × Nat × Nat
  | 0, _, m => ([], m, 0)
  | f + 1, s, m =>
    if m < s.size then
      if (gotF (s.extract m s.size)).err ≠ 0 then ([], m, (gotF (s.extract m s.size)).err)
      else (((gotF (s.extract m s.size)).kind, (gotF (s.extract m s.size)).data) :: (scanF f s (m + (gotF (s.extract m s.size)).size)).1, (scanF f s (m + (gotF (s.extract m s.size)).size)).2)
    else ([], m, 0)
theorem scan_end (f : Nat) (s : ByteArray) (m : Nat) (h : s.size ≤ m) : scanF f s m = ([], m, 0) := by
  cases f with
  | zero => rfl
  | succ f => rw [scanF, if_neg (by omega)]
theorem scan_err (f : Nat) (s : ByteArray) (m : Nat) (h : m < s.size) (he : (gotF (s.extract m s.size)).err ≠ 0) : scanF (f + 1) s m = ([], m, (gotF (s.extract m s.size)).err) := by
  rw [scanF, if_pos h, if_pos he]
theorem scan_more (f : Nat) (s : ByteArray) (m : Nat) (h : m < s.size) (he : (gotF (s.extract m s.size)).err = 0) :
    scanF (f + 1) s m = (((gotF (s.extract m s.size)).kind, (gotF (s.extract m s.size)).data) :: (scanF f s (m + (gotF (s.extract m s.size)).size)).1, (scanF f s (m + (gotF (s.extract m s.size)).size)).2) := by
  rw [scanF, if_pos h, if_neg (by omega)]
/-- The cells of a row of frames. -/
def cellsL : List (Nat × ByteArray) → List Value
  | [] => []
  | p :: l => .int .i64 (p.1 : Int) :: .string p.2 :: cellsL l
theorem cellsL_append (a b : List (Nat × ByteArray)) : cellsL (a ++ b) = cellsL a ++ cellsL b := by
  induction a with
  | nil => rfl
  | cons p a ih => simp [cellsL, ih]
theorem cellsL_length (l : List (Nat × ByteArray)) : (cellsL l).length = l.length * 2 := by
  induction l with
  | nil => rfl
  | cons p a ih => simp [cellsL, ih]; omega
theorem cellsL_kind (l : List (Nat × ByteArray)) (i : Nat) (h : i < l.length) : (cellsL l)[i * 2]? = some (.int .i64 ((l[i]).1 : Int)) := by
  induction l generalizing i with
  | nil => simp at h
  | cons p a ih =>
    cases i with
    | zero => rfl
    | succ i =>
      rw [show (i + 1) * 2 = i * 2 + 1 + 1 by omega]
      simp only [cellsL, List.getElem?_cons_succ, List.getElem_cons_succ]
      exact ih i (by simpa using h)
theorem cellsL_data (l : List (Nat × ByteArray)) (i : Nat) (h : i < l.length) : (cellsL l)[i * 2 + 1]? = some (.string (l[i]).2) := by
  induction l generalizing i with
  | nil => simp at h
  | cons p a ih =>
    cases i with
    | zero => rfl
    | succ i =>
      rw [show (i + 1) * 2 + 1 = (i * 2 + 1) + 1 + 1 by omega]
      simp only [cellsL, List.getElem?_cons_succ, List.getElem_cons_succ]
      exact ih i (by simpa using h)
theorem own_below {w w1 : World} {base size n : Nat} {e : TypeId} {v : Value} {xs : List Value} (h : w.ownsRow base e size v n xs) (hb : Below w.heap.size w w1) : w1.ownsRow base e size v n xs :=
  h.kept (row := none) ⟨hb.os, hb.tape, hb.output, hb.size, fun k hk _ => hb.block k hk⟩ (by cases v.ownBlock <;> simp)

/-! Frames that are written one behind the other. -/
def allA : List (Nat × ByteArray) → List UInt8
  | [] => []
  | p :: l => (putA p.1 p.2).data.toList ++ allA l
def okF (l : List (Nat × ByteArray)) : Prop := ∀ p ∈ l, 1 ≤ p.1 ∧ p.1 ≤ 255 ∧ p.2.size ≤ 65536
theorem allA_append (a b : List (Nat × ByteArray)) : allA (a ++ b) = allA a ++ allA b := by
  induction a with
  | nil => rfl
  | cons p a ih => simp [allA, ih]
/-- All frames that are whole ahead of a cut, and no more; whatever is cut off is too short. -/
theorem scan_all (l : List (Nat × ByteArray)) (hl : okF l) (s : ByteArray) (m f : Nat) (hf : s.size < m + f) (tail : List UInt8)
    (hs : s.data.toList.drop m = allA l ++ tail) (ht : tail = [] ∨ ∃ p : Nat × ByteArray, 1 ≤ p.1 ∧ p.1 ≤ 255 ∧ p.2.size ≤ 65536 ∧ tail.length < (putA p.1 p.2).size ∧ tail = (putA p.1 p.2).data.toList.take tail.length) (hm : m ≤ s.size) :
    scanF f s m = (l, m + (allA l).length, if tail = [] then 0 else 1) := by
  induction l generalizing m f with
  | nil =>
    simp only [allA, List.nil_append, List.length_nil, Nat.add_zero] at hs ⊢
    by_cases h0 : tail = []
    · rw [if_pos h0]
      apply scan_end
      have := congrArg List.length hs
      rw [List.length_drop, size_list, h0] at this
      simp at this
      omega
    · rw [if_neg h0]
      have hlen := congrArg List.length hs
      rw [List.length_drop, size_list] at hlen
      have hpos : 0 < tail.length := List.length_pos_iff.2 h0
      rcases ht with h1 | ⟨p, h1, h2, h3, h4, h5⟩
      · exact absurd h1 h0
      · obtain ⟨f, rfl⟩ : ∃ g, f = g + 1 := ⟨f - 1, by omega⟩
        have hx : s.extract m s.size = (putA p.1 p.2).extract 0 tail.length := by
          apply bytes_ext
          rw [extract_list, extract_list, List.take_of_length_le (by rw [size_list]; exact Nat.le_refl _), hs, List.drop_zero]
          exact h5
        have hg := got_cutoff p.1 p.2 h1 h2 h3 tail.length h4
        rw [← hx] at hg
        rw [scan_err f s m (by omega) (by rw [hg]; simp [bad]), hg]
        rfl
  | cons p l ih =>
    obtain ⟨h1, h2, h3⟩ := hl p (by simp)
    have hpz := putA_size p.1 p.2
    have hlen := congrArg List.length hs
    rw [List.length_drop, size_list, List.length_append, allA, List.length_append, size_list] at hlen
    obtain ⟨f, rfl⟩ : ∃ g, f = g + 1 := ⟨f - 1, by omega⟩
    have hx : s.extract m s.size = putA p.1 p.2 ++ ⟨(allA l ++ tail).toArray⟩ := by
      apply bytes_ext
      rw [extract_list, List.take_of_length_le (by rw [size_list]; exact Nat.le_refl _), hs, ByteArray.data_append, Array.toList_append, allA, List.append_assoc]
    have hg := got_put p.1 p.2 ⟨(allA l ++ tail).toArray⟩ h1 h2 h3
    rw [← hx] at hg
    have hs2 : s.data.toList.drop (m + (putA p.1 p.2).size) = allA l ++ tail := by
      rw [← List.drop_drop, hs, allA, List.append_assoc, List.drop_append_of_le_length (by rw [size_list]; omega), List.drop_of_length_le (by rw [size_list]; omega), List.nil_append]
    rw [scan_more f s m (by omega) (by rw [hg]), hg]
    simp only
    rw [ih (fun q hq => hl q (by simp [hq])) (m + (putA p.1 p.2).size) f (by omega) hs2 (by omega)]
    simp only [allA, List.length_append, size_list, Nat.add_assoc]
end Frm
end Go.Proofs.YtcjfnkgjjhlbnaaDoor
