/- Plain facts for FrameBack: of frames that are written one behind the other, which are whole ahead of a cut; where each ends. Conditions: those that each lemma states. -/
import Derived.Test.YtcjfnkgjjhlbnaaDoorFrameRows
namespace Go.Proofs.YtcjfnkgjjhlbnaaDoor
open Go.RowKit
namespace Frm
open Dig

/-- Of any frames those that are written: kinds from 1 to 255 (data is short enough). -/
def okl : List (Int × ByteArray) → List (Nat × ByteArray)
  | [] => []
  | p :: l => if p.1 < 1 ∨ 255 < p.1 then okl l else (p.1.toNat, p.2) :: okl l
theorem okl_append (a b : List (Int × ByteArray)) : okl (a ++ b) = okl a ++ okl b := by
  induction a with
  | nil => rfl
  | cons p a ih =>
    simp only [List.cons_append, okl]
    split
    · exact ih
    · rw [ih]; rfl
/-- Where each frame ends. -/
def endsL (l : List (Nat × ByteArray)) : List Value := (List.range l.length).map fun j => .int .i64 (((allA (l.take (j + 1))).length : Nat) : Int)
theorem endsL_length (l : List (Nat × ByteArray)) : (endsL l).length = l.length := by simp [endsL]
theorem endsL_at (l : List (Nat × ByteArray)) (j : Nat) (h : j < l.length) : (endsL l)[j]? = some (.int .i64 (((allA (l.take (j + 1))).length : Nat) : Int)) := by
  rw [endsL, List.getElem?_map, List.getElem?_range h]; rfl
theorem endsL_snoc (l : List (Nat × ByteArray)) (p : Nat × ByteArray) : endsL (l ++ [p]) = endsL l ++ [.int .i64 (((allA (l ++ [p])).length : Nat) : Int)] := by
  unfold endsL
  rw [List.length_append, List.length_cons, List.length_nil, Nat.zero_add, List.range_succ, List.map_append]
  congr 1
  · apply List.map_congr_left
    intro j hj
    have := List.mem_range.1 hj
    rw [List.take_append_of_le_length (by omega)]
  · simp only [List.map_cons, List.map_nil]
    rw [List.take_of_length_le (by simp)]
theorem allA_pos (l : List (Nat × ByteArray)) : 6 * l.length ≤ (allA l).length := by
  induction l with
  | nil => simp [allA]
  | cons p l ih =>
    have := putA_size p.1 p.2
    rw [allA, List.length_append, size_list, List.length_cons]
    omega
theorem allA_most (l : List (Nat × ByteArray)) (h : ∀ p ∈ l, p.2.size ≤ 2000) : (allA l).length ≤ 2014 * l.length := by
  induction l with
  | nil => simp [allA]
  | cons p l ih =>
    have h1 := putA_size p.1 p.2
    have h2 := nd_le p.2.size
    have h3 := h p (by simp)
    have h4 := ih (fun q hq => h q (by simp [hq]))
    rw [allA, List.length_append, size_list, List.length_cons]
    omega
theorem allA_take (l : List (Nat × ByteArray)) (j : Nat) (h : j < l.length) : (allA (l.take (j + 1))).length = (allA (l.take j)).length + (putA l[j].1 l[j].2).size := by
  rw [List.take_succ_eq_append_getElem h, allA_append, List.length_append]
  simp [allA]
theorem allA_mono (l : List (Nat × ByteArray)) (i j : Nat) (h : i ≤ j) : (allA (l.take i)).length ≤ (allA (l.take j)).length := by
  have e : l.take j = l.take i ++ (l.take j).drop i := by
    have := (List.take_append_drop i (l.take j)).symm
    rwa [List.take_take, Nat.min_eq_left h] at this
  rw [e, allA_append, List.length_append]
  omega
/-- How many frames are whole ahead of a cut. -/
theorem whole_of (l : List (Nat × ByteArray)) (cut n : Nat) (hn : n ≤ l.length) : ∃ W, W ≤ n ∧ ∀ j, j < n → ((allA (l.take (j + 1))).length ≤ cut ↔ j < W) := by
  induction n with
  | zero => exact ⟨0, Nat.le_refl _, fun j hj => absurd hj (by omega)⟩
  | succ n ih =>
    obtain ⟨W, hW, h⟩ := ih (by omega)
    by_cases hc : (allA (l.take (n + 1))).length ≤ cut
    · refine ⟨n + 1, Nat.le_refl _, fun j hj => ⟨fun _ => hj, fun _ => ?_⟩⟩
      exact Nat.le_trans (allA_mono l (j + 1) (n + 1) (by omega)) hc
    · refine ⟨W, by omega, fun j hj => ?_⟩
      by_cases hjn : j < n
      · exact h j hjn
      · obtain rfl : j = n := by omega
        exact ⟨fun h2 => absurd h2 hc, fun h2 => by omega⟩
/-- All frames, with nothing behind them. -/
theorem scan_whole (l : List (Nat × ByteArray)) (hl : okF l) (s : ByteArray) (hs : s.data.toList = allA l) : scanF (s.size + 1) s 0 = (l, s.size, 0) := by
  have h := scan_all l hl s 0 (s.size + 1) (by omega) [] (by simpa using hs) (.inl rfl) (by omega)
  rw [if_pos rfl, Nat.zero_add, ← hs, size_list] at h
  exact h
/-- Cut off: those that are whole, and the rest is too short. -/
theorem scan_cut (l : List (Nat × ByteArray)) (hl : okF l) (s : ByteArray) (hs : s.data.toList = allA l) (cut : Nat) (hc : cut < s.size) (W : Nat) (hW : W ≤ l.length) (h : ∀ j, j < l.length → ((allA (l.take (j + 1))).length ≤ cut ↔ j < W)) :
    scanF ((s.extract 0 cut).size + 1) (s.extract 0 cut) 0 = (l.take W, (allA (l.take W)).length, if cut = (allA (l.take W)).length then 0 else 1) ∧ (allA (l.take W)).length ≤ cut := by
  have hz : (s.extract 0 cut).size = cut := by rw [← size_list, extract_list, List.drop_zero, List.length_take, size_list]; omega
  have hlen := size_list s
  have hWl : W < l.length := by
    rcases Nat.lt_or_ge W l.length with h1 | h1
    · exact h1
    · exfalso
      have e : W = l.length := by omega
      subst e
      cases hl0 : l.length with
      | zero =>
        have : l = [] := List.eq_nil_of_length_eq_zero hl0
        subst this
        rw [hs] at hlen
        simp [allA] at hlen
        omega
      | succ k =>
        have h2 := (h k (by omega)).2 (by omega)
        rw [List.take_of_length_le (by omega), ← hs] at h2
        omega
  have hend : (allA (l.take W)).length ≤ cut := by
    cases W with
    | zero => simp [allA]
    | succ k => exact (h k (by omega)).2 (by omega)
  have hnext : cut < (allA (l.take (W + 1))).length := by
    rcases Nat.lt_or_ge cut (allA (l.take (W + 1))).length with h1 | h1
    · exact h1
    · have := (h W hWl).1 h1
      omega
  have hat := allA_take l W hWl
  have hsplit : allA l = allA (l.take W) ++ ((putA l[W].1 l[W].2).data.toList ++ allA (l.drop (W + 1))) := by
    conv => lhs; rw [← List.take_append_drop W l, allA_append, List.drop_eq_getElem_cons hWl]
    rfl
  have hok := hl l[W] (List.getElem_mem hWl)
  have htl : (s.extract 0 cut).data.toList.drop 0 = allA (l.take W) ++ (putA l[W].1 l[W].2).data.toList.take (cut - (allA (l.take W)).length) := by
    rw [List.drop_zero, extract_list, List.drop_zero, hs, hsplit, List.take_append, List.take_of_length_le hend, List.take_append_of_le_length (by rw [size_list]; omega)]
  have hpl : ((putA l[W].1 l[W].2).data.toList.take (cut - (allA (l.take W)).length)).length = cut - (allA (l.take W)).length := by
    rw [List.length_take, size_list]; omega
  have hall := scan_all (l.take W) (fun p hp => hl p (List.mem_of_mem_take hp)) (s.extract 0 cut) 0 ((s.extract 0 cut).size + 1) (by omega) _ htl
    (.inr ⟨l[W], hok.1, hok.2.1, hok.2.2, by rw [hpl]; omega, by rw [hpl]⟩) (by omega)
  refine ⟨?_, hend⟩
  rw [hall, Nat.zero_add]
  congr 2
  by_cases hcut : cut = (allA (l.take W)).length
  · rw [if_pos hcut, if_pos (List.length_eq_zero_iff.1 (by rw [hpl]; omega))]
  · rw [if_neg hcut, if_neg (fun e => by rw [e] at hpl; simp at hpl; omega)]
end Frm
end Go.Proofs.YtcjfnkgjjhlbnaaDoor
