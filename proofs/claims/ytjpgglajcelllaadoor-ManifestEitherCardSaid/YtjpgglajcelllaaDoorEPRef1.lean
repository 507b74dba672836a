/- Parts, put together: RefOne, RefTwo, RefThree, RefFour, RefFive, LastPure, RefSix. -/
import Derived.Test.YtjpgglajcelllaaDoorEPDisk3
import Derived.Deep.AppendLies
import Derived.Deep.RegionHeld3
set_option maxRecDepth 100000
/- The document's own disk (layer 4) in memory as plain data; what its small functions do: New, write, Fuse, SyncNames, at, name, kept. -/
section
namespace Go.Proofs.YtjpgglajcelllaaDoor
open Go.RowKit
namespace Dsk
open Go.Maps
/-- A text as a value. -/
abbrev sv (k : Str) : Value := .string ⟨k.toArray⟩
def eC (p : Str × Nat) : List Value := [sv p.1, .int .i64 (p.2 : Int)]
/-! ### New -/
/-! ### write, Fuse, SyncNames -/
end Dsk
end Go.Proofs.YtjpgglajcelllaaDoor
end
/- The document's own disk (layer 4): SyncNames, at, name, kept. -/
section
namespace Go.Proofs.YtjpgglajcelllaaDoor
open Go.RowKit
namespace Dsk
open Go.Maps
/-! ### at -/
end Dsk
end Go.Proofs.YtjpgglajcelllaaDoor
end
/- The document's own disk (layer 4): Read, Used, List. -/
section
namespace Go.Proofs.YtjpgglajcelllaaDoor
open Go.RowKit
namespace Dsk
open Go.Maps
/-! ### List -/
end Dsk
end Go.Proofs.YtjpgglajcelllaaDoor
end
/- The document's own disk (layer 4): what a name is. -/
section
namespace Go.Proofs.YtjpgglajcelllaaDoor
open Go.RowKit
namespace Dsk
open Go.Maps
theorem size_cases (s : ByteArray) (hall : s.data.toList.all isSign = true) : (s.size = 0 ∧ isName s.data.toList = false) ∨ (32 < s.size ∧ isName s.data.toList = false) ∨ (1 ≤ s.size ∧ s.size ≤ 32 ∧ isName s.data.toList = true) := by
  have e : s.data.toList.length = s.size := by simp
  unfold isName
  rw [hall, e]
  by_cases h0 : s.size = 0
  · left; simp [h0]
  · right
    by_cases h1 : 32 < s.size
    · left; refine ⟨h1, ?_⟩; simp; omega
    · right; refine ⟨by omega, by omega, ?_⟩; simp; omega
theorem no_name {l : Str} (h : l.all isSign = false) : isName l = false := by unfold isName; rw [h]; simp
end Dsk
end Go.Proofs.YtjpgglajcelllaaDoor
end
/- The document's own disk (layer 4): apply. -/
section
namespace Go.Proofs.YtjpgglajcelllaaDoor
open Go.RowKit
namespace Dsk
open Go.Maps
/-! ### in plain words -/
/-! ### the pieces that are put together -/
theorem flat_len (M : Nms) : (M.flatMap eC).length = M.length * 2 := by
  induction M with
  | nil => rfl
  | cons x r ih => rw [List.flatMap_cons, List.length_append, ih, List.length_cons]; show 2 + r.length * 2 = _; omega
end Dsk
end Go.Proofs.YtjpgglajcelllaaDoor
end
/- DiskLasts, plainly: what a row of acts leaves of a disk, as far as the last acts need it. -/
section
namespace Go.Proofs.YtjpgglajcelllaaDoor
open Go.RowKit
namespace Dsk
open Go.Maps
set_option linter.unusedVariables false
/-- The name 'it'. -/
abbrev itN : Str := [105, 116]
def noIt : Chg → Prop
  | .put k _ => k ≠ itN
  | .move _ b _ => b ≠ itN
  | .del _ => True
def puts : List Chg → Nat
  | [] => 0
  | .put _ _ :: r => puts r + 1
  | _ :: r => puts r
theorem len_apps : ∀ (C : List Chg) (N : Nms), Good N C → (C.foldl appC N).length ≤ N.length + puts C
  | [], N, _ => by simp [puts]
  | c :: r, N, h => by
    have ih := len_apps r (appC N c) h.2
    rw [List.foldl_cons]
    cases c with
    | put k i =>
      have h1 : (appC N (.put k i)).length ≤ N.length + 1 := len_put_le N k i
      simp only [puts]; omega
    | move a b i =>
      have h1 := len_del_some h.1
      have h2 : (appC N (.move a b i)).length ≤ (delN N a).length + 1 := len_put_le (delN N a) b i
      simp only [puts]; omega
    | del a =>
      have h1 : (appC N (.del a)).length ≤ N.length := len_del_le N a
      simp only [puts]; omega
theorem noIt_app {N : Nms} {c : Chg} (h : ∀ p ∈ N, p.1 ≠ itN) (hc : noIt c) : ∀ p ∈ appC N c, p.1 ≠ itN := fun p hp => by
  rcases mem_appC hp with hp | hp
  · exact h p hp
  · cases c with
    | put k i => rw [show p = (k, i) from hp]; exact hc
    | move a b i => rw [show p = (b, i) from hp]; exact hc
    | del a => exact hp.elim
theorem noIt_apps : ∀ (C : List Chg) {N : Nms}, (∀ p ∈ N, p.1 ≠ itN) → (∀ c ∈ C, noIt c) → ∀ p ∈ C.foldl appC N, p.1 ≠ itN
  | [], _, h, _ => h
  | c :: r, _, h, hc => noIt_apps r (noIt_app h (hc c List.mem_cons_self)) fun d hd => hc d (List.mem_cons_of_mem _ hd)
/-- No name 'it', whatever is kept. -/
structure NoIt (st : St) : Prop where
  L : ∀ p ∈ st.L, p.1 ≠ itN
  C : ∀ c ∈ st.C, noIt c
theorem NoIt.take {st : St} (h : NoIt st) (n : Nat) : ∀ p ∈ (st.C.take n).foldl appC st.L, p.1 ≠ itN := noIt_apps _ h.L fun c hc => h.C c (List.mem_of_mem_take hc)
theorem NoIt.N {st : St} (hf : Fine st) (h : NoIt st) : ∀ p ∈ st.N, p.1 ≠ itN := by
  rw [hf.now]; exact noIt_apps _ h.L h.C
/-- How much k acts can have made. -/
structure Siz (k : Nat) (st : St) : Prop where
  room : st.room = 1048576
  up : st.dead = false
  left : st.left = -1
  nF : st.F.length ≤ k
  nC : st.C.length ≤ k
  big : ∀ f ∈ st.F, f.s.length ≤ 1000 * (k - st.F.length + 1)
  cnt : st.L.length + puts st.C ≤ st.F.length
theorem Siz.wr {k : Nat} {st : St} (h : Siz k st) : wrS st = st ∧ wrB st = true := by
  constructor
  · unfold wrS; simp [h.up, h.left]
  · unfold wrB; simp [h.up, h.left]
theorem Siz.more {k : Nat} {st : St} (h : Siz k st) : Siz (k + 1) st := { h with nF := Nat.le_succ_of_le h.nF, nC := Nat.le_succ_of_le h.nC, big := fun f hf => Nat.le_trans (h.big f hf) (Nat.mul_le_mul_left _ (by omega)) }
theorem Siz.len {k : Nat} {st : St} (hf : Fine st) (h : Siz k st) : st.N.length ≤ st.F.length := by
  rw [hf.now]
  exact Nat.le_trans (len_apps _ _ hf.good) h.cnt
theorem few : ∀ n : Nat, n < 43 → n * (42 - n + 1) ≤ 462 := by decide
theorem sum_le (M : Nat) : ∀ (l : List Nat), (∀ x ∈ l, x ≤ M) → l.sum ≤ l.length * M
  | [], _ => by simp
  | x :: r, h => by
    have ih := sum_le M r fun y hy => h y (List.mem_cons_of_mem _ hy)
    have hx := h x List.mem_cons_self
    rw [List.sum_cons, List.length_cons, Nat.add_mul]
    omega
theorem Siz.files {k : Nat} {st : St} (h : Siz k st) (hk : k ≤ 42) : ∀ f ∈ st.F, f.s.length ≤ 43000 := fun f hf => by
  have := h.big f hf
  have : 1000 * (k - st.F.length + 1) ≤ 1000 * 43 := Nat.mul_le_mul_left _ (by omega)
  omega
theorem mem_modify {α : Type} {P : α → Prop} {l : List α} {i : Nat} {g : α → α} (h : ∀ x ∈ l, P x) (hg : ∀ x, P x → P (g x)) : ∀ y ∈ l.modify i g, P y := fun y hy => by
  obtain ⟨j, hj, rfl⟩ := List.mem_iff_getElem.1 hy
  rw [List.getElem_modify]
  split
  · exact hg _ (h _ (List.getElem_mem _))
  · exact h _ (List.getElem_mem _)
theorem mem_modify2 {α : Type} {P Q : α → Prop} {l : List α} {i : Nat} {g : α → α} (h : ∀ x ∈ l, P x) (hg : ∀ x, P x → Q (g x)) (hq : ∀ x, P x → Q x) : ∀ y ∈ l.modify i g, Q y := fun y hy => by
  obtain ⟨j, hj, rfl⟩ := List.mem_iff_getElem.1 hy
  rw [List.getElem_modify]
  split
  · exact hg _ (h _ (List.getElem_mem _))
  · exact hq _ (h _ (List.getElem_mem _))
/-! ### the acts -/
/-! ### the last acts -/
end Dsk
end Go.Proofs.YtjpgglajcelllaaDoor
end
/- The document's own disk (layer 4): kept. -/
section
namespace Go.Proofs.YtjpgglajcelllaaDoor
open Go.RowKit
namespace Dsk
open Go.Maps
end Dsk
end Go.Proofs.YtjpgglajcelllaaDoor
end
