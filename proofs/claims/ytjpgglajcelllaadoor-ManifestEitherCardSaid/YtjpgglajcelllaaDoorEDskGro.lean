/- How a disk grows, write by write (plainly; as DiskDoes has it, standing alone). Names no function of the program. -/
import Derived.Test.YtjpgglajcelllaaDoorEPDisk3
set_option maxRecDepth 100000
namespace Go.Proofs.YtjpgglajcelllaaDoor
open Go.RowKit
namespace Gro
open Dsk
set_option linter.unusedVariables false
theorem sum_le (M : Nat) : ∀ (l : List Nat), (∀ x ∈ l, x ≤ M) → l.sum ≤ l.length * M
  | [], _ => by simp
  | x :: r, h => by
    have ih := sum_le M r fun y hy => h y (List.mem_cons_of_mem _ hy)
    have hx := h x List.mem_cons_self
    rw [List.sum_cons, List.length_cons, Nat.add_mul]
    omega
theorem mem_modify {α : Type} {P : α → Prop} {l : List α} {i : Nat} {g : α → α} (h : ∀ x ∈ l, P x) (hg : ∀ x, P x → P (g x)) : ∀ y ∈ l.modify i g, P y := fun y hy => by
  obtain ⟨j, hj, rfl⟩ := List.mem_iff_getElem.1 hy
  rw [List.getElem_modify]
  split
  · exact hg _ (h _ (List.getElem_mem _))
  · exact h _ (List.getElem_mem _)
theorem mem_modify2 {α : Type} {P Q : α → Prop} {l : List α} {i : Nat} {g : α → α} (h : ∀ x ∈ l, P x) (hg : ∀ x, P x → Q (g x)) (hq : ∀ x, P x → Q x) : ∀ y ∈ l.modify i g, Q y := fun y hy => by
  obtain ⟨j, hj, rfl⟩ := List.mem_iff_getElem.1 hy
  rw [List.getElem_modify]
  split
  · exact hg _ (h _ (List.getElem_mem _))
  · exact hq _ (h _ (List.getElem_mem _))
structure Grew (k : Nat) (st : St) : Prop where
  nF : st.F.length ≤ k
  nC : st.C.length ≤ k
  big : ∀ f ∈ st.F, f.s.length ≤ 1000 * k
  neg : st.room < 0 → st.F = []
theorem Grew.more {k : Nat} {st : St} (h : Grew k st) : Grew (k + 1) st := ⟨Nat.le_succ_of_le h.nF, Nat.le_succ_of_le h.nC, fun f hf => Nat.le_trans (h.big f hf) (Nat.mul_le_mul_left _ (Nat.le_succ k)), h.neg⟩
theorem grew_new (r : Int) : Grew 0 (new r) := ⟨Nat.le_refl _, Nat.le_refl _, (fun f hf => by cases hf), fun _ => rfl⟩
theorem Grew.wr {k : Nat} {st : St} (h : Grew k st) : Grew k (wrS st) := by
  unfold wrS
  split
  · exact ⟨h.nF, h.nC, h.big, h.neg⟩
  · split <;> exact ⟨h.nF, h.nC, h.big, h.neg⟩
theorem Grew.chg {k : Nat} {st : St} (h : Grew k st) (c : Chg) : Grew (k + 1) (Dsk.chg st c) :=
  ⟨Nat.le_succ_of_le h.nF, by show (st.C ++ [c]).length ≤ _; rw [List.length_append, List.length_singleton]; have := h.nC; omega, h.more.big, h.neg⟩
theorem neg_used {st : St} (hf : Fine st) (h : st.F = []) : used st = 0 := by
  have : st.N = [] := by
    cases hN : st.N with
    | nil => rfl
    | cons p r =>
      have := hf.nmN.ins p (by rw [hN]; exact List.mem_cons_self)
      rw [h] at this; simp at this
  unfold used; rw [this]; rfl
theorem Grew.app {k : Nat} {st : St} (hf : Fine st) (h : Grew k st) (n s : Str) (hs : s.length ≤ 1000) : Grew (k + 1) (appS st n s) := by
  have h' := h.wr
  have hf' := hf.wr
  unfold appS
  by_cases hc : (wrB st && isName n && !full (wrS st) n s) = true
  · rw [if_pos hc]
    have hroom : ¬ (wrS st).room < 0 := by
      intro hneg
      have h0 := neg_used hf' (h'.neg hneg)
      have : full (wrS st) n s = true := by
        unfold full
        rw [h0, show decide ((wrS st).room < ((0 + s.length : Nat) : Int)) = true from decide_eq_true (by omega)]
        rfl
      rw [this] at hc; simp at hc
    generalize wrS st = st1 at *
    unfold addF
    cases hl : lookN st1.N n with
    | some i =>
      simp only
      refine ⟨by simp only [List.length_modify]; exact Nat.le_succ_of_le h'.nF, Nat.le_succ_of_le h'.nC, ?_, fun hn => absurd hn hroom⟩
      refine mem_modify2 h'.big (fun f hb => ?_) (fun f hb => ?_)
      · rw [List.length_append]; omega
      · omega
    | none =>
      simp only
      refine ⟨by simp only [List.length_append, List.length_singleton]; have := h'.nF; omega, by simp only [List.length_append, List.length_singleton]; have := h'.nC; omega, fun f hm => ?_, fun hn => absurd hn hroom⟩
      rcases List.mem_append.1 hm with hm | hm
      · have := h'.big f hm; omega
      · rw [List.mem_singleton.1 hm]; show s.length ≤ _; omega
  · rw [if_neg hc]; exact h'.more
theorem grew_rem {k : Nat} {st : St} (h : Grew k st) (n : Str) : Grew (k + 1) (remS st n) := by
  have h' := h.wr
  unfold remS
  split
  · exact h'.chg _
  · exact h'.more
theorem grew_sync {k : Nat} {st : St} (h : Grew k st) (n : Str) : Grew (k + 1) (syncS st n) := by
  have h' := h.wr
  unfold syncS
  split
  · unfold syncF
    split
    · have h2 := h'.more
      refine ⟨by simp only [List.length_modify]; exact h2.nF, h2.nC, mem_modify h2.big fun f hb => hb, fun hn => ?_⟩
      show (List.modify _ _ _) = []
      rw [h2.neg hn]; simp
    · exact h'.more
  · exact h'.more
theorem grew_ren {k : Nat} {st : St} (h : Grew k st) (n m : Str) : Grew (k + 1) (renS st n m) := by
  have h' := h.wr
  unfold renS
  split
  · exact h'.chg _
  · exact h'.more
theorem grew_sn {k : Nat} {st : St} (h : Grew k st) : Grew (k + 1) (snS st) := by
  have h' := h.wr
  unfold snS
  split
  · have h2 := h'.more
    exact ⟨h2.nF, Nat.zero_le _, h2.big, h2.neg⟩
  · exact h'.more
theorem grew_fuse {k : Nat} {st : St} (h : Grew k st) (n : Int) : Grew (k + 1) (fuse st n) := by
  unfold fuse
  split
  · exact h.more
  · have h2 := h.more
    exact ⟨h2.nF, h2.nC, h2.big, h2.neg⟩
theorem Grew.up {k : Nat} {st : St} (h : Grew k st) : ∀ {n : Nat}, k ≤ n → Grew n st := fun {n} hn => by
  obtain ⟨d, rfl⟩ := Nat.exists_eq_add_of_le hn
  clear hn
  induction d with
  | zero => exact h
  | succ d ih => exact ih.more
theorem Grew.small {k : Nat} {st : St} (hf : Fine st) (h : Grew k st) (hk : k ≤ 1000) {z : Nat} (hz : z ≤ 1000) : Small st z := by
  have hb : ∀ f ∈ st.F, f.s.length ≤ 1000000 := fun f hm => by
    have h1 := h.big f hm
    have : 1000 * k ≤ 1000 * 1000 := Nat.mul_le_mul_left _ hk
    omega
  have hu : used st ≤ 64000000 := by
    have h1 : Dsk.used st ≤ (st.N.map fun p => (st.F.getD p.2 default).s.length).length * 1000000 := sum_le 1000000 _ fun x hx => by
      obtain ⟨p, hp, rfl⟩ := List.mem_map.1 hx
      have hl := hf.nmN.ins p hp
      rw [List.getD_eq_getElem?_getD, List.getElem?_eq_getElem hl]
      exact hb _ (List.getElem_mem hl)
    rw [List.length_map] at h1
    have h2 := Nat.mul_le_mul_right 1000000 hf.nmN.len
    omega
  exact ⟨by omega, fun f hm => by have := hb f hm; omega, by have := h.nC; omega, by omega⟩
theorem Grew.room {k : Nat} {st : St} (hf : Fine st) (h : Grew k st) (hk : k ≤ 1000) (hr : -9223372036854775808 ≤ st.room) : -9223372036854775808 ≤ st.room - (used st : Int) := by
  have hu : used st ≤ 64000000 := by
    have := (h.small hf hk (z := 0) (by omega)).used
    have h1 : Dsk.used st ≤ (st.N.map fun p => (st.F.getD p.2 default).s.length).length * 1000000 := sum_le 1000000 _ fun x hx => by
      obtain ⟨p, hp, rfl⟩ := List.mem_map.1 hx
      have hl := hf.nmN.ins p hp
      rw [List.getD_eq_getElem?_getD, List.getElem?_eq_getElem hl]
      have h1 := h.big _ (List.getElem_mem hl)
      have : 1000 * k ≤ 1000 * 1000 := Nat.mul_le_mul_left _ hk
      simp only [Option.getD_some]
      omega
    rw [List.length_map] at h1
    have h2 := Nat.mul_le_mul_right 1000000 hf.nmN.len
    omega
  by_cases hn : st.room < 0
  · rw [neg_used hf (h.neg hn)]; omega
  · omega
end Gro
end Go.Proofs.YtjpgglajcelllaaDoor
