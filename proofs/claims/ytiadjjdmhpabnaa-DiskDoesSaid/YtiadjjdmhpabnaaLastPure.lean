/- DiskLasts, plainly: what a row of acts leaves of a disk, as far as the last acts need it. -/
import Derived.Test.YtiadjjdmhpabnaaPDisk3
namespace Go.Proofs.Ytiadjjdmhpabnaa
open Go.RowKit
namespace Dsk
open Go.Maps
set_option linter.unusedVariables false

/-- The name 'it'. -/
abbrev itN : Str := [105, 116]
def noIt : Chg → Prop
  | .put k _ => k ≠ itN
  | .move _ b _ => b ≠ itN
  | .del _ => True
def puts : List Chg → Nat
  | [] => 0
  | .put _ _ :: r => puts r + 1
  | _ :: r => puts r
theorem puts_append (a b : List Chg) : puts (a ++ b) = puts a + puts b := by
  induction a with
  | nil => simp [puts]
  | cons c r ih => cases c <;> simp [puts, ih] <;> omega
theorem puts_take (C : List Chg) (n : Nat) : puts (C.take n) ≤ puts C := by
  have h := puts_append (C.take n) (C.drop n)
  rw [List.take_append_drop] at h
  omega
theorem len_apps : ∀ (C : List Chg) (N : Nms), Good N C → (C.foldl appC N).length ≤ N.length + puts C
  | [], N, _ => by simp [puts]
  | c :: r, N, h => by
    have ih := len_apps r (appC N c) h.2
    rw [List.foldl_cons]
    cases c with
    | put k i =>
      have h1 : (appC N (.put k i)).length ≤ N.length + 1 := len_put_le N k i
      simp only [puts]; omega
    | move a b i =>
      have h1 := len_del_some h.1
      have h2 : (appC N (.move a b i)).length ≤ (delN N a).length + 1 := len_put_le (delN N a) b i
      simp only [puts]; omega
    | del a =>
      have h1 : (appC N (.del a)).length ≤ N.length := len_del_le N a
      simp only [puts]; omega
theorem noIt_app {N : Nms} {c : Chg} (h : ∀ p ∈ N, p.1 ≠ itN) (hc : noIt c) : ∀ p ∈ appC N c, p.1 ≠ itN := fun p hp => by
  rcases mem_appC hp with hp | hp
  · exact h p hp
  · cases c with
    | put k i => rw [show p = (k, i) from hp]; exact hc
    | move a b i => rw [show p = (b, i) from hp]; exact hc
    | del a => exact hp.elim
theorem noIt_apps : ∀ (C : List Chg) {N : Nms}, (∀ p ∈ N, p.1 ≠ itN) → (∀ c ∈ C, noIt c) → ∀ p ∈ C.foldl appC N, p.1 ≠ itN
  | [], _, h, _ => h
  | c :: r, _, h, hc => noIt_apps r (noIt_app h (hc c List.mem_cons_self)) fun d hd => hc d (List.mem_cons_of_mem _ hd)

/-- No name 'it', whatever is kept. -/
structure NoIt (st : St) : Prop where
  L : ∀ p ∈ st.L, p.1 ≠ itN
  C : ∀ c ∈ st.C, noIt c
theorem NoIt.take {st : St} (h : NoIt st) (n : Nat) : ∀ p ∈ (st.C.take n).foldl appC st.L, p.1 ≠ itN := noIt_apps _ h.L fun c hc => h.C c (List.mem_of_mem_take hc)
theorem NoIt.N {st : St} (hf : Fine st) (h : NoIt st) : ∀ p ∈ st.N, p.1 ≠ itN := by
  rw [hf.now]; exact noIt_apps _ h.L h.C
/-- How much k acts can have made. -/
structure Siz (k : Nat) (st : St) : Prop where
  room : st.room = 1048576
  up : st.dead = false
  left : st.left = -1
  nF : st.F.length ≤ k
  nC : st.C.length ≤ k
  big : ∀ f ∈ st.F, f.s.length ≤ 1000 * (k - st.F.length + 1)
  cnt : st.L.length + puts st.C ≤ st.F.length
theorem Siz.wr {k : Nat} {st : St} (h : Siz k st) : wrS st = st ∧ wrB st = true := by
  constructor
  · unfold wrS; simp [h.up, h.left]
  · unfold wrB; simp [h.up, h.left]
theorem siz_new : Siz 0 (new 1048576) := ⟨rfl, rfl, rfl, Nat.le_refl _, Nat.le_refl _, (fun f hf => by cases hf), Nat.le_refl _⟩
theorem noIt_new (r : Int) : NoIt (new r) := ⟨(fun p hp => by cases hp), (fun c hc => by cases hc)⟩
theorem Siz.more {k : Nat} {st : St} (h : Siz k st) : Siz (k + 1) st := { h with nF := Nat.le_succ_of_le h.nF, nC := Nat.le_succ_of_le h.nC, big := fun f hf => Nat.le_trans (h.big f hf) (Nat.mul_le_mul_left _ (by omega)) }
theorem Siz.len {k : Nat} {st : St} (hf : Fine st) (h : Siz k st) : st.N.length ≤ st.F.length := by
  rw [hf.now]
  exact Nat.le_trans (len_apps _ _ hf.good) h.cnt
theorem few : ∀ n : Nat, n < 43 → n * (42 - n + 1) ≤ 462 := by decide
theorem sum_le (M : Nat) : ∀ (l : List Nat), (∀ x ∈ l, x ≤ M) → l.sum ≤ l.length * M
  | [], _ => by simp
  | x :: r, h => by
    have ih := sum_le M r fun y hy => h y (List.mem_cons_of_mem _ hy)
    have hx := h x List.mem_cons_self
    rw [List.sum_cons, List.length_cons, Nat.add_mul]
    omega
theorem Siz.usedLe {k : Nat} {st : St} (hf : Fine st) (h : Siz k st) (hk : k ≤ 42) : used st ≤ 462000 := by
  have h1 : Dsk.used st ≤ (st.N.map fun p => (st.F.getD p.2 default).s.length).length * (1000 * (k - st.F.length + 1)) := by
    refine sum_le _ _ fun x hx => ?_
    obtain ⟨p, hp, rfl⟩ := List.mem_map.1 hx
    have hl := hf.nmN.ins p hp
    rw [List.getD_eq_getElem?_getD, List.getElem?_eq_getElem hl]
    exact h.big _ (List.getElem_mem hl)
  rw [List.length_map] at h1
  have h2 := h.len hf
  have h3 := h.nF
  have h4 : st.N.length * (1000 * (k - st.F.length + 1)) ≤ st.F.length * (1000 * (42 - st.F.length + 1)) := Nat.mul_le_mul h2 (Nat.mul_le_mul_left _ (by omega))
  have h5 := few st.F.length (by omega)
  have h6 : st.F.length * (1000 * (42 - st.F.length + 1)) = 1000 * (st.F.length * (42 - st.F.length + 1)) := by rw [Nat.mul_left_comm]
  omega
theorem Siz.files {k : Nat} {st : St} (h : Siz k st) (hk : k ≤ 42) : ∀ f ∈ st.F, f.s.length ≤ 43000 := fun f hf => by
  have := h.big f hf
  have : 1000 * (k - st.F.length + 1) ≤ 1000 * 43 := Nat.mul_le_mul_left _ (by omega)
  omega

theorem mem_modify {α : Type} {P : α → Prop} {l : List α} {i : Nat} {g : α → α} (h : ∀ x ∈ l, P x) (hg : ∀ x, P x → P (g x)) : ∀ y ∈ l.modify i g, P y := fun y hy => by
  obtain ⟨j, hj, rfl⟩ := List.mem_iff_getElem.1 hy
  rw [List.getElem_modify]
  split
  · exact hg _ (h _ (List.getElem_mem _))
  · exact h _ (List.getElem_mem _)
theorem mem_modify2 {α : Type} {P Q : α → Prop} {l : List α} {i : Nat} {g : α → α} (h : ∀ x ∈ l, P x) (hg : ∀ x, P x → Q (g x)) (hq : ∀ x, P x → Q x) : ∀ y ∈ l.modify i g, Q y := fun y hy => by
  obtain ⟨j, hj, rfl⟩ := List.mem_iff_getElem.1 hy
  rw [List.getElem_modify]
  split
  · exact hg _ (h _ (List.getElem_mem _))
  · exact hq _ (h _ (List.getElem_mem _))

/-! ### the acts -/
theorem siz_append {k : Nat} {st : St} (hf : Fine st) (h : Siz k st) (n s : Str) (hs : s.length ≤ 1000) : Siz (k + 1) (appS st n s) := by
  obtain ⟨e1, e2⟩ := h.wr
  unfold appS
  rw [e1, e2]
  by_cases hc : (true && isName n && !full st n s) = true
  · rw [if_pos hc]
    unfold addF
    cases hl : lookN st.N n with
    | some i =>
      simp only
      refine ⟨h.room, h.up, h.left, by simp only [List.length_modify]; have := h.nF; omega, Nat.le_succ_of_le h.nC, ?_, by simp only [List.length_modify]; exact h.cnt⟩
      simp only [List.length_modify]
      refine mem_modify2 h.big (fun f hb => ?_) (fun f hb => ?_)
      · have := h.nF
        rw [List.length_append]
        have e : 1000 * (k + 1 - st.F.length + 1) = 1000 * (k - st.F.length + 1) + 1000 := by omega
        omega
      · have := h.nF
        have e : 1000 * (k + 1 - st.F.length + 1) = 1000 * (k - st.F.length + 1) + 1000 := by omega
        omega
    | none =>
      simp only
      refine ⟨h.room, h.up, h.left, by simp only [List.length_append, List.length_singleton]; have := h.nF; omega, by simp only [List.length_append, List.length_singleton]; have := h.nC; omega, ?_, ?_⟩
      · simp only [List.length_append, List.length_singleton]
        have hk := h.nF
        have e : k + 1 - (st.F.length + 1) = k - st.F.length := by omega
        rw [e]
        intro f hm
        rcases List.mem_append.1 hm with hm | hm
        · exact h.big f hm
        · rw [List.mem_singleton.1 hm]
          have : 1000 * 1 ≤ 1000 * (k - st.F.length + 1) := Nat.mul_le_mul_left _ (by omega)
          show s.length ≤ _
          omega
      · rw [puts_append]
        simp only [List.length_append, List.length_singleton]
        have := h.cnt
        show _ + (_ + 1) ≤ _
        omega
  · rw [if_neg hc]; exact h.more
theorem noIt_append {st : St} (h : NoIt st) (n s : Str) (hn : n ≠ itN) : NoIt (appS st n s) := by
  have h0 : NoIt (wrS st) := by
    unfold wrS
    split
    · exact ⟨h.L, h.C⟩
    · split <;> exact ⟨h.L, h.C⟩
  unfold appS
  split
  · unfold addF
    split
    · exact ⟨h0.L, h0.C⟩
    · refine ⟨h0.L, fun c hc => ?_⟩
      rcases List.mem_append.1 hc with hc | hc
      · exact h0.C c hc
      · rw [List.mem_singleton.1 hc]; exact hn
  · exact h0
theorem wrS_noIt {st : St} (h : NoIt st) : NoIt (wrS st) := by
  unfold wrS
  split
  · exact ⟨h.L, h.C⟩
  · split <;> exact ⟨h.L, h.C⟩
theorem siz_sync {k : Nat} {st : St} (h : Siz k st) (n : Str) : Siz (k + 1) (syncS st n) := by
  obtain ⟨e1, e2⟩ := h.wr
  unfold syncS
  rw [e1, e2, if_pos rfl]
  unfold syncF
  split
  · have h' := h.more
    refine ⟨h'.room, h'.up, h'.left, by simp only [List.length_modify]; exact h'.nF, h'.nC, ?_, by simp only [List.length_modify]; exact h'.cnt⟩
    simp only [List.length_modify]
    exact mem_modify h'.big fun f hb => hb
  · exact h.more
theorem noIt_sync {st : St} (h : NoIt st) (n : Str) : NoIt (syncS st n) := by
  have h0 := wrS_noIt h
  unfold syncS
  split
  · unfold syncF
    split
    · exact ⟨h0.L, h0.C⟩
    · exact h0
  · exact h0
theorem siz_chg {k : Nat} {st : St} (h : Siz k st) {c : Chg} (hc : puts [c] = 0) : Siz (k + 1) (chg st c) := by
  have h' := h.more
  refine ⟨h'.room, h'.up, h'.left, h'.nF, ?_, h'.big, ?_⟩
  · show (st.C ++ [c]).length ≤ _
    rw [List.length_append, List.length_singleton]; have := h.nC; omega
  · show _ + puts (st.C ++ [c]) ≤ _
    rw [puts_append, hc]; exact h.cnt
theorem noIt_chg {st : St} (h : NoIt st) {c : Chg} (hc : noIt c) : NoIt (chg st c) := ⟨h.L, fun d hd => by
  rcases List.mem_append.1 hd with hd | hd
  · exact h.C d hd
  · rw [List.mem_singleton.1 hd]; exact hc⟩
theorem siz_ren {k : Nat} {st : St} (h : Siz k st) (a b : Str) : Siz (k + 1) (renS st a b) := by
  obtain ⟨e1, e2⟩ := h.wr
  unfold renS
  rw [e1]
  split
  · exact siz_chg h rfl
  · exact h.more
theorem noIt_ren {st : St} (h : NoIt st) (a b : Str) (hb : b ≠ itN) : NoIt (renS st a b) := by
  have h0 := wrS_noIt h
  unfold renS
  split
  · exact noIt_chg h0 hb
  · exact h0
theorem siz_rem {k : Nat} {st : St} (h : Siz k st) (a : Str) : Siz (k + 1) (remS st a) := by
  obtain ⟨e1, e2⟩ := h.wr
  unfold remS
  rw [e1]
  split
  · exact siz_chg h rfl
  · exact h.more
theorem noIt_rem {st : St} (h : NoIt st) (a : Str) : NoIt (remS st a) := by
  have h0 := wrS_noIt h
  unfold remS
  split
  · exact noIt_chg h0 trivial
  · exact h0
theorem siz_sn {k : Nat} {st : St} (hf : Fine st) (h : Siz k st) : Siz (k + 1) (snS st) := by
  obtain ⟨e1, e2⟩ := h.wr
  unfold snS
  rw [e1, e2, if_pos rfl]
  have h' := h.more
  refine ⟨h'.room, h'.up, h'.left, h'.nF, Nat.zero_le _, h'.big, ?_⟩
  show ((st.C.take st.C.length).foldl appC st.L).length + 0 ≤ _
  rw [List.take_length]
  exact Nat.le_trans (len_apps _ _ hf.good) h.cnt
theorem noIt_sn {st : St} (h : NoIt st) : NoIt (snS st) := by
  have h0 := wrS_noIt h
  unfold snS
  split
  · exact ⟨h0.take _, fun c hc => by cases hc⟩
  · exact h0
theorem cutAll_mem {P : FileS → Prop} (hP : ∀ f m, P f → P (cutF f (f.lasts + m)) ) : ∀ (N : Nms) (keep : List Int) (F : List FileS), (∀ f ∈ F, P f) → ∀ f ∈ cutAll keep N F, P f
  | [], _, _, h => h
  | p :: r, keep, F, h => by
    unfold cutAll
    exact cutAll_mem hP r _ _ (mem_modify h fun f hf => hP f _ hf)
theorem siz_crash {k : Nat} {st : St} (hf : Fine st) (h : Siz k st) (keep : List Int) : Siz (k + 1) (crash st keep) := by
  have h' := h.more
  have e : (crash st keep).F.length = st.F.length := len_cutAll _ _ _
  refine ⟨h.room, rfl, rfl, by rw [e]; exact h'.nF, Nat.zero_le _, ?_, ?_⟩
  · rw [e]
    refine cutAll_mem (P := fun f => f.s.length ≤ 1000 * (k + 1 - st.F.length + 1)) (fun f m hb => ?_) _ _ _ h'.big
    show (f.s.take _).length ≤ _
    exact Nat.le_trans (List.length_take_le' _ _) hb
  · rw [e]
    show ((st.C.take (kept1 keep st.C.length)).foldl appC st.L).length + 0 ≤ _
    have h1 := len_apps _ _ (good_take (kept1 keep st.C.length) hf.good)
    have h2 := puts_take st.C (kept1 keep st.C.length)
    have := h.cnt
    omega
theorem noIt_crash {st : St} (h : NoIt st) (keep : List Int) : NoIt (crash st keep) := ⟨h.take _, fun c hc => by cases hc⟩

theorem modify_last {α : Type} (l : List α) (x : α) (g : α → α) : (l ++ [x]).modify l.length g = l ++ [g x] := by
  induction l with
  | nil => rfl
  | cons y r ih => exact congrArg (y :: ·) ih
/-! ### the last acts -/
theorem it_name : isName itN = true := by decide
/-- Behind the first Append, Sync, SyncNames and the second Append. -/
def lst (st : St) (s : Str) (n : Nat) : St := { st with F := st.F ++ [⟨s, n⟩], N := putN st.N itN st.F.length, L := putN st.N itN st.F.length, C := [] }
theorem last_append {k : Nat} {st : St} (hf : Fine st) (h : Siz k st) (hk : k ≤ 40) (hn : NoIt st) (h64 : st.N.length < 64) (a : Str) (ha : a.length ≤ 1000) :
    appE st itN a = 0 ∧ appS st itN a = { st with F := st.F ++ [⟨a, 0⟩], N := putN st.N itN st.F.length, C := st.C ++ [.put itN st.F.length] } := by
  obtain ⟨e1, e2⟩ := h.wr
  have hl : lookN st.N itN = none := look_none_of (hn.N hf)
  have hu := h.usedLe hf (by omega)
  have hfull : full st itN a = false := by
    unfold full
    rw [hl, h.room]
    have h1 : decide ((1048576 : Int) < ((Dsk.used st + a.length : Nat) : Int)) = false := decide_eq_false (by omega)
    have h2 : decide (st.N.length = 64) = false := decide_eq_false (by omega)
    rw [h1, h2]; rfl
  constructor
  · unfold appE; rw [e1, e2, it_name, hfull]; rfl
  · unfold appS
    rw [e1, e2, it_name, hfull]
    rw [if_pos (by rfl)]
    unfold addF
    rw [hl]
theorem last_sync {k : Nat} {st : St} (hf : Fine st) (h : Siz k st) (a : Str) {st1 : St} (e1 : st1 = { st with F := st.F ++ [⟨a, 0⟩], N := putN st.N itN st.F.length, C := st.C ++ [.put itN st.F.length] }) :
    syncE st1 itN = 0 ∧ syncS st1 itN = { st with F := st.F ++ [⟨a, a.length⟩], N := putN st.N itN st.F.length, C := st.C ++ [.put itN st.F.length] } := by
  have hl : lookN st1.N itN = some st.F.length := by rw [e1]; exact look_put_same hf.nmN.rising _ _
  have hw : wrB st1 = true := by rw [e1]; exact h.wr.2
  have hs : wrS st1 = st1 := by
    have := h.wr.1
    rw [e1]; unfold wrS at this ⊢; simp [h.up, h.left]
  constructor
  · unfold syncE; rw [hw, hl]; rfl
  · unfold syncS
    rw [hw, if_pos rfl, hs]
    unfold syncF
    rw [hl, e1]
    simp only
    rw [modify_last]
theorem last_sn {k : Nat} {st : St} (hf : Fine st) (h : Siz k st) (a : Str) {st2 : St} (hf2 : Fine st2) (e2 : st2 = { st with F := st.F ++ [⟨a, a.length⟩], N := putN st.N itN st.F.length, C := st.C ++ [.put itN st.F.length] }) :
    snE st2 = 0 ∧ snS st2 = lst st a a.length := by
  have hw : wrB st2 = true := by rw [e2]; exact h.wr.2
  have hs : wrS st2 = st2 := by
    rw [e2]; unfold wrS; simp [h.up, h.left]
  constructor
  · unfold snE; rw [hw]; rfl
  · unfold snS
    rw [hw, if_pos rfl, hs]
    unfold settle lst
    rw [List.take_length, ← hf2.now, e2]
theorem last_append2 {k : Nat} {st : St} (hf : Fine st) (h : Siz k st) (hk : k ≤ 40) (a b : Str) (ha : a.length ≤ 1000) (hb : b.length ≤ 1000) (hu : used (lst st a a.length) ≤ 1000000) :
    appE (lst st a a.length) itN b = 0 ∧ appS (lst st a a.length) itN b = lst st (a ++ b) a.length := by
  have hl : lookN (lst st a a.length).N itN = some st.F.length := look_put_same hf.nmN.rising _ _
  have hw : wrB (lst st a a.length) = true := h.wr.2
  have hs : wrS (lst st a a.length) = lst st a a.length := by unfold wrS lst; simp [h.up, h.left]
  have hr : (lst st a a.length).room = 1048576 := h.room
  have hfull : full (lst st a a.length) itN b = false := by
    unfold full
    rw [hl, hr]
    have h1 : decide ((1048576 : Int) < ((Dsk.used (lst st a a.length) + b.length : Nat) : Int)) = false := decide_eq_false (by omega)
    rw [h1]; rfl
  constructor
  · unfold appE; rw [hw, hs, it_name, hfull]; rfl
  · unfold appS
    rw [hw, hs, it_name, hfull, if_pos (by rfl)]
    unfold addF
    rw [hl]
    unfold lst
    simp only
    rw [modify_last]
/-- The size of what is there then. -/
theorem last_small {k : Nat} {st : St} (hf : Fine st) (h : Siz k st) (hk : k ≤ 40) (hn : NoIt st) (h64 : st.N.length < 64) (a : Str) (ha : a.length ≤ 1000) (hf3 : Fine (lst st a a.length)) : used (lst st a a.length) ≤ 462000 ∧ Siz (k + 1) (lst st a a.length) := by
  have h1 := siz_append hf h itN a ha
  rw [(last_append hf h hk hn h64 a ha).2] at h1
  have h2 : Siz (k + 1) (lst st a a.length) := by
    refine ⟨h1.room, h1.up, h1.left, ?_, Nat.zero_le _, ?_, ?_⟩
    · have := h1.nF; simp only [List.length_append, List.length_singleton] at this; show (st.F ++ [(⟨a, a.length⟩ : FileS)]).length ≤ _; rw [List.length_append, List.length_singleton]; exact this
    · have hb := h1.big
      simp only [List.length_append, List.length_singleton] at hb
      show ∀ f ∈ st.F ++ [(⟨a, a.length⟩ : FileS)], _ ≤ 1000 * (k + 1 - (st.F ++ [(⟨a, a.length⟩ : FileS)]).length + 1)
      rw [List.length_append, List.length_singleton]
      intro f hm
      rcases List.mem_append.1 hm with hm | hm
      · exact hb f (List.mem_append.2 (.inl hm))
      · rw [List.mem_singleton.1 hm]
        exact hb ⟨a, 0⟩ (List.mem_append.2 (.inr List.mem_cons_self))
    · show (putN st.N itN st.F.length).length + 0 ≤ (st.F ++ [(⟨a, a.length⟩ : FileS)]).length
      rw [List.length_append, List.length_singleton]
      have := len_put_le st.N itN st.F.length
      have := h.len hf
      omega
  exact ⟨h2.usedLe hf3 (by omega), h2⟩
/-- What is read behind the crash. -/
theorem last_read {st : St} (hf : Fine st) (a b : Str) (keep : List Int) : readE (crash (lst st (a ++ b) a.length) keep) itN = 0 ∧ ∃ m, a.length ≤ m ∧ m ≤ (a ++ b).length ∧ readA (crash (lst st (a ++ b) a.length) keep) itN = (a ++ b).take m := by
  have hN : (crash (lst st (a ++ b) a.length) keep).N = putN st.N itN st.F.length := by
    show ((([] : List Chg).take _).foldl appC (putN st.N itN st.F.length)) = _
    rw [List.take_nil]; rfl
  have hl : lookN (crash (lst st (a ++ b) a.length) keep).N itN = some st.F.length := by rw [hN]; exact look_put_same hf.nmN.rising _ _
  have hcut : ∀ (N : Nms) (keep : List Int) (F : List FileS) (i : Nat), (∃ f m, F[i]? = some f ∧ f.s = (a ++ b).take m ∧ f.lasts ≤ m ∧ a.length ≤ f.lasts ∧ m ≤ (a ++ b).length) → ∃ f m, (cutAll keep N F)[i]? = some f ∧ f.s = (a ++ b).take m ∧ f.lasts ≤ m ∧ a.length ≤ f.lasts ∧ m ≤ (a ++ b).length := by
    intro N
    induction N with
    | nil => intro keep F i h; exact h
    | cons p r ih =>
      intro keep F i h
      unfold cutAll
      refine ih _ _ _ ?_
      obtain ⟨f, m, h1, h2, h3, h4, h5⟩ := h
      rw [List.getElem?_modify, h1]
      by_cases e : p.2 = i
      · have hk := kept1_le keep (f.s.length - f.lasts)
        have hfl : f.s.length = m := by rw [h2, List.length_take]; omega
        refine ⟨cutF f (f.lasts + kept1 keep (f.s.length - f.lasts)), f.lasts + kept1 keep (f.s.length - f.lasts), by simp [e], ?_, Nat.le_refl _, ?_, by omega⟩
        · show f.s.take _ = _
          rw [h2, List.take_take]
          congr 1
          have hfl2 : ((a ++ b).take m).length = m := by rw [List.length_take]; omega
          rw [hfl2]
          rw [hfl] at hk
          omega
        · show a.length ≤ f.lasts + _
          omega
      · exact ⟨f, m, by simp [e], h2, h3, h4, h5⟩
  obtain ⟨f, m, h1, h2, h3, h4, h5⟩ := hcut (putN st.N itN st.F.length) (keep.drop 1) (st.F ++ [⟨a ++ b, a.length⟩]) st.F.length ⟨⟨a ++ b, a.length⟩, (a ++ b).length, by simp, List.take_length.symm, by simp, Nat.le_refl _, Nat.le_refl _⟩
  have hF : (crash (lst st (a ++ b) a.length) keep).F[st.F.length]? = some f := by
    show (cutAll (keep.drop 1) ((([] : List Chg).take _).foldl appC (putN st.N itN st.F.length)) _)[st.F.length]? = _
    rw [List.take_nil]; exact h1
  have hd : (crash (lst st (a ++ b) a.length) keep).dead = false := rfl
  refine ⟨?_, m, by omega, h5, ?_⟩
  · unfold readE; rw [hd, hl]; rfl
  · unfold readA
    rw [hd, hl]
    simp only [List.getD_eq_getElem?_getD, hF]
    exact h2
end Dsk
end Go.Proofs.Ytiadjjdmhpabnaa
