/- Parts, put together: HdPut5, HdTry, HdPlain, HdPlain2, HdApp. -/
import Derived.Test.YtlgjbcmloochiaaGreatDoorZaHdPut3
import Derived.Test.YtlgjbcmloochiaaGreatDoorZaPRc1

/- The document's head (layer 13): put, of whatever sample. -/
section
set_option maxRecDepth 100000
namespace Go.Proofs.YtlgjbcmloochiaaGreatDoor
open Go.RowKit Go.Sort
open Bit Dsk Ob Dig
namespace Hd
set_option linter.unusedVariables false
set_option linter.unusedSimpArgs false
end Hd
end Go.Proofs.YtlgjbcmloochiaaGreatDoor
end

/- The document's head (layer 13): Try. -/
section
set_option maxRecDepth 100000
namespace Go.Proofs.YtlgjbcmloochiaaGreatDoor
open Go.RowKit Go.Sort
open Bit Dsk Ob Dig
namespace Hd
set_option linter.unusedVariables false
set_option linter.unusedSimpArgs false

/-- Room for k samples more. -/
structure SaneN (k : Nat) (h : H) : Prop where
  len : h.length + k ≤ 1000000000
  pts : ∀ r ∈ h, r.pts.length + k ≤ 1000000000
  lab : ∀ r ∈ h, r.lab.length ≤ 1000000000
theorem SaneN.room {k : Nat} {h : H} (hh : SaneN (k + 1) h) {l : List Lb.Pr} (hl : l.length ≤ 1000000000) : ∀ r ∈ room h l, r.pts.length + (k + 1) ≤ 1000000000 ∧ r.lab.length ≤ 1000000000 := fun r hr => by
  have hk : k + 1 ≤ 1000000000 := by have := hh.len; omega
  cases hi : isIn h l with
  | true => rw [room_in hi] at hr; exact ⟨hh.pts r hr, hh.lab r hr⟩
  | false =>
    rw [room_new hi] at hr
    rcases List.mem_append.1 hr with hr | hr
    · rcases List.mem_append.1 hr with hr | hr
      · exact ⟨hh.pts r (List.mem_of_mem_take hr), hh.lab r (List.mem_of_mem_take hr)⟩
      · rw [List.mem_singleton] at hr
        subst hr
        exact ⟨by simpa using hk, hl⟩
    · exact ⟨hh.pts r (List.mem_of_mem_drop hr), hh.lab r (List.mem_of_mem_drop hr)⟩
theorem SaneN.add {k : Nat} {h : H} (hh : SaneN (k + 1) h) {s : Rc.Smp} (hl : s.1.length ≤ 1000000000) : SaneN k (add h s) := by
  have h1 := hh.len
  have h2 := add_len h s
  have h3 := hh.room hl
  have h4 : ∀ r ∈ Hd.add h s, r.pts.length + k ≤ 1000000000 ∧ r.lab.length ≤ 1000000000 := fun r hr => by
    rw [Hd.add] at hr
    rcases List.mem_or_eq_of_mem_set hr with hr | hr
    · have := h3 r hr; omega
    · have := h3 _ (List.getElem_mem (room_lt h s.1))
      rw [hr]
      simp only [grow1, List.length_append, List.length_singleton]
      omega
  exact ⟨by omega, fun r hr => (h4 r hr).1, fun r hr => (h4 r hr).2⟩
end Hd
end Go.Proofs.YtlgjbcmloochiaaGreatDoor
end

/- Layer 13, plainly: heads in order, what commits and deletes do to them. Names no function of the program. -/
section
set_option maxRecDepth 100000
namespace Go.Proofs.YtlgjbcmloochiaaGreatDoor
open Go.RowKit
namespace Hd
open Bit Dsk Ob Dig
set_option linter.unusedVariables false
set_option linter.unusedSimpArgs false

/-! ### rows in order -/
abbrev Lt (a b : List Lb.Pr) : Prop := Lb.cmp a b < 0
theorem lt_not_self (a : List Lb.Pr) : ¬ Lt a a := by unfold Lt; rw [Lb.cmp_self]; decide
theorem lt_trans {a b c : List Lb.Pr} (h1 : Lt a b) (h2 : Lt b c) : Lt a c := by
  unfold Lt at *
  exact (Lb.cmp_trans a b c (by omega) (by omega)).2 h1
theorem lt_of_not {a b : List Lb.Pr} (h : ¬ Lt a b) (hn : a ≠ b) : Lt b a := by
  unfold Lt at *
  have h1 := Lb.cmp_swap a b
  have h2 : Lb.cmp a b ≠ 0 := fun e => hn ((Lb.cmp_same a b).1 e)
  omega
def labs (h : H) : List (List Lb.Pr) := h.map Row.lab
def Srt (h : H) : Prop := (labs h).Pairwise Lt
theorem Srt.at {h : H} (hs : Srt h) {i j : Nat} (hi : i < h.length) (hj : j < h.length) (hij : i < j) : Lt h[i].lab h[j].lab := by
  have := List.pairwise_iff_getElem.1 hs i j (by simpa [labs] using hi) (by simpa [labs] using hj) hij
  simpa [labs] using this
theorem Srt.ix {h : H} (hs : Srt h) {i : Nat} (hi : i < h.length) {l : List Lb.Pr} (hl : h[i].lab = l) : ix h l = i :=
  ix_is (Nat.le_of_lt hi) (fun k hk hki => by rw [← hl]; exact hs.at hk hi hki) (fun _ => by rw [hl]; exact lt_not_self l)
theorem Srt.one {h : H} (hs : Srt h) {a b : Row} (ha : a ∈ h) (hb : b ∈ h) (e : a.lab = b.lab) : a = b := by
  obtain ⟨i, hi, rfl⟩ := List.mem_iff_getElem.1 ha
  obtain ⟨j, hj, rfl⟩ := List.mem_iff_getElem.1 hb
  have e1 := hs.ix hi e
  have e2 := hs.ix hj rfl
  have : i = j := by omega
  subst this; rfl
theorem labs_set {h : H} {i : Nat} (hi : i < h.length) {x : Row} (hx : x.lab = h[i].lab) : labs (h.set i x) = labs h := by
  unfold labs
  rw [List.map_set, hx, ← List.getElem_map Row.lab (h := by simpa using hi)]
  exact List.set_getElem_self _
theorem labs_new (h : H) (l : List Lb.Pr) (hn : isIn h l = false) : labs (room h l) = (labs h).take (ix h l) ++ l :: (labs h).drop (ix h l) := by
  rw [room_new hn]; simp [labs]
theorem labs_add (h : H) (s : Rc.Smp) : labs (add h s) = labs (room h s.1) := by
  unfold add
  exact labs_set (room_lt h s.1) rfl
theorem Srt.room {h : H} (hs : Srt h) (l : List Lb.Pr) : Srt (room h l) := by
  cases hn : Hd.isIn h l with
  | true => rw [room_in hn]; exact hs
  | false =>
    unfold Srt
    rw [labs_new h l hn]
    have hle := ix_le h l
    have hlen : (labs h).length = h.length := by simp [labs]
    have hbefore : ∀ a ∈ (labs h).take (Hd.ix h l), Lt a l := fun a ha => by
      obtain ⟨i, hi, rfl⟩ := List.mem_iff_getElem.1 ha
      rw [List.length_take] at hi
      rw [List.getElem_take]
      have := ix_before (h := h) (l := l) (i := i) (by omega) (by omega)
      simpa [labs] using this
    have hafter : ∀ b ∈ (labs h).drop (Hd.ix h l), Lt l b := fun b hb => by
      obtain ⟨i, hi, rfl⟩ := List.mem_iff_getElem.1 hb
      rw [List.length_drop] at hi
      rw [List.getElem_drop]
      have hk : Hd.ix h l < h.length := by omega
      have h0 : Lt l h[Hd.ix h l].lab := lt_of_not (ix_stop hk) (fun e => by rw [isIn_at hk] at hn; exact absurd e (of_decide_eq_false hn))
      have h1 : (labs h)[Hd.ix h l + i]'(by omega) = h[Hd.ix h l + i].lab := by simp [labs]
      rw [h1]
      by_cases hi0 : i = 0
      · subst hi0; exact h0
      · exact lt_trans h0 (hs.at hk (by omega) (by omega))
    rw [List.pairwise_append, List.pairwise_cons]
    refine ⟨List.Pairwise.sublist (List.take_sublist _ _) hs, ⟨hafter, List.Pairwise.sublist (List.drop_sublist _ _) hs⟩, fun a ha b hb => ?_⟩
    rcases List.mem_cons.1 hb with rfl | hb
    · exact hbefore a ha
    · exact lt_trans (hbefore a ha) (hafter b hb)
theorem Srt.add {h : H} (hs : Srt h) (s : Rc.Smp) : Srt (add h s) := by
  unfold Srt; rw [labs_add]; exact hs.room s.1
theorem Srt.puts : ∀ {l : List Rc.Smp} {h g : H}, Srt h → Hd.puts h l = some g → Srt g
  | [], h, g, hs, e => by simp only [Hd.puts, Option.some.injEq] at e; rw [← e]; exact hs
  | s :: l, h, g, hs, e => by
    simp only [Hd.puts] at e
    split at e
    · cases e
    · exact (hs.add s).puts e
theorem labs_del (h : H) (ms : List Mt.M) (a b : Int) : labs (del h ms a b) = labs h := by
  unfold labs del
  rw [List.map_map]
  apply List.map_congr_left
  intro r _
  simp only [Function.comp, del1]
  split <;> rfl
theorem Srt.del {h : H} (hs : Srt h) (ms : List Mt.M) (a b : Int) : Srt (del h ms a b) := by unfold Srt; rw [labs_del]; exact hs
theorem Srt.app {h : H} (hs : Srt h) (r : Rc.R) : Srt (app h r) := by
  unfold Hd.app
  split
  · exact hs
  · split
    · exact hs.del _ _ _
    · cases hp : Hd.puts h r.smp with
      | none => exact hs
      | some g => exact hs.puts hp
/-! ### the rows behind a sample -/
/-! ### how many points -/
/-! ### the greatest time -/
end Hd
end Go.Proofs.YtlgjbcmloochiaaGreatDoor
end

/- Layer 13, plainly: what a delete takes away from a query; how much a head grows. Names no function of the program. -/
section
set_option maxRecDepth 100000
namespace Go.Proofs.YtlgjbcmloochiaaGreatDoor
open Go.RowKit
namespace Hd
open Bit Dsk Ob Dig
set_option linter.unusedVariables false
set_option linter.unusedSimpArgs false

/-! ### how much it grows -/
theorem SaneN.less {k j : Nat} {h : H} (hh : SaneN k h) (hj : j ≤ k) : SaneN j h := ⟨by have := hh.len; omega, fun r hr => by have := hh.pts r hr; omega, hh.lab⟩
theorem SaneN.nil {k : Nat} (hk : k ≤ 1000000000) : SaneN k [] := ⟨by simpa using hk, fun r hr => (by cases hr), fun r hr => (by cases hr)⟩
theorem SaneN.puts : ∀ {l : List Rc.Smp} {k : Nat} {h g : H}, SaneN (k + l.length) h → (∀ x ∈ l, x.1.length ≤ 1000000000) → Hd.puts h l = some g → SaneN k g
  | [], k, h, g, hh, hl, e => by simp only [Hd.puts, Option.some.injEq] at e; rw [← e]; exact hh
  | s :: l, k, h, g, hh, hl, e => by
    simp only [Hd.puts] at e
    split at e
    · cases e
    · have h1 : SaneN (k + l.length + 1) h := hh.less (by rw [List.length_cons]; omega)
      exact SaneN.puts (h1.add (hl s (by simp))) (fun x hx => hl x (by simp [hx])) e
theorem without_len (l : List Pt) (a b : Int) : (without l a b).length ≤ l.length := List.length_filter_le _ _
theorem SaneN.del {k : Nat} {h : H} (hh : SaneN k h) (ms : List Mt.M) (a b : Int) : SaneN k (del h ms a b) := by
  have h1 : ∀ r, (del1 ms a b r).pts.length ≤ r.pts.length ∧ (del1 ms a b r).lab = r.lab := fun r => by
    rw [del1]; split
    · exact ⟨without_len _ _ _, rfl⟩
    · exact ⟨Nat.le_refl _, rfl⟩
  refine ⟨by simpa [Hd.del] using hh.len, fun r hr => ?_, fun r hr => ?_⟩
  · obtain ⟨x, hx, rfl⟩ := List.mem_map.1 hr
    have := hh.pts x hx; have := (h1 x).1; omega
  · obtain ⟨x, hx, rfl⟩ := List.mem_map.1 hr
    rw [(h1 x).2]; exact hh.lab x hx
theorem SaneN.app {k : Nat} {h : H} {r : Rc.R} (hh : SaneN (k + r.smp.length) h) (hl : ∀ x ∈ r.smp, x.1.length ≤ 1000000000) : SaneN k (app h r) := by
  unfold Hd.app
  split
  · exact hh.less (by omega)
  · split
    · exact (hh.less (by omega)).del _ _ _
    · cases hp : Hd.puts h r.smp with
      | none => exact hh.less (by omega)
      | some g => exact hh.puts hl hp
/-! ### what a delete took away -/
end Hd
end Go.Proofs.YtlgjbcmloochiaaGreatDoor
end

/- The document's head (layer 13): Apply, what it does to the rows. -/
section
set_option maxRecDepth 100000
namespace Go.Proofs.YtlgjbcmloochiaaGreatDoor
open Go.RowKit Go.Sort
open Bit Dsk Ob Dig
namespace Hd
set_option linter.unusedVariables false
set_option linter.unusedSimpArgs false

end Hd
end Go.Proofs.YtlgjbcmloochiaaGreatDoor
end
