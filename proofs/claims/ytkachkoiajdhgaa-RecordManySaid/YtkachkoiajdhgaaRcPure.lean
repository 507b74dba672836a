/- Records, plainly (layer 12): which are right, their bytes, what is read, their span. Names no function of the program. -/
import Derived.Test.YtkachkoiajdhgaaPMt1
set_option maxRecDepth 100000
namespace Go.Proofs.Ytkachkoiajdhgaa
open Go.RowKit Go.Sort
namespace Rc
open Bit Dsk Ob Dig
set_option linter.unusedVariables false

/-- A sample: labels, time, value. -/
abbrev Smp := List Lb.Pr × Int × Nat
structure R where
  kind : Int
  smp : List Smp
  ms : List Mt.M
  frm : Int
  til : Int
def zero : R := ⟨0, [], [], 0, 0⟩
def noKind (r : R) : Prop := r.kind ≠ 1 ∧ r.kind ≠ 2
def strange (r : R) : Prop := (r.kind = 1 ∧ (r.ms ≠ [] ∨ r.frm ≠ 0 ∨ r.til ≠ 0)) ∨ (r.kind ≠ 1 ∧ r.smp ≠ [])
def manyB (r : R) : Prop := r.kind = 1 ∧ (r.smp.length < 1 ∨ 32 < r.smp.length)
def badL (r : R) : Prop := ∃ x ∈ r.smp, ¬ Lb.Ok x.1
open Classical in
/-- What is wrong with a record (0: nothing). -/
noncomputable def chk (r : R) : Nat := if noKind r then 5 else if strange r then 3 else if manyB r then 2 else if badL r then 16 else if Mt.chk r.ms ≠ 0 then Mt.chk r.ms else if r.til < r.frm then 9 else 0
theorem chk_kind {r : R} (h : noKind r) : chk r = 5 := if_pos h
theorem chk_field {r : R} (h1 : ¬ noKind r) (h : strange r) : chk r = 3 := by unfold chk; rw [if_neg h1, if_pos h]
theorem chk_range {r : R} (h1 : ¬ noKind r) (h2 : ¬ strange r) (h : manyB r) : chk r = 2 := by unfold chk; rw [if_neg h1, if_neg h2, if_pos h]
theorem chk_label {r : R} (h1 : ¬ noKind r) (h2 : ¬ strange r) (h3 : ¬ manyB r) (h : badL r) : chk r = 16 := by unfold chk; rw [if_neg h1, if_neg h2, if_neg h3, if_pos h]
theorem chk_match {r : R} (h1 : ¬ noKind r) (h2 : ¬ strange r) (h3 : ¬ manyB r) (h4 : ¬ badL r) (h : Mt.chk r.ms ≠ 0) : chk r = Mt.chk r.ms := by unfold chk; rw [if_neg h1, if_neg h2, if_neg h3, if_neg h4, if_pos h]
theorem chk_order {r : R} (h1 : ¬ noKind r) (h2 : ¬ strange r) (h3 : ¬ manyB r) (h4 : ¬ badL r) (h5 : Mt.chk r.ms = 0) (h : r.til < r.frm) : chk r = 9 := by unfold chk; rw [if_neg h1, if_neg h2, if_neg h3, if_neg h4, if_neg (by simp [h5]), if_pos h]
theorem chk_right {r : R} (h1 : ¬ noKind r) (h2 : ¬ strange r) (h3 : ¬ manyB r) (h4 : ¬ badL r) (h5 : Mt.chk r.ms = 0) (h : ¬ r.til < r.frm) : chk r = 0 := by unfold chk; rw [if_neg h1, if_neg h2, if_neg h3, if_neg h4, if_neg (by simp [h5]), if_neg h]
/-- A right commit. -/
structure Commit (r : R) : Prop where
  kind : r.kind = 1
  ms : r.ms = []
  frm : r.frm = 0
  til : r.til = 0
  one : 1 ≤ r.smp.length
  few : r.smp.length ≤ 32
  ok : ∀ x ∈ r.smp, Lb.Ok x.1
/-- A right delete. -/
structure Delete (r : R) : Prop where
  kind : r.kind = 2
  smp : r.smp = []
  ms : Mt.chk r.ms = 0
  le : r.frm ≤ r.til
theorem chk_zero {r : R} : chk r = 0 ↔ Commit r ∨ Delete r := by
  classical
  by_cases h1 : noKind r
  · rw [chk_kind h1]
    constructor
    · intro h; cases h
    · rintro (h | h)
      · exact absurd h.kind h1.1
      · exact absurd h.kind h1.2
  by_cases h2 : strange r
  · rw [chk_field h1 h2]
    constructor
    · intro h; cases h
    · rintro (h | h)
      · rcases h2 with ⟨-, h2⟩ | ⟨h2, -⟩
        · rcases h2 with h2 | h2 | h2
          · exact absurd h.ms h2
          · exact absurd h.frm h2
          · exact absurd h.til h2
        · exact absurd h.kind h2
      · rcases h2 with ⟨h2, -⟩ | ⟨-, h2⟩
        · have := h.kind; omega
        · exact absurd h.smp h2
  by_cases h3 : manyB r
  · rw [chk_range h1 h2 h3]
    constructor
    · intro h; cases h
    · rintro (h | h)
      · have := h.one; have := h.few; rcases h3.2 with h3 | h3 <;> omega
      · have := h.kind; have := h3.1; omega
  by_cases h4 : badL r
  · rw [chk_label h1 h2 h3 h4]
    constructor
    · intro h; cases h
    · obtain ⟨x, hx, hn⟩ := h4
      rintro (h | h)
      · exact absurd (h.ok x hx) hn
      · rw [h.smp] at hx; cases hx
  have hcase : r.kind = 1 ∨ r.kind = 2 := by
    by_cases c : r.kind = 1
    · exact .inl c
    · by_cases c2 : r.kind = 2
      · exact .inr c2
      · exact absurd ⟨c, c2⟩ h1
  have hstr := fun h => h2 (.inl h)
  have hstr2 := fun h => h2 (.inr h)
  by_cases h5 : Mt.chk r.ms = 0
  · by_cases h6 : r.til < r.frm
    · rw [chk_order h1 h2 h3 h4 h5 h6]
      constructor
      · intro h; cases h
      · rintro (h | h)
        · have := h.frm; have := h.til; omega
        · have := h.le; omega
    · rw [chk_right h1 h2 h3 h4 h5 h6]
      refine ⟨fun _ => ?_, fun _ => rfl⟩
      rcases hcase with c | c
      · have k := fun h => hstr ⟨c, h⟩
        refine .inl ⟨c, ?_, ?_, ?_, ?_, ?_, fun x hx => ?_⟩
        · by_cases e : r.ms = []
          · exact e
          · exact absurd (.inl e) k
        · by_cases e : r.frm = 0
          · exact e
          · exact absurd (.inr (.inl e)) k
        · by_cases e : r.til = 0
          · exact e
          · exact absurd (.inr (.inr e)) k
        · by_cases e : 1 ≤ r.smp.length
          · exact e
          · exact absurd ⟨c, .inl (by omega)⟩ h3
        · by_cases e : r.smp.length ≤ 32
          · exact e
          · exact absurd ⟨c, .inr (by omega)⟩ h3
        · by_cases e : Lb.Ok x.1
          · exact e
          · exact absurd ⟨x, hx, e⟩ h4
      · refine .inr ⟨c, ?_, h5, by omega⟩
        by_cases e : r.smp = []
        · exact e
        · exact absurd ⟨by omega, e⟩ hstr2
  · rw [chk_match h1 h2 h3 h4 h5]
    constructor
    · intro h; exact absurd h h5
    · rintro (h | h)
      · rw [h.ms] at h5; exact absurd rfl h5
      · exact absurd h.ms h5

/-! ### their bytes -/
def sB (x : Smp) : List UInt8 := numL (Lb.encB x.1).length ++ Lb.encB x.1 ++ numL (zig x.2.1) ++ numL x.2.2
def encB (r : R) : List UInt8 := numL r.kind.toNat ++ if r.kind = 2 then Mt.encB r.ms ++ numL (zig r.frm) ++ numL (zig r.til) else numL r.smp.length ++ r.smp.flatMap sB
theorem encL_len {l : List Lb.Pr} (h : Lb.Ok l) : (Lb.encB l).length ≤ 921 := by
  have h1 := nd_le l.length
  have h2 : (l.flatMap Lb.pB).length ≤ 114 * l.length := Lb.flat_len h.good.small
  have h3 := h.few
  rw [Lb.encB, List.length_append, numL_length]; omega
theorem sB_len {x : Smp} (h : Lb.Ok x.1) : (sB x).length ≤ 950 := by
  have h1 := encL_len h
  have h2 := nd_le (Lb.encB x.1).length
  have h3 := nd_le (zig x.2.1)
  have h4 := nd_le x.2.2
  simp only [sB, List.length_append, numL_length]; omega
theorem flat_len : ∀ {l : List Smp}, (∀ x ∈ l, Lb.Ok x.1) → (l.flatMap sB).length ≤ 950 * l.length
  | [], _ => by simp
  | x :: l, h => by
    have h1 := sB_len (h x (by simp))
    have h2 := flat_len (l := l) fun q hq => h q (by simp [hq])
    rw [List.flatMap_cons, List.length_append, List.length_cons]; omega
theorem encB_len {r : R} (h : chk r = 0) : (encB r).length ≤ 40000 := by
  have h0 := nd_le r.kind.toNat
  rcases chk_zero.1 h with h | h
  · have h1 := flat_len h.ok
    have h2 := nd_le r.smp.length
    have h3 := h.few
    rw [encB, if_neg (by rw [h.kind]; decide)]
    simp only [List.length_append, numL_length]; omega
  · have h1 := Mt.encB_len h.ms
    have h2 := nd_le (zig r.frm)
    have h3 := nd_le (zig r.til)
    rw [encB, if_pos h.kind]
    simp only [List.length_append, numL_length]; omega
end Rc
end Go.Proofs.Ytkachkoiajdhgaa
