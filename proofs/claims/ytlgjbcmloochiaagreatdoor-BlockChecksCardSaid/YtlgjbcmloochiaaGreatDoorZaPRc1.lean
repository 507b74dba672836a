/- Parts, put together: RcPure, RcRead, RcIn, RcRow, RcOpen, RcRef, RcObj, RcRef2, RcDec. -/
import Derived.Test.YtlgjbcmloochiaaGreatDoorZaPMt1
import Derived.Test.YtlgjbcmloochiaaGreatDoorZaPRow
import Derived.Lib.QuietBelow

/- Records, plainly (layer 12): which are right, their bytes, what is read, their span. Names no function of the program. -/
section
set_option maxRecDepth 100000
namespace Go.Proofs.YtlgjbcmloochiaaGreatDoor
open Go.RowKit Go.Sort
namespace Rc
open Bit Dsk Ob Dig
set_option linter.unusedVariables false

/-- A sample: labels, time, value. -/
abbrev Smp := List Lb.Pr × Int × Nat
structure R where
  kind : Int
  smp : List Smp
  ms : List Mt.M
  frm : Int
  til : Int
def zero : R := ⟨0, [], [], 0, 0⟩
def noKind (r : R) : Prop := r.kind ≠ 1 ∧ r.kind ≠ 2
def strange (r : R) : Prop := (r.kind = 1 ∧ (r.ms ≠ [] ∨ r.frm ≠ 0 ∨ r.til ≠ 0)) ∨ (r.kind ≠ 1 ∧ r.smp ≠ [])
def manyB (r : R) : Prop := r.kind = 1 ∧ (r.smp.length < 1 ∨ 32 < r.smp.length)
def badL (r : R) : Prop := ∃ x ∈ r.smp, ¬ Lb.Ok x.1
open Classical in
/-- What is wrong with a record (0: nothing). -/
noncomputable def chk (r : R) : Nat := if noKind r then 5 else if strange r then 3 else if manyB r then 2 else if badL r then 16 else if Mt.chk r.ms ≠ 0 then Mt.chk r.ms else if r.til < r.frm then 9 else 0
theorem chk_kind {r : R} (h : noKind r) : chk r = 5 := if_pos h
theorem chk_field {r : R} (h1 : ¬ noKind r) (h : strange r) : chk r = 3 := by unfold chk; rw [if_neg h1, if_pos h]
theorem chk_range {r : R} (h1 : ¬ noKind r) (h2 : ¬ strange r) (h : manyB r) : chk r = 2 := by unfold chk; rw [if_neg h1, if_neg h2, if_pos h]
theorem chk_label {r : R} (h1 : ¬ noKind r) (h2 : ¬ strange r) (h3 : ¬ manyB r) (h : badL r) : chk r = 16 := by unfold chk; rw [if_neg h1, if_neg h2, if_neg h3, if_pos h]
theorem chk_match {r : R} (h1 : ¬ noKind r) (h2 : ¬ strange r) (h3 : ¬ manyB r) (h4 : ¬ badL r) (h : Mt.chk r.ms ≠ 0) : chk r = Mt.chk r.ms := by unfold chk; rw [if_neg h1, if_neg h2, if_neg h3, if_neg h4, if_pos h]
theorem chk_order {r : R} (h1 : ¬ noKind r) (h2 : ¬ strange r) (h3 : ¬ manyB r) (h4 : ¬ badL r) (h5 : Mt.chk r.ms = 0) (h : r.til < r.frm) : chk r = 9 := by unfold chk; rw [if_neg h1, if_neg h2, if_neg h3, if_neg h4, if_neg (by simp [h5]), if_pos h]
theorem chk_right {r : R} (h1 : ¬ noKind r) (h2 : ¬ strange r) (h3 : ¬ manyB r) (h4 : ¬ badL r) (h5 : Mt.chk r.ms = 0) (h : ¬ r.til < r.frm) : chk r = 0 := by unfold chk; rw [if_neg h1, if_neg h2, if_neg h3, if_neg h4, if_neg (by simp [h5]), if_neg h]
/-- A right commit. -/
structure Commit (r : R) : Prop where
  kind : r.kind = 1
  ms : r.ms = []
  frm : r.frm = 0
  til : r.til = 0
  one : 1 ≤ r.smp.length
  few : r.smp.length ≤ 32
  ok : ∀ x ∈ r.smp, Lb.Ok x.1
/-- A right delete. -/
structure Delete (r : R) : Prop where
  kind : r.kind = 2
  smp : r.smp = []
  ms : Mt.chk r.ms = 0
  le : r.frm ≤ r.til
theorem chk_zero {r : R} : chk r = 0 ↔ Commit r ∨ Delete r := by
  classical
  by_cases h1 : noKind r
  · rw [chk_kind h1]
    constructor
    · intro h; cases h
    · rintro (h | h)
      · exact absurd h.kind h1.1
      · exact absurd h.kind h1.2
  by_cases h2 : strange r
  · rw [chk_field h1 h2]
    constructor
    · intro h; cases h
    · rintro (h | h)
      · rcases h2 with ⟨-, h2⟩ | ⟨h2, -⟩
        · rcases h2 with h2 | h2 | h2
          · exact absurd h.ms h2
          · exact absurd h.frm h2
          · exact absurd h.til h2
        · exact absurd h.kind h2
      · rcases h2 with ⟨h2, -⟩ | ⟨-, h2⟩
        · have := h.kind; omega
        · exact absurd h.smp h2
  by_cases h3 : manyB r
  · rw [chk_range h1 h2 h3]
    constructor
    · intro h; cases h
    · rintro (h | h)
      · have := h.one; have := h.few; rcases h3.2 with h3 | h3 <;> omega
      · have := h.kind; have := h3.1; omega
  by_cases h4 : badL r
  · rw [chk_label h1 h2 h3 h4]
    constructor
    · intro h; cases h
    · obtain ⟨x, hx, hn⟩ := h4
      rintro (h | h)
      · exact absurd (h.ok x hx) hn
      · rw [h.smp] at hx; cases hx
  have hcase : r.kind = 1 ∨ r.kind = 2 := by
    by_cases c : r.kind = 1
    · exact .inl c
    · by_cases c2 : r.kind = 2
      · exact .inr c2
      · exact absurd ⟨c, c2⟩ h1
  have hstr := fun h => h2 (.inl h)
  have hstr2 := fun h => h2 (.inr h)
  by_cases h5 : Mt.chk r.ms = 0
  · by_cases h6 : r.til < r.frm
    · rw [chk_order h1 h2 h3 h4 h5 h6]
      constructor
      · intro h; cases h
      · rintro (h | h)
        · have := h.frm; have := h.til; omega
        · have := h.le; omega
    · rw [chk_right h1 h2 h3 h4 h5 h6]
      refine ⟨fun _ => ?_, fun _ => rfl⟩
      rcases hcase with c | c
      · have k := fun h => hstr ⟨c, h⟩
        refine .inl ⟨c, ?_, ?_, ?_, ?_, ?_, fun x hx => ?_⟩
        · by_cases e : r.ms = []
          · exact e
          · exact absurd (.inl e) k
        · by_cases e : r.frm = 0
          · exact e
          · exact absurd (.inr (.inl e)) k
        · by_cases e : r.til = 0
          · exact e
          · exact absurd (.inr (.inr e)) k
        · by_cases e : 1 ≤ r.smp.length
          · exact e
          · exact absurd ⟨c, .inl (by omega)⟩ h3
        · by_cases e : r.smp.length ≤ 32
          · exact e
          · exact absurd ⟨c, .inr (by omega)⟩ h3
        · by_cases e : Lb.Ok x.1
          · exact e
          · exact absurd ⟨x, hx, e⟩ h4
      · refine .inr ⟨c, ?_, h5, by omega⟩
        by_cases e : r.smp = []
        · exact e
        · exact absurd ⟨by omega, e⟩ hstr2
  · rw [chk_match h1 h2 h3 h4 h5]
    constructor
    · intro h; exact absurd h h5
    · rintro (h | h)
      · rw [h.ms] at h5; exact absurd rfl h5
      · exact absurd h.ms h5

/-! ### their bytes -/
def sB (x : Smp) : List UInt8 := numL (Lb.encB x.1).length ++ Lb.encB x.1 ++ numL (zig x.2.1) ++ numL x.2.2
def encB (r : R) : List UInt8 := numL r.kind.toNat ++ if r.kind = 2 then Mt.encB r.ms ++ numL (zig r.frm) ++ numL (zig r.til) else numL r.smp.length ++ r.smp.flatMap sB
theorem encL_len {l : List Lb.Pr} (h : Lb.Ok l) : (Lb.encB l).length ≤ 921 := by
  have h1 := nd_le l.length
  have h2 : (l.flatMap Lb.pB).length ≤ 114 * l.length := Lb.flat_len h.good.small
  have h3 := h.few
  rw [Lb.encB, List.length_append, numL_length]; omega
theorem sB_len {x : Smp} (h : Lb.Ok x.1) : (sB x).length ≤ 950 := by
  have h1 := encL_len h
  have h2 := nd_le (Lb.encB x.1).length
  have h3 := nd_le (zig x.2.1)
  have h4 := nd_le x.2.2
  simp only [sB, List.length_append, numL_length]; omega
theorem flat_len : ∀ {l : List Smp}, (∀ x ∈ l, Lb.Ok x.1) → (l.flatMap sB).length ≤ 950 * l.length
  | [], _ => by simp
  | x :: l, h => by
    have h1 := sB_len (h x (by simp))
    have h2 := flat_len (l := l) fun q hq => h q (by simp [hq])
    rw [List.flatMap_cons, List.length_append, List.length_cons]; omega
theorem encB_len {r : R} (h : chk r = 0) : (encB r).length ≤ 40000 := by
  have h0 := nd_le r.kind.toNat
  rcases chk_zero.1 h with h | h
  · have h1 := flat_len h.ok
    have h2 := nd_le r.smp.length
    have h3 := h.few
    rw [encB, if_neg (by rw [h.kind]; decide)]
    simp only [List.length_append, numL_length]; omega
  · have h1 := Mt.encB_len h.ms
    have h2 := nd_le (zig r.frm)
    have h3 := nd_le (zig r.til)
    rw [encB, if_pos h.kind]
    simp only [List.length_append, numL_length]; omega
end Rc
end Go.Proofs.YtlgjbcmloochiaaGreatDoor
end

/- Records, plainly (layer 12): what is read of bytes; and In's steps, as a reading goes. -/
section
set_option maxRecDepth 100000
namespace Go.Proofs.YtlgjbcmloochiaaGreatDoor
open Go.RowKit Go.Sort
namespace Rc
open Bit Dsk Ob Dig
set_option linter.unusedVariables false

/-- A reading: an error, or what is read and what is left. -/
abbrev Rd (α : Type) := List UInt8 → Except Nat (α × List UInt8)
def bnd {α β : Type} (x : Rd α) (f : α → Rd β) : Rd β := fun s => match x s with
  | .error e => .error e
  | .ok (a, r) => f a r
theorem bnd_ok {α β : Type} {x : Rd α} {f : α → Rd β} {s r : List UInt8} {a : α} (h : x s = .ok (a, r)) : bnd x f s = f a r := by simp [bnd, h]
theorem bnd_no {α β : Type} {x : Rd α} {f : α → Rd β} {s : List UInt8} {e : Nat} (h : x s = .error e) : bnd x f s = .error e := by simp [bnd, h]
def retR {α : Type} (a : α) : Rd α := fun s => .ok (a, s)
def numR : Rd Nat := fun s => if (gotN s).2.2 = 0 then .ok ((gotN s).1, s.drop (gotN s).2.1) else .error (gotN s).2.2
def sgnR : Rd Int := fun s => if (gotN s).2.2 = 0 then .ok (unz (gotN s).1, s.drop (gotN s).2.1) else .error (gotN s).2.2
def txtR (m : Int) : Rd ByteArray := fun s => if (Lb.txt m s).2.2 = 0 then .ok ((Lb.txt m s).1, (Lb.txt m s).2.1) else .error (Lb.txt m s).2.2
def mustR (b : Bool) (y : Nat) : Rd Unit := fun s => if b = true then .ok ((), s) else .error y
noncomputable def labR (t : ByteArray) : Rd (List Lb.Pr) := fun s => if (Lb.dec t.data.toList).2 = 0 then .ok ((Lb.dec t.data.toList).1, s) else .error (Lb.dec t.data.toList).2
def takeR : Rd (List Mt.M) := fun s => if (Mt.tk s).2.2 = 0 then .ok ((Mt.tk s).1, (Mt.tk s).2.1) else .error (Mt.tk s).2.2
noncomputable def smpK {β : Type} (f : Smp → Rd β) : Rd β := bnd (txtR 1024) fun t => bnd (labR t) fun l => bnd sgnR fun a => bnd numR fun b => f (l, a, b)
noncomputable def manyK {β : Type} (f : List Smp → Rd β) : Nat → List Smp → Rd β
  | 0, acc => f acc
  | n + 1, acc => smpK fun x => manyK f n (acc ++ [x])
noncomputable def comR : Rd R := bnd numR fun n => bnd (mustR (decide (1 ≤ n) && decide (n ≤ 32)) 2) fun _ => manyK (fun l => retR ⟨1, l, [], 0, 0⟩) n []
def delR : Rd R := bnd takeR fun m => bnd sgnR fun a => bnd sgnR fun b => retR ⟨2, [], m, a, b⟩
noncomputable def allR : Rd R := bnd numR fun k => bnd (mustR (decide (k = 1) || decide (k = 2)) 5) fun _ => if k = 1 then comR else delR
/-- What Decode answers. -/
noncomputable def dec (s : List UInt8) : R × Nat := match allR s with
  | .error e => (zero, e)
  | .ok (r, x) => if x ≠ [] then (zero, 6) else if chk r ≠ 0 then (zero, chk r) else (r, 0)
theorem dec_ok {s : List UInt8} {r : R} (h : allR s = .ok (r, [])) (hc : chk r = 0) : dec s = (r, 0) := by unfold dec; rw [h]; simp [hc]

/-! ### what the reader's box goes through -/
/-- Where the reader stands (what is left, the error), all that is to be read being F, the whole comes to K. -/
def Rest {β : Type} (F : Rd β) (s : ByteArray) (e : Nat) (K : Except Nat (β × List UInt8)) : Prop := (e = 0 → F s.data.toList = K) ∧ (e ≠ 0 → K = .error e)
/-- A step of the reader: from what is left and the error to what is read, what is left and the error. -/
def Nx {α : Type} (x : Rd α) (s : ByteArray) (e : Nat) (a : α) (s' : ByteArray) (e' : Nat) : Prop :=
  (e = 0 → (e' = 0 ∧ x s.data.toList = .ok (a, s'.data.toList)) ∨ (e' ≠ 0 ∧ x s.data.toList = .error e')) ∧ (e ≠ 0 → e' = e)
theorem Rest.step {α β : Type} {x : Rd α} {f : α → Rd β} {s s' : ByteArray} {e e' : Nat} {a : α} {K : Except Nat (β × List UInt8)} (h : Rest (bnd x f) s e K) (hx : Nx x s e a s' e') : Rest (f a) s' e' K := by
  by_cases he : e = 0
  · rcases hx.1 he with ⟨h1, h2⟩ | ⟨h1, h2⟩
    · exact ⟨fun _ => by rw [← h.1 he, bnd_ok h2], fun c => absurd h1 c⟩
    · exact ⟨fun c => absurd c h1, fun _ => by rw [← h.1 he, bnd_no h2]⟩
  · have h1 := hx.2 he
    subst h1
    exact ⟨fun c => absurd c he, fun _ => h.2 he⟩
/-- While an error stands, what would be read is all the same. -/
theorem Rest.any {α β : Type} {F : Rd β} {s s' : ByteArray} {e : Nat} {K : Except Nat (β × List UInt8)} (h : Rest F s e K) (he : e ≠ 0) (G : Rd β) : Rest G s' e K := ⟨fun c => absurd c he, h.2⟩

/-! ### back -/
theorem num_enc (n : Nat) (h : n < 18446744073709551616) (r : List UInt8) : numR (numL n ++ r) = .ok (n, r) := by
  unfold numR
  rw [got_num n h r]
  simp [← numL_length]
theorem sgn_enc (x : Int) (h0 : -9223372036854775808 ≤ x) (h1 : x ≤ 9223372036854775807) (r : List UInt8) : sgnR (numL (zig x) ++ r) = .ok (x, r) := by
  unfold sgnR
  rw [got_num _ (zig_lt x h0 h1) r, unz_zig]
  simp [← numL_length]
theorem take_enc {l : List Mt.M} (h : Mt.chk l = 0) (r : List UInt8) : takeR (Mt.encB l ++ r) = .ok (l, r) := by
  unfold takeR; rw [Mt.tk_enc h r]; simp
/-- Numbers that a record may have. -/
def RngS (x : Smp) : Prop := -9223372036854775808 ≤ x.2.1 ∧ x.2.1 ≤ 9223372036854775807 ∧ x.2.2 < 18446744073709551616
theorem smp_enc {β : Type} (f : Smp → Rd β) {x : Smp} (h : Lb.Ok x.1) (hr : RngS x) (r : List UInt8) : smpK f (sB x ++ r) = f x r := by
  obtain ⟨h0, h1, h2⟩ := hr
  have hl := encL_len h
  obtain ⟨t, ht⟩ : ∃ t : ByteArray, t = ⟨(Lb.encB x.1).toArray⟩ := ⟨_, rfl⟩
  have htl : t.data.toList = Lb.encB x.1 := by rw [ht]
  have hts : t.size = (Lb.encB x.1).length := by rw [← htl]; simp
  have e1 : sB x ++ r = numL t.size ++ t.data.toList ++ (numL (zig x.2.1) ++ (numL x.2.2 ++ r)) := by
    rw [hts, htl, sB]; simp [List.append_assoc]
  have k1 : txtR 1024 (sB x ++ r) = .ok (t, numL (zig x.2.1) ++ (numL x.2.2 ++ r)) := by
    unfold txtR
    rw [e1, Lb.txt_text t 1024 _ (by omega) (by omega)]; simp
  have k2 : labR t (numL (zig x.2.1) ++ (numL x.2.2 ++ r)) = .ok (x.1, numL (zig x.2.1) ++ (numL x.2.2 ++ r)) := by
    unfold labR
    have := Lb.dec_enc h []
    rw [List.append_nil] at this
    rw [htl, this]; simp
  unfold smpK
  rw [bnd_ok k1, bnd_ok k2, bnd_ok (sgn_enc _ h0 h1 _), bnd_ok (num_enc _ h2 r)]
theorem many_enc {β : Type} (f : List Smp → Rd β) : ∀ (l acc : List Smp) (r : List UInt8), (∀ x ∈ l, Lb.Ok x.1 ∧ RngS x) → manyK f l.length acc (l.flatMap sB ++ r) = f (acc ++ l) r
  | [], acc, r, _ => by simp [manyK]
  | x :: l, acc, r, h => by
    have e : (x :: l).flatMap sB ++ r = sB x ++ (l.flatMap sB ++ r) := by rw [List.flatMap_cons, List.append_assoc]
    rw [e, List.length_cons, manyK, smp_enc _ (h x (by simp)).1 (h x (by simp)).2, many_enc f l (acc ++ [x]) r fun q hq => h q (by simp [hq])]
    simp
structure Rng (r : R) : Prop where
  smp : ∀ x ∈ r.smp, RngS x
  frm : -9223372036854775808 ≤ r.frm ∧ r.frm ≤ 9223372036854775807
  til : -9223372036854775808 ≤ r.til ∧ r.til ≤ 9223372036854775807
theorem all_enc {r : R} (h : chk r = 0) (hr : Rng r) (x : List UInt8) : allR (encB r ++ x) = .ok (r, x) := by
  rcases chk_zero.1 h with hc | hd
  · have e : encB r ++ x = numL 1 ++ (numL r.smp.length ++ (r.smp.flatMap sB ++ x)) := by
      rw [encB, if_neg (by rw [hc.kind]; decide), hc.kind]; simp [List.append_assoc]
    have e2 : r = ⟨1, r.smp, [], 0, 0⟩ := by
      obtain ⟨k, l, m, a, b⟩ := r
      have h1 := hc.kind; have h2 := hc.ms; have h3 := hc.frm; have h4 := hc.til
      simp only at h1 h2 h3 h4
      rw [h1, h2, h3, h4]
    have h1 := hc.one
    have h2 := hc.few
    unfold allR
    rw [e, bnd_ok (num_enc 1 (by decide) _), bnd_ok (a := ()) (r := numL r.smp.length ++ (r.smp.flatMap sB ++ x)) (by rfl), if_pos rfl]
    unfold comR
    rw [bnd_ok (num_enc _ (by omega) _), bnd_ok (a := ()) (r := r.smp.flatMap sB ++ x) (by unfold mustR; simp [h1, h2]), many_enc _ _ _ _ fun y hy => ⟨hc.ok y hy, hr.smp y hy⟩]
    rw [List.nil_append, ← e2]; rfl
  · have e : encB r ++ x = numL 2 ++ (Mt.encB r.ms ++ (numL (zig r.frm) ++ (numL (zig r.til) ++ x))) := by
      rw [encB, if_pos hd.kind, hd.kind]; simp [List.append_assoc]
    have e2 : r = ⟨2, [], r.ms, r.frm, r.til⟩ := by
      obtain ⟨k, l, m, a, b⟩ := r
      have h1 := hd.kind; have h2 := hd.smp
      simp only at h1 h2
      rw [h1, h2]
    unfold allR
    rw [e, bnd_ok (num_enc 2 (by decide) _), bnd_ok (a := ()) (r := Mt.encB r.ms ++ (numL (zig r.frm) ++ (numL (zig r.til) ++ x))) (by rfl), if_neg (by decide)]
    unfold delR
    rw [bnd_ok (take_enc hd.ms _), bnd_ok (sgn_enc _ hr.frm.1 hr.frm.2 _), bnd_ok (sgn_enc _ hr.til.1 hr.til.2 _), ← e2]; rfl
theorem dec_enc {r : R} (h : chk r = 0) (hr : Rng r) : dec (encB r) = (r, 0) := by
  have := all_enc h hr []
  rw [List.append_nil] at this
  exact dec_ok this h
end Rc
end Go.Proofs.YtlgjbcmloochiaaGreatDoor
end

/- The document's own reader of fields (layer 12): each step as a reading goes; Signed. -/
section
set_option maxRecDepth 100000
namespace Go.Proofs.YtlgjbcmloochiaaGreatDoor
open Go.RowKit Go.Sort
namespace Rc
open Bit Dsk Ob Dig Lb
set_option linter.unusedVariables false

section
variable {J : Ob.Rel} {p : Nat} {s : ByteArray} {e : Nat} {w0 w : World}
end
end Rc
end Go.Proofs.YtlgjbcmloochiaaGreatDoor
end

/- Samples and records in memory (layer 12). -/
section
set_option maxRecDepth 100000
namespace Go.Proofs.YtlgjbcmloochiaaGreatDoor
open Go.RowKit Go.ChangeShapes Go.WideShapes
namespace Rc
open Bit Dsk Ob Dig
set_option linter.unusedVariables false

abbrev All : Nat → Prop := fun _ => True
/-- A sample's cells. -/
abbrev RS := Rw.Sl × Int × Nat
def layS : Rw.Lay RS := ⟨3, by decide, fun x => [x.1.v, .int .i64 x.2.1, .int .u64 (x.2.2 : Int)], fun _ => rfl, fun x u hu => by
  simp only [List.mem_cons, List.not_mem_nil, or_false] at hu
  rcases hu with rfl | rfl | rfl <;> rfl⟩
def innS : Rw.Inner RS Smp where
  rel w S a b := a.2.1 = b.2.1 ∧ a.2.2 = b.2.2 ∧ Lb.View w S a.1.v b.1
  upon h hu hd := ⟨h.1, h.2.1, Rw.View.upon h.2.2 hu hd⟩
  mono h hS := ⟨h.1, h.2.1, Rw.View.mono h.2.2 hS⟩
theorem typS : Rw.Typ layS 47 123 40 := Rw.Typ.mk' (z := .agg #[.slice none 0 0, .int .i64 0, .int .u64 0]) Tryz.underlying47 (by kernel_rfl) rfl
/-- v reads as the samples l. -/
abbrev SView := Rw.DView layS innS
theorem SView.cells {w : World} {S : Nat → Prop} {A : Option Addr} {n c : Nat} {l : List Smp} (h : SView w S (.slice A n c) l) (hp : 0 < l.length) : ∃ b off, A = some ⟨b, off, none⟩ ∧ b < w.heap.size ∧
    ∀ i (hi : i < l.length), ∃ s : Rw.Sl, Lb.View w S s.v l[i].1 ∧ w.cell? ⟨b, off + i * 3, none⟩ = some s.v ∧ w.cell? ⟨b, off + i * 3 + 1, none⟩ = some (.int .i64 l[i].2.1) ∧ w.cell? ⟨b, off + i * 3 + 2, none⟩ = some (.int .u64 (l[i].2.2 : Int)) := by
  obtain ⟨b, off, h1, h2, h3⟩ := Rw.DView.open h hp
  refine ⟨b, off, h1, h2, fun i hi => ?_⟩
  obtain ⟨⟨s, t, u⟩, ⟨k1, k2, k3⟩, k4⟩ := h3 i hi
  simp only at k1 k2
  subst k1 k2
  exact ⟨s, k3, k4 0 _ rfl, k4 1 _ rfl, k4 2 _ rfl⟩
def BndS (x : Smp) : Prop := Lb.Sml x.1 ∧ x.1.length * 32 ≤ 140737488351232 ∧ -9223372036854775808 ≤ x.2.1 ∧ x.2.1 ≤ 9223372036854775807 ∧ x.2.2 < 18446744073709551616
structure Bnd (r : R) : Prop where
  kind : -9223372036854775808 ≤ r.kind ∧ r.kind ≤ 9223372036854775807
  smp : ∀ x ∈ r.smp, BndS x
  ms : Mt.Bnd r.ms
  frm : -9223372036854775808 ≤ r.frm ∧ r.frm ≤ 9223372036854775807
  til : -9223372036854775808 ≤ r.til ∧ r.til ≤ 9223372036854775807
/-- A record's cells. -/
abbrev rv (k : Int) (s m : Rw.Sl) (a b : Int) : Value := .agg #[.int .i64 k, s.v, m.v, .int .i64 a, .int .i64 b]
/-- v reads as the record r. -/
def RView (w : World) (S : Nat → Prop) (v : Value) (r : R) : Prop := ∃ s m : Rw.Sl, v = rv r.kind s m r.frm r.til ∧ SView w S s.v r.smp ∧ Mt.View w S m.v r.ms
theorem RView.upon {w w' : World} {S T : Nat → Prop} {v : Value} {r : R} (h : RView w S v r) (hu : Upon T w w') (hd : ∀ b, S b → ¬ T b) : RView w' S v r :=
  let ⟨s, m, h1, h2, h3⟩ := h
  ⟨s, m, h1, Rw.DView.upon h2 hu hd, Rw.View.upon h3 hu hd⟩
theorem RView.new {w w' : World} {S : Nat → Prop} {v : Value} {r : R} (h : RView w S v r) (hu : New0 w w') : RView w' S v r := h.upon hu fun _ _ f => f
theorem RView.mono {w : World} {S S' : Nat → Prop} {v : Value} {r : R} (h : RView w S v r) (hS : ∀ b, b < w.heap.size → S b → S' b) : RView w S' v r :=
  let ⟨s, m, h1, h2, h3⟩ := h
  ⟨s, m, h1, Rw.DView.mono h2 hS, Rw.View.mono h3 hS⟩
theorem RView.all {w : World} {S : Nat → Prop} {v : Value} {r : R} (h : RView w S v r) : RView w All v r := h.mono fun _ _ _ => trivial
theorem RView.shape {w : World} {S : Nat → Prop} {v : Value} {r : R} (h : RView w S v r) : ∃ A c A' c', v = .agg #[.int .i64 r.kind, .slice A r.smp.length c, .slice A' r.ms.length c', .int .i64 r.frm, .int .i64 r.til] ∧ SView w S (.slice A r.smp.length c) r.smp ∧ Mt.View w S (.slice A' r.ms.length c') r.ms := by
  obtain ⟨⟨sa, sn, sc⟩, ⟨ma, mn, mc⟩, h1, h2, h3⟩ := h
  obtain ⟨A, c, e, -, -⟩ := Rw.DView.shape h2
  obtain ⟨A', c', e', -, -⟩ := Rw.View.shape h3
  injection e with e1 e2 e3
  injection e' with f1 f2 f3
  subst e1 e2 e3 f1 f2 f3
  exact ⟨_, _, _, _, h1, h2, h3⟩
end Rc
end Go.Proofs.YtlgjbcmloochiaaGreatDoor
end

/- A record, a sample among the arguments, opened (layer 12). -/
section
set_option maxRecDepth 100000
namespace Go.Proofs.YtlgjbcmloochiaaGreatDoor
open Go.RowKit Go.ChangeShapes Go.WideShapes
namespace Rc
open Bit Dsk Ob Dig
set_option linter.unusedVariables false

theorem list_of {α β : Type} {P : α → β → Prop} : ∀ {rs : List α}, (∀ a ∈ rs, ∃ b, P a b) → ∃ l : List β, rs.length = l.length ∧ ∀ i (h1 : i < rs.length) (h2 : i < l.length), P rs[i] l[i]
  | [], _ => ⟨[], rfl, fun i h => absurd h (by simp)⟩
  | a :: rs, h => by
    obtain ⟨b, hb⟩ := h a (by simp)
    obtain ⟨l, h1, h2⟩ := list_of (rs := rs) fun x hx => h x (by simp [hx])
    refine ⟨b :: l, by simp [h1], fun i k1 k2 => ?_⟩
    cases i with
    | zero => exact hb
    | succ i => exact h2 i (by simpa using k1) (by simpa using k2)
theorem litu64 {k : Int} (h : (Lit.int .u64 k).wf = true) : 0 ≤ k ∧ k ≤ 18446744073709551615 := by
  simp [Lit.wf, IntKind.min, IntKind.max, IntKind.signed, IntKind.bits] at h
  exact ⟨by omega, by omega⟩
section
variable {H : Type} {enc : TypeId × Value → H} {W : World}
theorem open_pr {fuel : Nat} {cs : List Value} {d : DataW H} {p : List MemPlace} (hl : cs.length = 2) (h : DataW.trod enc Tryz.prog W 0 (fun _ => true) true fuel 72 cs = some (d, p)) : ∃ a : Lb.Pr, cs = Lb.layPr.enc a ∧ (a.1.size ≤ 9223372036854775807 ∧ a.2.size ≤ 9223372036854775807) := by
  have cs' : Tryz.prog.cellsOf 9 = 1 := by kernel_rfl
  obtain ⟨xs, k, hk, hxy, _, hxl, hfd⟩ := DataW.trod_struct Tryz.underlying72 h
  match xs, hxl, cs, hl with
  | [y0, y1], _, [v0, v1], _ =>
    have g0 := hfd 0 _ rfl
    have g1 := hfd 1 _ rfl
    simp [cs'] at g0 g1
    obtain ⟨s1, e1, _, z1⟩ := DataW.trod_string Tryz.underlying9 g0
    obtain ⟨s2, e2, _, z2⟩ := DataW.trod_string Tryz.underlying9 g1
    obtain rfl := (List.cons.inj e1).1
    obtain rfl := (List.cons.inj e2).1
    unfold maxLen at z1 z2
    exact ⟨(s1, s2), rfl, by simp only; omega, by simp only; omega⟩
theorem open_labels {fuel : Nat} {cs : List Value} {d : DataW H} {p : List MemPlace} (h : DataW.trod enc Tryz.prog W 0 (fun _ => true) true fuel 63 cs = some (d, p)) (hz : ∀ n ∈ d.weights Tryz.prog 63, n ≤ 140737488351232) :
    ∃ (s : Rw.Sl) (l : List Lb.Pr), cs = [s.v] ∧ Lb.View W All s.v l ∧ Lb.Sml l ∧ l.length * 32 ≤ 140737488351232 := by
  obtain ⟨A, n, c, l, h1, h2, h3, h4⟩ := Rw.open_rowC (L := Lb.layPr) (G := fun a => a.1.size ≤ 9223372036854775807 ∧ a.2.size ≤ 9223372036854775807) Tryz.underlying63 (by kernel_rfl) (by kernel_rfl) (fun _ _ _ _ hl h _ => open_pr hl h) h hz
  exact ⟨⟨A, n, c⟩, l, h1, h2, h3, h4⟩
/-- What a sample's cells read as. -/
def SmpG (W : World) (a : RS) : Prop := ∃ x : Smp, innS.rel W All a x ∧ BndS x
theorem open_smp {fuel : Nat} {cs : List Value} {d : DataW H} {p : List MemPlace} (hl : cs.length = 3) (h : DataW.trod enc Tryz.prog W 0 (fun _ => true) true fuel 123 cs = some (d, p)) (hz : ∀ n ∈ d.weights Tryz.prog 123, n ≤ 140737488351232) : ∃ a : RS, cs = layS.enc a ∧ SmpG W a := by
  have c0 : Tryz.prog.cellsOf 63 = 1 := by kernel_rfl
  have c1 : Tryz.prog.cellsOf 2 = 1 := by kernel_rfl
  have c2 : Tryz.prog.cellsOf 53 = 1 := by kernel_rfl
  obtain ⟨xs, k, hk, hxy, _, hxl, hfd⟩ := DataW.trod_struct Tryz.underlying123 h
  match xs, hxl, cs, hl with
  | [y0, y1, y2], _, [v0, v1, v2], _ =>
    have g0 := hfd 0 _ rfl
    have g1 := hfd 1 _ rfl
    have g2 := hfd 2 _ rfl
    simp [c0, c1, c2] at g0 g1 g2
    have hd := (Prod.mk.inj hxy).1
    have hz0 : ∀ n ∈ y0.1.weights Tryz.prog 63, n ≤ 140737488351232 := fun n hn => hz n (by
      rw [hd]
      exact Rw.weights_part (j := 0) (e := 63) (d := y0.1) Tryz.underlying123 rfl rfl hn)
    obtain ⟨s, l, e0, hv, hsm, hlen⟩ := open_labels (d := y0.1) (p := y0.2) g0 hz0
    obtain ⟨t, e1, _, w1⟩ := DataW.trod_int Tryz.underlying2 g1
    obtain ⟨u, e2, _, w2⟩ := DataW.trod_int Tryz.underlying53 g2
    obtain rfl := (List.cons.inj e0).1
    obtain rfl := (List.cons.inj e1).1
    obtain rfl := (List.cons.inj e2).1
    have ht := Mt.lit64 w1
    have hu := litu64 w2
    obtain ⟨un, rfl⟩ : ∃ un : Nat, u = (un : Int) := ⟨u.toNat, by omega⟩
    exact ⟨(s, t, un), rfl, (l, t, un), ⟨rfl, rfl, hv⟩, hsm, hlen, ht.1, ht.2, by simp only; omega⟩
theorem open_smps {fuel : Nat} {cs : List Value} {d : DataW H} {p : List MemPlace} (h : DataW.trod enc Tryz.prog W 0 (fun _ => true) true fuel 47 cs = some (d, p)) (hz : ∀ n ∈ d.weights Tryz.prog 47, n ≤ 140737488351232) :
    ∃ (s : Rw.Sl) (l : List Smp), cs = [s.v] ∧ SView W All s.v l ∧ (∀ x ∈ l, BndS x) ∧ l.length * 40 ≤ 140737488351232 := by
  obtain ⟨A, n, c, rs, h1, h2, h3, h4⟩ := Rw.open_rowC (L := layS) (G := SmpG W) Tryz.underlying47 (by kernel_rfl) (by kernel_rfl) (fun _ _ _ _ hl h hz => open_smp hl h hz) h hz
  obtain ⟨l, hl, hall⟩ := list_of (P := fun a x => innS.rel W All a x ∧ BndS x) h3
  refine ⟨⟨A, n, c⟩, l, h1, ⟨rs, h2, hl, fun i k1 k2 => (hall i k1 k2).1⟩, fun x hx => ?_, by rw [← hl]; exact h4⟩
  obtain ⟨i, hi, rfl⟩ := List.mem_iff_getElem.1 hx
  exact (hall i (by omega) hi).2
theorem open_mss {fuel : Nat} {cs : List Value} {d : DataW H} {p : List MemPlace} (h : DataW.trod enc Tryz.prog W 0 (fun _ => true) true fuel 48 cs = some (d, p)) (hz : ∀ n ∈ d.weights Tryz.prog 48, n ≤ 140737488351232) :
    ∃ (s : Rw.Sl) (l : List Mt.M), cs = [s.v] ∧ Mt.View W All s.v l ∧ Mt.Bnd l ∧ l.length * 40 ≤ 140737488351232 := by
  obtain ⟨A, n, c, l, h1, h2, h3, h4⟩ := Rw.open_rowC (L := Mt.layM) (G := Mt.Bnd1) Tryz.underlying48 (by kernel_rfl) (by kernel_rfl) (fun _ _ _ _ hl h _ => Mt.open_m hl h) h hz
  exact ⟨⟨A, n, c⟩, l, h1, h2, h3, h4⟩
end
end Rc
end Go.Proofs.YtlgjbcmloochiaaGreatDoor
end

/- The document's own records (layer 12): Check. -/
section
set_option maxRecDepth 100000
namespace Go.Proofs.YtlgjbcmloochiaaGreatDoor
open Go.RowKit Go.Sort
namespace Rc
open Bit Dsk Ob Dig
set_option linter.unusedVariables false

/-- A record in a box: its five cells. -/
structure Box5 (g : Nat) (k : Int) (s m : Value) (a b : Int) (w : World) : Prop where
  c0 : w.cell? ⟨g, 0, none⟩ = some (.int .i64 k)
  c1 : w.cell? ⟨g, 1, none⟩ = some s
  c2 : w.cell? ⟨g, 2, none⟩ = some m
  c3 : w.cell? ⟨g, 3, none⟩ = some (.int .i64 a)
  c4 : w.cell? ⟨g, 4, none⟩ = some (.int .i64 b)
theorem Box5.new {g : Nat} {k : Int} {s m : Value} {a b : Int} {w w' : World} (h : Box5 g k s m a b w) (hu : New0 w w') : Box5 g k s m a b w' :=
  ⟨Lb.New0.cells hu h.c0, Lb.New0.cells hu h.c1, Lb.New0.cells hu h.c2, Lb.New0.cells hu h.c3, Lb.New0.cells hu h.c4⟩
theorem box5 (w : World) (k : Int) (s m : Value) (a b : Int) : Box5 w.heap.size k s m a b (w.alloc (.cells #[.int .i64 k, s, m, .int .i64 a, .int .i64 b] 50 (0, 0))) := by
  have h := cell_new w (.cells #[.int .i64 k, s, m, .int .i64 a, .int .i64 b] 50 (0, 0))
  exact ⟨by rw [Lib.cell_of_heap h]; rfl, by rw [Lib.cell_of_heap h]; rfl, by rw [Lib.cell_of_heap h]; rfl, by rw [Lib.cell_of_heap h]; rfl, by rw [Lib.cell_of_heap h]; rfl⟩
/-- The first j samples' labels are right. -/
def GoodL (l : List Smp) (j : Nat) : Prop := ∀ i (h : i < l.length), i < j → Lb.Ok l[i].1
theorem GoodL.start (l : List Smp) : GoodL l 0 := fun i _ h => absurd h (Nat.not_lt_zero i)
theorem GoodL.step {l : List Smp} {j : Nat} (h : GoodL l j) (hj : j < l.length) (ho : Lb.Ok l[j].1) : GoodL l (j + 1) := fun i hi h2 => by
  by_cases e : i = j
  · subst e; exact ho
  · exact h i hi (by omega)
theorem GoodL.last {l : List Smp} {j : Nat} (h : GoodL l j) (hj : ¬ j < l.length) : ¬ ∃ x ∈ l, ¬ Lb.Ok x.1 := fun ⟨x, hx, hn⟩ => by
  obtain ⟨i, hi, rfl⟩ := List.mem_iff_getElem.1 hx
  exact hn (h i hi (by omega))
set_option maxHeartbeats 6400000 in
theorem refcheck_any (w : World) (S : Nat → Prop) (v : Value) (r : R) (hv : RView w S v r) (hb : Bnd r) :
    Calls Tryz.prog 45 #[v] w fun e w' => e = .returned (.int .i64 (chk r : Int)) ∧ New0 w w' := by
  obtain ⟨A, c, A', c', rfl, hs, hm⟩ := RView.shape hv
  obtain ⟨k, l, ms, a, b⟩ := r
  simp only at hs hm ⊢
  have hB := box5 w k (.slice A l.length c) (.slice A' ms.length c') a b
  have hU := Lib.hid ((Upon.refl (fun _ => False) w).alloc (.cells #[.int .i64 k, .slice A l.length c, .slice A' ms.length c', .int .i64 a, .int .i64 b] 50 (0, 0)))
  have HC := Lib.hid (fun w1 (hu : New0 w w1) => Mt.refcheck_any w1 S _ ms (Rw.View.new hm hu) hb.ms)
  have HL := Lib.hid (fun w1 (hu : New0 w w1) x s (hx : Lb.View w S s x) (hsm : Lb.Sml x) => Lb.refcheck_any w1 S s x (Rw.View.new hx hu) hsm)
  have hsml : Hid (∀ x ∈ l, Lb.Sml x.1) := Lib.hid (fun x hx => (hb.smp x hx).1)
  replace hs := Lib.hid hs
  clear hm hv hb
  by_cases h1 : k = 1
  · subst h1
    have n1 : ¬ noKind ⟨1, l, ms, a, b⟩ := fun h => h.1 rfl
    by_cases c1 : 0 < ms.length
    · have hR : Hid ((3 : Int) = (chk ⟨1, l, ms, a, b⟩ : Int)) := Lib.hid (by rw [chk_field n1 (.inl ⟨rfl, .inl (fun e => by rw [show ms = [] from e] at c1; simp at c1)⟩)]; rfl)
      have d1 : (0 : Int) < (ms.length : Int) := by omega
      clear HC HL hsml hB n1 hs
      go_enter Tryz.func45, Tryz.ntmps45
      go_wp2_with fail
      go_ret
      exact ⟨Lb.ret_i hR.out, hU.out⟩
    have hms : ms = [] := by cases ms with | nil => rfl | cons x y => simp at c1
    subst hms
    simp only [List.length_nil] at hB hU HC
    by_cases c2 : a = 0
    · by_cases c3 : b = 0
      · subst c2 c3
        have n2 : ¬ strange ⟨1, l, [], 0, 0⟩ := by
          rintro (⟨-, h⟩ | ⟨h, -⟩)
          · rcases h with h | h | h
            · exact h rfl
            · exact h rfl
            · exact h rfl
          · exact h rfl
        by_cases c4 : l.length < 1
        · have hR : Hid ((2 : Int) = (chk ⟨1, l, [], 0, 0⟩ : Int)) := Lib.hid (by rw [chk_range n1 n2 ⟨rfl, .inl c4⟩]; rfl)
          have d2 : (l.length : Int) < 1 := by omega
          clear HC HL hsml hB n1 n2 hs 
          go_enter Tryz.func45, Tryz.ntmps45
          go_wp2_with fail
          go_ret
          exact ⟨Lb.ret_i hR.out, hU.out⟩
        by_cases c5 : 32 < l.length
        · have hR : Hid ((2 : Int) = (chk ⟨1, l, [], 0, 0⟩ : Int)) := Lib.hid (by rw [chk_range n1 n2 ⟨rfl, .inr c5⟩]; rfl)
          have d2 : ¬ (l.length : Int) < 1 := by omega
          have d3 : (32 : Int) < (l.length : Int) := by omega
          clear HC HL hsml hB n1 n2 hs 
          go_enter Tryz.func45, Tryz.ntmps45
          go_wp2_with fail
          go_ret
          exact ⟨Lb.ret_i hR.out, hU.out⟩
        have n3 : ¬ manyB ⟨1, l, [], 0, 0⟩ := by
          rintro ⟨-, h | h⟩
          · exact c4 h
          · exact c5 h
        have d2 : ¬ (l.length : Int) < 1 := by omega
        have d3 : ¬ (32 : Int) < (l.length : Int) := by omega
        have hm0 : Mt.chk [] = 0 := rfl
        rw [hm0] at HC
        have hbad : Hid (badL ⟨1, l, [], 0, 0⟩ → (16 : Int) = (chk ⟨1, l, [], 0, 0⟩ : Int)) := Lib.hid (fun h => by rw [chk_label n1 n2 n3 h]; rfl)
        have hgood : Hid (¬ badL ⟨1, l, [], 0, 0⟩ → (0 : Int) = (chk ⟨1, l, [], 0, 0⟩ : Int)) := Lib.hid (fun h => by rw [chk_right n1 n2 n3 h hm0 (Int.lt_irrefl 0)]; rfl)
        obtain ⟨q, hq⟩ : ∃ q, (chk ⟨1, l, [], 0, 0⟩ : Int) = q := ⟨_, rfl⟩
        rw [hq] at hbad hgood ⊢
        obtain ⟨b0, off, rfl, -, hcells⟩ := SView.cells hs.out (by omega)
        replace hcells := Lib.hid hcells
        have hfew : l.length ≤ 32 := by omega
        clear n1 n2 n3  hm0 hq hs c4 c5
        obtain ⟨wb, hwb⟩ : ∃ wb, w.alloc (.cells #[.int .i64 1, .slice (some ⟨b0, off, none⟩) l.length c, .slice A' 0 c', .int .i64 0, .int .i64 0] 50 (0, 0)) = wb := ⟨_, rfl⟩
        rw [hwb] at hB hU
        replace hwb := Lib.hid hwb
        replace hB := Lib.hid hB
        go_enter Tryz.func45, Tryz.ntmps45
        go_wp2_with fail
        rw [hwb.out]
        clear hwb d2 d3
        go_loopw [4] (fun ov wr => ∃ j : Nat, ov = .int .i64 (j : Int) ∧ j ≤ l.length ∧ Hid (GoodL l j) ∧ Hid (New0 wb wr)) (fun ov _ => l.length - (intOf ov).toNat)
        case atStart => exact ⟨0, rfl, Nat.zero_le _, Lib.hid (GoodL.start l), Lib.hid (Upon.refl _ _)⟩
        case round =>
          obtain ⟨j, rfl, hj, hg, hu⟩ := hrel
          obtain ⟨k0, k1, k2, k3, k4⟩ := hB.out.new hu.out
          by_cases hlt : j < l.length
          · obtain ⟨s, hsv, x0, -, -⟩ := hcells.out j hlt
            have r0 := Lb.New0.cells (hU.out.trans hu.out) x0
            have HL1 := Lib.hid (HL.out _ (hU.out.trans hu.out) _ _ hsv (hsml.out _ (List.getElem_mem hlt)))
            by_cases hok : Lb.Ok l[j].1
            · have hG := Lib.hid (hg.out.step hlt hok)
              rw [Lb.chk_ok hok] at HL1
              clear x0 hsv hg hok
              go_wp2_with fail
              refine HL1.out.mono ?_
              rintro e w2 ⟨rfl, n2, rfl⟩
              have hu2 := Lib.hid (hu.out.trans (upon_drewN _ wr n2))
              clear HL1 hu r0 k0 k1 k2 k3 k4
              go_wp2_with fail
              go_roundw
              case rel => exact ⟨j + 1, by go_num, hlt, hG, hu2⟩
              case measure => simp [intOf]; omega
            · have hR := Lib.hid (hbad.out ⟨_, List.getElem_mem hlt, hok⟩)
              rw [Lb.chk_no hok] at HL1
              clear x0 hsv hg hok
              go_wp2_with fail
              refine HL1.out.mono ?_
              rintro e w2 ⟨rfl, n2, rfl⟩
              have hu2 := Lib.hid (hU.out.trans (hu.out.trans (upon_drewN _ wr n2)))
              clear HL1 hu r0 k0 k1 k2 k3 k4
              go_wp2_with fail
              go_ret
              exact ⟨Lb.ret_i hR.out, hu2.out⟩
          · have hR := Lib.hid (hgood.out (hg.out.last hlt))
            have HC1 := Lib.hid (HC.out _ (hU.out.trans hu.out))
            clear hg hcells HL HC
            go_wp2_with fail
            refine HC1.out.mono ?_
            rintro e w2 ⟨rfl, hu2⟩
            obtain ⟨g0, g1, g2, g3, g4⟩ := (hB.out.new hu.out).new hu2
            have hend := Lib.hid ((hU.out.trans hu.out).trans hu2)
            clear HC1 hu hu2 k0 k1 k2 k3 k4
            go_wp2_with fail
            go_ret
            exact ⟨Lb.ret_i hR.out, hend.out⟩
      · have hR : Hid ((3 : Int) = (chk ⟨1, l, [], a, b⟩ : Int)) := Lib.hid (by rw [chk_field n1 (.inl ⟨rfl, .inr (.inr c3)⟩)]; rfl)
        have d2 : (b != 0) = true := by rw [bne_iff_ne]; exact c3
        subst c2
        clear HC HL hsml hB n1 hs c3  c1
        go_enter Tryz.func45, Tryz.ntmps45
        go_wp2_with fail
        go_ret
        exact ⟨Lb.ret_i hR.out, hU.out⟩
    · have hR : Hid ((3 : Int) = (chk ⟨1, l, [], a, b⟩ : Int)) := Lib.hid (by rw [chk_field n1 (.inl ⟨rfl, .inr (.inl c2)⟩)]; rfl)
      have d2 : (a != 0) = true := by rw [bne_iff_ne]; exact c2
      clear HC HL hsml hB n1 hs c2  c1
      go_enter Tryz.func45, Tryz.ntmps45
      go_wp2_with fail
      go_ret
      exact ⟨Lb.ret_i hR.out, hU.out⟩
  · have e1 : (k == 1) = false := by rw [beq_eq_false_iff_ne]; exact h1
    by_cases h2 : k = 2
    · subst h2
      have n1 : ¬ noKind ⟨2, l, ms, a, b⟩ := fun h => h.2 rfl
      by_cases c1 : 0 < l.length
      · have hR : Hid ((3 : Int) = (chk ⟨2, l, ms, a, b⟩ : Int)) := Lib.hid (by rw [chk_field n1 (.inr ⟨h1, (fun e => by rw [show l = [] from e] at c1; simp at c1)⟩)]; rfl)
        have d1 : (0 : Int) < (l.length : Int) := by omega
        clear HC HL hsml hB n1 hs
        go_enter Tryz.func45, Tryz.ntmps45
        go_wp2_with fail
        go_ret
        exact ⟨Lb.ret_i hR.out, hU.out⟩
      have hl : l = [] := by cases l with | nil => rfl | cons x y => simp at c1
      subst hl
      simp only [List.length_nil] at hB hU
      have n2 : ¬ strange ⟨2, [], ms, a, b⟩ := by
        rintro (⟨h, -⟩ | ⟨-, h⟩)
        · exact h1 h
        · exact h rfl
      have n3 : ¬ manyB ⟨2, [], ms, a, b⟩ := fun h => h1 h.1
      have n4 : ¬ badL ⟨2, [], ms, a, b⟩ := fun ⟨x, hx, _⟩ => by cases hx
      obtain ⟨wb, hwb⟩ : ∃ wb, w.alloc (.cells #[.int .i64 2, .slice A 0 c, .slice A' ms.length c', .int .i64 a, .int .i64 b] 50 (0, 0)) = wb := ⟨_, rfl⟩
      rw [hwb] at hB hU
      obtain ⟨k0, k1, k2, k3, k4⟩ := hB
      have HC1 := Lib.hid (HC.out _ hU.out)
      replace hwb := Lib.hid hwb
      have hB2 : Hid (∀ w', New0 wb w' → w'.cell? ⟨w.heap.size, 3, none⟩ = some (.int .i64 a) ∧ w'.cell? ⟨w.heap.size, 4, none⟩ = some (.int .i64 b)) := Lib.hid (fun w' hu => ⟨Lb.New0.cells hu k3, Lb.New0.cells hu k4⟩)
      by_cases hm : Mt.chk ms = 0
      · rw [hm] at HC1
        by_cases hab : b < a
        · have hR : Hid ((9 : Int) = (chk ⟨2, [], ms, a, b⟩ : Int)) := Lib.hid (by rw [chk_order n1 n2 n3 n4 hm hab]; rfl)
          clear n1 n2 n3 n4 hm HC HL hsml hs k0 k1 k2 k3 k4
          go_enter Tryz.func45, Tryz.ntmps45
          go_wp2_with fail
          go_loopw [4] (fun ov wr => ov = .int .i64 0 ∧ wr = w.alloc (.cells #[.int .i64 2, .slice A 0 c, .slice A' ms.length c', .int .i64 a, .int .i64 b] 50 (0, 0))) (fun _ _ => 0)
          case atStart => exact ⟨rfl, rfl⟩
          case round =>
            obtain ⟨rfl, rfl⟩ := hrel
            go_wp2_with fail
            rw [hwb.out]
            refine HC1.out.mono ?_
            rintro e w2 ⟨rfl, hu2⟩
            obtain ⟨g3, g4⟩ := hB2.out _ hu2
            have hend := Lib.hid (hU.out.trans hu2)
            clear HC1 hB2 hu2 hwb
            go_wp2_with fail
            go_ret
            exact ⟨Lb.ret_i hR.out, hend.out⟩
        · have hR : Hid ((0 : Int) = (chk ⟨2, [], ms, a, b⟩ : Int)) := Lib.hid (by rw [chk_right n1 n2 n3 n4 hm hab]; rfl)
          clear n1 n2 n3 n4 hm HC HL hsml hs k0 k1 k2 k3 k4
          go_enter Tryz.func45, Tryz.ntmps45
          go_wp2_with fail
          go_loopw [4] (fun ov wr => ov = .int .i64 0 ∧ wr = w.alloc (.cells #[.int .i64 2, .slice A 0 c, .slice A' ms.length c', .int .i64 a, .int .i64 b] 50 (0, 0))) (fun _ _ => 0)
          case atStart => exact ⟨rfl, rfl⟩
          case round =>
            obtain ⟨rfl, rfl⟩ := hrel
            go_wp2_with fail
            rw [hwb.out]
            refine HC1.out.mono ?_
            rintro e w2 ⟨rfl, hu2⟩
            obtain ⟨g3, g4⟩ := hB2.out _ hu2
            have hend := Lib.hid (hU.out.trans hu2)
            clear HC1 hB2 hu2 hwb
            go_wp2_with fail
            go_ret
            exact ⟨Lb.ret_i hR.out, hend.out⟩
      · have hR : Hid ((Mt.chk ms : Int) = (chk ⟨2, [], ms, a, b⟩ : Int)) := Lib.hid (by rw [chk_match n1 n2 n3 n4 hm])
        obtain ⟨z, hz⟩ : ∃ z, Mt.chk ms = z := ⟨_, rfl⟩
        rw [hz] at HC1 hm hR
        have dz : ((z : Int) == 0) = false := by rw [beq_eq_false_iff_ne]; omega
        clear n1 n2 n3 n4 hz HC HL hsml hs k0 k1 k2 k3 k4 hm
        go_enter Tryz.func45, Tryz.ntmps45
        go_wp2_with fail
        go_loopw [4] (fun ov wr => ov = .int .i64 0 ∧ wr = w.alloc (.cells #[.int .i64 2, .slice A 0 c, .slice A' ms.length c', .int .i64 a, .int .i64 b] 50 (0, 0))) (fun _ _ => 0)
        case atStart => exact ⟨rfl, rfl⟩
        case round =>
          obtain ⟨rfl, rfl⟩ := hrel
          go_wp2_with fail
          rw [hwb.out]
          refine HC1.out.mono ?_
          rintro e w2 ⟨rfl, hu2⟩
          have hend := Lib.hid (hU.out.trans hu2)
          clear HC1 hB2 hu2 hwb
          go_wp2_with fail
          go_ret
          exact ⟨Lb.ret_i hR.out, hend.out⟩
    · have e2 : (k != 2) = true := by rw [bne_iff_ne]; exact h2
      have hR : Hid ((5 : Int) = (chk ⟨k, l, ms, a, b⟩ : Int)) := Lib.hid (by rw [chk_kind ⟨h1, h2⟩]; rfl)
      clear HC HL hsml hB hs h1 h2
      go_enter Tryz.func45, Tryz.ntmps45
      go_wp2_with fail
      go_ret
      exact ⟨Lb.ret_i hR.out, hU.out⟩
end Rc
end Go.Proofs.YtlgjbcmloochiaaGreatDoor
end

/- Objects for the document's Decode (layer 12): a record in a box, a row of samples, the labels' rows. -/
section
set_option maxRecDepth 100000
namespace Go.Proofs.YtlgjbcmloochiaaGreatDoor
open Go.RowKit Go.Sort
namespace Rc
open Bit Dsk Ob Dig Lb
set_option linter.unusedVariables false

/-- Five cells in a block. -/
structure Fv where
  a : Value
  b : Value
  c : Value
  d : Value
  e : Value
def Five (T : TypeId) (g : Nat) (v : Fv) (w : World) : Prop := w.heap[g]? = some (.cells #[v.a, v.b, v.c, v.d, v.e] T (0, 0))
theorem Five.cells {T : TypeId} {g : Nat} {v : Fv} {w : World} (h : Five T g v w) : w.cell? ⟨g, 0, none⟩ = some v.a ∧ w.cell? ⟨g, 1, none⟩ = some v.b ∧ w.cell? ⟨g, 2, none⟩ = some v.c ∧ w.cell? ⟨g, 3, none⟩ = some v.d ∧ w.cell? ⟨g, 4, none⟩ = some v.e :=
  ⟨by rw [Lib.cell_of_heap h]; rfl, by rw [Lib.cell_of_heap h]; rfl, by rw [Lib.cell_of_heap h]; rfl, by rw [Lib.cell_of_heap h]; rfl, by rw [Lib.cell_of_heap h]; rfl⟩
theorem Five.frozen {T : TypeId} {g : Nat} {v : Fv} {w : World} (h : Five T g v w) (i : Nat) : w.frozen? ⟨g, i, none⟩ = false := by
  unfold Five at h
  simp [World.frozen?, h]
theorem Five.set0 {T : TypeId} {g : Nat} {v : Fv} {w : World} (h : Five T g v w) (x : Value) : Five T g { v with a := x } (w.setCell ⟨g, 0, none⟩ x) := by unfold Five at *; simp [World.setCell, Array.getElem?_modify, h]
theorem Five.set1 {T : TypeId} {g : Nat} {v : Fv} {w : World} (h : Five T g v w) (x : Value) : Five T g { v with b := x } (w.setCell ⟨g, 1, none⟩ x) := by unfold Five at *; simp [World.setCell, Array.getElem?_modify, h]
theorem Five.set2 {T : TypeId} {g : Nat} {v : Fv} {w : World} (h : Five T g v w) (x : Value) : Five T g { v with c := x } (w.setCell ⟨g, 2, none⟩ x) := by unfold Five at *; simp [World.setCell, Array.getElem?_modify, h]
theorem Five.set3 {T : TypeId} {g : Nat} {v : Fv} {w : World} (h : Five T g v w) (x : Value) : Five T g { v with d := x } (w.setCell ⟨g, 3, none⟩ x) := by unfold Five at *; simp [World.setCell, Array.getElem?_modify, h]
theorem Five.set4 {T : TypeId} {g : Nat} {v : Fv} {w : World} (h : Five T g v w) (x : Value) : Five T g { v with e := x } (w.setCell ⟨g, 4, none⟩ x) := by unfold Five at *; simp [World.setCell, Array.getElem?_modify, h]
/-- All five, written one after the other. -/
def setFive (g : Nat) (v : Fv) (w : World) : World := ((((w.setCell ⟨g, 0, none⟩ v.a).setCell ⟨g, 1, none⟩ v.b).setCell ⟨g, 2, none⟩ v.c).setCell ⟨g, 3, none⟩ v.d).setCell ⟨g, 4, none⟩ v.e
theorem Five.setAll {T : TypeId} {g : Nat} {v : Fv} {w : World} (h : Five T g v w) (x : Fv) : Five T g x (setFive g x w) := ((((h.set0 x.a).set1 x.b).set2 x.c).set3 x.d).set4 x.e
/-- What a walk that writes all five asks. -/
theorem Five.roads {T : TypeId} {g : Nat} {v : Fv} {w : World} (h : Five T g v w) (x : Fv) :
    ((w.setCell ⟨g, 0, none⟩ x.a).cell? ⟨g, 1, none⟩ = some v.b ∧ (w.setCell ⟨g, 0, none⟩ x.a).frozen? ⟨g, 1, none⟩ = false) ∧
    (((w.setCell ⟨g, 0, none⟩ x.a).setCell ⟨g, 1, none⟩ x.b).cell? ⟨g, 2, none⟩ = some v.c ∧ ((w.setCell ⟨g, 0, none⟩ x.a).setCell ⟨g, 1, none⟩ x.b).frozen? ⟨g, 2, none⟩ = false) ∧
    ((((w.setCell ⟨g, 0, none⟩ x.a).setCell ⟨g, 1, none⟩ x.b).setCell ⟨g, 2, none⟩ x.c).cell? ⟨g, 3, none⟩ = some v.d ∧ (((w.setCell ⟨g, 0, none⟩ x.a).setCell ⟨g, 1, none⟩ x.b).setCell ⟨g, 2, none⟩ x.c).frozen? ⟨g, 3, none⟩ = false) ∧
    (((((w.setCell ⟨g, 0, none⟩ x.a).setCell ⟨g, 1, none⟩ x.b).setCell ⟨g, 2, none⟩ x.c).setCell ⟨g, 3, none⟩ x.d).cell? ⟨g, 4, none⟩ = some v.e ∧ ((((w.setCell ⟨g, 0, none⟩ x.a).setCell ⟨g, 1, none⟩ x.b).setCell ⟨g, 2, none⟩ x.c).setCell ⟨g, 3, none⟩ x.d).frozen? ⟨g, 4, none⟩ = false) := by
  have h1 := h.set0 x.a
  have h2 := h1.set1 x.b
  have h3 := h2.set2 x.c
  have h4 := h3.set3 x.d
  exact ⟨⟨h1.cells.2.1, h1.frozen 1⟩, ⟨h2.cells.2.2.1, h2.frozen 2⟩, ⟨h3.cells.2.2.2.1, h3.frozen 3⟩, ⟨h4.cells.2.2.2.2, h4.frozen 4⟩⟩
theorem upon_setFive {S : Nat → Prop} {g : Nat} {v : Fv} {w0 w : World} (h : Upon S w0 w) (hg : S g ∨ w0.heap.size ≤ g) : Upon S w0 (setFive g v w) :=
  Upon.setCell (p := ⟨g, 4, none⟩) (Upon.setCell (p := ⟨g, 3, none⟩) (Upon.setCell (p := ⟨g, 2, none⟩) (Upon.setCell (p := ⟨g, 1, none⟩) (Upon.setCell (p := ⟨g, 0, none⟩) h hg _) hg _) hg _) hg _) hg _
/-- The labels' row of one sample. -/
def LabO (s : Rw.Sl) (l : List Pr) : Ob.Rel := fun w S => Lb.View w S s.v l ∧ ∀ x, S x → x < w.heap.size
theorem upon_keep {w w' : World} {S : Nat → Prop} (hk : ∀ b, S b → w'.heap[b]? = w.heap[b]?) {s : Rw.Sl} {l : List Pr} (h : Lb.View w S s.v l) : Lb.View w' S s.v l :=
  let ⟨A, c, h1, h2, h3, h4⟩ := h
  ⟨A, c, h1, h2, h3, fun hp => let ⟨b, off, k1, k2, k3⟩ := h4 hp
    ⟨b, off, k1, k2, fun i hi t u ht => by rw [← k3 i hi t u ht, World.cell?, World.cell?, hk b k2]⟩⟩
theorem thingLab (s : Rw.Sl) (l : List Pr) : Thing (LabO s l) := ⟨fun w w' S h hk hs => ⟨upon_keep hk h.1, fun x hx => Nat.lt_of_lt_of_le (h.2 x hx) hs⟩, fun w S h x hx => h.2 x hx⟩
/-- The labels' rows of samples. -/
def LabsO (rs : List RS) (l : List Smp) : Ob.Rel := fun w S => rs.length = l.length ∧ (∀ i (h1 : i < rs.length) (h2 : i < l.length), innS.rel w S rs[i] l[i]) ∧ ∀ x, S x → x < w.heap.size
theorem thingLabs (rs : List RS) (l : List Smp) : Thing (LabsO rs l) := ⟨fun w w' S h hk hs => ⟨h.1, fun i h1 h2 => ⟨(h.2.1 i h1 h2).1, (h.2.1 i h1 h2).2.1, upon_keep hk (h.2.1 i h1 h2).2.2⟩, fun x hx => Nat.lt_of_lt_of_le (h.2.2 x hx) hs⟩, fun w S h x hx => h.2.2 x hx⟩
theorem labsNone {I : Ob.Rel} (hI : Thing I) {w0 w : World} (H : Own I w0 w) : Own (Tens I (LabsO [] [])) w0 w :=
  Own.new hI H (T := fun _ => False) ⟨rfl, fun i h1 => absurd h1 (by simp), fun x hx => hx.elim⟩ (fun x hx => hx.elim) (Upon.refl _ w)
theorem labMade {I : Ob.Rel} (hI : Thing I) {w0 w w' : World} (H : Own I w0 w) {s : Rw.Sl} {l : List Pr} (hv : Lb.View w' (Nw w) s.v l) (hu : New0 w w') : Own (Tens I (LabO s l)) w0 w' :=
  Own.new hI H (T := fun x => w.heap.size ≤ x ∧ x < w'.heap.size) ⟨hv.mono fun b hb h => ⟨h, hb⟩, fun x hx => hx.2⟩ (fun x hx => hx.1) hu
/-- One more. -/
theorem labs_add {rs : List RS} {l : List Smp} {s : Rw.Sl} {ls : List Pr} {t : Int} {u : Nat} {w : World} {S : Nat → Prop} (h : Tens (LabsO rs l) (LabO s ls) w S) : LabsO (rs ++ [(s, t, u)]) (l ++ [(ls, t, u)]) w S := by
  obtain ⟨A, B, ⟨h1, h2, h3⟩, ⟨k1, k2⟩, -, hS⟩ := h
  refine ⟨by simp [h1], fun i hi hi' => ?_, fun x hx => ?_⟩
  · by_cases hlt : i < l.length
    · have e1 : (rs ++ [(s, t, u)])[i] = rs[i]'(by omega) := List.getElem_append_left (by omega)
      have e2 : (l ++ [(ls, t, u)])[i] = l[i] := List.getElem_append_left hlt
      rw [e1, e2]
      exact innS.mono (h2 i (by omega) hlt) fun x _ hx => (hS x).2 (.inl hx)
    · have hil : i = l.length := by rw [List.length_append, List.length_singleton] at hi'; omega
      subst hil
      have e1 : (rs ++ [(s, t, u)])[l.length] = (s, t, u) := by rw [List.getElem_append_right (by omega)]; simp [h1]
      have e2 : (l ++ [(ls, t, u)])[l.length] = (ls, t, u) := by rw [List.getElem_append_right (by omega)]; simp
      rw [e1, e2]
      exact ⟨rfl, rfl, Rw.View.mono k1 fun x _ hx => (hS x).2 (.inr hx)⟩
  · rcases (hS x).1 hx with h | h
    · exact h3 x h
    · exact k2 x h
end Rc
end Go.Proofs.YtlgjbcmloochiaaGreatDoor
end

/- The document's own records (layer 12): Span, Encode. -/
section
set_option maxRecDepth 100000
namespace Go.Proofs.YtlgjbcmloochiaaGreatDoor
open Go.RowKit Go.Sort
namespace Rc
open Bit Dsk Ob Dig
set_option linter.unusedVariables false

theorem refcheck_is (w : World) (S : Nat → Prop) (v : Value) (r : R) (hv : RView w S v r) (hb : Bnd r) {z : Nat} (h : chk r = z) :
    Calls Tryz.prog 45 #[v] w fun e w' => e = .returned (.int .i64 (z : Int)) ∧ New0 w w' := by
  subst h; exact refcheck_any w S v r hv hb

/-! ### the span -/
def mn (a : Int) (l : List Smp) : Int := l.foldl (fun a x => min a x.2.1) a
def mx (a : Int) (l : List Smp) : Int := l.foldl (fun a x => max a x.2.1) a
def T0 (l : List Smp) : Int := match l with | [] => 0 | x :: _ => x.2.1
noncomputable def span (r : R) : Int × Int := if chk r ≠ 0 then (0, 0) else if r.kind = 2 then (r.frm, r.til) else (mn (T0 r.smp) r.smp, mx (T0 r.smp) r.smp)
end Rc
end Go.Proofs.YtlgjbcmloochiaaGreatDoor
end

/- The document's own records (layer 12): Decode. -/
section
set_option maxRecDepth 100000
namespace Go.Proofs.YtlgjbcmloochiaaGreatDoor
open Go.RowKit Go.Sort
namespace Rc
open Bit Dsk Ob Dig Lb
set_option linter.unusedVariables false
set_option linter.unusedSimpArgs false

abbrev zeroV : Fv := ⟨.int .i64 0, .slice none 0 0, .slice none 0 0, .int .i64 0, .int .i64 0⟩
/-- The result's block stays while the call's own objects turn. -/
theorem five_keep {I : Ob.Rel} {wA w' : World} {g : Nat} {v : Fv} (h : Five 50 g v wA) (H : Own I wA w') : Five 50 g v w' := by
  unfold Five at *
  rw [H.bel.block g (Array.getElem?_eq_some_iff.1 h).1]; exact h
theorem sview_own {I B : Ob.Rel} {u : Value} {rs : List RS} {l : List Smp} {w0 w : World} (H : Own (Tens I (Tens B (Tens (Rw.RowO layS 123 u rs) (LabsO rs l)))) w0 w) : SView w (Nw w0) u l := by
  obtain ⟨⟨S, ⟨A, S1, -, ⟨B1, S2, -, ⟨S3, S4, k1, k2, -, k3⟩, -, k4⟩, -, k5⟩, h5⟩, -⟩ := H
  have hs3 : ∀ x, S3 x → Nw w0 x := fun x hx => h5 x ((k5 x).2 (.inr ((k4 x).2 (.inr ((k3 x).2 (.inl hx))))))
  have hs4 : ∀ x, S4 x → Nw w0 x := fun x hx => h5 x ((k5 x).2 (.inr ((k4 x).2 (.inr ((k3 x).2 (.inr hx))))))
  exact ⟨rs, (Rw.Mine.view k1.1).mono fun b _ hb => hs3 b (k1.2.1 b hb), k2.1, fun i h1 h2 => innS.mono (k2.2.1 i h1 h2) fun x _ hx => hs4 x hx⟩
theorem rowMine {I B : Ob.Rel} {u : Value} {rs : List RS} {l : List Smp} {D : Ob.Rel} {w0 w : World} (H : Own (Tens I (Tens B (Tens (Tens (Rw.RowO layS 123 u rs) (LabsO rs l)) D))) w0 w) : Rw.Mine layS 123 w u rs := by
  obtain ⟨S, h⟩ := H.dropl.dropl.dropr.seeL
  exact h.1
theorem permOut {I B R0 L D : Ob.Rel} {w0 w : World} (H : Own (Tens I (Tens B (Tens (Tens R0 L) D))) w0 w) : Own (Tens (Tens I (Tens B (Tens L D))) R0) w0 w :=
  H.mono fun S h => Tens.cossa (Tens.mapR (fun A h => Tens.cossa (Tens.mapR (fun A h => Tens.swap (Tens.assoc h)) h)) h)
theorem permIn {I B R0 L D L' : Ob.Rel} {w0 w : World} (H : Own (Tens (Tens I (Tens B (Tens L D))) R0) w0 w) (k : ∀ w S, Tens L D w S → L' w S) : Own (Tens I (Tens B (Tens R0 L'))) w0 w :=
  H.mono fun S h => Tens.mapR (fun A h => Tens.mapR (fun A h => Tens.swap (Tens.mapL (fun A h => k _ _ h) h)) (Tens.assoc h)) (Tens.assoc h)
theorem labIn {I B RL D : Ob.Rel} {w0 w : World} (H : Own (Tens (Tens I (Tens B RL)) D) w0 w) : Own (Tens I (Tens B (Tens RL D))) w0 w :=
  H.assoc.mono fun S h => Tens.mapR (fun A h => Tens.assoc h) h
/-- A sample, laid alone. -/
theorem view_smp (w : World) (a : Rw.Sl) (t : Int) (u : Nat) : Rw.View layS (w.alloc (.cells #[.slice a.a a.n a.c, .int .i64 t, .int .u64 (u : Int)] 123 (0, 0))) Rw.All (.slice (some ⟨w.heap.size, 0, none⟩) 1 1) [(a, t, u)] := by
  have h := cell_new w (.cells #[.slice a.a a.n a.c, .int .i64 t, .int .u64 (u : Int)] 123 (0, 0))
  refine ⟨_, 1, rfl, Nat.le_refl _, by unfold maxLen; decide, fun _ => ⟨_, 0, rfl, trivial, fun i hi t' u' ht => ?_⟩⟩
  have : i = 0 := by simpa using hi
  subst this
  match t', ht with
  | 0, ht => obtain rfl : a.v = u' := by simpa [layS] using ht
             rw [Lib.cell_of_heap h]; rfl
  | 1, ht => obtain rfl : Value.int .i64 t = u' := by simpa [layS] using ht
             rw [Lib.cell_of_heap h]; rfl
  | 2, ht => obtain rfl : Value.int .u64 (u : Int) = u' := by simpa [layS] using ht
             rw [Lib.cell_of_heap h]; rfl
  | t'' + 3, ht => simp [layS] at ht
end Rc
end Go.Proofs.YtlgjbcmloochiaaGreatDoor
end
