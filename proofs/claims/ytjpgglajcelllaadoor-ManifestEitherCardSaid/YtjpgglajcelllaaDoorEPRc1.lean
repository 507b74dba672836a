/- Parts, put together: RcPure, RcRead, RcIn, RcRow, RcOpen, RcRef, RcObj, RcRef2, RcDec. -/
import Derived.Test.YtjpgglajcelllaaDoorEPMt1
import Derived.Test.YtjpgglajcelllaaDoorEPRow
import Derived.Lib.QuietBelow

/- Records, plainly (layer 12): which are right, their bytes, what is read, their span. Names no function of the program. -/
section
set_option maxRecDepth 100000
namespace Go.Proofs.YtjpgglajcelllaaDoor
open Go.RowKit Go.Sort
namespace Rc
open Bit Dsk Ob Dig
set_option linter.unusedVariables false
/-- A sample: labels, time, value. -/
abbrev Smp := List Lb.Pr × Int × Nat
structure R where
  kind : Int
  smp : List Smp
  ms : List Mt.M
  frm : Int
  til : Int
def zero : R := ⟨0, [], [], 0, 0⟩
def noKind (r : R) : Prop := r.kind ≠ 1 ∧ r.kind ≠ 2
def strange (r : R) : Prop := (r.kind = 1 ∧ (r.ms ≠ [] ∨ r.frm ≠ 0 ∨ r.til ≠ 0)) ∨ (r.kind ≠ 1 ∧ r.smp ≠ [])
def manyB (r : R) : Prop := r.kind = 1 ∧ (r.smp.length < 1 ∨ 32 < r.smp.length)
def badL (r : R) : Prop := ∃ x ∈ r.smp, ¬ Lb.Ok x.1
open Classical in
/-- What is wrong with a record (0: nothing). -/
noncomputable def chk (r : R) : Nat := if noKind r then 5 else if strange r then 3 else if manyB r then 2 else if badL r then 16 else if Mt.chk r.ms ≠ 0 then Mt.chk r.ms else if r.til < r.frm then 9 else 0
theorem chk_kind {r : R} (h : noKind r) : chk r = 5 := if_pos h
theorem chk_field {r : R} (h1 : ¬ noKind r) (h : strange r) : chk r = 3 := by unfold chk; rw [if_neg h1, if_pos h]
theorem chk_range {r : R} (h1 : ¬ noKind r) (h2 : ¬ strange r) (h : manyB r) : chk r = 2 := by unfold chk; rw [if_neg h1, if_neg h2, if_pos h]
theorem chk_label {r : R} (h1 : ¬ noKind r) (h2 : ¬ strange r) (h3 : ¬ manyB r) (h : badL r) : chk r = 16 := by unfold chk; rw [if_neg h1, if_neg h2, if_neg h3, if_pos h]
theorem chk_match {r : R} (h1 : ¬ noKind r) (h2 : ¬ strange r) (h3 : ¬ manyB r) (h4 : ¬ badL r) (h : Mt.chk r.ms ≠ 0) : chk r = Mt.chk r.ms := by unfold chk; rw [if_neg h1, if_neg h2, if_neg h3, if_neg h4, if_pos h]
theorem chk_order {r : R} (h1 : ¬ noKind r) (h2 : ¬ strange r) (h3 : ¬ manyB r) (h4 : ¬ badL r) (h5 : Mt.chk r.ms = 0) (h : r.til < r.frm) : chk r = 9 := by unfold chk; rw [if_neg h1, if_neg h2, if_neg h3, if_neg h4, if_neg (by simp [h5]), if_pos h]
theorem chk_right {r : R} (h1 : ¬ noKind r) (h2 : ¬ strange r) (h3 : ¬ manyB r) (h4 : ¬ badL r) (h5 : Mt.chk r.ms = 0) (h : ¬ r.til < r.frm) : chk r = 0 := by unfold chk; rw [if_neg h1, if_neg h2, if_neg h3, if_neg h4, if_neg (by simp [h5]), if_neg h]
/-- A right commit. -/
structure Commit (r : R) : Prop where
  kind : r.kind = 1
  ms : r.ms = []
  frm : r.frm = 0
  til : r.til = 0
  one : 1 ≤ r.smp.length
  few : r.smp.length ≤ 32
  ok : ∀ x ∈ r.smp, Lb.Ok x.1
/-- A right delete. -/
structure Delete (r : R) : Prop where
  kind : r.kind = 2
  smp : r.smp = []
  ms : Mt.chk r.ms = 0
  le : r.frm ≤ r.til
theorem chk_zero {r : R} : chk r = 0 ↔ Commit r ∨ Delete r := by
  classical
  by_cases h1 : noKind r
  · rw [chk_kind h1]
    constructor
    · intro h; cases h
    · rintro (h | h)
      · exact absurd h.kind h1.1
      · exact absurd h.kind h1.2
  by_cases h2 : strange r
  · rw [chk_field h1 h2]
    constructor
    · intro h; cases h
    · rintro (h | h)
      · rcases h2 with ⟨-, h2⟩ | ⟨h2, -⟩
        · rcases h2 with h2 | h2 | h2
          · exact absurd h.ms h2
          · exact absurd h.frm h2
          · exact absurd h.til h2
        · exact absurd h.kind h2
      · rcases h2 with ⟨h2, -⟩ | ⟨-, h2⟩
        · have := h.kind; omega
        · exact absurd h.smp h2
  by_cases h3 : manyB r
  · rw [chk_range h1 h2 h3]
    constructor
    · intro h; cases h
    · rintro (h | h)
      · have := h.one; have := h.few; rcases h3.2 with h3 | h3 <;> omega
      · have := h.kind; have := h3.1; omega
  by_cases h4 : badL r
  · rw [chk_label h1 h2 h3 h4]
    constructor
    · intro h; cases h
    · obtain ⟨x, hx, hn⟩ := h4
      rintro (h | h)
      · exact absurd (h.ok x hx) hn
      · rw [h.smp] at hx; cases hx
  have hcase : r.kind = 1 ∨ r.kind = 2 := by
    by_cases c : r.kind = 1
    · exact .inl c
    · by_cases c2 : r.kind = 2
      · exact .inr c2
      · exact absurd ⟨c, c2⟩ h1
  have hstr := fun h => h2 (.inl h)
  have hstr2 := fun h => h2 (.inr h)
  by_cases h5 : Mt.chk r.ms = 0
  · by_cases h6 : r.til < r.frm
    · rw [chk_order h1 h2 h3 h4 h5 h6]
      constructor
      · intro h; cases h
      · rintro (h | h)
        · have := h.frm; have := h.til; omega
        · have := h.le; omega
    · rw [chk_right h1 h2 h3 h4 h5 h6]
      refine ⟨fun _ => ?_, fun _ => rfl⟩
      rcases hcase with c | c
      · have k := fun h => hstr ⟨c, h⟩
        refine .inl ⟨c, ?_, ?_, ?_, ?_, ?_, fun x hx => ?_⟩
        · by_cases e : r.ms = []
          · exact e
          · exact absurd (.inl e) k
        · by_cases e : r.frm = 0
          · exact e
          · exact absurd (.inr (.inl e)) k
        · by_cases e : r.til = 0
          · exact e
          · exact absurd (.inr (.inr e)) k
        · by_cases e : 1 ≤ r.smp.length
          · exact e
          · exact absurd ⟨c, .inl (by omega)⟩ h3
        · by_cases e : r.smp.length ≤ 32
          · exact e
          · exact absurd ⟨c, .inr (by omega)⟩ h3
        · by_cases e : Lb.Ok x.1
          · exact e
          · exact absurd ⟨x, hx, e⟩ h4
      · refine .inr ⟨c, ?_, h5, by omega⟩
        by_cases e : r.smp = []
        · exact e
        · exact absurd ⟨by omega, e⟩ hstr2
  · rw [chk_match h1 h2 h3 h4 h5]
    constructor
    · intro h; exact absurd h h5
    · rintro (h | h)
      · rw [h.ms] at h5; exact absurd rfl h5
      · exact absurd h.ms h5
/-! ### their bytes -/
def sB (x : Smp) : List UInt8 := numL (Lb.encB x.1).length ++ Lb.encB x.1 ++ numL (zig x.2.1) ++ numL x.2.2
def encB (r : R) : List UInt8 := numL r.kind.toNat ++ if r.kind = 2 then Mt.encB r.ms ++ numL (zig r.frm) ++ numL (zig r.til) else numL r.smp.length ++ r.smp.flatMap sB
theorem encL_len {l : List Lb.Pr} (h : Lb.Ok l) : (Lb.encB l).length ≤ 921 := by
  have h1 := nd_le l.length
  have h2 : (l.flatMap Lb.pB).length ≤ 114 * l.length := Lb.flat_len h.good.small
  have h3 := h.few
  rw [Lb.encB, List.length_append, numL_length]; omega
end Rc
end Go.Proofs.YtjpgglajcelllaaDoor
end
/- Records, plainly (layer 12): what is read of bytes; and In's steps, as a reading goes. -/
section
set_option maxRecDepth 100000
namespace Go.Proofs.YtjpgglajcelllaaDoor
open Go.RowKit Go.Sort
namespace Rc
open Bit Dsk Ob Dig
set_option linter.unusedVariables false
/-- A reading: an error, or what is read and what is left. -/
abbrev Rd (α : Type) := List UInt8 → Except Nat (α × List UInt8)
def bnd {α β : Type} (x : Rd α) (f : α → Rd β) : Rd β := fun s => match x s with
  | .error e => .error e
  | .ok (a, r) => f a r
theorem bnd_ok {α β : Type} {x : Rd α} {f : α → Rd β} {s r : List UInt8} {a : α} (h : x s = .ok (a, r)) : bnd x f s = f a r := by simp [bnd, h]
theorem bnd_no {α β : Type} {x : Rd α} {f : α → Rd β} {s : List UInt8} {e : Nat} (h : x s = .error e) : bnd x f s = .error e := by simp [bnd, h]
def retR {α : Type} (a : α) : Rd α := fun s => .ok (a, s)
def numR : Rd Nat := fun s => if (gotN s).2.2 = 0 then .ok ((gotN s).1, s.drop (gotN s).2.1) else .error (gotN s).2.2
def sgnR : Rd Int := fun s => if (gotN s).2.2 = 0 then .ok (unz (gotN s).1, s.drop (gotN s).2.1) else .error (gotN s).2.2
def txtR (m : Int) : Rd ByteArray := fun s => if (Lb.txt m s).2.2 = 0 then .ok ((Lb.txt m s).1, (Lb.txt m s).2.1) else .error (Lb.txt m s).2.2
def mustR (b : Bool) (y : Nat) : Rd Unit := fun s => if b = true then .ok ((), s) else .error y
noncomputable def labR (t : ByteArray) : Rd (List Lb.Pr) := fun s => if (Lb.dec t.data.toList).2 = 0 then .ok ((Lb.dec t.data.toList).1, s) else .error (Lb.dec t.data.toList).2
def takeR : Rd (List Mt.M) := fun s => if (Mt.tk s).2.2 = 0 then .ok ((Mt.tk s).1, (Mt.tk s).2.1) else .error (Mt.tk s).2.2
noncomputable def smpK {β : Type} (f : Smp → Rd β) : Rd β := bnd (txtR 1024) fun t => bnd (labR t) fun l => bnd sgnR fun a => bnd numR fun b => f (l, a, b)
noncomputable def manyK {β : Type} (f : List Smp → Rd β) : Nat → List Smp → Rd β
  | 0, acc => f acc
  | n + 1, acc => smpK fun x => manyK f n (acc ++ [x])
noncomputable def comR : Rd R := bnd numR fun n => bnd (mustR (decide (1 ≤ n) && decide (n ≤ 32)) 2) fun _ => manyK (fun l => retR ⟨1, l, [], 0, 0⟩) n []
def delR : Rd R := bnd takeR fun m => bnd sgnR fun a => bnd sgnR fun b => retR ⟨2, [], m, a, b⟩
noncomputable def allR : Rd R := bnd numR fun k => bnd (mustR (decide (k = 1) || decide (k = 2)) 5) fun _ => if k = 1 then comR else delR
/-- What Decode answers. -/
noncomputable def dec (s : List UInt8) : R × Nat := match allR s with
  | .error e => (zero, e)
  | .ok (r, x) => if x ≠ [] then (zero, 6) else if chk r ≠ 0 then (zero, chk r) else (r, 0)
/-! ### what the reader's box goes through -/
/-- Where the reader stands (what is left, the error), all that is to be read being F, the whole comes to K. -/
def Rest {β : Type} (F : Rd β) (s : ByteArray) (e : Nat) (K : Except Nat (β × List UInt8)) : Prop := (e = 0 → F s.data.toList = K) ∧ (e ≠ 0 → K = .error e)
/-- A step of the reader: from what is left and the error to what is read, what is left and the error. -/
def Nx {α : Type} (x : Rd α) (s : ByteArray) (e : Nat) (a : α) (s' : ByteArray) (e' : Nat) : Prop :=
  (e = 0 → (e' = 0 ∧ x s.data.toList = .ok (a, s'.data.toList)) ∨ (e' ≠ 0 ∧ x s.data.toList = .error e')) ∧ (e ≠ 0 → e' = e)
theorem Rest.step {α β : Type} {x : Rd α} {f : α → Rd β} {s s' : ByteArray} {e e' : Nat} {a : α} {K : Except Nat (β × List UInt8)} (h : Rest (bnd x f) s e K) (hx : Nx x s e a s' e') : Rest (f a) s' e' K := by
  by_cases he : e = 0
  · rcases hx.1 he with ⟨h1, h2⟩ | ⟨h1, h2⟩
    · exact ⟨fun _ => by rw [← h.1 he, bnd_ok h2], fun c => absurd h1 c⟩
    · exact ⟨fun c => absurd c h1, fun _ => by rw [← h.1 he, bnd_no h2]⟩
  · have h1 := hx.2 he
    subst h1
    exact ⟨fun c => absurd c he, fun _ => h.2 he⟩
/-- While an error stands, what would be read is all the same. -/
theorem Rest.any {α β : Type} {F : Rd β} {s s' : ByteArray} {e : Nat} {K : Except Nat (β × List UInt8)} (h : Rest F s e K) (he : e ≠ 0) (G : Rd β) : Rest G s' e K := ⟨fun c => absurd c he, h.2⟩
theorem nx_txt {s : ByteArray} {m : Int} {n k x : Nat} (hg : gotT s.data.toList m = (n, k, x)) : Nx (txtR m) s 0 (s.extract k (k + n)) (s.extract (k + n) s.size) x := by
  have ht := Lb.txt_is hg
  refine ⟨fun _ => ?_, fun h => absurd rfl h⟩
  by_cases hx : x = 0
  · exact .inl ⟨hx, by unfold txtR; rw [ht]; simp [hx]⟩
  · exact .inr ⟨hx, by unfold txtR; rw [ht]; simp [hx]⟩
/-! ### back -/
theorem num_enc (n : Nat) (h : n < 18446744073709551616) (r : List UInt8) : numR (numL n ++ r) = .ok (n, r) := by
  unfold numR
  rw [got_num n h r]
  simp [← numL_length]
theorem sgn_enc (x : Int) (h0 : -9223372036854775808 ≤ x) (h1 : x ≤ 9223372036854775807) (r : List UInt8) : sgnR (numL (zig x) ++ r) = .ok (x, r) := by
  unfold sgnR
  rw [got_num _ (zig_lt x h0 h1) r, unz_zig]
  simp [← numL_length]
theorem take_enc {l : List Mt.M} (h : Mt.chk l = 0) (r : List UInt8) : takeR (Mt.encB l ++ r) = .ok (l, r) := by
  unfold takeR; rw [Mt.tk_enc h r]; simp
/-- Numbers that a record may have. -/
def RngS (x : Smp) : Prop := -9223372036854775808 ≤ x.2.1 ∧ x.2.1 ≤ 9223372036854775807 ∧ x.2.2 < 18446744073709551616
theorem smp_enc {β : Type} (f : Smp → Rd β) {x : Smp} (h : Lb.Ok x.1) (hr : RngS x) (r : List UInt8) : smpK f (sB x ++ r) = f x r := by
  obtain ⟨h0, h1, h2⟩ := hr
  have hl := encL_len h
  obtain ⟨t, ht⟩ : ∃ t : ByteArray, t = ⟨(Lb.encB x.1).toArray⟩ := ⟨_, rfl⟩
  have htl : t.data.toList = Lb.encB x.1 := by rw [ht]
  have hts : t.size = (Lb.encB x.1).length := by rw [← htl]; simp
  have e1 : sB x ++ r = numL t.size ++ t.data.toList ++ (numL (zig x.2.1) ++ (numL x.2.2 ++ r)) := by
    rw [hts, htl, sB]; simp [List.append_assoc]
  have k1 : txtR 1024 (sB x ++ r) = .ok (t, numL (zig x.2.1) ++ (numL x.2.2 ++ r)) := by
    unfold txtR
    rw [e1, Lb.txt_text t 1024 _ (by omega) (by omega)]; simp
  have k2 : labR t (numL (zig x.2.1) ++ (numL x.2.2 ++ r)) = .ok (x.1, numL (zig x.2.1) ++ (numL x.2.2 ++ r)) := by
    unfold labR
    have := Lb.dec_enc h []
    rw [List.append_nil] at this
    rw [htl, this]; simp
  unfold smpK
  rw [bnd_ok k1, bnd_ok k2, bnd_ok (sgn_enc _ h0 h1 _), bnd_ok (num_enc _ h2 r)]
theorem many_enc {β : Type} (f : List Smp → Rd β) : ∀ (l acc : List Smp) (r : List UInt8), (∀ x ∈ l, Lb.Ok x.1 ∧ RngS x) → manyK f l.length acc (l.flatMap sB ++ r) = f (acc ++ l) r
  | [], acc, r, _ => by simp [manyK]
  | x :: l, acc, r, h => by
    have e : (x :: l).flatMap sB ++ r = sB x ++ (l.flatMap sB ++ r) := by rw [List.flatMap_cons, List.append_assoc]
    rw [e, List.length_cons, manyK, smp_enc _ (h x (by simp)).1 (h x (by simp)).2, many_enc f l (acc ++ [x]) r fun q hq => h q (by simp [hq])]
    simp
structure Rng (r : R) : Prop where
  smp : ∀ x ∈ r.smp, RngS x
  frm : -9223372036854775808 ≤ r.frm ∧ r.frm ≤ 9223372036854775807
  til : -9223372036854775808 ≤ r.til ∧ r.til ≤ 9223372036854775807
theorem all_enc {r : R} (h : chk r = 0) (hr : Rng r) (x : List UInt8) : allR (encB r ++ x) = .ok (r, x) := by
  rcases chk_zero.1 h with hc | hd
  · have e : encB r ++ x = numL 1 ++ (numL r.smp.length ++ (r.smp.flatMap sB ++ x)) := by
      rw [encB, if_neg (by rw [hc.kind]; decide), hc.kind]; simp [List.append_assoc]
    have e2 : r = ⟨1, r.smp, [], 0, 0⟩ := by
      obtain ⟨k, l, m, a, b⟩ := r
      have h1 := hc.kind; have h2 := hc.ms; have h3 := hc.frm; have h4 := hc.til
      simp only at h1 h2 h3 h4
      rw [h1, h2, h3, h4]
    have h1 := hc.one
    have h2 := hc.few
    unfold allR
    rw [e, bnd_ok (num_enc 1 (by decide) _), bnd_ok (a := ()) (r := numL r.smp.length ++ (r.smp.flatMap sB ++ x)) (by rfl), if_pos rfl]
    unfold comR
    rw [bnd_ok (num_enc _ (by omega) _), bnd_ok (a := ()) (r := r.smp.flatMap sB ++ x) (by unfold mustR; simp [h1, h2]), many_enc _ _ _ _ fun y hy => ⟨hc.ok y hy, hr.smp y hy⟩]
    rw [List.nil_append, ← e2]; rfl
  · have e : encB r ++ x = numL 2 ++ (Mt.encB r.ms ++ (numL (zig r.frm) ++ (numL (zig r.til) ++ x))) := by
      rw [encB, if_pos hd.kind, hd.kind]; simp [List.append_assoc]
    have e2 : r = ⟨2, [], r.ms, r.frm, r.til⟩ := by
      obtain ⟨k, l, m, a, b⟩ := r
      have h1 := hd.kind; have h2 := hd.smp
      simp only at h1 h2
      rw [h1, h2]
    unfold allR
    rw [e, bnd_ok (num_enc 2 (by decide) _), bnd_ok (a := ()) (r := Mt.encB r.ms ++ (numL (zig r.frm) ++ (numL (zig r.til) ++ x))) (by rfl), if_neg (by decide)]
    unfold delR
    rw [bnd_ok (take_enc hd.ms _), bnd_ok (sgn_enc _ hr.frm.1 hr.frm.2 _), bnd_ok (sgn_enc _ hr.til.1 hr.til.2 _), ← e2]; rfl
end Rc
end Go.Proofs.YtjpgglajcelllaaDoor
end
/- The document's own reader of fields (layer 12): each step as a reading goes; Signed. -/
section
set_option maxRecDepth 100000
namespace Go.Proofs.YtjpgglajcelllaaDoor
open Go.RowKit Go.Sort
namespace Rc
open Bit Dsk Ob Dig Lb
set_option linter.unusedVariables false
section
variable {J : Ob.Rel} {p : Nat} {s : ByteArray} {e : Nat} {w0 w : World}
end
end Rc
end Go.Proofs.YtjpgglajcelllaaDoor
end
/- Samples and records in memory (layer 12). -/
section
set_option maxRecDepth 100000
namespace Go.Proofs.YtjpgglajcelllaaDoor
open Go.RowKit Go.ChangeShapes Go.WideShapes
namespace Rc
open Bit Dsk Ob Dig
set_option linter.unusedVariables false
abbrev All : Nat → Prop := fun _ => True
/-- A sample's cells. -/
abbrev RS := Rw.Sl × Int × Nat
def layS : Rw.Lay RS := ⟨3, by decide, fun x => [x.1.v, .int .i64 x.2.1, .int .u64 (x.2.2 : Int)], fun _ => rfl, fun x u hu => by
  simp only [List.mem_cons, List.not_mem_nil, or_false] at hu
  rcases hu with rfl | rfl | rfl <;> rfl⟩
def innS : Rw.Inner RS Smp where
  rel w S a b := a.2.1 = b.2.1 ∧ a.2.2 = b.2.2 ∧ Lb.View w S a.1.v b.1
  upon h hu hd := ⟨h.1, h.2.1, Rw.View.upon h.2.2 hu hd⟩
  mono h hS := ⟨h.1, h.2.1, Rw.View.mono h.2.2 hS⟩
/-- v reads as the samples l. -/
abbrev SView := Rw.DView layS innS
theorem SView.cells {w : World} {S : Nat → Prop} {A : Option Addr} {n c : Nat} {l : List Smp} (h : SView w S (.slice A n c) l) (hp : 0 < l.length) : ∃ b off, A = some ⟨b, off, none⟩ ∧ b < w.heap.size ∧
    ∀ i (hi : i < l.length), ∃ s : Rw.Sl, Lb.View w S s.v l[i].1 ∧ w.cell? ⟨b, off + i * 3, none⟩ = some s.v ∧ w.cell? ⟨b, off + i * 3 + 1, none⟩ = some (.int .i64 l[i].2.1) ∧ w.cell? ⟨b, off + i * 3 + 2, none⟩ = some (.int .u64 (l[i].2.2 : Int)) := by
  obtain ⟨b, off, h1, h2, h3⟩ := Rw.DView.open h hp
  refine ⟨b, off, h1, h2, fun i hi => ?_⟩
  obtain ⟨⟨s, t, u⟩, ⟨k1, k2, k3⟩, k4⟩ := h3 i hi
  simp only at k1 k2
  subst k1 k2
  exact ⟨s, k3, k4 0 _ rfl, k4 1 _ rfl, k4 2 _ rfl⟩
/-- A record's cells. -/
abbrev rv (k : Int) (s m : Rw.Sl) (a b : Int) : Value := .agg #[.int .i64 k, s.v, m.v, .int .i64 a, .int .i64 b]
/-- v reads as the record r. -/
def RView (w : World) (S : Nat → Prop) (v : Value) (r : R) : Prop := ∃ s m : Rw.Sl, v = rv r.kind s m r.frm r.til ∧ SView w S s.v r.smp ∧ Mt.View w S m.v r.ms
theorem RView.upon {w w' : World} {S T : Nat → Prop} {v : Value} {r : R} (h : RView w S v r) (hu : Upon T w w') (hd : ∀ b, S b → ¬ T b) : RView w' S v r :=
  let ⟨s, m, h1, h2, h3⟩ := h
  ⟨s, m, h1, Rw.DView.upon h2 hu hd, Rw.View.upon h3 hu hd⟩
theorem RView.new {w w' : World} {S : Nat → Prop} {v : Value} {r : R} (h : RView w S v r) (hu : New0 w w') : RView w' S v r := h.upon hu fun _ _ f => f
theorem RView.mono {w : World} {S S' : Nat → Prop} {v : Value} {r : R} (h : RView w S v r) (hS : ∀ b, b < w.heap.size → S b → S' b) : RView w S' v r :=
  let ⟨s, m, h1, h2, h3⟩ := h
  ⟨s, m, h1, Rw.DView.mono h2 hS, Rw.View.mono h3 hS⟩
theorem RView.all {w : World} {S : Nat → Prop} {v : Value} {r : R} (h : RView w S v r) : RView w All v r := h.mono fun _ _ _ => trivial
theorem RView.shape {w : World} {S : Nat → Prop} {v : Value} {r : R} (h : RView w S v r) : ∃ A c A' c', v = .agg #[.int .i64 r.kind, .slice A r.smp.length c, .slice A' r.ms.length c', .int .i64 r.frm, .int .i64 r.til] ∧ SView w S (.slice A r.smp.length c) r.smp ∧ Mt.View w S (.slice A' r.ms.length c') r.ms := by
  obtain ⟨⟨sa, sn, sc⟩, ⟨ma, mn, mc⟩, h1, h2, h3⟩ := h
  obtain ⟨A, c, e, -, -⟩ := Rw.DView.shape h2
  obtain ⟨A', c', e', -, -⟩ := Rw.View.shape h3
  injection e with e1 e2 e3
  injection e' with f1 f2 f3
  subst e1 e2 e3 f1 f2 f3
  exact ⟨_, _, _, _, h1, h2, h3⟩
end Rc
end Go.Proofs.YtjpgglajcelllaaDoor
end
/- A record, a sample among the arguments, opened (layer 12). -/
section
set_option maxRecDepth 100000
namespace Go.Proofs.YtjpgglajcelllaaDoor
open Go.RowKit Go.ChangeShapes Go.WideShapes
namespace Rc
open Bit Dsk Ob Dig
set_option linter.unusedVariables false
section
variable {H : Type} {enc : TypeId × Value → H} {W : World}
end
end Rc
end Go.Proofs.YtjpgglajcelllaaDoor
end
/- The document's own records (layer 12): Check. -/
section
set_option maxRecDepth 100000
namespace Go.Proofs.YtjpgglajcelllaaDoor
open Go.RowKit Go.Sort
namespace Rc
open Bit Dsk Ob Dig
set_option linter.unusedVariables false
/-- A record in a box: its five cells. -/
structure Box5 (g : Nat) (k : Int) (s m : Value) (a b : Int) (w : World) : Prop where
  c0 : w.cell? ⟨g, 0, none⟩ = some (.int .i64 k)
  c1 : w.cell? ⟨g, 1, none⟩ = some s
  c2 : w.cell? ⟨g, 2, none⟩ = some m
  c3 : w.cell? ⟨g, 3, none⟩ = some (.int .i64 a)
  c4 : w.cell? ⟨g, 4, none⟩ = some (.int .i64 b)
theorem Box5.new {g : Nat} {k : Int} {s m : Value} {a b : Int} {w w' : World} (h : Box5 g k s m a b w) (hu : New0 w w') : Box5 g k s m a b w' :=
  ⟨Lb.New0.cells hu h.c0, Lb.New0.cells hu h.c1, Lb.New0.cells hu h.c2, Lb.New0.cells hu h.c3, Lb.New0.cells hu h.c4⟩
/-- The first j samples' labels are right. -/
def GoodL (l : List Smp) (j : Nat) : Prop := ∀ i (h : i < l.length), i < j → Lb.Ok l[i].1
theorem GoodL.step {l : List Smp} {j : Nat} (h : GoodL l j) (hj : j < l.length) (ho : Lb.Ok l[j].1) : GoodL l (j + 1) := fun i hi h2 => by
  by_cases e : i = j
  · subst e; exact ho
  · exact h i hi (by omega)
theorem GoodL.last {l : List Smp} {j : Nat} (h : GoodL l j) (hj : ¬ j < l.length) : ¬ ∃ x ∈ l, ¬ Lb.Ok x.1 := fun ⟨x, hx, hn⟩ => by
  obtain ⟨i, hi, rfl⟩ := List.mem_iff_getElem.1 hx
  exact hn (h i hi (by omega))
end Rc
end Go.Proofs.YtjpgglajcelllaaDoor
end
/- Objects for the document's Decode (layer 12): a record in a box, a row of samples, the labels' rows. -/
section
set_option maxRecDepth 100000
namespace Go.Proofs.YtjpgglajcelllaaDoor
open Go.RowKit Go.Sort
namespace Rc
open Bit Dsk Ob Dig Lb
set_option linter.unusedVariables false
/-- Five cells in a block. -/
structure Fv where
  a : Value
  b : Value
  c : Value
  d : Value
  e : Value
def Five (T : TypeId) (g : Nat) (v : Fv) (w : World) : Prop := w.heap[g]? = some (.cells #[v.a, v.b, v.c, v.d, v.e] T (0, 0))
theorem Five.cells {T : TypeId} {g : Nat} {v : Fv} {w : World} (h : Five T g v w) : w.cell? ⟨g, 0, none⟩ = some v.a ∧ w.cell? ⟨g, 1, none⟩ = some v.b ∧ w.cell? ⟨g, 2, none⟩ = some v.c ∧ w.cell? ⟨g, 3, none⟩ = some v.d ∧ w.cell? ⟨g, 4, none⟩ = some v.e :=
  ⟨by rw [Lib.cell_of_heap h]; rfl, by rw [Lib.cell_of_heap h]; rfl, by rw [Lib.cell_of_heap h]; rfl, by rw [Lib.cell_of_heap h]; rfl, by rw [Lib.cell_of_heap h]; rfl⟩
theorem Five.frozen {T : TypeId} {g : Nat} {v : Fv} {w : World} (h : Five T g v w) (i : Nat) : w.frozen? ⟨g, i, none⟩ = false := by
  unfold Five at h
  simp [World.frozen?, h]
theorem Five.set0 {T : TypeId} {g : Nat} {v : Fv} {w : World} (h : Five T g v w) (x : Value) : Five T g { v with a := x } (w.setCell ⟨g, 0, none⟩ x) := by unfold Five at *; simp [World.setCell, Array.getElem?_modify, h]
theorem Five.set1 {T : TypeId} {g : Nat} {v : Fv} {w : World} (h : Five T g v w) (x : Value) : Five T g { v with b := x } (w.setCell ⟨g, 1, none⟩ x) := by unfold Five at *; simp [World.setCell, Array.getElem?_modify, h]
theorem Five.set2 {T : TypeId} {g : Nat} {v : Fv} {w : World} (h : Five T g v w) (x : Value) : Five T g { v with c := x } (w.setCell ⟨g, 2, none⟩ x) := by unfold Five at *; simp [World.setCell, Array.getElem?_modify, h]
theorem Five.set3 {T : TypeId} {g : Nat} {v : Fv} {w : World} (h : Five T g v w) (x : Value) : Five T g { v with d := x } (w.setCell ⟨g, 3, none⟩ x) := by unfold Five at *; simp [World.setCell, Array.getElem?_modify, h]
theorem Five.set4 {T : TypeId} {g : Nat} {v : Fv} {w : World} (h : Five T g v w) (x : Value) : Five T g { v with e := x } (w.setCell ⟨g, 4, none⟩ x) := by unfold Five at *; simp [World.setCell, Array.getElem?_modify, h]
/-- All five, written one after the other. -/
def setFive (g : Nat) (v : Fv) (w : World) : World := ((((w.setCell ⟨g, 0, none⟩ v.a).setCell ⟨g, 1, none⟩ v.b).setCell ⟨g, 2, none⟩ v.c).setCell ⟨g, 3, none⟩ v.d).setCell ⟨g, 4, none⟩ v.e
theorem Five.setAll {T : TypeId} {g : Nat} {v : Fv} {w : World} (h : Five T g v w) (x : Fv) : Five T g x (setFive g x w) := ((((h.set0 x.a).set1 x.b).set2 x.c).set3 x.d).set4 x.e
/-- What a walk that writes all five asks. -/
theorem Five.roads {T : TypeId} {g : Nat} {v : Fv} {w : World} (h : Five T g v w) (x : Fv) :
    ((w.setCell ⟨g, 0, none⟩ x.a).cell? ⟨g, 1, none⟩ = some v.b ∧ (w.setCell ⟨g, 0, none⟩ x.a).frozen? ⟨g, 1, none⟩ = false) ∧
    (((w.setCell ⟨g, 0, none⟩ x.a).setCell ⟨g, 1, none⟩ x.b).cell? ⟨g, 2, none⟩ = some v.c ∧ ((w.setCell ⟨g, 0, none⟩ x.a).setCell ⟨g, 1, none⟩ x.b).frozen? ⟨g, 2, none⟩ = false) ∧
    ((((w.setCell ⟨g, 0, none⟩ x.a).setCell ⟨g, 1, none⟩ x.b).setCell ⟨g, 2, none⟩ x.c).cell? ⟨g, 3, none⟩ = some v.d ∧ (((w.setCell ⟨g, 0, none⟩ x.a).setCell ⟨g, 1, none⟩ x.b).setCell ⟨g, 2, none⟩ x.c).frozen? ⟨g, 3, none⟩ = false) ∧
    (((((w.setCell ⟨g, 0, none⟩ x.a).setCell ⟨g, 1, none⟩ x.b).setCell ⟨g, 2, none⟩ x.c).setCell ⟨g, 3, none⟩ x.d).cell? ⟨g, 4, none⟩ = some v.e ∧ ((((w.setCell ⟨g, 0, none⟩ x.a).setCell ⟨g, 1, none⟩ x.b).setCell ⟨g, 2, none⟩ x.c).setCell ⟨g, 3, none⟩ x.d).frozen? ⟨g, 4, none⟩ = false) := by
  have h1 := h.set0 x.a
  have h2 := h1.set1 x.b
  have h3 := h2.set2 x.c
  have h4 := h3.set3 x.d
  exact ⟨⟨h1.cells.2.1, h1.frozen 1⟩, ⟨h2.cells.2.2.1, h2.frozen 2⟩, ⟨h3.cells.2.2.2.1, h3.frozen 3⟩, ⟨h4.cells.2.2.2.2, h4.frozen 4⟩⟩
end Rc
end Go.Proofs.YtjpgglajcelllaaDoor
end
/- The document's own records (layer 12): Span, Encode. -/
section
set_option maxRecDepth 100000
namespace Go.Proofs.YtjpgglajcelllaaDoor
open Go.RowKit Go.Sort
namespace Rc
open Bit Dsk Ob Dig
set_option linter.unusedVariables false
/-! ### the span -/
def mn (a : Int) (l : List Smp) : Int := l.foldl (fun a x => min a x.2.1) a
end Rc
end Go.Proofs.YtjpgglajcelllaaDoor
end
/- The document's own records (layer 12): Decode. -/
section
set_option maxRecDepth 100000
namespace Go.Proofs.YtjpgglajcelllaaDoor
open Go.RowKit Go.Sort
namespace Rc
open Bit Dsk Ob Dig Lb
set_option linter.unusedVariables false
set_option linter.unusedSimpArgs false
/-- What Decode's end is. -/
def DecE (w : World) (sl : List UInt8) (e : Ending) (w' : World) : Prop := ∃ v, e = .returned (.tuple #[v, .int .i64 ((dec sl).2 : Int)]) ∧ RView w' All v (dec sl).1 ∧ Rng (dec sl).1 ∧ New0 w w'
theorem rng_zero : Rng zero := ⟨fun x hx => (by cases hx), ⟨by decide, by decide⟩, ⟨by decide, by decide⟩⟩
theorem view_zero (w : World) : RView w All (.agg #[.int .i64 0, .slice none 0 0, .slice none 0 0, .int .i64 0, .int .i64 0]) zero := ⟨⟨none, 0, 0⟩, ⟨none, 0, 0⟩, rfl, Rw.DView.noth _ _ _ _, Rw.View.noth _ _ _⟩
theorem DecE.no {w w' : World} {sl : List UInt8} {x : Nat} (h : dec sl = (zero, x)) (hu : New0 w w') : DecE w sl (.returned (.tuple #[.agg #[.int .i64 0, .slice none 0 0, .slice none 0 0, .int .i64 0, .int .i64 0], .int .i64 (x : Int)])) w' := by
  unfold DecE
  rw [h]
  exact ⟨_, rfl, view_zero _, rng_zero, hu⟩
/-- .. with what it holds in new blocks. -/
def DecN (w : World) (sl : List UInt8) (e : Ending) (w' : World) : Prop := ∃ v, e = .returned (.tuple #[v, .int .i64 ((dec sl).2 : Int)]) ∧ RView w' (Nw w) v (dec sl).1 ∧ Rng (dec sl).1 ∧ New0 w w'
theorem DecN.no {w w' : World} {sl : List UInt8} {x : Nat} (h : dec sl = (zero, x)) (hu : New0 w w') : DecN w sl (.returned (.tuple #[.agg #[.int .i64 0, .slice none 0 0, .slice none 0 0, .int .i64 0, .int .i64 0], .int .i64 (x : Int)])) w' := by
  unfold DecN
  rw [h]
  exact ⟨_, rfl, ⟨⟨none, 0, 0⟩, ⟨none, 0, 0⟩, rfl, Rw.DView.noth _ _ _ _, Rw.View.noth _ _ _⟩, rng_zero, hu⟩
end Rc
end Go.Proofs.YtjpgglajcelllaaDoor
end
