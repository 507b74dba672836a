/- Parts: PRc1. -/
import Derived.Test.YtgmnhodajngchaaGreatDoorSPMt1
import Derived.Test.YtgmnhodajngchaaGreatDoorSPRow
import Derived.Lib.QuietBelow
set_option maxRecDepth 100000
set_option linter.unusedVariables false
namespace Go.Proofs.YtgmnhodajngchaaGreatDoor
section
section
open Go.RowKit Go.Sort
namespace Rc
open Bit Dsk Ob Dig
abbrev Smp := List Lb.Pr × Int × Nat
structure R where
 kind : Int
 smp : List Smp
 ms : List Mt.M
 frm : Int
 til : Int
def zero : R := ⟨0, [], [], 0, 0⟩
def noKind (r : R) : Prop := r.kind ≠ 1 /\ r.kind ≠ 2
def strange (r : R) : Prop := (r.kind = 1 /\ (r.ms ≠ [] \/ r.frm ≠ 0 \/ r.til ≠ 0)) \/ (r.kind ≠ 1 /\ r.smp ≠ [])
def manyB (r : R) : Prop := r.kind = 1 /\ (r.smp.length < 1 \/ 32 < r.smp.length)
def badL (r : R) : Prop := ∃ x ∈ r.smp, ¬ Lb.Ok x.1
open Classical in
noncomputable def chk (r : R) : Nat := if noKind r then 5 else if strange r then 3 else if manyB r then 2 else if badL r then 16 else if Mt.chk r.ms ≠ 0 then Mt.chk r.ms else if r.til < r.frm then 9 else 0
theorem chk_kind {r : R} (h : noKind r) : chk r = 5 := if_pos h
theorem chk_field {r : R} (h1 : ¬ noKind r) (h : strange r) : chk r = 3 := by unfold chk; rw [if_neg h1, if_pos h]
theorem chk_range {r : R} (h1 : ¬ noKind r) (h2 : ¬ strange r) (h : manyB r) : chk r = 2 := by unfold chk; rw [if_neg h1, if_neg h2, if_pos h]
theorem chk_label {r : R} (h1 : ¬ noKind r) (h2 : ¬ strange r) (h3 : ¬ manyB r) (h : badL r) : chk r = 16 := by unfold chk; rw [if_neg h1, if_neg h2, if_neg h3, if_pos h]
theorem chk_match {r : R} (h1 : ¬ noKind r) (h2 : ¬ strange r) (h3 : ¬ manyB r) (h4 : ¬ badL r) (h : Mt.chk r.ms ≠ 0) : chk r = Mt.chk r.ms := by unfold chk; rw [if_neg h1, if_neg h2, if_neg h3, if_neg h4, if_pos h]
theorem chk_order {r : R} (h1 : ¬ noKind r) (h2 : ¬ strange r) (h3 : ¬ manyB r) (h4 : ¬ badL r) (h5 : Mt.chk r.ms = 0) (h : r.til < r.frm) : chk r = 9 := by unfold chk; rw [if_neg h1, if_neg h2, if_neg h3, if_neg h4, if_neg (by simp [h5]), if_pos h]
theorem chk_right {r : R} (h1 : ¬ noKind r) (h2 : ¬ strange r) (h3 : ¬ manyB r) (h4 : ¬ badL r) (h5 : Mt.chk r.ms = 0) (h : ¬ r.til < r.frm) : chk r = 0 := by unfold chk; rw [if_neg h1, if_neg h2, if_neg h3, if_neg h4, if_neg (by simp [h5]), if_neg h]
structure Commit (r : R) : Prop where
 kind : r.kind = 1
 ms : r.ms = []
 frm : r.frm = 0
 til : r.til = 0
 one : 1 <= r.smp.length
 few : r.smp.length <= 32
 ok : ∀ x ∈ r.smp, Lb.Ok x.1
structure Delete (r : R) : Prop where
 kind : r.kind = 2
 smp : r.smp = []
 ms : Mt.chk r.ms = 0
 le : r.frm <= r.til
theorem chk_zero {r : R} : chk r = 0 ↔ Commit r \/ Delete r := by
 classical
 by_cases h1 : noKind r
 ·rw [chk_kind h1]
  constructor
  ·intro h; cases h
  ·rintro (h | h)
   ·exact absurd h.kind h1.1
   ·exact absurd h.kind h1.2
 by_cases h2 : strange r
 ·rw [chk_field h1 h2]
  constructor
  ·intro h; cases h
  ·rintro (h | h)
   ·rcases h2 with ⟨-, h2⟩ | ⟨h2, -⟩
    ·rcases h2 with h2 | h2 | h2
     ·exact absurd h.ms h2
     ·exact absurd h.frm h2
     ·exact absurd h.til h2
    ·exact absurd h.kind h2
   ·rcases h2 with ⟨h2, -⟩ | ⟨-, h2⟩
    ·have := h.kind; omega
    ·exact absurd h.smp h2
 by_cases h3 : manyB r
 ·rw [chk_range h1 h2 h3]
  constructor
  ·intro h; cases h
  ·rintro (h | h)
   ·have := h.one; have := h.few; rcases h3.2 with h3 | h3 <;> omega
   ·have := h.kind; have := h3.1; omega
 by_cases h4 : badL r
 ·rw [chk_label h1 h2 h3 h4]
  constructor
  ·intro h; cases h
  ·obtain ⟨x, hx, hn⟩ := h4
   rintro (h | h)
   ·exact absurd (h.ok x hx) hn
   ·rw [h.smp] at hx; cases hx
 have hcase : r.kind = 1 \/ r.kind = 2 := by
  by_cases c : r.kind = 1
  ·exact .inl c
  ·by_cases c2 : r.kind = 2
   ·exact .inr c2
   ·exact absurd ⟨c, c2⟩ h1
 have hstr := fun h => h2 (.inl h)
 have hstr2 := fun h => h2 (.inr h)
 by_cases h5 : Mt.chk r.ms = 0
 ·by_cases h6 : r.til < r.frm
  ·rw [chk_order h1 h2 h3 h4 h5 h6]
   constructor
   ·intro h; cases h
   ·rintro (h | h)
    ·have := h.frm; have := h.til; omega
    ·have := h.le; omega
  ·rw [chk_right h1 h2 h3 h4 h5 h6]
   refine ⟨fun _ => ?_, fun _ => rfl⟩
   rcases hcase with c | c
   ·have k := fun h => hstr ⟨c, h⟩
    refine .inl ⟨c, ?_, ?_, ?_, ?_, ?_, fun x hx => ?_⟩
    ·by_cases e : r.ms = []
     ·exact e
     ·exact absurd (.inl e) k
    ·by_cases e : r.frm = 0
     ·exact e
     ·exact absurd (.inr (.inl e)) k
    ·by_cases e : r.til = 0
     ·exact e
     ·exact absurd (.inr (.inr e)) k
    ·by_cases e : 1 <= r.smp.length
     ·exact e
     ·exact absurd ⟨c, .inl (by omega)⟩ h3
    ·by_cases e : r.smp.length <= 32
     ·exact e
     ·exact absurd ⟨c, .inr (by omega)⟩ h3
    ·by_cases e : Lb.Ok x.1
     ·exact e
     ·exact absurd ⟨x, hx, e⟩ h4
   ·refine .inr ⟨c, ?_, h5, by omega⟩
    by_cases e : r.smp = []
    ·exact e
    ·exact absurd ⟨by omega, e⟩ hstr2
 ·rw [chk_match h1 h2 h3 h4 h5]
  constructor
  ·intro h; exact absurd h h5
  ·rintro (h | h)
   ·rw [h.ms] at h5; exact absurd rfl h5
   ·exact absurd h.ms h5
def sB (x : Smp) : List UInt8 := numL (Lb.encB x.1).length ++ Lb.encB x.1 ++ numL (zig x.2.1) ++ numL x.2.2
def encB (r : R) : List UInt8 := numL r.kind.toNat ++ if r.kind = 2 then Mt.encB r.ms ++ numL (zig r.frm) ++ numL (zig r.til) else numL r.smp.length ++ r.smp.flatMap sB
theorem encL_len {l : List Lb.Pr} (h : Lb.Ok l) : (Lb.encB l).length <= 921 := by
 have h1 := nd_le l.length
 have h2 : (l.flatMap Lb.pB).length <= 114 * l.length := Lb.flat_len h.good.small
 have h3 := h.few
 rw [Lb.encB, List.length_append, numL_length]; omega
theorem sB_len {x : Smp} (h : Lb.Ok x.1) : (sB x).length <= 950 := by
 have h1 := encL_len h
 have h2 := nd_le (Lb.encB x.1).length
 have h3 := nd_le (zig x.2.1)
 have h4 := nd_le x.2.2
 simp only [sB, List.length_append, numL_length]; omega
theorem flat_len : ∀ {l : List Smp}, (∀ x ∈ l, Lb.Ok x.1) -> (l.flatMap sB).length <= 950 * l.length
 | [], _ => by simp
 | x :: l, h => by
  have h1 := sB_len (h x (by simp))
  have h2 := flat_len (l := l) fun q hq => h q (by simp [hq])
  rw [List.flatMap_cons, List.length_append, List.length_cons]; omega
theorem encB_len {r : R} (h : chk r = 0) : (encB r).length <= 40000 := by
 have h0 := nd_le r.kind.toNat
 rcases chk_zero.1 h with h | h
 ·have h1 := flat_len h.ok
  have h2 := nd_le r.smp.length
  have h3 := h.few
  rw [encB, if_neg (by rw [h.kind]; decide)]
  simp only [List.length_append, numL_length]; omega
 ·have h1 := Mt.encB_len h.ms
  have h2 := nd_le (zig r.frm)
  have h3 := nd_le (zig r.til)
  rw [encB, if_pos h.kind]
  simp only [List.length_append, numL_length]; omega
end Rc
end
section
open Go.RowKit Go.Sort
namespace Rc
open Bit Dsk Ob Dig
abbrev Rd (α : Type) := List UInt8 -> Except Nat (α × List UInt8)
def bnd {α β : Type} (x : Rd α) (f : α -> Rd β) : Rd β := fun s => match x s with
 | .error e => .error e
 | .ok (a, r) => f a r
theorem bnd_ok {α β : Type} {x : Rd α} {f : α -> Rd β} {s r : List UInt8} {a : α} (h : x s = .ok (a, r)) : bnd x f s = f a r := by simp [bnd, h]
theorem bnd_no {α β : Type} {x : Rd α} {f : α -> Rd β} {s : List UInt8} {e : Nat} (h : x s = .error e) : bnd x f s = .error e := by simp [bnd, h]
def retR {α : Type} (a : α) : Rd α := fun s => .ok (a, s)
def numR : Rd Nat := fun s => if (gotN s).2.2 = 0 then .ok ((gotN s).1, s.drop (gotN s).2.1) else .error (gotN s).2.2
def sgnR : Rd Int := fun s => if (gotN s).2.2 = 0 then .ok (unz (gotN s).1, s.drop (gotN s).2.1) else .error (gotN s).2.2
def txtR (m : Int) : Rd ByteArray := fun s => if (Lb.txt m s).2.2 = 0 then .ok ((Lb.txt m s).1, (Lb.txt m s).2.1) else .error (Lb.txt m s).2.2
def mustR (b : Bool) (y : Nat) : Rd Unit := fun s => if b = true then .ok ((), s) else .error y
noncomputable def labR (t : ByteArray) : Rd (List Lb.Pr) := fun s => if (Lb.dec t.data.toList).2 = 0 then .ok ((Lb.dec t.data.toList).1, s) else .error (Lb.dec t.data.toList).2
def takeR : Rd (List Mt.M) := fun s => if (Mt.tk s).2.2 = 0 then .ok ((Mt.tk s).1, (Mt.tk s).2.1) else .error (Mt.tk s).2.2
noncomputable def smpK {β : Type} (f : Smp -> Rd β) : Rd β := bnd (txtR 1024) fun t => bnd (labR t) fun l => bnd sgnR fun a => bnd numR fun b => f (l, a, b)
noncomputable def manyK {β : Type} (f : List Smp -> Rd β) : Nat -> List Smp -> Rd β
 | 0, acc => f acc
 | n + 1, acc => smpK fun x => manyK f n (acc ++ [x])
noncomputable def comR : Rd R := bnd numR fun n => bnd (mustR (decide (1 <= n) && decide (n <= 32)) 2) fun _ => manyK (fun l => retR ⟨1, l, [], 0, 0⟩) n []
def delR : Rd R := bnd takeR fun m => bnd sgnR fun a => bnd sgnR fun b => retR ⟨2, [], m, a, b⟩
noncomputable def allR : Rd R := bnd numR fun k => bnd (mustR (decide (k = 1) || decide (k = 2)) 5) fun _ => if k = 1 then comR else delR
noncomputable def dec (s : List UInt8) : R × Nat := match allR s with
 | .error e => (zero, e)
 | .ok (r, x) => if x ≠ [] then (zero, 6) else if chk r ≠ 0 then (zero, chk r) else (r, 0)
theorem dec_err {s : List UInt8} {e : Nat} (h : allR s = .error e) : dec s = (zero, e) := by unfold dec; rw [h]
theorem dec_more {s x : List UInt8} {r : R} (h : allR s = .ok (r, x)) (hx : x ≠ []) : dec s = (zero, 6) := by unfold dec; rw [h]; simp [hx]
theorem dec_chk {s : List UInt8} {r : R} (h : allR s = .ok (r, [])) (hc : chk r ≠ 0) : dec s = (zero, chk r) := by unfold dec; rw [h]; simp [hc]
theorem dec_ok {s : List UInt8} {r : R} (h : allR s = .ok (r, [])) (hc : chk r = 0) : dec s = (r, 0) := by unfold dec; rw [h]; simp [hc]
def Rest {β : Type} (F : Rd β) (s : ByteArray) (e : Nat) (K : Except Nat (β × List UInt8)) : Prop := (e = 0 -> F s.data.toList = K) /\ (e ≠ 0 -> K = .error e)
def Nx {α : Type} (x : Rd α) (s : ByteArray) (e : Nat) (a : α) (s' : ByteArray) (e' : Nat) : Prop :=
 (e = 0 -> (e' = 0 /\ x s.data.toList = .ok (a, s'.data.toList)) \/ (e' ≠ 0 /\ x s.data.toList = .error e')) /\ (e ≠ 0 -> e' = e)
theorem Rest.step {α β : Type} {x : Rd α} {f : α -> Rd β} {s s' : ByteArray} {e e' : Nat} {a : α} {K : Except Nat (β × List UInt8)} (h : Rest (bnd x f) s e K) (hx : Nx x s e a s' e') : Rest (f a) s' e' K := by
 by_cases he : e = 0
 ·rcases hx.1 he with ⟨h1, h2⟩ | ⟨h1, h2⟩
  ·exact ⟨fun _ => by rw [<- h.1 he, bnd_ok h2], fun c => absurd h1 c⟩
  ·exact ⟨fun c => absurd c h1, fun _ => by rw [<- h.1 he, bnd_no h2]⟩
 ·have h1 := hx.2 he
  subst h1
  exact ⟨fun c => absurd c he, fun _ => h.2 he⟩
theorem Rest.start {β : Type} (F : Rd β) (s : ByteArray) : Rest F s 0 (F s.data.toList) := ⟨fun _ => rfl, fun h => absurd rfl h⟩
theorem Rest.ret {β : Type} {a : β} {s : ByteArray} {e : Nat} {K : Except Nat (β × List UInt8)} (h : Rest (retR a) s e K) : (e = 0 -> K = .ok (a, s.data.toList)) /\ (e ≠ 0 -> K = .error e) := ⟨fun he => (h.1 he).symm, h.2⟩
theorem nx_err {α : Type} (x : Rd α) (s : ByteArray) {e : Nat} (he : e ≠ 0) (a : α) (s' : ByteArray) : Nx x s e a s' e := ⟨fun c => absurd c he, fun _ => rfl⟩
theorem nx_num {s : ByteArray} {n k x : Nat} (hg : gotN s.data.toList = (n, k, x)) : Nx numR s 0 n (s.extract k s.size) x := by
 refine ⟨fun _ => ?_, fun h => absurd rfl h⟩
 by_cases hx : x = 0
 ·exact .inl ⟨hx, by unfold numR; rw [hg, Lb.drop_list]; simp [hx]⟩
 ·exact .inr ⟨hx, by unfold numR; rw [hg]; simp [hx]⟩
theorem nx_sgn {s : ByteArray} {n k x : Nat} (hg : gotN s.data.toList = (n, k, x)) : Nx sgnR s 0 (unz n) (s.extract k s.size) x := by
 refine ⟨fun _ => ?_, fun h => absurd rfl h⟩
 by_cases hx : x = 0
 ·exact .inl ⟨hx, by unfold sgnR; rw [hg, Lb.drop_list]; simp [hx]⟩
 ·exact .inr ⟨hx, by unfold sgnR; rw [hg]; simp [hx]⟩
theorem nx_txt {s : ByteArray} {m : Int} {n k x : Nat} (hg : gotT s.data.toList m = (n, k, x)) : Nx (txtR m) s 0 (s.extract k (k + n)) (s.extract (k + n) s.size) x := by
 have ht := Lb.txt_is hg
 refine ⟨fun _ => ?_, fun h => absurd rfl h⟩
 by_cases hx : x = 0
 ·exact .inl ⟨hx, by unfold txtR; rw [ht]; simp [hx]⟩
 ·exact .inr ⟨hx, by unfold txtR; rw [ht]; simp [hx]⟩
theorem nx_must (b : Bool) (s : ByteArray) (e y : Nat) (hy : y ≠ 0) : Nx (mustR b y) s e () s (Lb.mustE b e y) := by
 refine ⟨fun he => ?_, fun he => by simp [Lb.mustE, he]⟩
 subst he
 cases b with
 | true => exact .inl ⟨by simp [Lb.mustE], rfl⟩
 | false => exact .inr ⟨by simp [Lb.mustE, hy], by simp [mustR, Lb.mustE]⟩
theorem nx_lab (t : ByteArray) (s : ByteArray) : Nx (labR t) s 0 (Lb.dec t.data.toList).1 s (Lb.dec t.data.toList).2 := by
 refine ⟨fun _ => ?_, fun h => absurd rfl h⟩
 by_cases hx : (Lb.dec t.data.toList).2 = 0
 ·exact .inl ⟨hx, by unfold labR; rw [if_pos hx]⟩
 ·exact .inr ⟨hx, by unfold labR; rw [if_neg hx]⟩
theorem num_enc (n : Nat) (h : n < 18446744073709551616) (r : List UInt8) : numR (numL n ++ r) = .ok (n, r) := by
 unfold numR
 rw [got_num n h r]
 simp [<- numL_length]
theorem sgn_enc (x : Int) (h0 : -9223372036854775808 <= x) (h1 : x <= 9223372036854775807) (r : List UInt8) : sgnR (numL (zig x) ++ r) = .ok (x, r) := by
 unfold sgnR
 rw [got_num _ (zig_lt x h0 h1) r, unz_zig]
 simp [<- numL_length]
theorem take_enc {l : List Mt.M} (h : Mt.chk l = 0) (r : List UInt8) : takeR (Mt.encB l ++ r) = .ok (l, r) := by
 unfold takeR; rw [Mt.tk_enc h r]; simp
def RngS (x : Smp) : Prop := -9223372036854775808 <= x.2.1 /\ x.2.1 <= 9223372036854775807 /\ x.2.2 < 18446744073709551616
theorem smp_enc {β : Type} (f : Smp -> Rd β) {x : Smp} (h : Lb.Ok x.1) (hr : RngS x) (r : List UInt8) : smpK f (sB x ++ r) = f x r := by
 obtain ⟨h0, h1, h2⟩ := hr
 have hl := encL_len h
 obtain ⟨t, ht⟩ : ∃ t : ByteArray, t = ⟨(Lb.encB x.1).toArray⟩ := ⟨_, rfl⟩
 have htl : t.data.toList = Lb.encB x.1 := by rw [ht]
 have hts : t.size = (Lb.encB x.1).length := by rw [<- htl]; simp
 have e1 : sB x ++ r = numL t.size ++ t.data.toList ++ (numL (zig x.2.1) ++ (numL x.2.2 ++ r)) := by
  rw [hts, htl, sB]; simp [List.append_assoc]
 have k1 : txtR 1024 (sB x ++ r) = .ok (t, numL (zig x.2.1) ++ (numL x.2.2 ++ r)) := by
  unfold txtR
  rw [e1, Lb.txt_text t 1024 _ (by omega) (by omega)]; simp
 have k2 : labR t (numL (zig x.2.1) ++ (numL x.2.2 ++ r)) = .ok (x.1, numL (zig x.2.1) ++ (numL x.2.2 ++ r)) := by
  unfold labR
  have := Lb.dec_enc h []
  rw [List.append_nil] at this
  rw [htl, this]; simp
 unfold smpK
 rw [bnd_ok k1, bnd_ok k2, bnd_ok (sgn_enc _ h0 h1 _), bnd_ok (num_enc _ h2 r)]
theorem many_enc {β : Type} (f : List Smp -> Rd β) : ∀ (l acc : List Smp) (r : List UInt8), (∀ x ∈ l, Lb.Ok x.1 /\ RngS x) -> manyK f l.length acc (l.flatMap sB ++ r) = f (acc ++ l) r
 | [], acc, r, _ => by simp [manyK]
 | x :: l, acc, r, h => by
  have e : (x :: l).flatMap sB ++ r = sB x ++ (l.flatMap sB ++ r) := by rw [List.flatMap_cons, List.append_assoc]
  rw [e, List.length_cons, manyK, smp_enc _ (h x (by simp)).1 (h x (by simp)).2, many_enc f l (acc ++ [x]) r fun q hq => h q (by simp [hq])]
  simp
structure Rng (r : R) : Prop where
 smp : ∀ x ∈ r.smp, RngS x
 frm : -9223372036854775808 <= r.frm /\ r.frm <= 9223372036854775807
 til : -9223372036854775808 <= r.til /\ r.til <= 9223372036854775807
theorem all_enc {r : R} (h : chk r = 0) (hr : Rng r) (x : List UInt8) : allR (encB r ++ x) = .ok (r, x) := by
 rcases chk_zero.1 h with hc | hd
 ·have e : encB r ++ x = numL 1 ++ (numL r.smp.length ++ (r.smp.flatMap sB ++ x)) := by
   rw [encB, if_neg (by rw [hc.kind]; decide), hc.kind]; simp [List.append_assoc]
  have e2 : r = ⟨1, r.smp, [], 0, 0⟩ := by
   obtain ⟨k, l, m, a, b⟩ := r
   have h1 := hc.kind; have h2 := hc.ms; have h3 := hc.frm; have h4 := hc.til
   simp only at h1 h2 h3 h4
   rw [h1, h2, h3, h4]
  have h1 := hc.one
  have h2 := hc.few
  unfold allR
  rw [e, bnd_ok (num_enc 1 (by decide) _), bnd_ok (a := ()) (r := numL r.smp.length ++ (r.smp.flatMap sB ++ x)) (by rfl), if_pos rfl]
  unfold comR
  rw [bnd_ok (num_enc _ (by omega) _), bnd_ok (a := ()) (r := r.smp.flatMap sB ++ x) (by unfold mustR; simp [h1, h2]), many_enc _ _ _ _ fun y hy => ⟨hc.ok y hy, hr.smp y hy⟩]
  rw [List.nil_append, <- e2]; rfl
 ·have e : encB r ++ x = numL 2 ++ (Mt.encB r.ms ++ (numL (zig r.frm) ++ (numL (zig r.til) ++ x))) := by
   rw [encB, if_pos hd.kind, hd.kind]; simp [List.append_assoc]
  have e2 : r = ⟨2, [], r.ms, r.frm, r.til⟩ := by
   obtain ⟨k, l, m, a, b⟩ := r
   have h1 := hd.kind; have h2 := hd.smp
   simp only at h1 h2
   rw [h1, h2]
  unfold allR
  rw [e, bnd_ok (num_enc 2 (by decide) _), bnd_ok (a := ()) (r := Mt.encB r.ms ++ (numL (zig r.frm) ++ (numL (zig r.til) ++ x))) (by rfl), if_neg (by decide)]
  unfold delR
  rw [bnd_ok (take_enc hd.ms _), bnd_ok (sgn_enc _ hr.frm.1 hr.frm.2 _), bnd_ok (sgn_enc _ hr.til.1 hr.til.2 _), <- e2]; rfl
theorem dec_enc {r : R} (h : chk r = 0) (hr : Rng r) : dec (encB r) = (r, 0) := by
 have := all_enc h hr []
 rw [List.append_nil] at this
 exact dec_ok this h
end Rc
end
section
open Go.RowKit Go.Sort
namespace Rc
open Bit Dsk Ob Dig Lb
set_option maxHeartbeats 800000 in
theorem innum_err (w : World) (S : Nat -> Prop) (p : Nat) (s : ByteArray) (e : Nat) (he : e ≠ 0) (h : InO p s e w S) :
  Calls Tryz.prog 23 #[.pointer (some ⟨p, 0, none⟩)] w fun r w' => r = .returned (.int .u64 0) /\ ObjStep (InO p s e) S w w' := by
 obtain ⟨c0, c1, f0, f1⟩ := Rw.box2See h
 have d : ((e : Int) != 0) = true := by rw [bne_iff_ne]; omega
 replace h := Lib.hid h
 go_enter Tryz.func23, Tryz.ntmps23
 go_wp2_with fail
 go_ret
 exact ⟨rfl, ObjStep.refl h.out⟩
set_option maxHeartbeats 800000 in
theorem insigned_err (w : World) (S : Nat -> Prop) (p : Nat) (s : ByteArray) (e : Nat) (he : e ≠ 0) (h : InO p s e w S) :
  Calls Tryz.prog 58 #[.pointer (some ⟨p, 0, none⟩)] w fun r w' => r = .returned (.int .i64 0) /\ ObjStep (InO p s e) S w w' := by
 obtain ⟨c0, c1, f0, f1⟩ := Rw.box2See h
 have d : ((e : Int) != 0) = true := by rw [bne_iff_ne]; omega
 replace h := Lib.hid h
 go_enter Tryz.func58, Tryz.ntmps58
 go_wp2_with fail
 go_ret
 exact ⟨rfl, ObjStep.refl h.out⟩
set_option maxHeartbeats 1600000 in
theorem insigned_any (w : World) (S : Nat -> Prop) (p : Nat) (s : ByteArray) (hs : s.size <= 9223372036854775807) (n k x : Nat) (hg : gotN s.data.toList = (n, k, x)) (t : ByteArray) (ht : s.extract k s.size = t) (h : InO p s 0 w S) :
  Calls Tryz.prog 58 #[.pointer (some ⟨p, 0, none⟩)] w fun e w' => e = .returned (.int .i64 (unz n)) /\ ObjStep (InO p t x) S w w' := by
 have hk : k <= s.size := by
  have := (gotN_lt s.data.toList).2.2.1
  rw [hg] at this
  simpa using this
 obtain ⟨z, hz⟩ : ∃ z, unz n = z := ⟨_, rfl⟩
 have HG : Hid (∀ w, Calls Tryz.prog 107 #[.string s] w fun e w' => e = .returned (.tuple #[.int .i64 z, .int .i64 (k : Int), .int .i64 (x : Int)]) /\ Below w.heap.size w w') := Lib.hid fun w => by
  have := refgetsigned_any s hs w
  rw [hg] at this
  simp only at this
  rw [hz] at this
  exact this
 rw [hz]
 have hB := Rw.box2See h
 obtain ⟨c0, c1, f0, f1⟩ := hB
 replace h := Lib.hid h
 clear hg hz
 go_enter Tryz.func58, Tryz.ntmps58
 go_wp2_with fail
 refine (HG.out _).mono ?_
 rintro e w2 ⟨rfl, hb⟩
 obtain ⟨c0', c1', f0', f1'⟩ := boxed_below ⟨c0, c1, f0, f1⟩ hb
 have hend := Lib.hid (fun y : Value => Rw.box2Set10 (x := .string t) (y := y) h.out (newOf hb))
 have e0 := fun y : Value => World.set_other (v := y) (by decide : (1 : Nat) ≠ 0) c0'
 have e1 : ∀ y : Value, (w2.setCell ⟨p, 1, none⟩ y).frozen? ⟨p, 0, none⟩ = false := fun y => (World.frozen?_setCell w2 _ _ _).trans f0'
 clear HG hb h c0 c1 f0 f1
 go_wp2_with fail
 go_ret
 exact ⟨rfl, hend.out _⟩
section
variable {J : Ob.Rel} {p : Nat} {s : ByteArray} {e : Nat} {w0 w : World}
theorem rNum (hJ : Thing J) (h : Own (Tens (InO p s e) J) w0 w) (hs : s.size <= 140737488355328) :
  Calls Tryz.prog 23 #[.pointer (some ⟨p, 0, none⟩)] w fun r w' => ∃ (n : Nat) (s' : ByteArray) (e' : Nat), r = .returned (.int .u64 (n : Int)) /\ n < 18446744073709551616 /\ s'.size <= 140737488355328 /\ Nx numR s e n s' e' /\ Own (Tens (InO p s' e') J) w0 w' := by
 by_cases he : e = 0
 ·subst he
  obtain ⟨n, k, x, hg⟩ : ∃ n k x, gotN s.data.toList = (n, k, x) := ⟨_, _, _, rfl⟩
  have hn := (gotN_lt s.data.toList).1
  rw [hg] at hn
  exact (Mt.ioNum hJ h (by omega) hg).mono fun r w' ⟨h1, h2⟩ => ⟨n, _, x, h1, hn, Nat.le_trans (ext_size _ _ _) hs, nx_num hg, h2⟩
 ·exact (ownL (Q := fun r => r = .returned (.int .u64 0)) hJ h fun A _ hA => innum_err w A p s e he hA).mono fun r w' ⟨h1, h2⟩ => ⟨0, s, e, h1, by decide, hs, nx_err _ _ he _ _, h2⟩
theorem rSgn (hJ : Thing J) (h : Own (Tens (InO p s e) J) w0 w) (hs : s.size <= 140737488355328) :
  Calls Tryz.prog 58 #[.pointer (some ⟨p, 0, none⟩)] w fun r w' => ∃ (n : Int) (s' : ByteArray) (e' : Nat), r = .returned (.int .i64 n) /\ (-9223372036854775808 <= n /\ n <= 9223372036854775807) /\ s'.size <= 140737488355328 /\ Nx sgnR s e n s' e' /\ Own (Tens (InO p s' e') J) w0 w' := by
 by_cases he : e = 0
 ·subst he
  obtain ⟨n, k, x, hg⟩ : ∃ n k x, gotN s.data.toList = (n, k, x) := ⟨_, _, _, rfl⟩
  have hn := (gotN_lt s.data.toList).1
  rw [hg] at hn
  simp only at hn
  exact (ownL (Q := fun r => r = .returned (.int .i64 (unz n))) hJ h fun A _ hA => insigned_any w A p s (by omega) n k x hg _ rfl hA).mono fun r w' ⟨h1, h2⟩ => ⟨unz n, _, x, h1, by unfold unz; split <;> omega, Nat.le_trans (ext_size _ _ _) hs, nx_sgn hg, h2⟩
 ·exact (ownL (Q := fun r => r = .returned (.int .i64 0)) hJ h fun A _ hA => insigned_err w A p s e he hA).mono fun r w' ⟨h1, h2⟩ => ⟨0, s, e, h1, by omega, hs, nx_err _ _ he _ _, h2⟩
theorem rTxt (hJ : Thing J) (h : Own (Tens (InO p s e) J) w0 w) (hs : s.size <= 140737488355328) (m : Int) (hm : m <= 9223372036854775807) :
  Calls Tryz.prog 56 #[.pointer (some ⟨p, 0, none⟩), .int .i64 m] w fun r w' => ∃ (t s' : ByteArray) (e' : Nat), r = .returned (.string t) /\ t.size <= 140737488355328 /\ s'.size <= 140737488355328 /\ Nx (txtR m) s e t s' e' /\ Own (Tens (InO p s' e') J) w0 w' := by
 by_cases he : e = 0
 ·subst he
  obtain ⟨n, k, x, hg⟩ : ∃ n k x, gotT s.data.toList m = (n, k, x) := ⟨_, _, _, rfl⟩
  exact (Mt.ioText hJ h (by omega) hm hg).mono fun r w' ⟨h1, h2⟩ => ⟨_, _, x, h1, Nat.le_trans (ext_size _ _ _) hs, Nat.le_trans (ext_size _ _ _) hs, nx_txt hg, h2⟩
 ·exact (Mt.ioTextNo (most := m) hJ h he).mono fun r w' ⟨h1, h2⟩ => ⟨_, s, e, h1, Nat.zero_le _, hs, nx_err _ _ he _ _, h2⟩
theorem rMust (hJ : Thing J) (h : Own (Tens (InO p s e) J) w0 w) (b : Bool) (y : Nat) (hy : y ≠ 0) :
  Calls Tryz.prog 60 #[.pointer (some ⟨p, 0, none⟩), .bool b, .int .i64 (y : Int)] w fun r w' => ∃ e', r = .returned (.tuple #[]) /\ Nx (mustR b y) s e () s e' /\ Own (Tens (InO p s e') J) w0 w' :=
 (Mt.ioMust hJ h b y).mono fun r w' ⟨h1, h2⟩ => ⟨_, h1, nx_must b s e y hy, h2⟩
theorem rTake (hJ : Thing J) (h : Own (Tens (InO p s 0) J) w0 w) (hs : s.size <= 140737488355328) :
  Calls Tryz.prog 61 #[.pointer (some ⟨p, 0, none⟩)] w fun x w' => ∃ (u : Value) (l : List Mt.M) (s' : ByteArray) (e' : Nat), x = .returned u /\ s'.size <= 140737488355328 /\ Mt.Bnd l /\ Nx takeR s 0 l s' e' /\ Own (Tens (InO p s' e') (Tens J (Rw.RowO Mt.layM 174 u l))) w0 w' :=
 (Mt.take_any hJ hs h).mono fun x w' ⟨u, l, r, e', h1, h2, h3, h4, h5⟩ => ⟨u, l, r, e', h1, h3, h4, ⟨fun _ => by
  by_cases he : e' = 0
  ·have := h2.2 he
   exact .inl ⟨he, by unfold takeR; rw [this]; simp⟩
  ·exact .inr ⟨he, by unfold takeR; rw [h2.1, if_neg he]⟩, fun c => absurd rfl c⟩, h5⟩
end
end Rc
end
section
open Go.RowKit Go.ChangeShapes Go.WideShapes
namespace Rc
open Bit Dsk Ob Dig
abbrev RS := Rw.Sl × Int × Nat
def layS : Rw.Lay RS := ⟨3, by decide, fun x => [x.1.v, .int .i64 x.2.1, .int .u64 (x.2.2 : Int)], fun _ => rfl, fun x u hu => by
 simp only [List.mem_cons, List.not_mem_nil, or_false] at hu
 rcases hu with rfl | rfl | rfl <;> rfl⟩
def innS : Rw.Inner RS Smp where
 rel w S a b := a.2.1 = b.2.1 /\ a.2.2 = b.2.2 /\ Lb.View w S a.1.v b.1
 upon h hu hd := ⟨h.1, h.2.1, Rw.View.upon h.2.2 hu hd⟩
 mono h hS := ⟨h.1, h.2.1, Rw.View.mono h.2.2 hS⟩
theorem typS : Rw.Typ layS 44 91 40 := Rw.Typ.mk' (z := .agg #[.slice none 0 0, .int .i64 0, .int .u64 0]) Tryz.underlying44 (by kernel_rfl) rfl
abbrev SView := Rw.DView layS innS
theorem SView.cells {w : World} {S : Nat -> Prop} {A : Option Addr} {n c : Nat} {l : List Smp} (h : SView w S (.slice A n c) l) (hp : 0 < l.length) : ∃ b off, A = some ⟨b, off, none⟩ /\ b < w.heap.size /\
  ∀ i (hi : i < l.length), ∃ s : Rw.Sl, Lb.View w S s.v l[i].1 /\ w.cell? ⟨b, off + i * 3, none⟩ = some s.v /\ w.cell? ⟨b, off + i * 3 + 1, none⟩ = some (.int .i64 l[i].2.1) /\ w.cell? ⟨b, off + i * 3 + 2, none⟩ = some (.int .u64 (l[i].2.2 : Int)) := by
 obtain ⟨b, off, h1, h2, h3⟩ := Rw.DView.open h hp
 refine ⟨b, off, h1, h2, fun i hi => ?_⟩
 obtain ⟨⟨s, t, u⟩, ⟨k1, k2, k3⟩, k4⟩ := h3 i hi
 simp only at k1 k2
 subst k1 k2
 exact ⟨s, k3, k4 0 _ rfl, k4 1 _ rfl, k4 2 _ rfl⟩
def BndS (x : Smp) : Prop := Lb.Sml x.1 /\ x.1.length * 32 <= 140737488351232 /\ -9223372036854775808 <= x.2.1 /\ x.2.1 <= 9223372036854775807 /\ x.2.2 < 18446744073709551616
structure Bnd (r : R) : Prop where
 kind : -9223372036854775808 <= r.kind /\ r.kind <= 9223372036854775807
 smp : ∀ x ∈ r.smp, BndS x
 ms : Mt.Bnd r.ms
 frm : -9223372036854775808 <= r.frm /\ r.frm <= 9223372036854775807
 til : -9223372036854775808 <= r.til /\ r.til <= 9223372036854775807
abbrev rv (k : Int) (s m : Rw.Sl) (a b : Int) : Value := .agg #[.int .i64 k, s.v, m.v, .int .i64 a, .int .i64 b]
def RView (w : World) (S : Nat -> Prop) (v : Value) (r : R) : Prop := ∃ s m : Rw.Sl, v = rv r.kind s m r.frm r.til /\ SView w S s.v r.smp /\ Mt.View w S m.v r.ms
theorem RView.upon {w w' : World} {S T : Nat -> Prop} {v : Value} {r : R} (h : RView w S v r) (hu : Upon T w w') (hd : ∀ b, S b -> ¬ T b) : RView w' S v r :=
 let ⟨s, m, h1, h2, h3⟩ := h
 ⟨s, m, h1, Rw.DView.upon h2 hu hd, Rw.View.upon h3 hu hd⟩
theorem RView.new {w w' : World} {S : Nat -> Prop} {v : Value} {r : R} (h : RView w S v r) (hu : New0 w w') : RView w' S v r := h.upon hu fun _ _ f => f
theorem RView.mono {w : World} {S S' : Nat -> Prop} {v : Value} {r : R} (h : RView w S v r) (hS : ∀ b, b < w.heap.size -> S b -> S' b) : RView w S' v r :=
 let ⟨s, m, h1, h2, h3⟩ := h
 ⟨s, m, h1, Rw.DView.mono h2 hS, Rw.View.mono h3 hS⟩
theorem RView.shape {w : World} {S : Nat -> Prop} {v : Value} {r : R} (h : RView w S v r) : ∃ A c A' c', v = .agg #[.int .i64 r.kind, .slice A r.smp.length c, .slice A' r.ms.length c', .int .i64 r.frm, .int .i64 r.til] /\ SView w S (.slice A r.smp.length c) r.smp /\ Mt.View w S (.slice A' r.ms.length c') r.ms := by
 obtain ⟨⟨sa, sn, sc⟩, ⟨ma, mn, mc⟩, h1, h2, h3⟩ := h
 obtain ⟨A, c, e, -, -⟩ := Rw.DView.shape h2
 obtain ⟨A', c', e', -, -⟩ := Rw.View.shape h3
 injection e with e1 e2 e3
 injection e' with f1 f2 f3
 subst e1 e2 e3 f1 f2 f3
 exact ⟨_, _, _, _, h1, h2, h3⟩
end Rc
end
section
open Go.RowKit Go.ChangeShapes Go.WideShapes
namespace Rc
open Bit Dsk Ob Dig
end Rc
end
section
open Go.RowKit Go.Sort
namespace Rc
open Bit Dsk Ob Dig
structure Box5 (g : Nat) (k : Int) (s m : Value) (a b : Int) (w : World) : Prop where
 c0 : w.cell? ⟨g, 0, none⟩ = some (.int .i64 k)
 c1 : w.cell? ⟨g, 1, none⟩ = some s
 c2 : w.cell? ⟨g, 2, none⟩ = some m
 c3 : w.cell? ⟨g, 3, none⟩ = some (.int .i64 a)
 c4 : w.cell? ⟨g, 4, none⟩ = some (.int .i64 b)
theorem Box5.new {g : Nat} {k : Int} {s m : Value} {a b : Int} {w w' : World} (h : Box5 g k s m a b w) (hu : New0 w w') : Box5 g k s m a b w' :=
 ⟨Lb.New0.cells hu h.c0, Lb.New0.cells hu h.c1, Lb.New0.cells hu h.c2, Lb.New0.cells hu h.c3, Lb.New0.cells hu h.c4⟩
theorem box5 (w : World) (k : Int) (s m : Value) (a b : Int) : Box5 w.heap.size k s m a b (w.alloc (.cells #[.int .i64 k, s, m, .int .i64 a, .int .i64 b] 47 (0, 0))) := by
 have h := cell_new w (.cells #[.int .i64 k, s, m, .int .i64 a, .int .i64 b] 47 (0, 0))
 exact ⟨by rw [Lib.cell_of_heap h]; rfl, by rw [Lib.cell_of_heap h]; rfl, by rw [Lib.cell_of_heap h]; rfl, by rw [Lib.cell_of_heap h]; rfl, by rw [Lib.cell_of_heap h]; rfl⟩
def GoodL (l : List Smp) (j : Nat) : Prop := ∀ i (h : i < l.length), i < j -> Lb.Ok l[i].1
theorem GoodL.start (l : List Smp) : GoodL l 0 := fun i _ h => absurd h (Nat.not_lt_zero i)
theorem GoodL.step {l : List Smp} {j : Nat} (h : GoodL l j) (hj : j < l.length) (ho : Lb.Ok l[j].1) : GoodL l (j + 1) := fun i hi h2 => by
 by_cases e : i = j
 ·subst e; exact ho
 ·exact h i hi (by omega)
theorem GoodL.last {l : List Smp} {j : Nat} (h : GoodL l j) (hj : ¬ j < l.length) : ¬ ∃ x ∈ l, ¬ Lb.Ok x.1 := fun ⟨x, hx, hn⟩ => by
 obtain ⟨i, hi, rfl⟩ := List.mem_iff_getElem.1 hx
 exact hn (h i hi (by omega))
set_option maxHeartbeats 6400000 in
theorem refcheck_any (w : World) (S : Nat -> Prop) (v : Value) (r : R) (hv : RView w S v r) (hb : Bnd r) :
  Calls Tryz.prog 62 #[v] w fun e w' => e = .returned (.int .i64 (chk r : Int)) /\ New0 w w' := by
 obtain ⟨A, c, A', c', rfl, hs, hm⟩ := RView.shape hv
 obtain ⟨k, l, ms, a, b⟩ := r
 simp only at hs hm ⊢
 have hB := box5 w k (.slice A l.length c) (.slice A' ms.length c') a b
 have hU := Lib.hid ((Upon.refl (fun _ => False) w).alloc (.cells #[.int .i64 k, .slice A l.length c, .slice A' ms.length c', .int .i64 a, .int .i64 b] 47 (0, 0)))
 have HC := Lib.hid (fun w1 (hu : New0 w w1) => Mt.refcheck_any w1 S _ ms (Rw.View.new hm hu) hb.ms)
 have HL := Lib.hid (fun w1 (hu : New0 w w1) x s (hx : Lb.View w S s x) (hsm : Lb.Sml x) => Lb.refcheck_any w1 S s x (Rw.View.new hx hu) hsm)
 have hsml : Hid (∀ x ∈ l, Lb.Sml x.1) := Lib.hid (fun x hx => (hb.smp x hx).1)
 replace hs := Lib.hid hs
 clear hm hv hb
 by_cases h1 : k = 1
 ·subst h1
  have n1 : ¬ noKind ⟨1, l, ms, a, b⟩ := fun h => h.1 rfl
  by_cases c1 : 0 < ms.length
  ·have hR : Hid ((3 : Int) = (chk ⟨1, l, ms, a, b⟩ : Int)) := Lib.hid (by rw [chk_field n1 (.inl ⟨rfl, .inl (fun e => by rw [show ms = [] from e] at c1; simp at c1)⟩)]; rfl)
   have d1 : (0 : Int) < (ms.length : Int) := by omega
   clear HC HL hsml hB n1 hs
   go_enter Tryz.func62, Tryz.ntmps62
   go_wp2_with fail
   go_ret
   exact ⟨Lb.ret_i hR.out, hU.out⟩
  have hms : ms = [] := by cases ms with | nil => rfl | cons x y => simp at c1
  subst hms
  simp only [List.length_nil] at hB hU HC
  by_cases c2 : a = 0
  ·by_cases c3 : b = 0
   ·subst c2 c3
    have n2 : ¬ strange ⟨1, l, [], 0, 0⟩ := by
     rintro (⟨-, h⟩ | ⟨h, -⟩)
     ·rcases h with h | h | h
      ·exact h rfl
      ·exact h rfl
      ·exact h rfl
     ·exact h rfl
    by_cases c4 : l.length < 1
    ·have hR : Hid ((2 : Int) = (chk ⟨1, l, [], 0, 0⟩ : Int)) := Lib.hid (by rw [chk_range n1 n2 ⟨rfl, .inl c4⟩]; rfl)
     have d2 : (l.length : Int) < 1 := by omega
     clear HC HL hsml hB n1 n2 hs 
     go_enter Tryz.func62, Tryz.ntmps62
     go_wp2_with fail
     go_ret
     exact ⟨Lb.ret_i hR.out, hU.out⟩
    by_cases c5 : 32 < l.length
    ·have hR : Hid ((2 : Int) = (chk ⟨1, l, [], 0, 0⟩ : Int)) := Lib.hid (by rw [chk_range n1 n2 ⟨rfl, .inr c5⟩]; rfl)
     have d2 : ¬ (l.length : Int) < 1 := by omega
     have d3 : (32 : Int) < (l.length : Int) := by omega
     clear HC HL hsml hB n1 n2 hs 
     go_enter Tryz.func62, Tryz.ntmps62
     go_wp2_with fail
     go_ret
     exact ⟨Lb.ret_i hR.out, hU.out⟩
    have n3 : ¬ manyB ⟨1, l, [], 0, 0⟩ := by
     rintro ⟨-, h | h⟩
     ·exact c4 h
     ·exact c5 h
    have d2 : ¬ (l.length : Int) < 1 := by omega
    have d3 : ¬ (32 : Int) < (l.length : Int) := by omega
    have hm0 : Mt.chk [] = 0 := rfl
    rw [hm0] at HC
    have hbad : Hid (badL ⟨1, l, [], 0, 0⟩ -> (16 : Int) = (chk ⟨1, l, [], 0, 0⟩ : Int)) := Lib.hid (fun h => by rw [chk_label n1 n2 n3 h]; rfl)
    have hgood : Hid (¬ badL ⟨1, l, [], 0, 0⟩ -> (0 : Int) = (chk ⟨1, l, [], 0, 0⟩ : Int)) := Lib.hid (fun h => by rw [chk_right n1 n2 n3 h hm0 (Int.lt_irrefl 0)]; rfl)
    obtain ⟨q, hq⟩ : ∃ q, (chk ⟨1, l, [], 0, 0⟩ : Int) = q := ⟨_, rfl⟩
    rw [hq] at hbad hgood ⊢
    obtain ⟨b0, off, rfl, -, hcells⟩ := SView.cells hs.out (by omega)
    replace hcells := Lib.hid hcells
    have hfew : l.length <= 32 := by omega
    clear n1 n2 n3  hm0 hq hs c4 c5
    obtain ⟨wb, hwb⟩ : ∃ wb, w.alloc (.cells #[.int .i64 1, .slice (some ⟨b0, off, none⟩) l.length c, .slice A' 0 c', .int .i64 0, .int .i64 0] 47 (0, 0)) = wb := ⟨_, rfl⟩
    rw [hwb] at hB hU
    replace hwb := Lib.hid hwb
    replace hB := Lib.hid hB
    go_enter Tryz.func62, Tryz.ntmps62
    go_wp2_with fail
    rw [hwb.out]
    clear hwb d2 d3
    go_loopw [4] (fun ov wr => ∃ j : Nat, ov = .int .i64 (j : Int) /\ j <= l.length /\ Hid (GoodL l j) /\ Hid (New0 wb wr)) (fun ov _ => l.length - (intOf ov).toNat)
    case atStart => exact ⟨0, rfl, Nat.zero_le _, Lib.hid (GoodL.start l), Lib.hid (Upon.refl _ _)⟩
    case round =>
     obtain ⟨j, rfl, hj, hg, hu⟩ := hrel
     obtain ⟨k0, k1, k2, k3, k4⟩ := hB.out.new hu.out
     by_cases hlt : j < l.length
     ·obtain ⟨s, hsv, x0, -, -⟩ := hcells.out j hlt
      have r0 := Lb.New0.cells (hU.out.trans hu.out) x0
      have HL1 := Lib.hid (HL.out _ (hU.out.trans hu.out) _ _ hsv (hsml.out _ (List.getElem_mem hlt)))
      by_cases hok : Lb.Ok l[j].1
      ·have hG := Lib.hid (hg.out.step hlt hok)
       rw [Lb.chk_ok hok] at HL1
       clear x0 hsv hg hok
       go_wp2_with fail
       refine HL1.out.mono ?_
       rintro e w2 ⟨rfl, n2, rfl⟩
       have hu2 := Lib.hid (hu.out.trans (upon_drewN _ wr n2))
       clear HL1 hu r0 k0 k1 k2 k3 k4
       go_wp2_with fail
       go_roundw
       case rel => exact ⟨j + 1, by go_num, hlt, hG, hu2⟩
       case measure => simp [intOf]; omega
      ·have hR := Lib.hid (hbad.out ⟨_, List.getElem_mem hlt, hok⟩)
       rw [Lb.chk_no hok] at HL1
       clear x0 hsv hg hok
       go_wp2_with fail
       refine HL1.out.mono ?_
       rintro e w2 ⟨rfl, n2, rfl⟩
       have hu2 := Lib.hid (hU.out.trans (hu.out.trans (upon_drewN _ wr n2)))
       clear HL1 hu r0 k0 k1 k2 k3 k4
       go_wp2_with fail
       go_ret
       exact ⟨Lb.ret_i hR.out, hu2.out⟩
     ·have hR := Lib.hid (hgood.out (hg.out.last hlt))
      have HC1 := Lib.hid (HC.out _ (hU.out.trans hu.out))
      clear hg hcells HL HC
      go_wp2_with fail
      refine HC1.out.mono ?_
      rintro e w2 ⟨rfl, hu2⟩
      obtain ⟨g0, g1, g2, g3, g4⟩ := (hB.out.new hu.out).new hu2
      have hend := Lib.hid ((hU.out.trans hu.out).trans hu2)
      clear HC1 hu hu2 k0 k1 k2 k3 k4
      go_wp2_with fail
      go_ret
      exact ⟨Lb.ret_i hR.out, hend.out⟩
   ·have hR : Hid ((3 : Int) = (chk ⟨1, l, [], a, b⟩ : Int)) := Lib.hid (by rw [chk_field n1 (.inl ⟨rfl, .inr (.inr c3)⟩)]; rfl)
    have d2 : (b != 0) = true := by rw [bne_iff_ne]; exact c3
    subst c2
    clear HC HL hsml hB n1 hs c3  c1
    go_enter Tryz.func62, Tryz.ntmps62
    go_wp2_with fail
    go_ret
    exact ⟨Lb.ret_i hR.out, hU.out⟩
  ·have hR : Hid ((3 : Int) = (chk ⟨1, l, [], a, b⟩ : Int)) := Lib.hid (by rw [chk_field n1 (.inl ⟨rfl, .inr (.inl c2)⟩)]; rfl)
   have d2 : (a != 0) = true := by rw [bne_iff_ne]; exact c2
   clear HC HL hsml hB n1 hs c2  c1
   go_enter Tryz.func62, Tryz.ntmps62
   go_wp2_with fail
   go_ret
   exact ⟨Lb.ret_i hR.out, hU.out⟩
 ·have e1 : (k == 1) = false := by rw [beq_eq_false_iff_ne]; exact h1
  by_cases h2 : k = 2
  ·subst h2
   have n1 : ¬ noKind ⟨2, l, ms, a, b⟩ := fun h => h.2 rfl
   by_cases c1 : 0 < l.length
   ·have hR : Hid ((3 : Int) = (chk ⟨2, l, ms, a, b⟩ : Int)) := Lib.hid (by rw [chk_field n1 (.inr ⟨h1, (fun e => by rw [show l = [] from e] at c1; simp at c1)⟩)]; rfl)
    have d1 : (0 : Int) < (l.length : Int) := by omega
    clear HC HL hsml hB n1 hs
    go_enter Tryz.func62, Tryz.ntmps62
    go_wp2_with fail
    go_ret
    exact ⟨Lb.ret_i hR.out, hU.out⟩
   have hl : l = [] := by cases l with | nil => rfl | cons x y => simp at c1
   subst hl
   simp only [List.length_nil] at hB hU
   have n2 : ¬ strange ⟨2, [], ms, a, b⟩ := by
    rintro (⟨h, -⟩ | ⟨-, h⟩)
    ·exact h1 h
    ·exact h rfl
   have n3 : ¬ manyB ⟨2, [], ms, a, b⟩ := fun h => h1 h.1
   have n4 : ¬ badL ⟨2, [], ms, a, b⟩ := fun ⟨x, hx, _⟩ => by cases hx
   obtain ⟨wb, hwb⟩ : ∃ wb, w.alloc (.cells #[.int .i64 2, .slice A 0 c, .slice A' ms.length c', .int .i64 a, .int .i64 b] 47 (0, 0)) = wb := ⟨_, rfl⟩
   rw [hwb] at hB hU
   obtain ⟨k0, k1, k2, k3, k4⟩ := hB
   have HC1 := Lib.hid (HC.out _ hU.out)
   replace hwb := Lib.hid hwb
   have hB2 : Hid (∀ w', New0 wb w' -> w'.cell? ⟨w.heap.size, 3, none⟩ = some (.int .i64 a) /\ w'.cell? ⟨w.heap.size, 4, none⟩ = some (.int .i64 b)) := Lib.hid (fun w' hu => ⟨Lb.New0.cells hu k3, Lb.New0.cells hu k4⟩)
   by_cases hm : Mt.chk ms = 0
   ·rw [hm] at HC1
    by_cases hab : b < a
    ·have hR : Hid ((9 : Int) = (chk ⟨2, [], ms, a, b⟩ : Int)) := Lib.hid (by rw [chk_order n1 n2 n3 n4 hm hab]; rfl)
     clear n1 n2 n3 n4 hm HC HL hsml hs k0 k1 k2 k3 k4
     go_enter Tryz.func62, Tryz.ntmps62
     go_wp2_with fail
     go_loopw [4] (fun ov wr => ov = .int .i64 0 /\ wr = w.alloc (.cells #[.int .i64 2, .slice A 0 c, .slice A' ms.length c', .int .i64 a, .int .i64 b] 47 (0, 0))) (fun _ _ => 0)
     case atStart => exact ⟨rfl, rfl⟩
     case round =>
      obtain ⟨rfl, rfl⟩ := hrel
      go_wp2_with fail
      rw [hwb.out]
      refine HC1.out.mono ?_
      rintro e w2 ⟨rfl, hu2⟩
      obtain ⟨g3, g4⟩ := hB2.out _ hu2
      have hend := Lib.hid (hU.out.trans hu2)
      clear HC1 hB2 hu2 hwb
      go_wp2_with fail
      go_ret
      exact ⟨Lb.ret_i hR.out, hend.out⟩
    ·have hR : Hid ((0 : Int) = (chk ⟨2, [], ms, a, b⟩ : Int)) := Lib.hid (by rw [chk_right n1 n2 n3 n4 hm hab]; rfl)
     clear n1 n2 n3 n4 hm HC HL hsml hs k0 k1 k2 k3 k4
     go_enter Tryz.func62, Tryz.ntmps62
     go_wp2_with fail
     go_loopw [4] (fun ov wr => ov = .int .i64 0 /\ wr = w.alloc (.cells #[.int .i64 2, .slice A 0 c, .slice A' ms.length c', .int .i64 a, .int .i64 b] 47 (0, 0))) (fun _ _ => 0)
     case atStart => exact ⟨rfl, rfl⟩
     case round =>
      obtain ⟨rfl, rfl⟩ := hrel
      go_wp2_with fail
      rw [hwb.out]
      refine HC1.out.mono ?_
      rintro e w2 ⟨rfl, hu2⟩
      obtain ⟨g3, g4⟩ := hB2.out _ hu2
      have hend := Lib.hid (hU.out.trans hu2)
      clear HC1 hB2 hu2 hwb
      go_wp2_with fail
      go_ret
      exact ⟨Lb.ret_i hR.out, hend.out⟩
   ·have hR : Hid ((Mt.chk ms : Int) = (chk ⟨2, [], ms, a, b⟩ : Int)) := Lib.hid (by rw [chk_match n1 n2 n3 n4 hm])
    obtain ⟨z, hz⟩ : ∃ z, Mt.chk ms = z := ⟨_, rfl⟩
    rw [hz] at HC1 hm hR
    have dz : ((z : Int) == 0) = false := by rw [beq_eq_false_iff_ne]; omega
    clear n1 n2 n3 n4 hz HC HL hsml hs k0 k1 k2 k3 k4 hm
    go_enter Tryz.func62, Tryz.ntmps62
    go_wp2_with fail
    go_loopw [4] (fun ov wr => ov = .int .i64 0 /\ wr = w.alloc (.cells #[.int .i64 2, .slice A 0 c, .slice A' ms.length c', .int .i64 a, .int .i64 b] 47 (0, 0))) (fun _ _ => 0)
    case atStart => exact ⟨rfl, rfl⟩
    case round =>
     obtain ⟨rfl, rfl⟩ := hrel
     go_wp2_with fail
     rw [hwb.out]
     refine HC1.out.mono ?_
     rintro e w2 ⟨rfl, hu2⟩
     have hend := Lib.hid (hU.out.trans hu2)
     clear HC1 hB2 hu2 hwb
     go_wp2_with fail
     go_ret
     exact ⟨Lb.ret_i hR.out, hend.out⟩
  ·have e2 : (k != 2) = true := by rw [bne_iff_ne]; exact h2
   have hR : Hid ((5 : Int) = (chk ⟨k, l, ms, a, b⟩ : Int)) := Lib.hid (by rw [chk_kind ⟨h1, h2⟩]; rfl)
   clear HC HL hsml hB hs h1 h2
   go_enter Tryz.func62, Tryz.ntmps62
   go_wp2_with fail
   go_ret
   exact ⟨Lb.ret_i hR.out, hU.out⟩
end Rc
end
section
open Go.RowKit Go.Sort
namespace Rc
open Bit Dsk Ob Dig Lb
structure Fv where
 a : Value
 b : Value
 c : Value
 d : Value
 e : Value
def Five (T : TypeId) (g : Nat) (v : Fv) (w : World) : Prop := w.heap[g]? = some (.cells #[v.a, v.b, v.c, v.d, v.e] T (0, 0))
theorem Five.cells {T : TypeId} {g : Nat} {v : Fv} {w : World} (h : Five T g v w) : w.cell? ⟨g, 0, none⟩ = some v.a /\ w.cell? ⟨g, 1, none⟩ = some v.b /\ w.cell? ⟨g, 2, none⟩ = some v.c /\ w.cell? ⟨g, 3, none⟩ = some v.d /\ w.cell? ⟨g, 4, none⟩ = some v.e :=
 ⟨by rw [Lib.cell_of_heap h]; rfl, by rw [Lib.cell_of_heap h]; rfl, by rw [Lib.cell_of_heap h]; rfl, by rw [Lib.cell_of_heap h]; rfl, by rw [Lib.cell_of_heap h]; rfl⟩
theorem Five.frozen {T : TypeId} {g : Nat} {v : Fv} {w : World} (h : Five T g v w) (i : Nat) : w.frozen? ⟨g, i, none⟩ = false := by
 unfold Five at h
 simp [World.frozen?, h]
theorem Five.set0 {T : TypeId} {g : Nat} {v : Fv} {w : World} (h : Five T g v w) (x : Value) : Five T g { v with a := x } (w.setCell ⟨g, 0, none⟩ x) := by unfold Five at *; simp [World.setCell, Array.getElem?_modify, h]
theorem Five.set1 {T : TypeId} {g : Nat} {v : Fv} {w : World} (h : Five T g v w) (x : Value) : Five T g { v with b := x } (w.setCell ⟨g, 1, none⟩ x) := by unfold Five at *; simp [World.setCell, Array.getElem?_modify, h]
theorem Five.set2 {T : TypeId} {g : Nat} {v : Fv} {w : World} (h : Five T g v w) (x : Value) : Five T g { v with c := x } (w.setCell ⟨g, 2, none⟩ x) := by unfold Five at *; simp [World.setCell, Array.getElem?_modify, h]
theorem Five.set3 {T : TypeId} {g : Nat} {v : Fv} {w : World} (h : Five T g v w) (x : Value) : Five T g { v with d := x } (w.setCell ⟨g, 3, none⟩ x) := by unfold Five at *; simp [World.setCell, Array.getElem?_modify, h]
theorem Five.set4 {T : TypeId} {g : Nat} {v : Fv} {w : World} (h : Five T g v w) (x : Value) : Five T g { v with e := x } (w.setCell ⟨g, 4, none⟩ x) := by unfold Five at *; simp [World.setCell, Array.getElem?_modify, h]
def setFive (g : Nat) (v : Fv) (w : World) : World := ((((w.setCell ⟨g, 0, none⟩ v.a).setCell ⟨g, 1, none⟩ v.b).setCell ⟨g, 2, none⟩ v.c).setCell ⟨g, 3, none⟩ v.d).setCell ⟨g, 4, none⟩ v.e
theorem Five.setAll {T : TypeId} {g : Nat} {v : Fv} {w : World} (h : Five T g v w) (x : Fv) : Five T g x (setFive g x w) := ((((h.set0 x.a).set1 x.b).set2 x.c).set3 x.d).set4 x.e
theorem Five.roads {T : TypeId} {g : Nat} {v : Fv} {w : World} (h : Five T g v w) (x : Fv) :
  ((w.setCell ⟨g, 0, none⟩ x.a).cell? ⟨g, 1, none⟩ = some v.b /\ (w.setCell ⟨g, 0, none⟩ x.a).frozen? ⟨g, 1, none⟩ = false) /\
  (((w.setCell ⟨g, 0, none⟩ x.a).setCell ⟨g, 1, none⟩ x.b).cell? ⟨g, 2, none⟩ = some v.c /\ ((w.setCell ⟨g, 0, none⟩ x.a).setCell ⟨g, 1, none⟩ x.b).frozen? ⟨g, 2, none⟩ = false) /\
  ((((w.setCell ⟨g, 0, none⟩ x.a).setCell ⟨g, 1, none⟩ x.b).setCell ⟨g, 2, none⟩ x.c).cell? ⟨g, 3, none⟩ = some v.d /\ (((w.setCell ⟨g, 0, none⟩ x.a).setCell ⟨g, 1, none⟩ x.b).setCell ⟨g, 2, none⟩ x.c).frozen? ⟨g, 3, none⟩ = false) /\
  (((((w.setCell ⟨g, 0, none⟩ x.a).setCell ⟨g, 1, none⟩ x.b).setCell ⟨g, 2, none⟩ x.c).setCell ⟨g, 3, none⟩ x.d).cell? ⟨g, 4, none⟩ = some v.e /\ ((((w.setCell ⟨g, 0, none⟩ x.a).setCell ⟨g, 1, none⟩ x.b).setCell ⟨g, 2, none⟩ x.c).setCell ⟨g, 3, none⟩ x.d).frozen? ⟨g, 4, none⟩ = false) := by
 have h1 := h.set0 x.a
 have h2 := h1.set1 x.b
 have h3 := h2.set2 x.c
 have h4 := h3.set3 x.d
 exact ⟨⟨h1.cells.2.1, h1.frozen 1⟩, ⟨h2.cells.2.2.1, h2.frozen 2⟩, ⟨h3.cells.2.2.2.1, h3.frozen 3⟩, ⟨h4.cells.2.2.2.2, h4.frozen 4⟩⟩
theorem upon_setFive {S : Nat -> Prop} {g : Nat} {v : Fv} {w0 w : World} (h : Upon S w0 w) (hg : S g \/ w0.heap.size <= g) : Upon S w0 (setFive g v w) :=
 Upon.setCell (p := ⟨g, 4, none⟩) (Upon.setCell (p := ⟨g, 3, none⟩) (Upon.setCell (p := ⟨g, 2, none⟩) (Upon.setCell (p := ⟨g, 1, none⟩) (Upon.setCell (p := ⟨g, 0, none⟩) h hg _) hg _) hg _) hg _) hg _
def BoxO (g : Nat) (v : Fv) : Ob.Rel := fun w S => Five 47 g v w /\ ∀ x, S x ↔ x = g
theorem thingBox (g : Nat) (v : Fv) : Thing (BoxO g v) := ⟨fun w w' S h hk _ => ⟨(hk g ((h.2 g).2 rfl)).trans h.1, h.2⟩, fun w S h x hx => by rw [(h.2 x).1 hx]; exact (Array.getElem?_eq_some_iff.1 h.1).1⟩
theorem boxMade {I : Ob.Rel} (hI : Thing I) {w0 w : World} (H : Own I w0 w) (v : Fv) : Own (Tens I (BoxO w.heap.size v)) w0 (w.alloc (.cells #[v.a, v.b, v.c, v.d, v.e] 47 (0, 0))) :=
 Own.new hI H (T := fun x => x = w.heap.size) ⟨cell_new w _, fun _ => Iff.rfl⟩ (fun x hx => by rw [hx]; exact Nat.le_refl _) ((Upon.refl _ w).alloc _)
theorem boxStep {g : Nat} {v v' : Fv} {w : World} {S : Nat -> Prop} (h : BoxO g v w S) {i : Nat} {x : Value} (hn : Five 47 g v' (w.setCell ⟨g, i, none⟩ x)) : ObjStep (BoxO g v') S w (w.setCell ⟨g, i, none⟩ x) :=
 ⟨⟨S, ⟨hn, h.2⟩, fun _ h => h, fun _ h => .inl h⟩, Upon.setCell (p := ⟨g, i, none⟩) (Upon.refl S w) (.inl ((h.2 g).2 rfl)) x⟩
def LabO (s : Rw.Sl) (l : List Pr) : Ob.Rel := fun w S => Lb.View w S s.v l /\ ∀ x, S x -> x < w.heap.size
theorem upon_keep {w w' : World} {S : Nat -> Prop} (hk : ∀ b, S b -> w'.heap[b]? = w.heap[b]?) {s : Rw.Sl} {l : List Pr} (h : Lb.View w S s.v l) : Lb.View w' S s.v l :=
 let ⟨A, c, h1, h2, h3, h4⟩ := h
 ⟨A, c, h1, h2, h3, fun hp => let ⟨b, off, k1, k2, k3⟩ := h4 hp
  ⟨b, off, k1, k2, fun i hi t u ht => by rw [<- k3 i hi t u ht, World.cell?, World.cell?, hk b k2]⟩⟩
theorem thingLab (s : Rw.Sl) (l : List Pr) : Thing (LabO s l) := ⟨fun w w' S h hk hs => ⟨upon_keep hk h.1, fun x hx => Nat.lt_of_lt_of_le (h.2 x hx) hs⟩, fun w S h x hx => h.2 x hx⟩
def LabsO (rs : List RS) (l : List Smp) : Ob.Rel := fun w S => rs.length = l.length /\ (∀ i (h1 : i < rs.length) (h2 : i < l.length), innS.rel w S rs[i] l[i]) /\ ∀ x, S x -> x < w.heap.size
theorem thingLabs (rs : List RS) (l : List Smp) : Thing (LabsO rs l) := ⟨fun w w' S h hk hs => ⟨h.1, fun i h1 h2 => ⟨(h.2.1 i h1 h2).1, (h.2.1 i h1 h2).2.1, upon_keep hk (h.2.1 i h1 h2).2.2⟩, fun x hx => Nat.lt_of_lt_of_le (h.2.2 x hx) hs⟩, fun w S h x hx => h.2.2 x hx⟩
theorem labsNone {I : Ob.Rel} (hI : Thing I) {w0 w : World} (H : Own I w0 w) : Own (Tens I (LabsO [] [])) w0 w :=
 Own.new hI H (T := fun _ => False) ⟨rfl, fun i h1 => absurd h1 (by simp), fun x hx => hx.elim⟩ (fun x hx => hx.elim) (Upon.refl _ w)
theorem labMade {I : Ob.Rel} (hI : Thing I) {w0 w w' : World} (H : Own I w0 w) {s : Rw.Sl} {l : List Pr} (hv : Lb.View w' (Nw w) s.v l) (hu : New0 w w') : Own (Tens I (LabO s l)) w0 w' :=
 Own.new hI H (T := fun x => w.heap.size <= x /\ x < w'.heap.size) ⟨hv.mono fun b hb h => ⟨h, hb⟩, fun x hx => hx.2⟩ (fun x hx => hx.1) hu
theorem labs_add {rs : List RS} {l : List Smp} {s : Rw.Sl} {ls : List Pr} {t : Int} {u : Nat} {w : World} {S : Nat -> Prop} (h : Tens (LabsO rs l) (LabO s ls) w S) : LabsO (rs ++ [(s, t, u)]) (l ++ [(ls, t, u)]) w S := by
 obtain ⟨A, B, ⟨h1, h2, h3⟩, ⟨k1, k2⟩, -, hS⟩ := h
 refine ⟨by simp [h1], fun i hi hi' => ?_, fun x hx => ?_⟩
 ·by_cases hlt : i < l.length
  ·have e1 : (rs ++ [(s, t, u)])[i] = rs[i]'(by omega) := List.getElem_append_left (by omega)
   have e2 : (l ++ [(ls, t, u)])[i] = l[i] := List.getElem_append_left hlt
   rw [e1, e2]
   exact innS.mono (h2 i (by omega) hlt) fun x _ hx => (hS x).2 (.inl hx)
  ·have hil : i = l.length := by rw [List.length_append, List.length_singleton] at hi'; omega
   subst hil
   have e1 : (rs ++ [(s, t, u)])[l.length] = (s, t, u) := by rw [List.getElem_append_right (by omega)]; simp [h1]
   have e2 : (l ++ [(ls, t, u)])[l.length] = (ls, t, u) := by rw [List.getElem_append_right (by omega)]; simp
   rw [e1, e2]
   exact ⟨rfl, rfl, Rw.View.mono k1 fun x _ hx => (hS x).2 (.inr hx)⟩
 ·rcases (hS x).1 hx with h | h
  ·exact h3 x h
  ·exact k2 x h
end Rc
end
section
open Go.RowKit Go.Sort
namespace Rc
open Bit Dsk Ob Dig
theorem refcheck_is (w : World) (S : Nat -> Prop) (v : Value) (r : R) (hv : RView w S v r) (hb : Bnd r) {z : Nat} (h : chk r = z) :
  Calls Tryz.prog 62 #[v] w fun e w' => e = .returned (.int .i64 (z : Int)) /\ New0 w w' := by
 subst h; exact refcheck_any w S v r hv hb
end Rc
end
section
open Go.RowKit Go.Sort
namespace Rc
open Bit Dsk Ob Dig Lb
abbrev zeroV : Fv := ⟨.int .i64 0, .slice none 0 0, .slice none 0 0, .int .i64 0, .int .i64 0⟩
theorem rng_zero : Rng zero := ⟨fun x hx => (by cases hx), ⟨by decide, by decide⟩, ⟨by decide, by decide⟩⟩
def DecN (w : World) (sl : List UInt8) (e : Ending) (w' : World) : Prop := ∃ v, e = .returned (.tuple #[v, .int .i64 ((dec sl).2 : Int)]) /\ RView w' (Nw w) v (dec sl).1 /\ Rng (dec sl).1 /\ New0 w w'
theorem DecN.no {w w' : World} {sl : List UInt8} {x : Nat} (h : dec sl = (zero, x)) (hu : New0 w w') : DecN w sl (.returned (.tuple #[.agg #[.int .i64 0, .slice none 0 0, .slice none 0 0, .int .i64 0, .int .i64 0], .int .i64 (x : Int)])) w' := by
 unfold DecN
 rw [h]
 exact ⟨_, rfl, ⟨⟨none, 0, 0⟩, ⟨none, 0, 0⟩, rfl, Rw.DView.noth _ _ _ _, Rw.View.noth _ _ _⟩, rng_zero, hu⟩
theorem DecN.yes {w w' : World} {sl : List UInt8} {r : R} {v : Value} (h : dec sl = (r, 0)) (hv : RView w' (Nw w) v r) (hr : Rng r) (hu : New0 w w') : DecN w sl (.returned (.tuple #[v, .int .i64 0])) w' := by
 unfold DecN
 rw [h]
 exact ⟨v, rfl, hv, hr, hu⟩
theorem bnd_of {r : R} (h : chk r = 0) (hr : Rng r) : Bnd r := by
 rcases chk_zero.1 h with hc | hd
 ·refine ⟨by rw [hc.kind]; decide, fun x hx => ?_, by rw [hc.ms]; exact fun m hm => (by cases hm), hr.frm, hr.til⟩
  have ho := hc.ok x hx
  have hf := ho.few
  obtain ⟨h1, h2, h3⟩ := hr.smp x hx
  exact ⟨fun p hp => by have := ho.good.small p hp; omega, by omega, h1, h2, h3⟩
 ·refine ⟨by rw [hd.kind]; decide, by rw [hd.smp]; exact fun x hx => (by cases hx), fun m hm => ?_, hr.frm, hr.til⟩
  have h1 := (Mt.chk_zero.1 hd.ms).2 m hm
  have h2 := Mt.right_small h1
  obtain ⟨h3, h4, -, -⟩ := Mt.right_zero.1 h1
  exact ⟨by omega, by omega, by omega, by omega⟩
theorem five_keep {I : Ob.Rel} {wA w' : World} {g : Nat} {v : Fv} (h : Five 47 g v wA) (H : Own I wA w') : Five 47 g v w' := by
 unfold Five at *
 rw [H.bel.block g (Array.getElem?_eq_some_iff.1 h).1]; exact h
theorem noBox {g : Nat} {v : Fv} {w : World} {S : Nat -> Prop} (h : Tens Mt.NoO (BoxO g v) w S) : BoxO g v w S := by
 obtain ⟨A, B, h1, ⟨h2, h3⟩, -, h4⟩ := h
 exact ⟨h2, fun x => by rw [h4 x, <- h3 x]; exact ⟨fun h => h.elim (fun h => absurd h (h1 x)) id, .inr⟩⟩
theorem seeBox {I J : Ob.Rel} {g : Nat} {v : Fv} {w0 w : World} (H : Own (Tens I (Tens (BoxO g v) J)) w0 w) : Five 47 g v w := by
 obtain ⟨S, h⟩ := H.dropl.seeL
 exact h.1
theorem boxSet {I J : Ob.Rel} (hI : Thing I) (hJ : Thing J) {g : Nat} {v v' : Fv} {w0 w : World} (H : Own (Tens I (Tens (BoxO g v) J)) w0 w) {i : Nat} {x : Value} (hn : Five 47 g v' (w.setCell ⟨g, i, none⟩ x)) : Own (Tens I (Tens (BoxO g v') J)) w0 (w.setCell ⟨g, i, none⟩ x) := by
 obtain ⟨B, hB, go⟩ := H.right hI
 obtain ⟨A, hA, go2⟩ := Tens.left hJ hB
 exact go _ _ (go2 _ _ (boxStep hA hn))
theorem sview_own {I B : Ob.Rel} {u : Value} {rs : List RS} {l : List Smp} {w0 w : World} (H : Own (Tens I (Tens B (Tens (Rw.RowO layS 91 u rs) (LabsO rs l)))) w0 w) : SView w (Nw w0) u l := by
 obtain ⟨⟨S, ⟨A, S1, -, ⟨B1, S2, -, ⟨S3, S4, k1, k2, -, k3⟩, -, k4⟩, -, k5⟩, h5⟩, -⟩ := H
 have hs3 : ∀ x, S3 x -> Nw w0 x := fun x hx => h5 x ((k5 x).2 (.inr ((k4 x).2 (.inr ((k3 x).2 (.inl hx))))))
 have hs4 : ∀ x, S4 x -> Nw w0 x := fun x hx => h5 x ((k5 x).2 (.inr ((k4 x).2 (.inr ((k3 x).2 (.inr hx))))))
 exact ⟨rs, (Rw.Mine.view k1.1).mono fun b _ hb => hs3 b (k1.2.1 b hb), k2.1, fun i h1 h2 => innS.mono (k2.2.1 i h1 h2) fun x _ hx => hs4 x hx⟩
theorem mview_own {I B : Ob.Rel} {u : Value} {l : List Mt.M} {w0 w : World} (H : Own (Tens I (Tens B (Rw.RowO Mt.layM 174 u l))) w0 w) : Mt.View w (Nw w0) u l := by
 obtain ⟨⟨S, ⟨A, S1, -, ⟨B1, S2, -, k1, -, k4⟩, -, k5⟩, h5⟩, -⟩ := H
 have hs2 : ∀ x, S2 x -> Nw w0 x := fun x hx => h5 x ((k5 x).2 (.inr ((k4 x).2 (.inr hx))))
 exact (Rw.Mine.view k1.1).mono fun b _ hb => hs2 b (k1.2.1 b hb)
theorem rowMine {I B : Ob.Rel} {u : Value} {rs : List RS} {l : List Smp} {D : Ob.Rel} {w0 w : World} (H : Own (Tens I (Tens B (Tens (Tens (Rw.RowO layS 91 u rs) (LabsO rs l)) D))) w0 w) : Rw.Mine layS 91 w u rs := by
 obtain ⟨S, h⟩ := H.dropl.dropl.dropr.seeL
 exact h.1
theorem permOut {I B R0 L D : Ob.Rel} {w0 w : World} (H : Own (Tens I (Tens B (Tens (Tens R0 L) D))) w0 w) : Own (Tens (Tens I (Tens B (Tens L D))) R0) w0 w :=
 H.mono fun S h => Tens.cossa (Tens.mapR (fun A h => Tens.cossa (Tens.mapR (fun A h => Tens.swap (Tens.assoc h)) h)) h)
theorem permIn {I B R0 L D L' : Ob.Rel} {w0 w : World} (H : Own (Tens (Tens I (Tens B (Tens L D))) R0) w0 w) (k : ∀ w S, Tens L D w S -> L' w S) : Own (Tens I (Tens B (Tens R0 L'))) w0 w :=
 H.mono fun S h => Tens.mapR (fun A h => Tens.mapR (fun A h => Tens.swap (Tens.mapL (fun A h => k _ _ h) h)) (Tens.assoc h)) (Tens.assoc h)
theorem labIn {I B RL D : Ob.Rel} {w0 w : World} (H : Own (Tens (Tens I (Tens B RL)) D) w0 w) : Own (Tens I (Tens B (Tens RL D))) w0 w :=
 H.assoc.mono fun S h => Tens.mapR (fun A h => Tens.assoc h) h
theorem dec_bnd {t : List UInt8} {ls : List Pr} {e : Nat} (h : Lb.dec t = (ls, e)) : Lb.Sml ls /\ ls.length * 32 <= 140737488351232 := by
 by_cases he : e = 0
 ·subst he
  have ho := (Lb.dec_back h).1
  have hf := ho.few
  exact ⟨fun p hp => by have := ho.good.small p hp; omega, by omega⟩
 ·rw [Lb.dec_none h he]
  exact ⟨fun p hp => (by cases hp), by simp⟩
theorem bnds_snoc {l : List Smp} {x : Smp} (h : ∀ y ∈ l, BndS y) (hx : BndS x) : ∀ y ∈ l ++ [x], BndS y := fun y hy => by
 rcases List.mem_append.1 hy with hy | hy
 ·exact h y hy
 ·rw [List.mem_singleton.1 hy]; exact hx
theorem rngS_of {x : Smp} (h : BndS x) : RngS x := ⟨h.2.2.1, h.2.2.2.1, h.2.2.2.2⟩
theorem view_smp (w : World) (a : Rw.Sl) (t : Int) (u : Nat) : Rw.View layS (w.alloc (.cells #[.slice a.a a.n a.c, .int .i64 t, .int .u64 (u : Int)] 91 (0, 0))) Rw.All (.slice (some ⟨w.heap.size, 0, none⟩) 1 1) [(a, t, u)] := by
  have h := cell_new w (.cells #[.slice a.a a.n a.c, .int .i64 t, .int .u64 (u : Int)] 91 (0, 0))
  refine ⟨_, 1, rfl, Nat.le_refl _, by unfold maxLen; decide, fun _ => ⟨_, 0, rfl, trivial, fun i hi t' u' ht => ?_⟩⟩
  have : i = 0 := by simpa using hi
  subst this
  match t', ht with
  | 0, ht => obtain rfl : a.v = u' := by simpa [layS] using ht
             rw [Lib.cell_of_heap h]; rfl
  | 1, ht => obtain rfl : Value.int .i64 t = u' := by simpa [layS] using ht
             rw [Lib.cell_of_heap h]; rfl
  | 2, ht => obtain rfl : Value.int .u64 (u : Int) = u' := by simpa [layS] using ht
             rw [Lib.cell_of_heap h]; rfl
  | t'' + 3, ht => simp [layS] at ht
abbrev comF (l : List Smp) : Rd R := retR ⟨1, l, [], 0, 0⟩
theorem comR_is : comR = bnd numR fun n => bnd (mustR (decide (1 <= n) && decide (n <= 32)) 2) fun _ => manyK comF n [] := rfl
theorem mustE_err {b : Bool} {e y : Nat} (he : e ≠ 0) : mustE b e y = e := by simp [mustE, he]
end Rc
end
end
end Go.Proofs.YtgmnhodajngchaaGreatDoor
