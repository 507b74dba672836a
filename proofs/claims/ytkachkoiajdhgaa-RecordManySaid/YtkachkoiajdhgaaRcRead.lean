/- Records, plainly (layer 12): what is read of bytes; and In's steps, as a reading goes. -/
import Derived.Test.YtkachkoiajdhgaaRcPure
set_option maxRecDepth 100000
namespace Go.Proofs.Ytkachkoiajdhgaa
open Go.RowKit Go.Sort
namespace Rc
open Bit Dsk Ob Dig
set_option linter.unusedVariables false

/-- A reading: an error, or what is read and what is left. -/
abbrev Rd (α : Type) := List UInt8 → Except Nat (α × List UInt8)
def bnd {α β : Type} (x : Rd α) (f : α → Rd β) : Rd β := fun s => match x s with
  | .error e => .error e
  | .ok (a, r) => f a r
theorem bnd_ok {α β : Type} {x : Rd α} {f : α → Rd β} {s r : List UInt8} {a : α} (h : x s = .ok (a, r)) : bnd x f s = f a r := by simp [bnd, h]
theorem bnd_no {α β : Type} {x : Rd α} {f : α → Rd β} {s : List UInt8} {e : Nat} (h : x s = .error e) : bnd x f s = .error e := by simp [bnd, h]
def retR {α : Type} (a : α) : Rd α := fun s => .ok (a, s)
def numR : Rd Nat := fun s => if (gotN s).2.2 = 0 then .ok ((gotN s).1, s.drop (gotN s).2.1) else .error (gotN s).2.2
def sgnR : Rd Int := fun s => if (gotN s).2.2 = 0 then .ok (unz (gotN s).1, s.drop (gotN s).2.1) else .error (gotN s).2.2
def txtR (m : Int) : Rd ByteArray := fun s => if (Lb.txt m s).2.2 = 0 then .ok ((Lb.txt m s).1, (Lb.txt m s).2.1) else .error (Lb.txt m s).2.2
def mustR (b : Bool) (y : Nat) : Rd Unit := fun s => if b = true then .ok ((), s) else .error y
noncomputable def labR (t : ByteArray) : Rd (List Lb.Pr) := fun s => if (Lb.dec t.data.toList).2 = 0 then .ok ((Lb.dec t.data.toList).1, s) else .error (Lb.dec t.data.toList).2
def takeR : Rd (List Mt.M) := fun s => if (Mt.tk s).2.2 = 0 then .ok ((Mt.tk s).1, (Mt.tk s).2.1) else .error (Mt.tk s).2.2
noncomputable def smpK {β : Type} (f : Smp → Rd β) : Rd β := bnd (txtR 1024) fun t => bnd (labR t) fun l => bnd sgnR fun a => bnd numR fun b => f (l, a, b)
noncomputable def manyK {β : Type} (f : List Smp → Rd β) : Nat → List Smp → Rd β
  | 0, acc => f acc
  | n + 1, acc => smpK fun x => manyK f n (acc ++ [x])
noncomputable def comR : Rd R := bnd numR fun n => bnd (mustR (decide (1 ≤ n) && decide (n ≤ 32)) 2) fun _ => manyK (fun l => retR ⟨1, l, [], 0, 0⟩) n []
def delR : Rd R := bnd takeR fun m => bnd sgnR fun a => bnd sgnR fun b => retR ⟨2, [], m, a, b⟩
noncomputable def allR : Rd R := bnd numR fun k => bnd (mustR (decide (k = 1) || decide (k = 2)) 5) fun _ => if k = 1 then comR else delR
/-- What Decode answers. -/
noncomputable def dec (s : List UInt8) : R × Nat := match allR s with
  | .error e => (zero, e)
  | .ok (r, x) => if x ≠ [] then (zero, 6) else if chk r ≠ 0 then (zero, chk r) else (r, 0)
theorem dec_err {s : List UInt8} {e : Nat} (h : allR s = .error e) : dec s = (zero, e) := by unfold dec; rw [h]
theorem dec_more {s x : List UInt8} {r : R} (h : allR s = .ok (r, x)) (hx : x ≠ []) : dec s = (zero, 6) := by unfold dec; rw [h]; simp [hx]
theorem dec_chk {s : List UInt8} {r : R} (h : allR s = .ok (r, [])) (hc : chk r ≠ 0) : dec s = (zero, chk r) := by unfold dec; rw [h]; simp [hc]
theorem dec_ok {s : List UInt8} {r : R} (h : allR s = .ok (r, [])) (hc : chk r = 0) : dec s = (r, 0) := by unfold dec; rw [h]; simp [hc]

/-! ### what the reader's box goes through -/
/-- Where the reader stands (what is left, the error), all that is to be read being F, the whole comes to K. -/
def Rest {β : Type} (F : Rd β) (s : ByteArray) (e : Nat) (K : Except Nat (β × List UInt8)) : Prop := (e = 0 → F s.data.toList = K) ∧ (e ≠ 0 → K = .error e)
/-- A step of the reader: from what is left and the error to what is read, what is left and the error. -/
def Nx {α : Type} (x : Rd α) (s : ByteArray) (e : Nat) (a : α) (s' : ByteArray) (e' : Nat) : Prop :=
  (e = 0 → (e' = 0 ∧ x s.data.toList = .ok (a, s'.data.toList)) ∨ (e' ≠ 0 ∧ x s.data.toList = .error e')) ∧ (e ≠ 0 → e' = e)
theorem Rest.step {α β : Type} {x : Rd α} {f : α → Rd β} {s s' : ByteArray} {e e' : Nat} {a : α} {K : Except Nat (β × List UInt8)} (h : Rest (bnd x f) s e K) (hx : Nx x s e a s' e') : Rest (f a) s' e' K := by
  by_cases he : e = 0
  · rcases hx.1 he with ⟨h1, h2⟩ | ⟨h1, h2⟩
    · exact ⟨fun _ => by rw [← h.1 he, bnd_ok h2], fun c => absurd h1 c⟩
    · exact ⟨fun c => absurd c h1, fun _ => by rw [← h.1 he, bnd_no h2]⟩
  · have h1 := hx.2 he
    subst h1
    exact ⟨fun c => absurd c he, fun _ => h.2 he⟩
/-- While an error stands, what would be read is all the same. -/
theorem Rest.any {α β : Type} {F : Rd β} {s s' : ByteArray} {e : Nat} {K : Except Nat (β × List UInt8)} (h : Rest F s e K) (he : e ≠ 0) (G : Rd β) : Rest G s' e K := ⟨fun c => absurd c he, h.2⟩
theorem Rest.start {β : Type} (F : Rd β) (s : ByteArray) : Rest F s 0 (F s.data.toList) := ⟨fun _ => rfl, fun h => absurd rfl h⟩
theorem Rest.ret {β : Type} {a : β} {s : ByteArray} {e : Nat} {K : Except Nat (β × List UInt8)} (h : Rest (retR a) s e K) : (e = 0 → K = .ok (a, s.data.toList)) ∧ (e ≠ 0 → K = .error e) := ⟨fun he => (h.1 he).symm, h.2⟩
theorem nx_err {α : Type} (x : Rd α) (s : ByteArray) {e : Nat} (he : e ≠ 0) (a : α) (s' : ByteArray) : Nx x s e a s' e := ⟨fun c => absurd c he, fun _ => rfl⟩
theorem nx_num {s : ByteArray} {n k x : Nat} (hg : gotN s.data.toList = (n, k, x)) : Nx numR s 0 n (s.extract k s.size) x := by
  refine ⟨fun _ => ?_, fun h => absurd rfl h⟩
  by_cases hx : x = 0
  · exact .inl ⟨hx, by unfold numR; rw [hg, Lb.drop_list]; simp [hx]⟩
  · exact .inr ⟨hx, by unfold numR; rw [hg]; simp [hx]⟩
theorem nx_sgn {s : ByteArray} {n k x : Nat} (hg : gotN s.data.toList = (n, k, x)) : Nx sgnR s 0 (unz n) (s.extract k s.size) x := by
  refine ⟨fun _ => ?_, fun h => absurd rfl h⟩
  by_cases hx : x = 0
  · exact .inl ⟨hx, by unfold sgnR; rw [hg, Lb.drop_list]; simp [hx]⟩
  · exact .inr ⟨hx, by unfold sgnR; rw [hg]; simp [hx]⟩
theorem nx_txt {s : ByteArray} {m : Int} {n k x : Nat} (hg : gotT s.data.toList m = (n, k, x)) : Nx (txtR m) s 0 (s.extract k (k + n)) (s.extract (k + n) s.size) x := by
  have ht := Lb.txt_is hg
  refine ⟨fun _ => ?_, fun h => absurd rfl h⟩
  by_cases hx : x = 0
  · exact .inl ⟨hx, by unfold txtR; rw [ht]; simp [hx]⟩
  · exact .inr ⟨hx, by unfold txtR; rw [ht]; simp [hx]⟩
theorem nx_must (b : Bool) (s : ByteArray) (e y : Nat) (hy : y ≠ 0) : Nx (mustR b y) s e () s (Lb.mustE b e y) := by
  refine ⟨fun he => ?_, fun he => by simp [Lb.mustE, he]⟩
  subst he
  cases b with
  | true => exact .inl ⟨by simp [Lb.mustE], rfl⟩
  | false => exact .inr ⟨by simp [Lb.mustE, hy], by simp [mustR, Lb.mustE]⟩
theorem nx_lab (t : ByteArray) (s : ByteArray) : Nx (labR t) s 0 (Lb.dec t.data.toList).1 s (Lb.dec t.data.toList).2 := by
  refine ⟨fun _ => ?_, fun h => absurd rfl h⟩
  by_cases hx : (Lb.dec t.data.toList).2 = 0
  · exact .inl ⟨hx, by unfold labR; rw [if_pos hx]⟩
  · exact .inr ⟨hx, by unfold labR; rw [if_neg hx]⟩

/-! ### back -/
theorem num_enc (n : Nat) (h : n < 18446744073709551616) (r : List UInt8) : numR (numL n ++ r) = .ok (n, r) := by
  unfold numR
  rw [got_num n h r]
  simp [← numL_length]
theorem sgn_enc (x : Int) (h0 : -9223372036854775808 ≤ x) (h1 : x ≤ 9223372036854775807) (r : List UInt8) : sgnR (numL (zig x) ++ r) = .ok (x, r) := by
  unfold sgnR
  rw [got_num _ (zig_lt x h0 h1) r, unz_zig]
  simp [← numL_length]
theorem take_enc {l : List Mt.M} (h : Mt.chk l = 0) (r : List UInt8) : takeR (Mt.encB l ++ r) = .ok (l, r) := by
  unfold takeR; rw [Mt.tk_enc h r]; simp
/-- Numbers that a record may have. -/
def RngS (x : Smp) : Prop := -9223372036854775808 ≤ x.2.1 ∧ x.2.1 ≤ 9223372036854775807 ∧ x.2.2 < 18446744073709551616
theorem smp_enc {β : Type} (f : Smp → Rd β) {x : Smp} (h : Lb.Ok x.1) (hr : RngS x) (r : List UInt8) : smpK f (sB x ++ r) = f x r := by
  obtain ⟨h0, h1, h2⟩ := hr
  have hl := encL_len h
  obtain ⟨t, ht⟩ : ∃ t : ByteArray, t = ⟨(Lb.encB x.1).toArray⟩ := ⟨_, rfl⟩
  have htl : t.data.toList = Lb.encB x.1 := by rw [ht]
  have hts : t.size = (Lb.encB x.1).length := by rw [← htl]; simp
  have e1 : sB x ++ r = numL t.size ++ t.data.toList ++ (numL (zig x.2.1) ++ (numL x.2.2 ++ r)) := by
    rw [hts, htl, sB]; simp [List.append_assoc]
  have k1 : txtR 1024 (sB x ++ r) = .ok (t, numL (zig x.2.1) ++ (numL x.2.2 ++ r)) := by
    unfold txtR
    rw [e1, Lb.txt_text t 1024 _ (by omega) (by omega)]; simp
  have k2 : labR t (numL (zig x.2.1) ++ (numL x.2.2 ++ r)) = .ok (x.1, numL (zig x.2.1) ++ (numL x.2.2 ++ r)) := by
    unfold labR
    have := Lb.dec_enc h []
    rw [List.append_nil] at this
    rw [htl, this]; simp
  unfold smpK
  rw [bnd_ok k1, bnd_ok k2, bnd_ok (sgn_enc _ h0 h1 _), bnd_ok (num_enc _ h2 r)]
theorem many_enc {β : Type} (f : List Smp → Rd β) : ∀ (l acc : List Smp) (r : List UInt8), (∀ x ∈ l, Lb.Ok x.1 ∧ RngS x) → manyK f l.length acc (l.flatMap sB ++ r) = f (acc ++ l) r
  | [], acc, r, _ => by simp [manyK]
  | x :: l, acc, r, h => by
    have e : (x :: l).flatMap sB ++ r = sB x ++ (l.flatMap sB ++ r) := by rw [List.flatMap_cons, List.append_assoc]
    rw [e, List.length_cons, manyK, smp_enc _ (h x (by simp)).1 (h x (by simp)).2, many_enc f l (acc ++ [x]) r fun q hq => h q (by simp [hq])]
    simp
structure Rng (r : R) : Prop where
  smp : ∀ x ∈ r.smp, RngS x
  frm : -9223372036854775808 ≤ r.frm ∧ r.frm ≤ 9223372036854775807
  til : -9223372036854775808 ≤ r.til ∧ r.til ≤ 9223372036854775807
theorem all_enc {r : R} (h : chk r = 0) (hr : Rng r) (x : List UInt8) : allR (encB r ++ x) = .ok (r, x) := by
  rcases chk_zero.1 h with hc | hd
  · have e : encB r ++ x = numL 1 ++ (numL r.smp.length ++ (r.smp.flatMap sB ++ x)) := by
      rw [encB, if_neg (by rw [hc.kind]; decide), hc.kind]; simp [List.append_assoc]
    have e2 : r = ⟨1, r.smp, [], 0, 0⟩ := by
      obtain ⟨k, l, m, a, b⟩ := r
      have h1 := hc.kind; have h2 := hc.ms; have h3 := hc.frm; have h4 := hc.til
      simp only at h1 h2 h3 h4
      rw [h1, h2, h3, h4]
    have h1 := hc.one
    have h2 := hc.few
    unfold allR
    rw [e, bnd_ok (num_enc 1 (by decide) _), bnd_ok (a := ()) (r := numL r.smp.length ++ (r.smp.flatMap sB ++ x)) (by rfl), if_pos rfl]
    unfold comR
    rw [bnd_ok (num_enc _ (by omega) _), bnd_ok (a := ()) (r := r.smp.flatMap sB ++ x) (by unfold mustR; simp [h1, h2]), many_enc _ _ _ _ fun y hy => ⟨hc.ok y hy, hr.smp y hy⟩]
    rw [List.nil_append, ← e2]; rfl
  · have e : encB r ++ x = numL 2 ++ (Mt.encB r.ms ++ (numL (zig r.frm) ++ (numL (zig r.til) ++ x))) := by
      rw [encB, if_pos hd.kind, hd.kind]; simp [List.append_assoc]
    have e2 : r = ⟨2, [], r.ms, r.frm, r.til⟩ := by
      obtain ⟨k, l, m, a, b⟩ := r
      have h1 := hd.kind; have h2 := hd.smp
      simp only at h1 h2
      rw [h1, h2]
    unfold allR
    rw [e, bnd_ok (num_enc 2 (by decide) _), bnd_ok (a := ()) (r := Mt.encB r.ms ++ (numL (zig r.frm) ++ (numL (zig r.til) ++ x))) (by rfl), if_neg (by decide)]
    unfold delR
    rw [bnd_ok (take_enc hd.ms _), bnd_ok (sgn_enc _ hr.frm.1 hr.frm.2 _), bnd_ok (sgn_enc _ hr.til.1 hr.til.2 _), ← e2]; rfl
theorem dec_enc {r : R} (h : chk r = 0) (hr : Rng r) : dec (encB r) = (r, 0) := by
  have := all_enc h hr []
  rw [List.append_nil] at this
  exact dec_ok this h
theorem dec_x {r : R} (h : chk r = 0) (hr : Rng r) (c : UInt8) : dec (encB r ++ [c]) = (zero, 6) := dec_more (all_enc h hr [c]) (by simp)
end Rc
end Go.Proofs.Ytkachkoiajdhgaa
