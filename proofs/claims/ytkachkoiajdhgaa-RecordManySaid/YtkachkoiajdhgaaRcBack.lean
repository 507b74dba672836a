/- Records, plainly (layer 12): bytes that are read are the record's. -/
import Derived.Test.YtkachkoiajdhgaaRcRead
set_option maxRecDepth 100000
namespace Go.Proofs.Ytkachkoiajdhgaa
open Go.RowKit Go.Sort
namespace Rc
open Bit Dsk Ob Dig
set_option linter.unusedVariables false

theorem bnd_back {α β : Type} {x : Rd α} {f : α → Rd β} {s : List UInt8} {y : β × List UInt8} (h : bnd x f s = .ok y) : ∃ a r, x s = .ok (a, r) ∧ f a r = .ok y := by
  cases hx : x s with
  | error e => rw [bnd_no hx] at h; cases h
  | ok p => obtain ⟨a, r⟩ := p; exact ⟨a, r, rfl, by rw [bnd_ok hx] at h; exact h⟩
theorem num_back {s r : List UInt8} {n : Nat} (h : numR s = .ok (n, r)) : s = numL n ++ r ∧ n < 18446744073709551616 := by
  unfold numR at h
  split at h
  · rename_i h0
    have h1 := Except.ok.inj h
    obtain ⟨e1, e2⟩ := Prod.mk.inj h1
    subst e1 e2
    rw [(num_got s h0).1, List.take_append_drop]
    exact ⟨rfl, (gotN_lt s).1⟩
  · cases h
theorem sgn_back {s r : List UInt8} {n : Int} (h : sgnR s = .ok (n, r)) : s = numL (zig n) ++ r ∧ -9223372036854775808 ≤ n ∧ n ≤ 9223372036854775807 := by
  unfold sgnR at h
  split at h
  · rename_i h0
    have h1 := Except.ok.inj h
    obtain ⟨e1, e2⟩ := Prod.mk.inj h1
    subst e1 e2
    rw [zig_unz, (num_got s h0).1, List.take_append_drop]
    have hl := (gotN_lt s).1
    exact ⟨rfl, by unfold unz; split <;> omega, by unfold unz; split <;> omega⟩
  · cases h
theorem txt_back {s r : List UInt8} {m : Int} {t : ByteArray} (h : txtR m s = .ok (t, r)) : s = numL t.size ++ t.data.toList ++ r := by
  unfold txtR at h
  split at h
  · rename_i h0
    have h1 := Except.ok.inj h
    obtain ⟨e1, e2⟩ := Prod.mk.inj h1
    exact Lb.txt_ok (m := m) (Prod.ext e1 (Prod.ext e2 h0))
  · cases h
theorem lab_back {t : ByteArray} {s r : List UInt8} {l : List Lb.Pr} (h : labR t s = .ok (l, r)) : r = s ∧ Lb.Ok l ∧ Lb.encB l = t.data.toList := by
  unfold labR at h
  split at h
  · rename_i h0
    have h1 := Except.ok.inj h
    obtain ⟨e1, e2⟩ := Prod.mk.inj h1
    exact ⟨e2.symm, Lb.dec_back (Prod.ext e1 h0)⟩
  · cases h
theorem must_back {b : Bool} {y : Nat} {s r : List UInt8} {a : Unit} (h : mustR b y s = .ok (a, r)) : b = true ∧ r = s := by
  unfold mustR at h
  split at h
  · rename_i h0
    exact ⟨h0, (Prod.mk.inj (Except.ok.inj h)).2.symm⟩
  · cases h
theorem take_back {s r : List UInt8} {l : List Mt.M} (h : takeR s = .ok (l, r)) : Mt.chk l = 0 ∧ Mt.encB l ++ r = s := by
  unfold takeR at h
  split at h
  · rename_i h0
    have h1 := Except.ok.inj h
    obtain ⟨e1, e2⟩ := Prod.mk.inj h1
    exact Mt.tk_back (Prod.ext e1 (Prod.ext e2 h0))
  · cases h
theorem smp_back {β : Type} {f : Smp → Rd β} {s : List UInt8} {y : β × List UInt8} (h : smpK f s = .ok y) : ∃ x r, s = sB x ++ r ∧ Lb.Ok x.1 ∧ RngS x ∧ f x r = .ok y := by
  unfold smpK at h
  obtain ⟨t, r1, h1, g1⟩ := bnd_back h
  obtain ⟨l, r2, h2, g2⟩ := bnd_back g1
  obtain ⟨a, r3, h3, g3⟩ := bnd_back g2
  obtain ⟨b, r4, h4, g4⟩ := bnd_back g3
  obtain ⟨e2, hok, henc⟩ := lab_back h2
  obtain ⟨e3, ha⟩ := sgn_back h3
  obtain ⟨e4, hb⟩ := num_back h4
  have e1 := txt_back h1
  have hsz : t.size = (Lb.encB l).length := by rw [henc]; simp
  refine ⟨(l, a, b), r4, ?_, hok, ⟨ha.1, ha.2, hb⟩, g4⟩
  rw [e1, ← e2, e3, e4, hsz, ← henc, sB]
  simp [List.append_assoc]
theorem many_back {β : Type} {f : List Smp → Rd β} : ∀ {n : Nat} {acc : List Smp} {s : List UInt8} {y : β × List UInt8}, manyK f n acc s = .ok y → ∃ l r, s = l.flatMap sB ++ r ∧ l.length = n ∧ (∀ x ∈ l, Lb.Ok x.1 ∧ RngS x) ∧ f (acc ++ l) r = .ok y
  | 0, acc, s, y, h => ⟨[], s, by simp, rfl, fun x hx => (by cases hx), by rw [List.append_nil]; exact h⟩
  | n + 1, acc, s, y, h => by
    rw [manyK] at h
    obtain ⟨x, r, e1, hok, hr, h⟩ := smp_back h
    obtain ⟨l, r', e2, hl, hall, h⟩ := many_back h
    refine ⟨x :: l, r', ?_, by simp [hl], fun q hq => ?_, by rw [List.append_assoc] at h; exact h⟩
    · rw [e1, e2, List.flatMap_cons, List.append_assoc]
    · rcases List.mem_cons.1 hq with rfl | hq
      · exact ⟨hok, hr⟩
      · exact hall q hq
theorem all_back {s q : List UInt8} {r : R} (h : allR s = .ok (r, q)) : encB r ++ q = s ∧ Rng r := by
  unfold allR at h
  obtain ⟨k, r1, h1, g1⟩ := bnd_back h
  obtain ⟨a, r2, h2, g2⟩ := bnd_back g1
  obtain ⟨e1, -⟩ := num_back h1
  obtain ⟨hb, e2⟩ := must_back h2
  by_cases hk : k = 1
  · rw [if_pos hk] at g2
    unfold comR at g2
    obtain ⟨n, r3, h3, g3⟩ := bnd_back g2
    obtain ⟨a', r4, h4, g4⟩ := bnd_back g3
    obtain ⟨e3, -⟩ := num_back h3
    obtain ⟨-, e4⟩ := must_back h4
    obtain ⟨l, r5, e5, hl, hall, g5⟩ := many_back g4
    obtain ⟨e6, e7⟩ := Prod.mk.inj (Except.ok.inj g5)
    rw [List.nil_append] at e6
    subst e6 e7
    refine ⟨?_, fun x hx => (hall x hx).2, ⟨(show (-9223372036854775808 : Int) ≤ 0 by decide), (show (0 : Int) ≤ 9223372036854775807 by decide)⟩, ⟨(show (-9223372036854775808 : Int) ≤ 0 by decide), (show (0 : Int) ≤ 9223372036854775807 by decide)⟩⟩
    rw [e1, ← e2, e3, ← e4, e5, encB, if_neg (show ¬ ((1 : Int) = 2) by decide), hk, ← hl]
    simp [List.append_assoc]
  · rw [if_neg hk] at g2
    have hk2 : k = 2 := by
      rw [decide_eq_false hk, Bool.false_or] at hb
      exact of_decide_eq_true hb
    unfold delR at g2
    obtain ⟨m, r3, h3, g3⟩ := bnd_back g2
    obtain ⟨x, r4, h4, g4⟩ := bnd_back g3
    obtain ⟨y, r5, h5, g5⟩ := bnd_back g4
    obtain ⟨hm, e3⟩ := take_back h3
    obtain ⟨e4, hx⟩ := sgn_back h4
    obtain ⟨e5, hy⟩ := sgn_back h5
    obtain ⟨e6, e7⟩ := Prod.mk.inj (Except.ok.inj g5)
    subst e6 e7
    refine ⟨?_, fun x hx => (by cases hx), hx, hy⟩
    rw [e1, ← e2, ← e3, e4, e5, encB, if_pos rfl, hk2]
    simp [List.append_assoc]
/-- No reading ends in the error 0. -/
def NZ {α : Type} (x : Rd α) : Prop := ∀ s, x s ≠ .error 0
theorem nz_bnd {α β : Type} {x : Rd α} {f : α → Rd β} (h : NZ x) (k : ∀ a, NZ (f a)) : NZ (bnd x f) := fun s e => by
  cases hx : x s with
  | error e' => rw [bnd_no hx] at e; exact h s (by rw [hx]; exact congrArg Except.error (Except.error.inj e))
  | ok p => obtain ⟨a, r⟩ := p; rw [bnd_ok hx] at e; exact k a r e
theorem nz_ret {α : Type} (a : α) : NZ (retR a) := fun s e => by cases e
theorem nz_num : NZ numR := fun s e => by
  unfold numR at e
  split at e
  · cases e
  · rename_i h; exact h (Except.error.inj e)
theorem nz_sgn : NZ sgnR := fun s e => by
  unfold sgnR at e
  split at e
  · cases e
  · rename_i h; exact h (Except.error.inj e)
theorem nz_txt (m : Int) : NZ (txtR m) := fun s e => by
  unfold txtR at e
  split at e
  · cases e
  · rename_i h; exact h (Except.error.inj e)
theorem nz_lab (t : ByteArray) : NZ (labR t) := fun s e => by
  unfold labR at e
  split at e
  · cases e
  · rename_i h; exact h (Except.error.inj e)
theorem nz_take : NZ takeR := fun s e => by
  unfold takeR at e
  split at e
  · cases e
  · rename_i h; exact h (Except.error.inj e)
theorem nz_must (b : Bool) {y : Nat} (hy : y ≠ 0) : NZ (mustR b y) := fun s e => by
  unfold mustR at e
  split at e
  · cases e
  · exact hy (Except.error.inj e)
theorem nz_many {β : Type} {f : List Smp → Rd β} (h : ∀ l, NZ (f l)) : ∀ (n : Nat) (acc : List Smp), NZ (manyK f n acc)
  | 0, acc => h acc
  | n + 1, acc => by
    rw [manyK]
    exact nz_bnd (nz_txt _) fun t => nz_bnd (nz_lab t) fun l => nz_bnd nz_sgn fun a => nz_bnd nz_num fun b => nz_many h n _
theorem nz_all : NZ allR := nz_bnd nz_num fun k => nz_bnd (nz_must _ (by decide)) fun _ => by
  by_cases hk : k = 1
  · rw [if_pos hk]
    exact nz_bnd nz_num fun n => nz_bnd (nz_must _ (by decide)) fun _ => nz_many (fun l => nz_ret _) n []
  · rw [if_neg hk]
    exact nz_bnd nz_take fun m => nz_bnd nz_sgn fun a => nz_bnd nz_sgn fun b => nz_ret _
theorem dec_back {s : List UInt8} {r : R} (h : dec s = (r, 0)) : chk r = 0 ∧ encB r = s ∧ Rng r := by
  cases ha : allR s with
  | error e =>
    rw [dec_err ha] at h
    have := (Prod.mk.inj h).2
    subst this
    exact absurd ha (nz_all s)
  | ok p =>
    obtain ⟨r', q⟩ := p
    by_cases hq : q = []
    · subst hq
      by_cases hc : chk r' = 0
      · rw [dec_ok ha hc] at h
        have e := (Prod.mk.inj h).1
        subst e
        have := all_back ha
        rw [List.append_nil] at this
        exact ⟨hc, this.1, this.2⟩
      · rw [dec_chk ha hc] at h; exact absurd (Prod.mk.inj h).2 hc
    · rw [dec_more ha hq] at h; exact absurd (Prod.mk.inj h).2 (by decide)
theorem dec_none {s : List UInt8} {r : R} {e : Nat} (h : dec s = (r, e)) (he : e ≠ 0) : r = zero := by
  cases ha : allR s with
  | error e' => rw [dec_err ha] at h; exact (Prod.mk.inj h).1.symm
  | ok p =>
    obtain ⟨r', q⟩ := p
    by_cases hq : q = []
    · subst hq
      by_cases hc : chk r' = 0
      · rw [dec_ok ha hc] at h; exact absurd (Prod.mk.inj h).2.symm he
      · rw [dec_chk ha hc] at h; exact (Prod.mk.inj h).1.symm
    · rw [dec_more ha hq] at h; exact (Prod.mk.inj h).1.symm
end Rc
end Go.Proofs.Ytkachkoiajdhgaa
