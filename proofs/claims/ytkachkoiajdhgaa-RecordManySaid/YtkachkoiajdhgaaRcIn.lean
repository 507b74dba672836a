/- The document's own reader of fields (layer 12): each step as a reading goes; Signed. -/
import Derived.Test.YtkachkoiajdhgaaRcRead
import Derived.Test.YtkachkoiajdhgaaPMt1
set_option maxRecDepth 100000
namespace Go.Proofs.Ytkachkoiajdhgaa
open Go.RowKit Go.Sort
namespace Rc
open Bit Dsk Ob Dig Lb
set_option linter.unusedVariables false

set_option maxHeartbeats 800000 in
theorem innum_err (w : World) (S : Nat → Prop) (p : Nat) (s : ByteArray) (e : Nat) (he : e ≠ 0) (h : InO p s e w S) :
    Calls Try.prog 38 #[.pointer (some ⟨p, 0, none⟩)] w fun r w' => r = .returned (.int .u64 0) ∧ ObjStep (InO p s e) S w w' := by
  obtain ⟨c0, c1, f0, f1⟩ := Rw.box2See h
  have d : ((e : Int) != 0) = true := by rw [bne_iff_ne]; omega
  replace h := Lib.hid h
  go_enter Try.func38, Try.ntmps38
  go_wp2_with fail
  go_ret
  exact ⟨rfl, ObjStep.refl h.out⟩
set_option maxHeartbeats 800000 in
theorem insigned_err (w : World) (S : Nat → Prop) (p : Nat) (s : ByteArray) (e : Nat) (he : e ≠ 0) (h : InO p s e w S) :
    Calls Try.prog 42 #[.pointer (some ⟨p, 0, none⟩)] w fun r w' => r = .returned (.int .i64 0) ∧ ObjStep (InO p s e) S w w' := by
  obtain ⟨c0, c1, f0, f1⟩ := Rw.box2See h
  have d : ((e : Int) != 0) = true := by rw [bne_iff_ne]; omega
  replace h := Lib.hid h
  go_enter Try.func42, Try.ntmps42
  go_wp2_with fail
  go_ret
  exact ⟨rfl, ObjStep.refl h.out⟩
set_option maxHeartbeats 1600000 in
theorem insigned_any (w : World) (S : Nat → Prop) (p : Nat) (s : ByteArray) (hs : s.size ≤ 9223372036854775807) (n k x : Nat) (hg : gotN s.data.toList = (n, k, x)) (t : ByteArray) (ht : s.extract k s.size = t) (h : InO p s 0 w S) :
    Calls Try.prog 42 #[.pointer (some ⟨p, 0, none⟩)] w fun e w' => e = .returned (.int .i64 (unz n)) ∧ ObjStep (InO p t x) S w w' := by
  have hk : k ≤ s.size := by
    have := (gotN_lt s.data.toList).2.2.1
    rw [hg] at this
    simpa using this
  obtain ⟨z, hz⟩ : ∃ z, unz n = z := ⟨_, rfl⟩
  have HG : Hid (∀ w, Calls Try.prog 62 #[.string s] w fun e w' => e = .returned (.tuple #[.int .i64 z, .int .i64 (k : Int), .int .i64 (x : Int)]) ∧ Below w.heap.size w w') := Lib.hid fun w => by
    have := refgetsigned_any s hs w
    rw [hg] at this
    simp only at this
    rw [hz] at this
    exact this
  rw [hz]
  have hB := Rw.box2See h
  obtain ⟨c0, c1, f0, f1⟩ := hB
  replace h := Lib.hid h
  clear hg hz
  go_enter Try.func42, Try.ntmps42
  go_wp2_with fail
  refine (HG.out _).mono ?_
  rintro e w2 ⟨rfl, hb⟩
  obtain ⟨c0', c1', f0', f1'⟩ := boxed_below ⟨c0, c1, f0, f1⟩ hb
  have hend := Lib.hid (fun y : Value => Rw.box2Set10 (x := .string t) (y := y) h.out (newOf hb))
  have e0 := fun y : Value => World.set_other (v := y) (by decide : (1 : Nat) ≠ 0) c0'
  have e1 : ∀ y : Value, (w2.setCell ⟨p, 1, none⟩ y).frozen? ⟨p, 0, none⟩ = false := fun y => (World.frozen?_setCell w2 _ _ _).trans f0'
  clear HG hb h c0 c1 f0 f1
  go_wp2_with fail
  go_ret
  exact ⟨rfl, hend.out _⟩
section
variable {J : Ob.Rel} {p : Nat} {s : ByteArray} {e : Nat} {w0 w : World}
theorem rNum (hJ : Thing J) (h : Own (Tens (InO p s e) J) w0 w) (hs : s.size ≤ 140737488355328) :
    Calls Try.prog 38 #[.pointer (some ⟨p, 0, none⟩)] w fun r w' => ∃ (n : Nat) (s' : ByteArray) (e' : Nat), r = .returned (.int .u64 (n : Int)) ∧ n < 18446744073709551616 ∧ s'.size ≤ 140737488355328 ∧ Nx numR s e n s' e' ∧ Own (Tens (InO p s' e') J) w0 w' := by
  by_cases he : e = 0
  · subst he
    obtain ⟨n, k, x, hg⟩ : ∃ n k x, gotN s.data.toList = (n, k, x) := ⟨_, _, _, rfl⟩
    have hn := (gotN_lt s.data.toList).1
    rw [hg] at hn
    exact (Mt.ioNum hJ h (by omega) hg).mono fun r w' ⟨h1, h2⟩ => ⟨n, _, x, h1, hn, Nat.le_trans (ext_size _ _ _) hs, nx_num hg, h2⟩
  · exact (ownL (Q := fun r => r = .returned (.int .u64 0)) hJ h fun A _ hA => innum_err w A p s e he hA).mono fun r w' ⟨h1, h2⟩ => ⟨0, s, e, h1, by decide, hs, nx_err _ _ he _ _, h2⟩
theorem rSgn (hJ : Thing J) (h : Own (Tens (InO p s e) J) w0 w) (hs : s.size ≤ 140737488355328) :
    Calls Try.prog 42 #[.pointer (some ⟨p, 0, none⟩)] w fun r w' => ∃ (n : Int) (s' : ByteArray) (e' : Nat), r = .returned (.int .i64 n) ∧ (-9223372036854775808 ≤ n ∧ n ≤ 9223372036854775807) ∧ s'.size ≤ 140737488355328 ∧ Nx sgnR s e n s' e' ∧ Own (Tens (InO p s' e') J) w0 w' := by
  by_cases he : e = 0
  · subst he
    obtain ⟨n, k, x, hg⟩ : ∃ n k x, gotN s.data.toList = (n, k, x) := ⟨_, _, _, rfl⟩
    have hn := (gotN_lt s.data.toList).1
    rw [hg] at hn
    simp only at hn
    exact (ownL (Q := fun r => r = .returned (.int .i64 (unz n))) hJ h fun A _ hA => insigned_any w A p s (by omega) n k x hg _ rfl hA).mono fun r w' ⟨h1, h2⟩ => ⟨unz n, _, x, h1, by unfold unz; split <;> omega, Nat.le_trans (ext_size _ _ _) hs, nx_sgn hg, h2⟩
  · exact (ownL (Q := fun r => r = .returned (.int .i64 0)) hJ h fun A _ hA => insigned_err w A p s e he hA).mono fun r w' ⟨h1, h2⟩ => ⟨0, s, e, h1, by omega, hs, nx_err _ _ he _ _, h2⟩
theorem rTxt (hJ : Thing J) (h : Own (Tens (InO p s e) J) w0 w) (hs : s.size ≤ 140737488355328) (m : Int) (hm : m ≤ 9223372036854775807) :
    Calls Try.prog 40 #[.pointer (some ⟨p, 0, none⟩), .int .i64 m] w fun r w' => ∃ (t s' : ByteArray) (e' : Nat), r = .returned (.string t) ∧ t.size ≤ 140737488355328 ∧ s'.size ≤ 140737488355328 ∧ Nx (txtR m) s e t s' e' ∧ Own (Tens (InO p s' e') J) w0 w' := by
  by_cases he : e = 0
  · subst he
    obtain ⟨n, k, x, hg⟩ : ∃ n k x, gotT s.data.toList m = (n, k, x) := ⟨_, _, _, rfl⟩
    exact (Mt.ioText hJ h (by omega) hm hg).mono fun r w' ⟨h1, h2⟩ => ⟨_, _, x, h1, Nat.le_trans (ext_size _ _ _) hs, Nat.le_trans (ext_size _ _ _) hs, nx_txt hg, h2⟩
  · exact (Mt.ioTextNo (most := m) hJ h he).mono fun r w' ⟨h1, h2⟩ => ⟨_, s, e, h1, Nat.zero_le _, hs, nx_err _ _ he _ _, h2⟩
theorem rMust (hJ : Thing J) (h : Own (Tens (InO p s e) J) w0 w) (b : Bool) (y : Nat) (hy : y ≠ 0) :
    Calls Try.prog 39 #[.pointer (some ⟨p, 0, none⟩), .bool b, .int .i64 (y : Int)] w fun r w' => ∃ e', r = .returned (.tuple #[]) ∧ Nx (mustR b y) s e () s e' ∧ Own (Tens (InO p s e') J) w0 w' :=
  (Mt.ioMust hJ h b y).mono fun r w' ⟨h1, h2⟩ => ⟨_, h1, nx_must b s e y hy, h2⟩
theorem rTake (hJ : Thing J) (h : Own (Tens (InO p s 0) J) w0 w) (hs : s.size ≤ 140737488355328) :
    Calls Try.prog 43 #[.pointer (some ⟨p, 0, none⟩)] w fun x w' => ∃ (u : Value) (l : List Mt.M) (s' : ByteArray) (e' : Nat), x = .returned u ∧ s'.size ≤ 140737488355328 ∧ Mt.Bnd l ∧ Nx takeR s 0 l s' e' ∧ Own (Tens (InO p s' e') (Tens J (Rw.RowO Mt.layM 76 u l))) w0 w' :=
  (Mt.take_any hJ hs h).mono fun x w' ⟨u, l, r, e', h1, h2, h3, h4, h5⟩ => ⟨u, l, r, e', h1, h3, h4, ⟨fun _ => by
    by_cases he : e' = 0
    · have := h2.2 he
      exact .inl ⟨he, by unfold takeR; rw [this]; simp⟩
    · exact .inr ⟨he, by unfold takeR; rw [h2.1, if_neg he]⟩, fun c => absurd rfl c⟩, h5⟩
end
end Rc
end Go.Proofs.Ytkachkoiajdhgaa
