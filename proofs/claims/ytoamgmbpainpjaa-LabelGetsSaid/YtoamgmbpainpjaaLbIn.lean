/- The document's own reader of fields (layer 10): In's Num, Text, Must. -/
import Derived.Test.YtoamgmbpainpjaaLbRef2
set_option maxRecDepth 100000
namespace Go.Proofs.Ytoamgmbpainpjaa
open Go.RowKit Go.Sort
namespace Lb
open Bit Dsk Ob Dig
set_option linter.unusedVariables false

/-- In at p: what is left, and the first error. -/
abbrev InO (p : Nat) (s : ByteArray) (e : Nat) : Ob.Rel := Rw.Box2 53 p (.string s) (.int .i64 (e : Int))
theorem thingIn (p : Nat) (s : ByteArray) (e : Nat) : Thing (InO p s e) := Rw.thingBox2 _ _ _ _
theorem boxed_below {g : Nat} {a b : Value} {w w' : World} (h : Boxed g a b w) (hb : Below w.heap.size w w') : Boxed g a b w' := by
  have hl := World.block_lt_of_cell? w _ h.c0
  have hblk : w'.heap[g]? = w.heap[g]? := hb.block g hl
  refine ⟨?_, ?_, ?_, ?_⟩
  · rw [← h.c0, World.cell?, World.cell?, hblk]
  · rw [← h.c1, World.cell?, World.cell?, hblk]
  · rw [← h.f0, World.frozen?, World.frozen?, hblk]
  · rw [← h.f1, World.frozen?, World.frozen?, hblk]
set_option maxHeartbeats 1600000 in
theorem innum_any (w : World) (S : Nat → Prop) (p : Nat) (s : ByteArray) (hs : s.size ≤ 9223372036854775807) (n k x : Nat) (hg : gotN s.data.toList = (n, k, x)) (t : ByteArray) (ht : s.extract k s.size = t) (h : InO p s 0 w S) :
    Calls Try.prog 35 #[.pointer (some ⟨p, 0, none⟩)] w fun e w' => e = .returned (.int .u64 (n : Int)) ∧ ObjStep (InO p t x) S w w' := by
  have hk : k ≤ s.size := by
    have := (gotN_lt s.data.toList).2.2.1
    rw [hg] at this
    simpa using this
  have HG : Hid (∀ w, Calls Try.prog 42 #[.string s] w fun e w' => e = .returned (.tuple #[.int .u64 (n : Int), .int .i64 (k : Int), .int .i64 (x : Int)]) ∧ Below w.heap.size w w') := Lib.hid fun w => by
    have := refget_any s hs w
    rw [hg] at this
    exact this
  have hB := Rw.box2See h
  obtain ⟨c0, c1, f0, f1⟩ := hB
  replace h := Lib.hid h
  clear hg
  go_enter Try.func35, Try.ntmps35
  go_wp2_with fail
  refine (HG.out _).mono ?_
  rintro e w2 ⟨rfl, hb⟩
  obtain ⟨c0', c1', f0', f1'⟩ := boxed_below ⟨c0, c1, f0, f1⟩ hb
  have hend := Lib.hid (fun y : Value => Rw.box2Set10 (x := .string t) (y := y) h.out (newOf hb))
  have e0 := fun y : Value => World.set_other (v := y) (by decide : (1 : Nat) ≠ 0) c0'
  have e1 : ∀ y : Value, (w2.setCell ⟨p, 1, none⟩ y).frozen? ⟨p, 0, none⟩ = false := fun y => (World.frozen?_setCell w2 _ _ _).trans f0'
  clear HG hb h c0 c1 f0 f1
  go_wp2_with fail
  go_ret
  exact ⟨rfl, hend.out _⟩
theorem gotT_le {l : List UInt8} {m : Int} {n k x : Nat} (h : gotT l m = (n, k, x)) : k + n ≤ l.length := by
  have hk := gotN_lt l
  unfold gotT at h
  repeat' (split at h)
  all_goals
    simp only [Prod.mk.injEq] at h
    omega
set_option maxHeartbeats 1600000 in
theorem intext_any (w : World) (S : Nat → Prop) (p : Nat) (s : ByteArray) (most : Int) (hs : s.size ≤ 4611686018427387904) (hm : most ≤ 9223372036854775807) (n k x : Nat) (hg : gotT s.data.toList most = (n, k, x)) (t r : ByteArray) (ht : s.extract k (k + n) = t) (hr : s.extract (k + n) s.size = r) (h : InO p s 0 w S) :
    Calls Try.prog 37 #[.pointer (some ⟨p, 0, none⟩), .int .i64 most] w fun e w' => e = .returned (.string t) ∧ ObjStep (InO p r x) S w w' := by
  obtain ⟨m, hm'⟩ : ∃ m, k + n = m := ⟨_, rfl⟩
  have hk : m ≤ s.size := by
    have := gotT_le hg
    rw [hm'] at this
    simpa using this
  have HG : Hid (∀ w, Calls Try.prog 43 #[.string s, .int .i64 most] w fun e w' => e = .returned (.tuple #[.string t, .int .i64 (m : Int), .int .i64 (x : Int)]) ∧ Below w.heap.size w w') := Lib.hid fun w => by
    have := refgettext_any s most (by omega) hm w
    rw [hg] at this
    simp only at this
    rw [ht, ← Int.natCast_add, hm'] at this
    exact this
  rw [hm'] at hr
  have hB := Rw.box2See h
  obtain ⟨c0, c1, f0, f1⟩ := hB
  replace h := Lib.hid h
  clear hg ht hm'
  go_enter Try.func37, Try.ntmps37
  go_wp2_with fail
  refine (HG.out _).mono ?_
  rintro e w2 ⟨rfl, hb⟩
  obtain ⟨c0', c1', f0', f1'⟩ := boxed_below ⟨c0, c1, f0, f1⟩ hb
  have hend := Lib.hid (fun y : Value => Rw.box2Set10 (x := .string r) (y := y) h.out (newOf hb))
  have e0 := fun y : Value => World.set_other (v := y) (by decide : (1 : Nat) ≠ 0) c0'
  have e1 : ∀ y : Value, (w2.setCell ⟨p, 1, none⟩ y).frozen? ⟨p, 0, none⟩ = false := fun y => (World.frozen?_setCell w2 _ _ _).trans f0'
  clear HG hb h c0 c1 f0 f1
  go_wp2_with fail
  go_ret
  exact ⟨rfl, hend.out _⟩
set_option maxHeartbeats 800000 in
theorem intext_err (w : World) (S : Nat → Prop) (p : Nat) (s : ByteArray) (most : Int) (e : Nat) (he : e ≠ 0) (h : InO p s e w S) :
    Calls Try.prog 37 #[.pointer (some ⟨p, 0, none⟩), .int .i64 most] w fun r w' => r = .returned (.string ByteArray.empty) ∧ ObjStep (InO p s e) S w w' := by
  obtain ⟨c0, c1, f0, f1⟩ := Rw.box2See h
  have d : ((e : Int) != 0) = true := by rw [bne_iff_ne]; omega
  replace h := Lib.hid h
  go_enter Try.func37, Try.ntmps37
  go_wp2_with fail
  go_ret
  exact ⟨rfl, ObjStep.refl h.out⟩
/-- What Must leaves. -/
def mustE (b : Bool) (e y : Nat) : Nat := if e = 0 ∧ b = false then y else e
set_option maxHeartbeats 800000 in
theorem inmust_any (w : World) (S : Nat → Prop) (p : Nat) (s : ByteArray) (b : Bool) (e y : Nat) (h : InO p s e w S) :
    Calls Try.prog 36 #[.pointer (some ⟨p, 0, none⟩), .bool b, .int .i64 (y : Int)] w fun r w' => r = .returned (.tuple #[]) ∧ ObjStep (InO p s (mustE b e y)) S w w' := by
  obtain ⟨c0, c1, f0, f1⟩ := Rw.box2See h
  by_cases he : e = 0
  · subst he
    cases b with
    | true =>
      replace h : Hid (InO p s (mustE true 0 y) w S) := Lib.hid (by unfold mustE; rw [if_neg (by simp)]; exact h)
      go_enter Try.func36, Try.ntmps36
      go_wp2_with fail
      go_end0
      exact ⟨rfl, ObjStep.refl h.out⟩
    | false =>
      have hend : Hid (ObjStep (InO p s (mustE false 0 y)) S w (w.setCell ⟨p, 1, none⟩ (.int .i64 (y : Int)))) := Lib.hid (by
        unfold mustE; rw [if_pos ⟨rfl, rfl⟩]; exact Rw.box2Set1 h (Upon.refl _ w))
      clear h
      go_enter Try.func36, Try.ntmps36
      go_wp2_with fail
      go_end0
      exact ⟨rfl, hend.out⟩
  · have d : ((e : Int) == 0) = false := by rw [beq_eq_false_iff_ne]; omega
    replace h : Hid (InO p s (mustE b e y) w S) := Lib.hid (by unfold mustE; rw [if_neg (fun k => he k.1)]; exact h)
    clear he
    go_enter Try.func36, Try.ntmps36
    go_wp2_with fail
    go_end0
    exact ⟨rfl, ObjStep.refl h.out⟩
end Lb
end Go.Proofs.Ytoamgmbpainpjaa
