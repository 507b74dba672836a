/- The program's reader of records (layer 12): throw, pass. -/
import Derived.Test.YtkachkoiajdhgaaRowG
import Derived.Test.YtkachkoiajdhgaaPDig
import Derived.Laws.Panics
set_option maxRecDepth 100000
namespace Go.Proofs.Ytkachkoiajdhgaa
open Go.RowKit Go.Sort
namespace Rc
open Bit Dsk Ob Dig
set_option linter.unusedVariables false

/-- An error that is thrown. -/
abbrev Thrown (e : Nat) : Ending := .panicked [{ v := .iface 28 (.int .i64 (e : Int)), recovered := false }]
/-- The program's reader, as an object. -/
def RdO (p : Nat) (s : ByteArray) : Ob.Rel := fun w S => w.heap[p]? = some (.cells #[.string s] 59 (0, 0)) ∧ ∀ x, S x ↔ x = p
theorem thingRd (p : Nat) (s : ByteArray) : Thing (RdO p s) := ⟨fun w w' S h hk _ => ⟨(hk p ((h.2 p).2 rfl)).trans h.1, h.2⟩, fun w S h x hx => by rw [(h.2 x).1 hx]; exact (Array.getElem?_eq_some_iff.1 h.1).1⟩
theorem rdMade {w0 w : World} (hb : Below w0.heap.size w0 w) (s : ByteArray) : Own (RdO w.heap.size s) w0 (w.alloc (.cells #[.string s] 59 (0, 0))) :=
  Own.made hb (S := fun x => x = w.heap.size) ⟨cell_new w _, fun _ => Iff.rfl⟩ (fun x hx => by rw [hx]; exact Nat.le_refl _) ((Upon.refl _ w).alloc _)
theorem rdSee {p : Nat} {s : ByteArray} {w : World} {S : Nat → Prop} (h : RdO p s w S) : w.cell? ⟨p, 0, none⟩ = some (.string s) ∧ w.frozen? ⟨p, 0, none⟩ = false :=
  ⟨by rw [Lib.cell_of_heap h.1]; rfl, by simp [World.frozen?, h.1]⟩
theorem rdSet {p : Nat} {s : ByteArray} {w : World} {S : Nat → Prop} (h : RdO p s w S) (t : ByteArray) : ObjStep (RdO p t) S w (w.setCell ⟨p, 0, none⟩ (.string t)) :=
  ⟨⟨S, ⟨by have := h.1; simp [World.setCell, Array.getElem?_modify, this], h.2⟩, fun _ h => h, fun _ h => .inl h⟩, Upon.setCell (p := ⟨p, 0, none⟩) (Upon.refl S w) (.inl ((h.2 p).2 rfl)) (.string t)⟩

theorem throw_ok (w : World) : Calls Try.prog 37 #[.int .i64 0] w fun r w' => r = .returned (.tuple #[]) ∧ w' = w := by
  go_enter Try.func37, Try.ntmps37
  go_wp2
  go_end0
  exact ⟨rfl, rfl⟩
theorem throw_no (e : Nat) (he : e ≠ 0) (w : World) : Calls Try.prog 37 #[.int .i64 (e : Int)] w fun r w' => r = Thrown e ∧ w' = w := by
  have d : ((e : Int) != 0) = true := by rw [bne_iff_ne]; omega
  go_enter Try.func37, Try.ntmps37
  go_wp2
  exact ⟨rfl, rfl, rfl⟩
theorem pass_no (p : Nat) (k : Int) (e : Nat) (he : e ≠ 0) (w : World) : Calls Try.prog 68 #[.pointer (some ⟨p, 0, none⟩), .int .i64 k, .int .i64 (e : Int)] w fun r w' => r = Thrown e ∧ w' = w := by
  have HT := Lib.hid (throw_no e he)
  go_enter Try.func68, Try.ntmps68
  go_wp2_with fail
  refine (HT.out _).mono ?_
  rintro r w2 ⟨rfl, rfl⟩
  exact ⟨rfl, rfl, rfl⟩
theorem pass_ok (p : Nat) (s : ByteArray) (k : Nat) (hk : k ≤ s.size) (hs : s.size ≤ 9223372036854775807) (w : World) (S : Nat → Prop) (h : RdO p s w S) : Calls Try.prog 68 #[.pointer (some ⟨p, 0, none⟩), .int .i64 (k : Int), .int .i64 0] w fun r w' => r = .returned (.tuple #[]) ∧ ObjStep (RdO p (s.extract k s.size)) S w w' := by
  have HT := Lib.hid throw_ok
  obtain ⟨c0, f0⟩ := rdSee h
  have hend := Lib.hid (rdSet h (s.extract k s.size))
  clear h
  go_enter Try.func68, Try.ntmps68
  go_wp2_with fail
  refine (HT.out _).mono ?_
  rintro r w2 ⟨rfl, rfl⟩
  go_wp2_with fail
  go_end0
  exact ⟨rfl, hend.out⟩
end Rc
end Go.Proofs.Ytkachkoiajdhgaa
