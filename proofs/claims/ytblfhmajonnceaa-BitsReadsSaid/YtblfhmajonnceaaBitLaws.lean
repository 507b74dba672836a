/- The statements' own 'works' of layer 6, and objects that a call has made. -/
import Derived.Test.YtblfhmajonnceaaBitR
namespace Go.Proofs.Ytblfhmajonnceaa
open Go.RowKit
namespace Bit
open Dsk Ob

theorem WMade.own {w0 w : World} {e : Ending} {w' : World} (hb : Below w0.heap.size w0 w) (h : WMade w e w') : ∃ q, e = .returned (.pointer (some ⟨q, 0, none⟩)) ∧ Own (fun w S => IsW w S q []) w0 w' := by
  obtain ⟨S, q, h1, h2, h3, h4⟩ := h
  exact ⟨q, h1, ⟨S, h2, fun b hS => Nat.le_trans hb.size (h3 b hS)⟩, below_of_upon hb h4⟩
theorem RMade.own {s : ByteArray} {n : Nat} {w0 w : World} {e : Ending} {w' : World} (hb : Below w0.heap.size w0 w) (h : RMade s n w e w') : ∃ q, e = .returned (.pointer (some ⟨q, 0, none⟩)) ∧ Own (fun w S => IsR w S q s 0 n) w0 w' := by
  obtain ⟨S, q, h1, h2, h3, h4⟩ := h
  exact ⟨q, h1, ⟨S, h2, fun b hS => Nat.le_trans hb.size (h3 b hS)⟩, below_of_upon hb h4⟩
/-- A writer with a reader beside it. -/
abbrev OwnWR (w0 : World) (q : Nat) (L : List Bool) (p : Nat) (s : ByteArray) (a e : Nat) (w : World) : Prop := Own (Tens (fun w S => IsW w S q L) (fun w S => IsR w S p s a e)) w0 w
abbrev OwnW (w0 : World) (q : Nat) (L : List Bool) (w : World) : Prop := Own (fun w S => IsW w S q L) w0 w
abbrev OwnR (w0 : World) (q : Nat) (s : ByteArray) (a e : Nat) (w : World) : Prop := Own (fun w S => IsR w S q s a e) w0 w
theorem OwnW.put {w0 w : World} {q : Nat} {L L' : List Bool} (h : OwnW w0 q L w) (v : Nat) (n : Int) (hL : L.length ≤ 90000000000000) (hv : v < 18446744073709551616) (e : L ++ bitsOf v (cnt n) = L') :
    Calls Try.prog 8 #[.pointer (some ⟨q, 0, none⟩), .int .u64 (v : Int), .int .i64 n] w fun e w' => e = .returned (.tuple #[]) ∧ OwnW w0 q L' w' := by
  subst e
  obtain ⟨S, h1, h2⟩ := h.get
  exact (put_any S q L v n w h1 hL hv).mono fun _ _ ⟨he, hs⟩ => ⟨he, h2 _ _ hs⟩
theorem OwnW.len {w0 w : World} {q : Nat} {L : List Bool} (h : OwnW w0 q L w) {n : Nat} (hn : L.length = n) :
    Calls Try.prog 10 #[.pointer (some ⟨q, 0, none⟩)] w fun e w' => e = .returned (.int .i64 (n : Int)) ∧ w = w' := by
  subst hn
  obtain ⟨S, h1, _⟩ := h.get
  exact wlen_any S q L w h1
theorem OwnW.text {w0 w : World} {q : Nat} {L : List Bool} (h : OwnW w0 q L w) {s : ByteArray} (hs : (⟨(pack L).toArray⟩ : ByteArray) = s) :
    Calls Try.prog 11 #[.pointer (some ⟨q, 0, none⟩)] w fun e w' => e = .returned (.string s) ∧ w = w' := by
  subst hs
  obtain ⟨S, h1, _⟩ := h.get
  exact text_any S q L w h1
theorem OwnR.get_ok {w0 w : World} {q : Nat} {s : ByteArray} {a e : Nat} (h : OwnR w0 q s a e w) (m : Nat) (hm : m ≤ 64) (hle : m ≤ e - a) {x a' : Nat} (hx : numOf (bitsAt s.data.toList a m) = x) (ha : a + m = a') :
    Calls Try.prog 15 #[.pointer (some ⟨q, 0, none⟩), .int .i64 (m : Int)] w fun y w' => y = .returned (.tuple #[.int .u64 (x : Int), .bool true]) ∧ OwnR w0 q s a' e w' := by
  subst hx; subst ha
  obtain ⟨S, h1, h2⟩ := h.get
  exact (Bit.get_ok S q s a e m w h1 hm hle).mono fun _ _ ⟨he, hs⟩ => ⟨he, h2 _ _ hs⟩
theorem OwnR.get_no {w0 w : World} {q : Nat} {s : ByteArray} {a e : Nat} (h : OwnR w0 q s a e w) (n : Int) (hn : n < 0 ∨ 64 < n ∨ (e : Int) - a < n) :
    Calls Try.prog 15 #[.pointer (some ⟨q, 0, none⟩), .int .i64 n] w fun y w' => y = .returned (.tuple #[.int .u64 0, .bool false]) ∧ OwnR w0 q s a e w' := by
  obtain ⟨S, h1, h2⟩ := h.get
  exact (Bit.get_no S q s a e n w h1 hn).mono fun _ _ ⟨he, hs⟩ => ⟨he, h2 _ _ hs⟩

def isA8 : ByteArray := ⟨#[168]⟩
set_option maxHeartbeats 1600000 in
theorem works_true (w : World) : Calls Try.prog 18 #[] w fun e w' => e = .returned (.bool true) ∧ Below w.heap.size w w' := by
  go_enter Try.func18, Try.ntmps18
  go_wp2_with fail
  refine (newWriter_any w).mono ?_
  intro x w1 hx
  obtain ⟨q, rfl, h1⟩ := WMade.own (Below.refl _ w) hx
  clear hx
  replace h1 := Lib.hid h1
  go_wp2_with fail
  refine (OwnW.put h1.out 5 3 (by simp) (by decide) (L' := [true, false, true]) (by decide)).mono ?_
  rintro x w2 ⟨rfl, h2⟩
  clear h1
  replace h2 := Lib.hid h2
  go_wp2_with fail
  refine (OwnW.put h2.out 1 2 (by simp) (by decide) (L' := [true, false, true, false, true]) (by decide)).mono ?_
  rintro x w3 ⟨rfl, h3⟩
  clear h2
  replace h3 := Lib.hid h3
  go_wp2_with fail
  refine (OwnW.text h3.out (s := ⟨#[168]⟩) (by decide)).mono ?_
  rintro x w4 ⟨rfl, rfl⟩
  go_wp2_with fail
  refine (OwnW.len h3.out (n := 5) rfl).mono ?_
  rintro x w4 ⟨rfl, rfl⟩
  go_wp2_with fail
  refine (newReader_any ⟨#[168]⟩ 5 (by decide) (by decide) w3).mono ?_
  rintro x w4 ⟨T, p, rfl, k1, k2, k3⟩
  have h4 : Hid (OwnWR w q [true, false, true, false, true] p ⟨#[168]⟩ 0 5 w4) := Lib.hid (Own.new (objW _ _) h3.out k1 k2 k3)
  clear h3 k1 k2 k3
  go_wp2_with fail
  obtain ⟨B, g1, g2⟩ := h4.out.right (objW _ _)
  refine (get_ok B p _ 0 5 3 w4 g1 (by decide) (by decide)).mono ?_
  rintro x w5 ⟨rfl, hs⟩
  have h5 : Hid (OwnWR w q [true, false, true, false, true] p ⟨#[168]⟩ 3 5 w5) := Lib.hid (g2 _ _ hs)
  clear h4 g1 g2 hs
  rw [show numOf (bitsAt (⟨#[168]⟩ : ByteArray).data.toList 0 3) = 5 by decide]
  go_wp2_with fail
  obtain ⟨B, g1, g2⟩ := h5.out.right (objW _ _)
  refine (get_ok B p _ 3 5 2 w5 g1 (by decide) (by decide)).mono ?_
  rintro x w6 ⟨rfl, hs⟩
  have h6 : Hid (OwnWR w q [true, false, true, false, true] p ⟨#[168]⟩ 5 5 w6) := Lib.hid (g2 _ _ hs)
  clear h5 g1 g2 hs
  rw [show numOf (bitsAt (⟨#[168]⟩ : ByteArray).data.toList 3 2) = 1 by decide]
  go_wp2_with fail
  obtain ⟨B, g1, g2⟩ := h6.out.right (objW _ _)
  refine (get_no B p _ 5 5 1 w6 g1 (by decide)).mono ?_
  rintro x w7 ⟨rfl, hs⟩
  have h7 : Hid (OwnWR w q [true, false, true, false, true] p ⟨#[168]⟩ 5 5 w7) := Lib.hid (g2 _ _ hs)
  clear h6 g1 g2 hs
  go_wp2_with fail
  refine (OwnW.text (h7.out.dropr) (s := ⟨#[168]⟩) (by decide)).mono ?_
  rintro x w8 ⟨rfl, rfl⟩
  go_wp2_with fail
  refine (OwnW.len (h7.out.dropr) (n := 5) rfl).mono ?_
  rintro x w8 ⟨rfl, rfl⟩
  go_wp2_with fail
  go_ret
  exact ⟨rfl, h7.out.bel⟩
end Bit
end Go.Proofs.Ytblfhmajonnceaa
