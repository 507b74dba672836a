/- The law's own trial of the disk (layer 4, 'works'): a disk that the call has made itself, step by step. -/
import Derived.Test.YtfpphahdbhelcaaDiskCrash2
namespace Go.Proofs.Ytfpphahdbhelcaa
open Go.RowKit
namespace Dsk
open Go.Maps

/-- A disk that was made since W: all that it has is new, all that was there is as it was. -/
def Own (W : World) (p : Nat) (st : St) (w : World) : Prop := ∃ S, IsDisk w S p st ∧ (∀ b, S b → W.heap.size ≤ b) ∧ Below W.heap.size W w

theorem Own.below {W w : World} {p : Nat} {st : St} (h : Own W p st w) : Below W.heap.size W w := let ⟨_, _, _, h⟩ := h; h
theorem Own.fine {W w : World} {p : Nat} {st : St} (h : Own W p st w) : Fine st := let ⟨_, h, _, _⟩ := h; h.fine
theorem Own.step {W w w' : World} {S : Nat → Prop} {p : Nat} {st' : St} (hS : ∀ b, S b → W.heap.size ≤ b) (hb : Below W.heap.size W w) (hs : Step S p st' w w') : Own W p st' w' := by
  obtain ⟨⟨S', h1, _, h3⟩, hu⟩ := hs
  exact ⟨S', h1, fun b hb' => (h3 b hb').elim (hS b) fun h => Nat.le_trans hb.size h, hb.trans (hu.below hb.size hS)⟩
theorem Own.grow {W w w' : World} {p : Nat} {st : St} (h : Own W p st w) (hu : Upon (fun _ => False) w w') : Own W p st w' := by
  obtain ⟨S, h1, h2, h3⟩ := h
  exact ⟨S, h1.upon hu fun _ _ h => h, h2, h3.trans (hu.below h3.size fun _ h => h.elim)⟩
theorem Own.made {W w w' : World} {room : Int} {e : Ending} (hb : Below W.heap.size W w) (h : Made room w e w') : ∃ p, e = .returned (.pointer (some ⟨p, 0, none⟩)) ∧ Own W p (new room) w' := by
  obtain ⟨S, p, he, h1, h2, hu⟩ := h
  exact ⟨p, he, S, h1, fun b hb' => Nat.le_trans hb.size (h2 b hb'), hb.trans (hu.below hb.size fun _ h => h.elim)⟩
theorem Own.call {W w : World} {p : Nat} {st st' : St} (h : Own W p st w) {f : FuncId} {args : Array Value} {x : Ending} (hc : ∀ S, IsDisk w S p st → Calls Try.prog f args w fun e w' => e = x ∧ Step S p st' w w') :
    Calls Try.prog f args w fun e w' => e = x ∧ Own W p st' w' := by
  obtain ⟨S, h1, h2, h3⟩ := h
  exact (hc S h1).mono fun e w' ⟨he, hs⟩ => ⟨he, Own.step h2 h3 hs⟩

/-- As long as no file, and no row of changes, is greater than the model bears. -/
structure Small (st : St) (z : Nat) : Prop where
  used : used st + z ≤ 4000000000000000000
  file : ∀ f ∈ st.F, f.s.length + z ≤ 100000000000000
  chs : st.C.length ≤ 1000000000
  z : z ≤ 100000000000000

theorem Own.append {W w : World} {p : Nat} {st : St} (h : Own W p st w) (s t : ByteArray) (hs : s.size ≤ maxLen) (hz : Small st t.size) :
    Calls Try.prog 20 #[.pointer (some ⟨p, 0, none⟩), .string s, .string t] w fun e w' => e = .returned (.int .i64 (appE st s.data.toList t.data.toList)) ∧ Own W p (appS st s.data.toList t.data.toList) w' :=
  h.call fun S hd => app_any S p st s t hs hz.used (fun f hf => by have := hz.file f hf; omega) (by have := hz.z; omega) hz.chs w hd
theorem Own.sync {W w : World} {p : Nat} {st : St} (h : Own W p st w) (s : ByteArray) (hs : s.size ≤ maxLen) :
    Calls Try.prog 21 #[.pointer (some ⟨p, 0, none⟩), .string s] w fun e w' => e = .returned (.int .i64 (syncE st s.data.toList)) ∧ Own W p (syncS st s.data.toList) w' :=
  h.call fun S hd => sync_any S p st s hs w hd
theorem Own.syncNames {W w : World} {p : Nat} {st : St} (h : Own W p st w) :
    Calls Try.prog 22 #[.pointer (some ⟨p, 0, none⟩)] w fun e w' => e = .returned (.int .i64 (snE st)) ∧ Own W p (snS st) w' :=
  h.call fun S hd => sn_any S p st w hd
theorem Own.read {W w : World} {p : Nat} {st : St} (h : Own W p st w) (s : ByteArray) (hs : s.size ≤ maxLen) :
    Calls Try.prog 11 #[.pointer (some ⟨p, 0, none⟩), .string s] w fun e w' => e = .returned (.tuple #[.string ⟨(readA st s.data.toList).toArray⟩, .int .i64 (readE st s.data.toList)]) ∧ Own W p st w' :=
  h.call fun S hd => read_any S p st s hs w hd
theorem Own.fuse {W w : World} {p : Nat} {st : St} (h : Own W p st w) (n : Int) (hn : -9223372036854775808 ≤ n ∧ n ≤ 9223372036854775807) :
    Calls Try.prog 24 #[.pointer (some ⟨p, 0, none⟩), .int .i64 n] w fun e w' => e = .returned (.tuple #[]) ∧ Own W p (fuse st n) w' :=
  h.call fun S hd => fuse_any S p st n hn w hd
theorem Own.up {W w : World} {p : Nat} {st : St} (h : Own W p st w) :
    Calls Try.prog 16 #[.pointer (some ⟨p, 0, none⟩)] w fun e w' => e = .returned (.bool (!st.dead)) ∧ w = w' := by
  obtain ⟨S, h1, _, _⟩ := h; exact up_any S p st w h1
theorem Own.used {W w : World} {p : Nat} {st : St} (h : Own W p st w) (hu : Dsk.used st ≤ 4000000000000000000) :
    Calls Try.prog 17 #[.pointer (some ⟨p, 0, none⟩)] w fun e w' => e = .returned (.int .i64 (Dsk.used st : Int)) ∧ Own W p st w' := by
  have h0 := h
  obtain ⟨S, h1, _, _⟩ := h; exact (used_any S p st w h1 hu).mono fun e w' ⟨he, hu⟩ => ⟨he, h0.grow hu⟩
theorem Own.rename {W w : World} {p : Nat} {st : St} (h : Own W p st w) (s t : ByteArray) (hs : s.size ≤ maxLen) (ht : t.size ≤ maxLen) (hC : st.C.length ≤ 1000000000) :
    Calls Try.prog 25 #[.pointer (some ⟨p, 0, none⟩), .string s, .string t] w fun e w' => e = .returned (.int .i64 (renE st s.data.toList t.data.toList)) ∧ Own W p (renS st s.data.toList t.data.toList) w' :=
  h.call fun S hd => ren_any S p st s t hs ht hC w hd

/-- Names: how many. -/
theorem Own.names {W w : World} {p : Nat} {st : St} (h : Own W p st w) :
    Calls Try.prog 14 #[.pointer (some ⟨p, 0, none⟩)] w fun e w' => NamesAre (Dsk.names st) w e w' ∧ Own W p st w' := by
  have h0 := h
  obtain ⟨S, h1, _, _⟩ := h
  exact (names_any S p st w h1).mono fun e w' hn => ⟨hn, h0.grow (by obtain ⟨_, _, _, _, hb⟩ := hn; exact Upon.of_below hb _)⟩

/-- A crash with a list of two numbers that the call has written out. -/
theorem Own.crash2 {W w : World} {p : Nat} {st : St} (h : Own W p st w) (a b : Int) (ha : -9223372036854775808 ≤ a ∧ a ≤ 9223372036854775807) (hb : -9223372036854775808 ≤ b ∧ b ≤ 9223372036854775807) (hz : Small st 0) :
    Calls Try.prog 23 #[.pointer (some ⟨p, 0, none⟩), .slice (some ⟨w.heap.size, 0, none⟩) 2 2] (w.alloc (.cells #[.int .i64 a, .int .i64 b] 3 (0, 0))) fun e w' => e = .returned (.tuple #[]) ∧ Own W p (crash st [a, b]) w' := by
  have hu : Upon (fun _ => False) w (w.alloc (.cells #[.int .i64 a, .int .i64 b] 3 (0, 0))) := (Upon.refl _ w).alloc _
  have hlt : ∀ S, IsDisk w S p st → ∀ b, S b → b < w.heap.size := fun S hd => hd.lt
  obtain ⟨S, h1, h2, h3⟩ := h
  have h0 : Own W p st (w.alloc (.cells #[.int .i64 a, .int .i64 b] 3 (0, 0))) := Own.grow ⟨S, h1, h2, h3⟩ hu
  have hd : IsDisk (w.alloc (.cells #[.int .i64 a, .int .i64 b] 3 (0, 0))) S p st := h1.upon hu fun _ _ h => h
  have hcell : (w.alloc (.cells #[.int .i64 a, .int .i64 b] 3 (0, 0))).heap[w.heap.size]? = some (.cells #[.int .i64 a, .int .i64 b] 3 (0, 0)) := cell_new w _
  have hk : KeepAt (w.alloc (.cells #[.int .i64 a, .int .i64 b] 3 (0, 0))) (.slice (some ⟨w.heap.size, 0, none⟩) 2 2) [a, b] w.heap.size := by
    refine ⟨_, _, rfl, Nat.le_refl _, by unfold maxLen; omega, fun _ => ⟨0, rfl, fun j x hx => ?_⟩⟩
    rw [Lib.cell_of_heap hcell]
    rcases j with _ | _ | j
    · simp at hx; subst hx; exact ⟨rfl, ha⟩
    · simp at hx; subst hx; exact ⟨rfl, hb⟩
    · simp at hx
  exact (crash_any S p st [a, b] _ w.heap.size _ hd hk (fun _ => ⟨by simp, fun hS => by have := hlt S h1 _ hS; omega⟩) (fun f hf => by have := hz.file f hf; omega) hz.chs).mono fun e w' ⟨he, hs⟩ => ⟨he, Own.step h2 h0.below hs⟩
theorem Own.crash0 {W w : World} {p : Nat} {st : St} (h : Own W p st w) (hz : Small st 0) :
    Calls Try.prog 23 #[.pointer (some ⟨p, 0, none⟩), .slice none 0 0] w fun e w' => e = .returned (.tuple #[]) ∧ Own W p (crash st []) w' :=
  h.call fun S hd => crash_any S p st [] _ 0 w hd (KeepAt.nil _ _) (fun h => absurd rfl h) (fun f hf => by have := hz.file f hf; omega) hz.chs

/-! ### the trial, as plain data -/
def wk0 : St := new 100
def wk1 : St := appS wk0 [97] [120, 121]
def wk2 : St := syncS wk1 [97]
def wk3 : St := snS wk2
def wk4 : St := appS wk3 [97] [122]
def wk5 : St := crash wk4 [0, 1]
def wk6 : St := appS wk5 [98] [49]
def wk7 : St := fuse wk6 0
def wk8 : St := syncS wk7 [98]
def wk9 : St := crash wk8 []
theorem sm0 : Small wk0 2 := ⟨by decide +kernel, by decide +kernel, by decide +kernel, by decide +kernel⟩
theorem sm3 : Small wk3 1 := ⟨by decide +kernel, by decide +kernel, by decide +kernel, by decide +kernel⟩
theorem sm4 : Small wk4 0 := ⟨by decide +kernel, by decide +kernel, by decide +kernel, by decide +kernel⟩
theorem sm5 : Small wk5 1 := ⟨by decide +kernel, by decide +kernel, by decide +kernel, by decide +kernel⟩
theorem sm8 : Small wk8 0 := ⟨by decide +kernel, by decide +kernel, by decide +kernel, by decide +kernel⟩
theorem rd5 : readA wk5 [97] = [120, 121, 122] ∧ readE wk5 [97] = 0 := by decide +kernel
theorem sy7 : syncE wk7 [98] = 11 ∧ wk8.dead = true ∧ wk9.dead = false ∧ (names wk9).length = 1 := by decide +kernel

/-- A call that answers true, and leaves alone what was there. -/
def Yes (w : World) (e : Ending) (w' : World) : Prop := e = .returned (.bool true) ∧ Below w.heap.size w w'

set_option maxHeartbeats 4000000 in
set_option maxRecDepth 100000 in
theorem works_true (w : World) : Calls Try.prog 19 #[] w (Yes w) := by
  have sz : ∀ n : UInt8, (⟨#[n]⟩ : ByteArray).size ≤ maxLen := fun n => by unfold maxLen; simp [ByteArray.size]
  replace sz := Lib.hid sz
  go_enter Try.func19, Try.ntmps19
  go_wp2_with fail
  refine (new_any 100 ⟨by omega, by omega⟩ w).mono ?_
  intro e w0 hm
  obtain ⟨p, rfl, h0⟩ := Own.made (Below.refl _ w) hm
  replace h0 := Lib.hid h0
  clear hm
  go_wp2_with fail
  refine (h0.out.append ⟨#[97]⟩ ⟨#[120, 121]⟩ (sz.out _) sm0).mono ?_
  rintro e w1 ⟨rfl, h1⟩
  replace h1 := Lib.hid (show Own w p wk1 w1 from h1)
  go_wp2_with fail
  refine (h1.out.sync ⟨#[97]⟩ (sz.out _)).mono ?_
  rintro e w2 ⟨rfl, h2⟩
  replace h2 := Lib.hid (show Own w p wk2 w2 from h2)
  go_wp2_with fail
  refine h2.out.syncNames.mono ?_
  rintro e w3 ⟨rfl, h3⟩
  replace h3 := Lib.hid (show Own w p wk3 w3 from h3)
  go_wp2_with fail
  refine (h3.out.append ⟨#[97]⟩ ⟨#[122]⟩ (sz.out _) sm3).mono ?_
  rintro e w4 ⟨rfl, h4⟩
  replace h4 := Lib.hid (show Own w p wk4 w4 from h4)
  go_wp2_with fail
  refine (h4.out.crash2 0 1 ⟨by omega, by omega⟩ ⟨by omega, by omega⟩ sm4).mono ?_
  rintro e w5 ⟨rfl, h5⟩
  replace h5 := Lib.hid (show Own w p wk5 w5 from h5)
  go_wp2_with fail
  have hrd := h5.out.read ⟨#[97]⟩ (sz.out _)
  rw [show (⟨#[97]⟩ : ByteArray).data.toList = [97] from rfl, rd5.1, rd5.2] at hrd
  refine hrd.mono ?_
  clear hrd
  rintro e w6 ⟨rfl, h6⟩
  replace h6 := Lib.hid h6
  go_wp2_with fail
  refine (h6.out.append ⟨#[98]⟩ ⟨#[49]⟩ (sz.out _) sm5).mono ?_
  rintro e w7 ⟨rfl, h7⟩
  replace h7 := Lib.hid (show Own w p wk6 w7 from h7)
  go_wp2_with fail
  refine (h7.out.fuse 0 ⟨by omega, by omega⟩).mono ?_
  rintro e w8 ⟨rfl, h8⟩
  replace h8 := Lib.hid (show Own w p wk7 w8 from h8)
  go_wp2_with fail
  have hsy := h8.out.sync ⟨#[98]⟩ (sz.out _)
  rw [show (⟨#[98]⟩ : ByteArray).data.toList = [98] from rfl, sy7.1] at hsy
  refine hsy.mono ?_
  clear hsy
  rintro e w9 ⟨rfl, h9⟩
  replace h9 := Lib.hid (show Own w p wk8 w9 from h9)
  go_wp2_with fail
  have hup := h9.out.up
  rw [sy7.2.1] at hup
  refine hup.mono ?_
  clear hup
  rintro e w10 ⟨rfl, rfl⟩
  go_wp2_with fail
  refine (h9.out.crash0 sm8).mono ?_
  rintro e w10 ⟨rfl, h10⟩
  replace h10 := Lib.hid (show Own w p wk9 w10 from h10)
  go_wp2_with fail
  have hup := h10.out.up
  rw [sy7.2.2.1] at hup
  refine hup.mono ?_
  clear hup
  rintro e w11 ⟨rfl, rfl⟩
  go_wp2_with fail
  refine h10.out.names.mono ?_
  rintro e w11 ⟨hn, h11⟩
  obtain ⟨v, rfl, hrow, _, _⟩ := hn
  obtain ⟨gb, c, a, rfl, _⟩ := row_shape hrow
  replace h11 := Lib.hid h11
  rw [sy7.2.2.2]
  clear hrow
  go_wp2
  go_ret
  exact ⟨rfl, h11.out.below⟩
end Dsk
end Go.Proofs.Ytfpphahdbhelcaa
