/- BitsWrites, walked: whatever bits are written, how many and the text are what the document says. -/
import Derived.Test.YtblfhmajonnceaaBitRefT
import Derived.Lib.QuietBelow
namespace Go.Proofs.Ytblfhmajonnceaa
open Go.RowKit Go.Sort
namespace Bit
open Dsk Ob Arg
set_option linter.unusedVariables false

theorem Own.calm {I : Rel} (hI : Thing I) {w0 w : World} (h : Own I w0 w) (d : Nat) (os : Array Go.Obj) : Own I w0 (grow (redrawn w d) os) := Own.upon0 hI h (Upon.of_below (below_regrown w d os) _)
theorem below_refl' (w : World) : Below w.heap.size w w := Below.refl _ _
/-- The document's writer beside the program's. -/
abbrev OwnWW (w0 : World) (q : Nat) (L : List Bool) (p : Nat) (M : List Bool) (w : World) : Prop := Own (Tens (fun w S => IsW w S q L) (fun w S => IsRW w S p M)) w0 w
theorem thingWW (q : Nat) (L : List Bool) (p : Nat) (M : List Bool) : Thing (Tens (fun w S => IsW w S q L) (fun w S => IsRW w S p M)) := Tens.ob (objW _ _) (objRW _ _)
theorem OwnWW.len {w0 w : World} {q p : Nat} {L M : List Bool} (h : OwnWW w0 q L p M w) (d : Nat) (os : Array Go.Obj) :
    Calls Try.prog 10 #[.pointer (some ⟨q, 0, none⟩)] (grow (redrawn w d) os) fun e w' => e = .returned (.int .i64 (L.length : Int)) ∧ Below (grow (redrawn w d) os).heap.size (grow (redrawn w d) os) w' :=
  (OwnW.len (Own.calm (thingWW q L p M) h d os).dropr rfl).mono fun _ _ ⟨he, hw⟩ => ⟨he, hw ▸ below_refl' _⟩
theorem OwnWW.text {w0 w : World} {q p : Nat} {L M : List Bool} {s : ByteArray} (hs : (⟨(pack L).toArray⟩ : ByteArray) = s) (h : OwnWW w0 q L p M w) (d : Nat) (os : Array Go.Obj) :
    Calls Try.prog 11 #[.pointer (some ⟨q, 0, none⟩)] (grow (redrawn w d) os) fun e w' => e = .returned (.string s) ∧ Below (grow (redrawn w d) os).heap.size (grow (redrawn w d) os) w' :=
  (OwnW.text (Own.calm (thingWW q L p M) h d os).dropr hs).mono fun _ _ ⟨he, hw⟩ => ⟨he, hw ▸ below_refl' _⟩
theorem OwnWW.reftext {w0 w : World} {q p : Nat} {L M : List Bool} {s : ByteArray} (hs : (⟨(pack M).toArray⟩ : ByteArray) = s) (hM : M.length ≤ 90000000000000) (h : OwnWW w0 q L p M w) (d : Nat) (os : Array Go.Obj) :
    Calls Try.prog 12 #[.pointer (some ⟨p, 0, none⟩)] (grow (redrawn w d) os) fun e w' => e = .returned (.string s) ∧ Below (grow (redrawn w d) os).heap.size (grow (redrawn w d) os) w' := by
  obtain ⟨S, h1, _⟩ := (Own.calm (thingWW q L p M) h d os).dropl.get
  subst hs
  exact reftext_any S p M _ h1 hM
theorem OwnWW.put {w0 w : World} {q p : Nat} {L M L' : List Bool} (h : OwnWW w0 q L p M w) (v : Nat) (n : Int) (hL : L.length ≤ 90000000000000) (hv : v < 18446744073709551616) (e : L' = L ++ bitsOf v (cnt n)) :
    Calls Try.prog 8 #[.pointer (some ⟨q, 0, none⟩), .int .u64 (v : Int), .int .i64 n] w fun e w' => e = .returned (.tuple #[]) ∧ OwnWW w0 q L' p M w' := by
  subst e
  obtain ⟨S, h1, h2⟩ := Own.left (objRW p M) h
  exact (put_any S q L v n w h1 hL hv).mono fun _ _ ⟨he, hs⟩ => ⟨he, h2 _ _ hs⟩
theorem OwnWW.refput {w0 w : World} {q p : Nat} {L M M' : List Bool} (h : OwnWW w0 q L p M w) (v : Nat) (n : Int) (hM : M.length ≤ 90000000000000) (hv : v < 18446744073709551616) (e : M' = M ++ bitsOf v (cnt n)) :
    Calls Try.prog 9 #[.pointer (some ⟨p, 0, none⟩), .int .u64 (v : Int), .int .i64 n] w fun e w' => e = .returned (.tuple #[]) ∧ OwnWW w0 q L p M' w' := by
  subst e
  obtain ⟨S, h1, h2⟩ := Own.right (objW q L) h
  exact (refput_any S p M v n w h1 hM hv).mono fun _ _ ⟨he, hs⟩ => ⟨he, h2 _ _ hs⟩
def wrL (ps : List (Int × Int)) : List Bool := ps.flatMap fun p => bitsOf p.1.toNat (cnt p.2)
theorem cnt_le (n : Int) : cnt n ≤ 64 := by unfold cnt; omega
theorem wrL_snoc (ps : List (Int × Int)) (k : Nat) (h : k < ps.length) : wrL (ps.take (k + 1)) = wrL (ps.take k) ++ bitsOf ps[k].1.toNat (cnt ps[k].2) := by
  rw [List.take_succ_eq_append_getElem h]
  unfold wrL
  rw [List.flatMap_append]
  simp
theorem wrL_le (ps : List (Int × Int)) (k : Nat) : (wrL (ps.take k)).length ≤ 64 * k := by
  induction k with
  | zero => simp [wrL]
  | succ k ih =>
    by_cases h : k < ps.length
    · rw [wrL_snoc ps k h, List.length_append, bitsOf_length]
      have := cnt_le ps[k].2
      omega
    · rw [List.take_of_length_le (by omega)] at ih ⊢
      omega

set_option maxRecDepth 100000 in
set_option maxHeartbeats 3200000 in
theorem writes_any (ps : List (Int × Int)) (A : Option Addr) (c : Nat) (hmax : ps.length ≤ maxLen) (w : World) (hp : PairsAt .u64 .i64 ps A w) :
    Calls Try.prog 3 #[.slice A ps.length c] w fun e w' => e = .returned (.bool true) ∧ Below w.heap.size w w' := by
  replace hmax : ps.length ≤ 9223372036854775807 := by unfold maxLen at hmax; omega
  replace hp := Lib.hid hp
  go_enter Try.func3, Try.ntmps3
  go_wp2_with fail
  refine (newWriter_any w).mono ?_
  intro x w1 hx
  obtain ⟨q, rfl, h1⟩ := WMade.own (Below.refl _ w) hx
  clear hx
  have h2 : Hid (OwnWW w q [] w1.heap.size [] (w1.alloc (.cells #[.slice none 0 0] 28 (0, 0)))) := Lib.hid (Own.new (objW _ _) h1 (T := fun b => b = w1.heap.size)
    ⟨.slice none 0 0, cell_new w1 _, World.ownsRow_nil _ _ _ _, rfl, (fun b h => by cases h), fun b hb => by rw [hb]; simp⟩ (fun b hb => by rw [hb]; exact Nat.le_refl _) ((Upon.refl _ w1).alloc _))
  clear h1
  go_wp2_with fail
  generalize w1.heap.size = p at *
  generalize w1.alloc (.cells #[.slice none 0 0] 28 (0, 0)) = w2 at *
  go_loopw [5] (fun i wr => ∃ k : Nat, k ≤ ps.length ∧ k ≤ 60 ∧ i = .int .i64 k ∧ OwnWW w q (wrL (ps.take k)) p (wrL (ps.take k)) wr) (fun i _ => ps.length - (intOf i).toNat)
  case atStart => exact ⟨0, Nat.zero_le _, Nat.zero_le _, rfl, h2.out⟩
  case round =>
    obtain ⟨k, hk, hk2, rfl, hst⟩ := hrel
    by_cases hlt : k < ps.length ∧ k < 60
    · obtain ⟨hlt, hlt2⟩ := hlt
      obtain ⟨b, off, rfl, hbw, hall⟩ := hp.out (by omega)
      obtain ⟨cw0, cw1, w0, w1'⟩ := hall k hlt
      obtain ⟨V, hV⟩ := Int.eq_ofNat_of_zero_le (wf_u64 w0).1
      have hVl : V < 18446744073709551616 := by have := (wf_u64 w0).2; omega
      have hVn : ps[k].1.toNat = V := by omega
      have hsn := wrL_snoc ps k hlt
      have hle := wrL_le ps k
      have hle2 : (wrL (ps.take (k + 1))).length ≤ 90000000000000 := by have := wrL_le ps (k + 1); omega
      rw [hVn] at hsn
      rw [hV] at cw0
      replace hsn := Lib.hid hsn
      have hN : -9223372036854775808 ≤ ps[k].2 ∧ ps[k].2 ≤ 9223372036854775807 := wf_i64 w1'
      have c0 := (hst.bel.cell (p := ⟨b, off + k * 2, none⟩) hbw).trans cw0
      have c1 := (hst.bel.cell (p := ⟨b, off + k * 2 + 1, none⟩) hbw).trans cw1
      replace cw0 := Lib.hid cw0
      replace cw1 := Lib.hid cw1
      replace hst := Lib.hid hst
      generalize ps[k].2 = N at *
      clear hall hV hVn w0 w1' h2
      go_wp2_with fail
      go_still_tail 11, (by kernel_rfl)
      change wpList _ _ _ _ _ wr.drew
      have hd := Own.upon0 (thingWW _ _ _ _) hst.out (upon_drewN _ wr 1)
      have hput := Lib.hid (OwnWW.put (w := wr.drew) hd V N (by omega) hVl hsn.out)
      clear hst hd c0 c1
      go_wp2_with fail
      refine hput.out.mono ?_
      rintro x w3 ⟨rfl, h3⟩
      have c0 := (h3.bel.cell (p := ⟨b, off + k * 2, none⟩) hbw).trans cw0.out
      have c1 := (h3.bel.cell (p := ⟨b, off + k * 2 + 1, none⟩) hbw).trans cw1.out
      replace h3 := Lib.hid h3
      clear hput
      go_wp2_with fail
      go_still_tail 11, (by kernel_rfl)
      change wpList _ _ _ _ _ w3.drew
      have hd := Own.upon0 (thingWW _ _ _ _) h3.out (upon_drewN _ w3 1)
      have hput := Lib.hid (OwnWW.refput (w := w3.drew) hd V N (by omega) hVl hsn.out)
      clear h3 hd c0 c1
      go_wp2_with fail
      refine hput.out.mono ?_
      rintro x w4 ⟨rfl, h4⟩
      replace h4 := Lib.hid h4
      clear hput
      go_wp2_with fail
      obtain ⟨L, hLe⟩ : ∃ L, wrL (ps.take (k + 1)) = L := ⟨_, rfl⟩
      rw [hLe] at h4 hle2
      replace hLe := Lib.hid hLe
      obtain ⟨s, hs⟩ : ∃ s : ByteArray, (⟨(pack L).toArray⟩ : ByteArray) = s := ⟨_, rfl⟩
      have t1 := Lib.hid (fun d os => OwnWW.len h4.out d os)
      have t2 := Lib.hid (fun d os => OwnWW.text hs h4.out d os)
      have t3 := Lib.hid (fun d os => OwnWW.reftext hs hle2 h4.out d os)
      obtain ⟨S, ⟨rv, hr⟩, hgoS⟩ := h4.out.dropl.get
      clear hgoS
      have k0 : w4.cell? ⟨p, 0, none⟩ = some rv := by rw [Lib.cell_of_heap hr.cell]; rfl
      obtain ⟨A2, c2, rfl⟩ : ∃ A c, rv = .slice A L.length c := by
        rcases hr.row.2 with ⟨hv, h0⟩ | ⟨g, cap, cur, hv, _⟩
        · exact ⟨none, 0, by rw [hv, h0]⟩
        · exact ⟨_, _, hv⟩
      have k0' := fun d os => cell_regrown k0 d os
      clear hr k0 hs
      refine wp_region_quiet_below (by kernel_rfl) (by kernel_rfl) ?_
      repeat (go_big_quiet_step (first
        | exact Calls.regrown_of (t1.out _ _)
        | exact Calls.regrown_of (t2.out _ _)
        | exact Calls.regrown_of (t3.out _ _)))
      refine wpQuiet_nil ?_
      intro _ hw'
      obtain ⟨⟨dq, osq⟩, hw''⟩ := hw'
      subst hw''
      have h5 := Lib.hid (Own.calm (thingWW _ _ _ _) h4.out dq osq)
      clear t1 t2 t3 k0' h4
      generalize grow (redrawn w4 dq) osq = w5 at *
      go_wp2_with fail
      go_roundw
      case rel => exact ⟨k + 1, by omega, by omega, by go_num, by rw [hLe.out]; exact h5.out⟩
      case measure => simp [intOf]; omega
    · have hb : Hid (Below w.heap.size w wr) := Lib.hid hst.bel
      have hcond : decide (k < ps.length) = false ∨ (decide (k < ps.length) = true ∧ decide ((k : Int) < 60) = false) := by
        by_cases h : k < ps.length
        · right; simp; omega
        · left; simp; omega
      clear hst h2 hlt
      rcases hcond with hc1 | ⟨hc1, hc2⟩
      all_goals
        go_wp2_with fail
        go_ret
        exact ⟨rfl, hb.out⟩
theorem writes_true (w : World) (v : Value) (hv : IsPairs .u64 .i64 v w) :
    Calls Try.prog 3 #[v] w fun e w' => e = .returned (.bool true) ∧ Below w.heap.size w w' := by
  obtain ⟨ps, A, c, rfl, hm, hp⟩ := hv
  exact writes_any ps A c hm w hp
end Bit
end Go.Proofs.Ytblfhmajonnceaa
