/- The coders of layer 8 that a law has made; the statements' own 'works'. -/
import Derived.Test.YtjoaccfjjihleaaDoorTmCd
namespace Go.Proofs.YtjoaccfjjihleaaDoor
open Go.RowKit Go.Sort
namespace Tm
open Bit Dsk Ob
set_option linter.unusedVariables false

/-! ### rows of patterns -/
def I64 (l : List Int) : Prop := ∀ v ∈ l, In v
theorem I64.ok {l : List Int} (h : I64 l) : (putsC newC l).Ok := putsC_ok l ok_new h
theorem I64.snoc {l : List Int} (h : I64 l) {v : Int} (hv : In v) : I64 (l ++ [v]) := fun x hx => by
  rcases List.mem_append.1 hx with k | k
  · exact h x k
  · simp at k; rw [k]; exact hv
theorem puts_len {l : List Int} (h : l.length ≤ 1000) : (putsB newC l).length ≤ 77000 := by have := putsB_len l newC; omega
/-- The program's coder and writer, behind a row of patterns. -/
abbrev RW (q p : Nat) (l : List Int) : Ob.Rel := PW q (putsC newC l) p (putsB newC l)
theorem thingRW (q p : Nat) (l : List Int) : Thing (RW q p l) := thingPW _ _ _ _
theorem rwPut {q p : Nat} {l l' : List Int} {w0 w : World} (hT : Tab w0) (hb : Below w0.heap.size w0 w) (hl : I64 l) (hn : l.length ≤ 1000) {v : Int} (hv : In v) (e : l ++ [v] = l') (A : Nat → Prop) (hA : ∀ b, A b → w0.heap.size ≤ b) (h : RW q p l w A) :
    Calls Tryd.prog 10 #[.pointer (some ⟨q, 0, none⟩), .pointer (some ⟨p, 0, none⟩), .int .i64 v] w fun e w' => e = .returned (.tuple #[]) ∧ ObjStep (RW q p l') A w w' := by
  subst e
  have := cdPut_any A q p (putsC newC l) (putsB newC l) v w h hl.ok (by have := puts_len hn; omega) hv (hT.beside hb hA)
  rw [← putsC_snoc, ← putsB_snoc] at this
  exact this
/-- .. and the document's. -/
abbrev DW (q p : Nat) (l : List Int) : Ob.Rel := CW q (putsC newC l) p (putsB newC l)
theorem dwPut {q p : Nat} {l l' : List Int} {w : World} (hl : I64 l) (hn : l.length ≤ 1000) {v : Int} (hv : In v) (e : l ++ [v] = l') (A : Nat → Prop) (h : DW q p l w A) :
    Calls Tryd.prog 11 #[.pointer (some ⟨q, 0, none⟩), .pointer (some ⟨p, 0, none⟩), .int .i64 v] w fun e w' => e = .returned (.tuple #[]) ∧ ObjStep (DW q p l') A w w' := by
  subst e
  have := refPut_any A q p (putsC newC l) (putsB newC l) v w h (by have := puts_len hn; omega)
  rw [← putsC_snoc, ← putsB_snoc] at this
  exact this
theorem CMade.own {w0 w : World} {e : Ending} {w' : World} (hb : Below w0.heap.size w0 w) (h : CMade w e w') : ∃ q, e = .returned (.pointer (some ⟨q, 0, none⟩)) ∧ Own (IsCd q newC) w0 w' := by
  obtain ⟨q, h1, h2, h3, h4⟩ := h
  exact ⟨q, h1, ⟨fun x => x = q, h2, fun b hS => by rw [hS]; exact Nat.le_trans hb.size h3⟩, below_of_upon hb h4⟩
/-- A coder is made beside another object. -/
theorem CMade.beside {I : Ob.Rel} (hI : Thing I) {w0 w : World} {e : Ending} {w' : World} (H : Own I w0 w) (h : CMade w e w') : ∃ q, e = .returned (.pointer (some ⟨q, 0, none⟩)) ∧ Own (Tens I (IsCd q newC)) w0 w' := by
  obtain ⟨q, h1, h2, h3, h4⟩ := h
  exact ⟨q, h1, Own.new hI H h2 (fun b hb => by rw [hb]; exact h3) h4⟩
theorem WMade.beside {I : Ob.Rel} (hI : Thing I) {w0 w : World} {e : Ending} {w' : World} (H : Own I w0 w) (h : WMade w e w') : ∃ q, e = .returned (.pointer (some ⟨q, 0, none⟩)) ∧ Own (Tens I (fun w S => IsW w S q [])) w0 w' := by
  obtain ⟨S, q, h1, h2, h3, h4⟩ := h
  exact ⟨q, h1, Own.new hI H h2 h3 h4⟩
/-- A reader of what was packed is made beside another object. -/
theorem RMade.beside {I : Ob.Rel} (hI : Thing I) {s : ByteArray} {L : List Bool} (hs : s.data.toList = pack L) {w0 w : World} {e : Ending} {w' : World} (H : Own I w0 w) (h : RMade s L.length w e w') : ∃ q, e = .returned (.pointer (some ⟨q, 0, none⟩)) ∧ Own (Tens I (fun w S => IsRK w S q L)) w0 w' := by
  obtain ⟨S, q, h1, h2, h3, h4⟩ := h
  exact ⟨q, h1, Own.new hI H (rkOf hs h2) h3 h4⟩
theorem rwLen {J : Ob.Rel} {w0 w : World} {q p : Nat} {l : List Int} (H : Own (Tens (RW q p l) J) w0 w) {n : Nat} (hn : (putsB newC l).length = n) :
    Calls Tryd.prog 12 #[.pointer (some ⟨p, 0, none⟩)] w fun e w' => e = .returned (.int .i64 (n : Int)) ∧ w = w' := by
  subst hn
  obtain ⟨A, h⟩ := H.seeL
  obtain ⟨_, B, _, h2, _⟩ := h
  exact wlen_any B p _ w h2
theorem rwLen1 {w0 w : World} {q p : Nat} {l : List Int} (H : Own (RW q p l) w0 w) {n : Nat} (hn : (putsB newC l).length = n) :
    Calls Tryd.prog 12 #[.pointer (some ⟨p, 0, none⟩)] w fun e w' => e = .returned (.int .i64 (n : Int)) ∧ w = w' := by
  subst hn
  obtain ⟨A, h⟩ := H.seeR
  exact wlen_any A p _ w h
theorem rwText {J : Ob.Rel} {w0 w : World} {q p : Nat} {l : List Int} (H : Own (Tens (RW q p l) J) w0 w) {s : ByteArray} (hs : (⟨(pack (putsB newC l)).toArray⟩ : ByteArray) = s) :
    Calls Tryd.prog 13 #[.pointer (some ⟨p, 0, none⟩)] w fun e w' => e = .returned (.string s) ∧ w = w' := by
  subst hs
  obtain ⟨A, h⟩ := H.seeL
  obtain ⟨_, B, _, h2, _⟩ := h
  exact text_any B p _ w h2
/-- The program's coder and reader, behind the first j patterns of a row. -/
abbrev RR (q p : Nat) (l : List Int) (j : Nat) : Ob.Rel := PR q (putsC newC (l.take j)) p (putsB (putsC newC (l.take j)) (l.drop j))
theorem rrGet {q p : Nat} {l : List Int} {w0 w : World} (hT : Tab w0) (hb : Below w0.heap.size w0 w) (hl : I64 l) {j : Nat} (hj : j < l.length) {v : Int} (hv : l[j] = v) (A : Nat → Prop) (hA : ∀ b, A b → w0.heap.size ≤ b) (h : RR q p l j w A) :
    Calls Tryd.prog 17 #[.pointer (some ⟨q, 0, none⟩), .pointer (some ⟨p, 0, none⟩)] w fun e w' => e = .returned (.tuple #[.int .i64 v, .bool true]) ∧ ObjStep (RR q p l (j + 1)) A w w' := by
  subst hv
  have hlt : I64 (l.take j) := fun v hv => hl v (List.mem_of_mem_take hv)
  obtain ⟨h1, h2, h3⟩ := get_next hj ok_new hl
  have := cdGet_any A q p _ _ w h hlt.ok (hT.beside hb hA)
  rw [h1] at this
  refine this.mono fun e w' ⟨he, hs⟩ => ⟨he, ?_⟩
  rw [h2, h3] at hs
  exact hs

/-! ### works -/
set_option maxHeartbeats 3200000 in
theorem works_true (w : World) (hT : Tab w) : Calls Tryd.prog 19 #[] w fun e w' => e = .returned (.bool true) ∧ Below w.heap.size w w' := by
  have u0 : I64 [] := fun v hv => by simp at hv
  have i1 : In 100 := by unfold In; decide
  have i2 : In 160 := by unfold In; decide
  have i3 : In 220 := by unfold In; decide
  have u1 : I64 [100] := u0.snoc (v := 100) i1
  have u2 : I64 [100, 160] := u1.snoc (v := 160) i2
  have u3 : I64 [100, 160, 220] := u2.snoc (v := 220) i3
  obtain ⟨l2, l3⟩ := works_puts
  replace hT := Lib.hid hT
  replace u0 := Lib.hid u0
  replace u1 := Lib.hid u1
  replace u2 := Lib.hid u2
  replace u3 := Lib.hid u3
  replace i1 := Lib.hid i1
  replace i2 := Lib.hid i2
  replace i3 := Lib.hid i3
  replace l2 := Lib.hid l2
  replace l3 := Lib.hid l3
  go_enter Tryd.func19, Tryd.ntmps19
  go_wp2_with fail
  refine (new_any w hT.out).mono ?_
  intro x w1 hx
  obtain ⟨q, rfl, h1⟩ := CMade.own (Below.refl _ w) hx
  clear hx
  replace h1 := Lib.hid h1
  go_wp2_with fail
  refine (newWriter_any w1).mono ?_
  intro x w2 hx
  obtain ⟨p, rfl, h2⟩ := WMade.beside (objCd _ _) h1.out hx
  have h2' : Hid (Own (RW q p []) w w2) := Lib.hid h2
  clear hx h1 h2
  go_wp2_with fail
  refine (ownW h2'.out fun A hA h => rwPut (l' := [100]) hT.out h2'.out.bel u0.out (by decide) (v := 100) i1.out rfl A hA h).mono ?_
  rintro x w3 ⟨rfl, h3⟩
  replace h3 := Lib.hid h3
  clear h2'
  go_wp2_with fail
  refine (ownW h3.out fun A hA h => rwPut (l' := [100, 160]) hT.out h3.out.bel u1.out (by decide) (v := 160) i2.out rfl A hA h).mono ?_
  rintro x w4 ⟨rfl, h4⟩
  replace h4 := Lib.hid h4
  clear h3
  go_wp2_with fail
  refine (rwLen1 h4.out l2.out).mono ?_
  rintro x w5 ⟨rfl, rfl⟩
  go_wp2_with fail
  refine (ownW h4.out fun A hA h => rwPut (l' := [100, 160, 220]) hT.out h4.out.bel u2.out (by decide) (v := 220) i3.out rfl A hA h).mono ?_
  rintro x w6 ⟨rfl, h6⟩
  replace h6 := Lib.hid h6
  clear h4
  go_wp2_with fail
  refine (new_any w6 (hT.out.own h6.out.bel)).mono ?_
  intro x w7 hx
  obtain ⟨q2, rfl, h7⟩ := CMade.beside (thingRW _ _ _) h6.out hx
  replace h7 := Lib.hid h7
  clear hx h6
  go_wp2_with fail
  obtain ⟨s, hs, hsd, hsz, hend⟩ := back_text (putsB newC [100, 160, 220])
  replace hsd := Lib.hid hsd
  replace hend := Lib.hid hend
  have hs2 : Hid (s.size ≤ 140737488355328) := Lib.hid (by rw [hsz, l3.out]; decide)
  replace hs := Lib.hid hs
  clear hsz
  refine (rwText h7.out hs.out).mono ?_
  rintro x w8 ⟨rfl, rfl⟩
  go_wp2_with fail
  refine (rwLen h7.out l3.out).mono ?_
  rintro x w8 ⟨rfl, rfl⟩
  go_wp2_with fail
  have hrm := newReader_any s 74 hs2.out (by decide) w7
  rw [show (74 : Int) = ((putsB newC [100, 160, 220]).length : Int) by rw [l3.out]; rfl, hend.out] at hrm
  rw [show (((putsB newC [100, 160, 220]).length : Nat) : Int) = 74 by rw [l3.out]; rfl] at hrm
  refine hrm.mono ?_
  intro x w8 hx
  obtain ⟨p2, rfl, h8⟩ := RMade.beside (Tens.ob (thingRW _ _ _) (objCd _ _)) hsd.out h7.out hx
  have h8' : Hid (Own (Tens (RW q p [100, 160, 220]) (RR q2 p2 [100, 160, 220] 0)) w w8) := Lib.hid h8.assoc
  clear hx h7 h8 hrm hs hend hs2
  go_wp2_with fail
  refine (ownR (thingRW _ _ _) h8'.out fun A hA h => rrGet hT.out h8'.out.bel u3.out (j := 0) (by decide) (v := 100) rfl A hA h).mono ?_
  rintro x w9 ⟨rfl, h9⟩
  replace h9 := Lib.hid h9
  clear h8'
  go_wp2_with fail
  refine (ownR (thingRW _ _ _) h9.out fun A hA h => rrGet hT.out h9.out.bel u3.out (j := 1) (by decide) (v := 160) rfl A hA h).mono ?_
  rintro x w10 ⟨rfl, h10⟩
  replace h10 := Lib.hid h10
  clear h9
  go_wp2_with fail
  refine (ownR (thingRW _ _ _) h10.out fun A hA h => rrGet hT.out h10.out.bel u3.out (j := 2) (by decide) (v := 220) rfl A hA h).mono ?_
  rintro x w11 ⟨rfl, h11⟩
  replace h11 := Lib.hid h11
  clear h10
  go_wp2_with fail
  refine (rwLen h11.out l3.out).mono ?_
  rintro x w12 ⟨rfl, rfl⟩
  go_wp2_with fail
  go_ret
  exact ⟨rfl, h11.out.bel⟩
end Tm
end Go.Proofs.YtjoaccfjjihleaaDoor
