/- The program's manifests (layer 17): areNames, by a disk without room. -/
import Derived.Test.YtjpgglajcelllaaDoorEMfRow
import Derived.Test.YtjpgglajcelllaaDoorEPDisk3
set_option maxRecDepth 100000
namespace Go.Proofs.YtjpgglajcelllaaDoor
open Go.RowKit
namespace Mf
open Bit Dsk Ob Dig
set_option linter.unusedVariables false
/-- A disk on which nothing but names is. -/
structure Emp (j : Nat) (st : St) : Prop where
  up : st.dead = false
  left : st.left = -1
  room : st.room = 0
  no : ∀ f ∈ st.F, f.s = []
  len : st.N.length ≤ j
  chs : st.C.length ≤ j
theorem emp_new : Emp 0 (new 0) := ⟨rfl, rfl, rfl, fun f hf => (by cases hf), Nat.le_refl _, Nat.le_refl _⟩
theorem Emp.used {j : Nat} {st : St} (h : Emp j st) : used st = 0 := by
  have h1 : ∀ i, (st.F.getD i default).s.length = 0 := fun i => by
    rw [List.getD_eq_getElem?_getD]
    cases hi : st.F[i]? with
    | none => rfl
    | some f => rw [Option.getD_some, h.no f (List.mem_of_getElem? hi)]; rfl
  unfold Dsk.used
  have h2 : (st.N.map fun p => (st.F.getD p.2 default).s.length) = st.N.map fun _ => 0 := List.map_congr_left fun p _ => h1 p.2
  rw [h2]
  generalize st.N = N
  induction N with
  | nil => rfl
  | cons a r ih => simpa using ih
theorem Emp.small {j : Nat} {st : St} (h : Emp j st) (hj : j ≤ 1000) : Small st 0 := ⟨by rw [h.used]; decide, fun f hf => by rw [h.no f hf]; decide, by have := h.chs; omega, by decide⟩
theorem Emp.wr {j : Nat} {st : St} (h : Emp j st) : wrB st = true ∧ wrS st = st := by
  have e : (st.dead || st.left == 0) = false := by rw [h.up, h.left]; rfl
  unfold wrB wrS
  rw [e]
  refine ⟨rfl, ?_⟩
  simp only [Bool.false_eq_true, if_false]
  rw [if_neg (by rw [h.left]; decide)]
theorem Emp.full {j : Nat} {st : St} (h : Emp j st) (hj : j ≤ 63) (n : Str) : full st n [] = false := by
  unfold Dsk.full
  rw [h.used, h.room]
  have h1 : decide (st.N.length = 64) = false := decide_eq_false (by have := h.len; omega)
  rw [h1]
  simp
theorem Emp.app {j : Nat} {st : St} (h : Emp j st) (hj : j ≤ 63) (n : Str) : appE st n [] = (if isName n then 0 else 3) ∧ Emp (j + 1) (appS st n []) := by
  obtain ⟨w1, w2⟩ := h.wr
  have hf := h.full hj n
  constructor
  · unfold appE
    rw [w2, w1, hf]
    cases isName n <;> rfl
  · unfold appS
    rw [w2, w1, hf]
    cases hn : isName n with
    | false =>
      have e : (if (true && false && !false) = true then addF st n [] else st) = st := if_neg (by decide)
      rw [e]
      exact ⟨h.up, h.left, h.room, h.no, by have := h.len; omega, by have := h.chs; omega⟩
    | true =>
      simp only [Bool.and_self, Bool.not_false, if_true]
      unfold addF
      split
      · refine ⟨h.up, h.left, h.room, fun f hf => ?_, by have := h.len; simp only; omega, by have := h.chs; simp only; omega⟩
        rw [List.mem_iff_getElem?] at hf
        obtain ⟨k, hk⟩ := hf
        simp only [List.getElem?_modify] at hk
        cases hg : st.F[k]? with
        | none => rw [hg] at hk; simp at hk
        | some g =>
          have := h.no g (List.mem_of_getElem? hg)
          rw [hg] at hk
          simp only [Option.map_eq_map, Option.map_some, Option.some.injEq] at hk
          rename_i i _
          by_cases hi : i = k
          · rw [if_pos hi] at hk
            rw [← hk]
            show g.s ++ [] = []
            rw [this]; rfl
          · rw [if_neg hi] at hk
            rw [← hk]
            exact this
      · refine ⟨h.up, h.left, h.room, fun f hf => ?_, ?_, ?_⟩
        · rcases List.mem_append.1 hf with hf | hf
          · exact h.no f hf
          · rw [List.mem_singleton.1 hf]
        · have := len_put_le st.N n st.F.length; have := h.len; simp only; omega
        · have := h.chs; simp only [List.length_append, List.length_singleton]; omega
/-- The first j names are right. -/
def GoodN (l : List ByteArray) (j : Nat) : Prop := ∀ i (h : i < l.length), i < j → nm l[i] = true
theorem GoodN.start (l : List ByteArray) : GoodN l 0 := fun i _ h => absurd h (Nat.not_lt_zero i)
theorem GoodN.step {l : List ByteArray} {j : Nat} (h : GoodN l j) (hj : j < l.length) (ho : nm l[j] = true) : GoodN l (j + 1) := fun i hi h2 => by
  by_cases e : i = j
  · subst e; exact ho
  · exact h i hi (by omega)
theorem GoodN.last {l : List ByteArray} {j : Nat} (h : GoodN l j) (hj : ¬ j < l.length) : l.all nm = true := List.all_eq_true.2 fun x hx => by
  obtain ⟨i, hi, rfl⟩ := List.mem_iff_getElem.1 hx
  exact h i hi (by omega)
theorem badN_at {l : List ByteArray} {j : Nat} (hj : j < l.length) (h : nm l[j] = false) : l.all nm = false := by
  rw [Bool.eq_false_iff]
  intro h2
  have := List.all_eq_true.1 h2 _ (List.getElem_mem hj)
  rw [h] at this; cases this
set_option maxHeartbeats 1600000 in
theorem pnames_any (w : World) (S : Nat → Prop) (v : Value) (l : List ByteArray) (hv : NView w S v l) (hb : NBnd l) (hl : l.length ≤ 16) {b : Bool} (hall : l.all nm = b) :
    Calls Tryd.prog 41 #[v] w fun e w' => e = .returned (.bool b) ∧ New0 w w' := by
  obtain ⟨A, c, rfl, -, -⟩ := Rw.View.shape hv
  have hv0 := Lib.hid hv
  have hb0 := Lib.hid hb
  have hall0 := Lib.hid hall
  clear hv hb hall
  go_enter Tryd.func41, Tryd.ntmps41
  go_wp2_with fail
  refine (new_any 0 ⟨by decide, by decide⟩ w).mono ?_
  intro e w1 hm
  obtain ⟨p, rfl, h1⟩ := Own.made (Below.refl _ w) hm
  replace h1 := Lib.hid h1
  clear hm
  go_wp2_with fail
  go_loopw [9] (fun ov wr => ∃ (j : Nat) (st : St), ov = .int .i64 (j : Int) ∧ j ≤ l.length ∧ Hid (GoodN l j) ∧ Hid (Emp j st) ∧ Hid (Dsk.Own w p st wr)) (fun ov _ => l.length - (intOf ov).toNat)
  case atStart => exact ⟨0, _, rfl, Nat.zero_le _, Lib.hid (GoodN.start l), Lib.hid emp_new, h1⟩
  case round =>
    obtain ⟨j, st, rfl, hj, hg, he, ho⟩ := hrel
    by_cases hlt : j < l.length
    · have hvr : NView wr S (.slice A l.length c) l := hv0.out.new (Upon.of_below ho.out.below _)
      obtain ⟨b0, off, rfl, -, -, hcells⟩ := hvr.cells (by omega)
      have x0 := hcells j hlt
      have hz := hb0.out _ (List.getElem_mem hlt)
      have ha := he.out.app (by omega) l[j].data.toList
      have hA := Lib.hid (Dsk.Own.append ho.out l[j] ⟨#[]⟩ hz (he.out.small (by omega)))
      clear hcells hvr
      cases hn : nm l[j] with
      | true =>
        have hE : appE st l[j].data.toList [] = 0 := by rw [ha.1]; rw [show isName l[j].data.toList = true from hn]; rfl
        have hG := Lib.hid (hg.out.step hlt hn)
        have hS := Lib.hid ha.2
        have hA2 : Hid (Calls Tryd.prog 27 #[.pointer (some ⟨p, 0, none⟩), .string l[j], .string ⟨#[]⟩] wr fun e w' => e = .returned (.int .i64 0) ∧ Dsk.Own w p (appS st l[j].data.toList []) w') := Lib.hid (hA.out.mono fun e w' ⟨h1, h2⟩ => ⟨by rw [h1, ← hE], h2⟩)
        clear ha hE hA hn hz
        go_wp2_with fail
        refine hA2.out.mono ?_
        rintro e w2 ⟨rfl, h2⟩
        replace h2 := Lib.hid h2
        clear hA2 x0
        go_wp2_with fail
        go_roundw
        case rel => exact ⟨j + 1, _, by go_num, hlt, hG, hS, h2⟩
        case measure => simp [intOf]; omega
      | false =>
        have hE : appE st l[j].data.toList [] = 3 := by rw [ha.1]; rw [show isName l[j].data.toList = false from hn]; rfl
        have hR := Lib.hid (badN_at hlt hn)
        have hA2 : Hid (Calls Tryd.prog 27 #[.pointer (some ⟨p, 0, none⟩), .string l[j], .string ⟨#[]⟩] wr fun e w' => e = .returned (.int .i64 3) ∧ Dsk.Own w p (appS st l[j].data.toList []) w') := Lib.hid (hA.out.mono fun e w' ⟨h1, h2⟩ => ⟨by rw [h1, ← hE], h2⟩)
        clear ha hE hA hn hz
        go_wp2_with fail
        refine hA2.out.mono ?_
        rintro e w2 ⟨rfl, h2⟩
        have hend := Lib.hid (Upon.of_below h2.below (fun _ => False))
        clear hA2 x0 h2
        go_wp2_with fail
        go_ret
        exact ⟨Lb.ret_b (by rw [← hall0.out, hR.out]), hend.out⟩
    · have hR := Lib.hid (hg.out.last hlt)
      have hend := Lib.hid (Upon.of_below ho.out.below (fun _ => False))
      clear hg he ho
      go_wp2_with fail
      go_ret
      exact ⟨Lb.ret_b (by rw [← hall0.out, hR.out]), hend.out⟩
end Mf
end Go.Proofs.YtjpgglajcelllaaDoor
