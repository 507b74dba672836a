/- (*Disk).Used (layer 4): the sum over a map that is gone through in whatever order. -/
import Derived.Test.YtfpphahdbhelcaaDiskTwo
import Derived.Sort.MapsRangeIn
namespace Go.Proofs.Ytfpphahdbhelcaa
open Go.RowKit
namespace Dsk
open Go.Maps

/-- How many bytes are in the files whose names are no longer to come. -/
def doneSum (F : List FileS) (left : Lit → Bool) : Nms → Nat
  | [] => 0
  | p :: r => (if left (.string p.1) then 0 else (F.getD p.2 default).s.length) + doneSum F left r

theorem doneSum_end (st : St) {left : Lit → Bool} (hl : ∀ kl, left kl = false) : doneSum st.F left st.N = used st := by
  unfold used
  induction st.N with
  | nil => rfl
  | cons p r ih => simp [doneSum, hl, ih]
theorem doneSum_le (F : List FileS) (left : Lit → Bool) : ∀ N : Nms, doneSum F left N ≤ (N.map fun p => (F.getD p.2 default).s.length).sum
  | [] => Nat.le_refl _
  | p :: r => by
    have ih := doneSum_le F left r
    simp only [doneSum, List.map_cons, List.sum_cons]
    split <;> omega
theorem doneSum_start (fs : List Nat) (F : List FileS) (N : Nms) : ∀ M : Nms, (∀ p ∈ M, p ∈ N) → doneSum F (Maps.has (toD fs N)) M = 0
  | [], _ => rfl
  | p :: r, h => by
    have ih := doneSum_start fs F N r fun q hq => h q (List.mem_cons_of_mem _ hq)
    have hp := h p List.mem_cons_self
    have : Maps.has (toD fs N) (.string p.1) = true := by
      rw [toD_has]
      cases e : lookN N p.1 with
      | none => exact absurd rfl (look_none e p hp)
      | some i => rfl
    simp [doneSum, this, ih]
theorem doneSum_other (F : List FileS) (left : Lit → Bool) (k : Str) : ∀ M : Nms, (∀ p ∈ M, p.1 ≠ k) → doneSum F (fun z => left z && !z.sameKey (.string k)) M = doneSum F left M
  | [], _ => rfl
  | p :: r, h => by
    have ih := doneSum_other F left k r fun q hq => h q (List.mem_cons_of_mem _ hq)
    have hp : (Lit.string p.1).sameKey (.string k) = false := by rw [same_str]; simpa using h p List.mem_cons_self
    simp only [doneSum, hp, ih, Bool.not_false, Bool.and_true]
theorem doneSum_step (F : List FileS) {left : Lit → Bool} {k : Str} {i : Nat} : ∀ {N : Nms}, Rising N → lookN N k = some i → left (.string k) = true →
    doneSum F (fun z => left z && !z.sameKey (.string k)) N = doneSum F left N + (F.getD i default).s.length
  | [], _, h, _ => by cases h
  | p :: r, hR, h, hl => by
    have hr : Rising r := List.Pairwise.of_cons hR
    by_cases e : p.1 = k
    · have hp : (Lit.string p.1).sameKey (.string k) = true := by rw [same_str]; simpa using e
      have hi : p.2 = i := by
        unfold lookN at h
        rw [List.find?_cons] at h
        simp [e] at h
        exact h
      have ho := doneSum_other F left k r fun q hq h => by
        have := before_ne (List.rel_of_pairwise_cons hR hq)
        exact this (e.trans h.symm)
      have hl' : left (.string p.1) = true := by rw [e]; exact hl
      simp only [doneSum, hp, ho, Bool.not_true, Bool.and_false, hi, hl', if_true, Bool.false_eq_true, if_false]
      omega
    · have hp : (Lit.string p.1).sameKey (.string k) = false := by rw [same_str]; simpa using e
      have h' : lookN r k = some i := by
        unfold lookN at h ⊢
        rw [List.find?_cons] at h
        have : (p.1 == k) = false := by simpa using e
        rw [this] at h
        exact h
      have ih := doneSum_step F hr h' hl
      simp only [doneSum, hp, ih, Bool.not_false, Bool.and_true]
      omega

/-- The step of a range over a map of files. -/
theorem wpList_next_files (w : World) {ops : Array Oper} {rest : List Oper} {o : Oper} {a : Act} {Q : Exit → Act → World → Prop} (hg : o.guard = none) (it : Operand) (hop : o.op = Op.next it false)
    (b r n : Nat) (fs : List Nat) (N : Nms) (left : Lit → Bool) (cnt : Nat) (hit : a.eval it = .pointer (some ⟨r, 0, none⟩)) (h : w.ranges Try.prog 9 ptrElem b r n (toD fs N) left cnt)
    (hDone : (∀ kl, left kl = false) → wpList Try.prog ops Q rest (a.put o.dst (.tuple #[.bool false])) w)
    (hMore : ∀ (k : ByteArray) (i : Nat) (w' : World) (cnt' : Nat), lookN N k.data.toList = some i → left (.string k.data.toList) = true → w'.ranges Try.prog 9 ptrElem b r n (toD fs N) (fun z => left z && !z.sameKey (.string k.data.toList)) cnt' → cnt' < cnt →
      w.grownBy w' (some r) → (Instr.entry (.pointer (some ⟨r, 0, none⟩))).run Try.prog w' = .ok (.tuple #[.string k, .pointer (some ⟨blk fs i, 0, none⟩)]) w' → wpList Try.prog ops Q rest (a.put o.dst (.tuple #[.bool true, .string k, .pointer (some ⟨blk fs i, 0, none⟩)])) w') :
    wpList Try.prog ops Q (o :: rest) a w := by
  refine wpList_next_ranges w hg it hop 9 keyed9 ptrElem (Value.string) (fun c : Option Nat => .pointer (c.map fun b => ⟨b, 0, none⟩))
    (fun key kl hkey => Maps.keyOf_string_inv Try.underlying9 hkey) (fun v y hv => ?_) b r n (toD fs N) left cnt hit h (fun _ => hDone) ?_
  · unfold ptrElem at hv
    split at hv
    · exact ⟨none, rfl⟩
    · exact ⟨some _, rfl⟩
    · cases hv
  · intro k c kl y w' cnt' hkey hl hv hat hrg hlt hgr hsz hen
    have hkl : kl = .string k.data.toList := by
      simp [keyOf, mapKey, Try.underlying9] at hkey
      exact hkey.2.symm
    subst hkl
    have h0 := hat (.lit (.int .i64 0))
    have h1 := hat (.lit (.int .i64 1))
    rw [toD_at] at h0 h1
    cases e : lookN N k.data.toList with
    | none =>
      rw [e] at h0 h1
      rw [← h0] at h1
      simp at h1
    | some i =>
      rw [e] at h0
      simp only at h0
      have hc : Value.pointer (c.map fun b => ⟨b, 0, none⟩) = .pointer (some ⟨blk fs i, 0, none⟩) := ptrElem_inv (ps := y.2) (by rw [hv, h0])
      rw [hc] at hen
      rw [hc]
      exact hMore k i w' cnt' e hl hrg hlt hgr hen

set_option maxHeartbeats 1600000 in
theorem used_any (S : Nat → Prop) (p : Nat) (st : St) (w : World) (h : IsDisk w S p st) (hu : used st ≤ 4000000000000000000) :
    Calls Try.prog 17 #[.pointer (some ⟨p, 0, none⟩)] w fun e w' => e = .returned (.int .i64 (used st : Int)) ∧ Upon (fun _ => False) w w' := by
  obtain ⟨g, h⟩ := h
  obtain ⟨-, -, -, k3, -, -, -⟩ := c6 h.cell
  have HD := Lib.hid h
  have HM := Lib.hid h.now
  have HR := Lib.hid h.fine.nmN.rising
  clear h
  go_enter Try.func17, Try.ntmps17
  go_wp2_with (at_range; refine wpList_range_own _ rfl _ 57 rfl 9 61 keyed9 Try.underlying57 ptrElem g.bn st.N.length (toD g.fs st.N) rfl HM.out ?_; intro w0 hrg0 hg0 hs0)
  have HU0 := Lib.hid (show Upon (fun _ => False) w w0 from (Upon.refl _ w).grown hg0 (fun k e => by cases e))
  have HG0 := Lib.hid hrg0
  clear hrg0 hg0 hs0 k3
  go_frame
  go_loopw [3] (fun t wr => ∃ (left : Lit → Bool) (cnt : Nat), wr.ranges Try.prog 9 ptrElem g.bn w.heap.size st.N.length (toD g.fs st.N) left cnt ∧ t = .int .i64 (doneSum st.F left st.N : Int) ∧ Upon (fun _ => False) w wr)
    (fun _ wr => wr.rangeLeft g.bn w.heap.size)
  case atStart => exact ⟨_, _, HG0.out, by rw [doneSum_start g.fs st.F st.N st.N fun _ h => h]; rfl, HU0.out⟩
  case round =>
    obtain ⟨left, cnt, hrg, rfl, hup⟩ := hrel
    have HRG := Lib.hid hrg
    have HUP := Lib.hid hup
    clear hrg hup
    have hle : doneSum st.F left st.N ≤ 4000000000000000000 := Nat.le_trans (doneSum_le _ _ _) hu
    go_wp2_with (at_next; refine wpList_next_files _ rfl _ rfl g.bn w.heap.size st.N.length g.fs st.N left cnt rfl HRG.out ?_ ?_)
    · intro hl0
      have HE := Lib.hid (doneSum_end st hl0)
      clear hl0
      go_wp2
      go_ret
      exact ⟨by rw [← HE.out]; rfl, HUP.out⟩
    · intro k i w1 cnt1 hlk hlx hrg1 hlt hg1 hen
      have HUP1 := Lib.hid (HUP.out.grown hg1 (fun k e => by cases e; exact .inr (Nat.le_refl _)))
      have hd1 := HD.out.kept (fun b hb => HUP1.out.block b (HD.out.lt b hb) (fun h => h)) HUP1.out.size
      obtain ⟨f, hf, hfile, -⟩ := hd1.file hlk
      have hstep := doneSum_step st.F HR.out hlk hlx
      have hfl : (st.F.getD i default).s.length = f.s.length := by rw [List.getD_eq_getElem?_getD, hf]; rfl
      rw [hfl] at hstep
      have hle2 := Nat.le_trans (doneSum_le st.F (fun z => left z && !z.sameKey (.string k.data.toList)) st.N) hu
      rw [hstep] at hle2
      have HST := Lib.hid hstep
      have HN := Lib.hid (len_any _ _ _ _ w1 hfile)
      have HRG1 := Lib.hid hrg1
      have HLT := Lib.hid hlt
      clear hd1 hf hfile hstep hfl hlk hlx hrg1 hg1 hlt
      go_wp2_with fail
      refine HN.out.mono ?_
      rintro e w2 ⟨rfl, rfl⟩
      go_wp2
      go_roundw
      case rel => exact ⟨_, cnt1, HRG1.out, by rw [HST.out]; go_num, HUP1.out⟩
      case measure => rw [HRG1.out.left_eq, HRG.out.left_eq]; exact HLT.out
end Dsk
end Go.Proofs.Ytfpphahdbhelcaa
