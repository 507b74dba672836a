/- Layer 13: works. -/
import Derived.Test.YtfheehlfodoimaaHdLaw0
set_option maxRecDepth 100000
namespace Go.Proofs.Ytfheehlfodoimaa
open Go.RowKit Go.Sort
namespace Hd
open Bit Dsk Ob Dig
set_option linter.unusedVariables false
set_option linter.unusedSimpArgs false

def prA : Lb.Pr := (⟨#[97]⟩, ⟨#[49]⟩)
def oneR (t : Int) (v : Nat) : Rc.R := ⟨1, [([prA], t, v)], [], 0, 0⟩
theorem row_one {α : Type} {L : Rw.Lay α} {T : TypeId} {w : World} {S : Nat → Prop} {b : Nat} {x : α} {cs : Array Value} (h : w.heap[b]? = some (.cells cs T (0, 0))) (hc : cs.toList = L.enc x) (hS : S b) : Rw.View L w S (.slice (some ⟨b, 0, none⟩) 1 1) [x] := by
  refine ⟨_, 1, rfl, Nat.le_refl _, by unfold maxLen; decide, fun _ => ⟨b, 0, rfl, hS, fun i hi t' u hu => ?_⟩⟩
  have : i = 0 := by simpa using hi
  subst this
  have hu2 : (L.enc x)[t']? = some u := hu
  rw [← hc] at hu2
  rw [Lib.cell_of_heap h]
  simpa using hu2
theorem heap_past (w : World) (o : Go.Obj) {b : Nat} {x : Go.Obj} (h : w.heap[b]? = some x) : (w.alloc o).heap[b]? = some x :=
  (((Upon.refl (fun _ => False) w).alloc o).block b (Array.getElem?_eq_some_iff.1 h).1 (fun f => f)).trans h
set_option maxHeartbeats 3200000 in
theorem one_any (w : World) (t : Int) (v : Nat) :
    Calls Try.prog 21 #[.int .i64 t, .int .u64 (v : Int)] w fun e w' => ∃ u, e = .returned u ∧ Rc.RView w' (Lb.Nw w) u (oneR t v) ∧ New0 w w' := by
  obtain ⟨wz, hwz⟩ : ∃ wz, ((w.alloc (.cells #[.int .i64 1, .slice (some ⟨w.heap.size + 1 + 1, 0, none⟩) 1 1, .slice none 0 0, .int .i64 0, .int .i64 0] 34 (0, 0))).alloc (.cells #[.string ⟨#[97]⟩, .string ⟨#[49]⟩] 76 (0, 0))).alloc (.cells #[.slice (some ⟨w.heap.size + 1, 0, none⟩) 1 1, .int .i64 t, .int .u64 (v : Int)] 52 (0, 0)) = wz := ⟨_, rfl⟩
  have hF : Rc.Five 34 w.heap.size ⟨.int .i64 1, .slice (some ⟨w.heap.size + 1 + 1, 0, none⟩) 1 1, .slice none 0 0, .int .i64 0, .int .i64 0⟩ wz := by rw [← hwz]; exact heap_past _ _ (heap_past _ _ (cell_new w _))
  have hP : wz.heap[w.heap.size + 1]? = some (.cells #[.string ⟨#[97]⟩, .string ⟨#[49]⟩] 76 (0, 0)) := by
    rw [← hwz]
    refine heap_past _ _ ?_
    have := cell_new (w.alloc (.cells #[.int .i64 1, .slice (some ⟨w.heap.size + 1 + 1, 0, none⟩) 1 1, .slice none 0 0, .int .i64 0, .int .i64 0] 34 (0, 0))) (.cells #[.string ⟨#[97]⟩, .string ⟨#[49]⟩] 76 (0, 0))
    simpa using this
  have hM : wz.heap[w.heap.size + 1 + 1]? = some (.cells #[.slice (some ⟨w.heap.size + 1, 0, none⟩) 1 1, .int .i64 t, .int .u64 (v : Int)] 52 (0, 0)) := by
    rw [← hwz]
    have := cell_new ((w.alloc (.cells #[.int .i64 1, .slice (some ⟨w.heap.size + 1 + 1, 0, none⟩) 1 1, .slice none 0 0, .int .i64 0, .int .i64 0] 34 (0, 0))).alloc (.cells #[.string ⟨#[97]⟩, .string ⟨#[49]⟩] 76 (0, 0))) (.cells #[.slice (some ⟨w.heap.size + 1, 0, none⟩) 1 1, .int .i64 t, .int .u64 (v : Int)] 52 (0, 0))
    simpa using this
  have hN : Hid (New0 w wz) := Lib.hid (by rw [← hwz]; exact (((Upon.refl _ w).alloc _).alloc _).alloc _)
  have hV : Hid (Rc.RView wz (Lb.Nw w) (.agg #[.int .i64 1, .slice (some ⟨w.heap.size + 1 + 1, 0, none⟩) 1 1, .slice none 0 0, .int .i64 0, .int .i64 0]) (oneR t v)) := Lib.hid ⟨⟨some ⟨w.heap.size + 1 + 1, 0, none⟩, 1, 1⟩, ⟨none, 0, 0⟩, rfl, ⟨[(⟨some ⟨w.heap.size + 1, 0, none⟩, 1, 1⟩, t, v)], row_one hM rfl (show w.heap.size ≤ _ by omega), rfl, fun i h1 h2 => by
    have : i = 0 := by simpa using h1
    subst this
    exact ⟨rfl, rfl, row_one (L := Lb.layPr) (x := prA) hP rfl (show w.heap.size ≤ _ by omega)⟩⟩, Rw.View.noth _ _ _⟩
  obtain ⟨r0, r1, r2, r3, r4⟩ := Lib.hid hF.cells
  replace hwz := Lib.hid hwz
  clear hF hP hM
  go_enter Try.func21, Try.ntmps21
  go_wp2_with fail
  rw [hwz.out]
  refine bodyPost_ret (v := .agg #[.int .i64 1, .slice (some ⟨w.heap.size + 1 + 1, 0, none⟩) 1 1, .slice none 0 0, .int .i64 0, .int .i64 0]) (by simp [results, Try.results21, go_sem, r0, r1, r2, r3, r4]) rfl ?_
  exact ⟨_, rfl, hV.out, hN.out⟩
theorem okA : Lb.Ok [prA] := ⟨by decide, by decide, fun p hp => by
  rw [List.mem_singleton.1 hp]; exact ⟨by decide, by decide⟩, List.pairwise_singleton _ _⟩
theorem chk_one (t : Int) (v : Nat) : Rc.chk (oneR t v) = 0 := Rc.chk_zero.2 (.inl ⟨rfl, rfl, rfl, rfl, (show 1 ≤ 1 by decide), (show 1 ≤ 32 by decide), fun x hx => by rw [List.mem_singleton.1 hx]; exact okA⟩)
theorem bnd_one (t : Int) (v : Nat) (h0 : -9223372036854775808 ≤ t) (h1 : t ≤ 9223372036854775807) (hv : v < 18446744073709551616) : Rc.Bnd (oneR t v) := ⟨(show (-9223372036854775808 : Int) ≤ 1 ∧ (1 : Int) ≤ 9223372036854775807 by decide), fun x hx => by
  rw [List.mem_singleton.1 hx]
  exact ⟨fun p hp => by rw [List.mem_singleton.1 hp]; exact ⟨by decide, by decide⟩, (show 1 * 32 ≤ 140737488351232 by decide), h0, h1, hv⟩, fun m hm => (by cases hm), (show (-9223372036854775808 : Int) ≤ 0 ∧ (0 : Int) ≤ 9223372036854775807 by decide), (show (-9223372036854775808 : Int) ≤ 0 ∧ (0 : Int) ≤ 9223372036854775807 by decide)⟩
/-- All up to 9. -/
def delR : Rc.R := ⟨2, [], [], 0, 9⟩
theorem chk_del : Rc.chk delR = 0 := Rc.chk_zero.2 (.inr ⟨rfl, rfl, rfl, by decide⟩)
theorem bnd_delR : Rc.Bnd delR := ⟨by decide, fun x hx => (by cases hx), fun m hm => (by cases hm), by decide, by decide⟩
def hA (l : List Pt) (t : Int) : H := [⟨[prA], l, t⟩]
theorem cmpA : Lb.cmp [prA] [prA] = 0 := Lb.cmp_self _
theorem srtA (l : List Pt) (t : Int) : Srt (hA l t) := List.pairwise_singleton _ _
theorem tr_first (t : Int) (v : Nat) : tr [] (oneR t v) = 0 ∧ app [] (oneR t v) = hA [(t, v)] t := by
  have hp : puts [] (oneR t v).smp = some (hA [(t, v)] t) := rfl
  have ht : tr [] (oneR t v) = 0 := by
    rw [tr, if_neg (by simp [chk_one]), hp]
    rfl
  exact ⟨ht, app_com ht (by decide : (1 : Int) ≠ 2) hp⟩
theorem tr_old {l : List Pt} {u t : Int} {v : Nat} (h : t ≤ u) : tr (hA l u) (oneR t v) = 14 ∧ app (hA l u) (oneR t v) = hA l u := by
  have hold : old (hA l u) ([prA], t, v) = true := (old_is (srtA l u)).2 ⟨⟨[prA], l, u⟩, List.mem_singleton.2 rfl, rfl, h⟩
  have hp : puts (hA l u) (oneR t v).smp = none := by simp only [oneR, puts]; rw [if_pos hold]
  have ht : tr (hA l u) (oneR t v) = 14 := by rw [tr, if_neg (by simp [chk_one]), hp]
  exact ⟨ht, app_no (by rw [ht]; decide)⟩
theorem tr_next {l : List Pt} {u t : Int} {v : Nat} (h : u < t) : tr (hA l u) (oneR t v) = 0 := by
  have hold : old (hA l u) ([prA], t, v) = false := by
    cases ho : old (hA l u) ([prA], t, v) with
    | false => rfl
    | true =>
      obtain ⟨r, hr, -, h2⟩ := (old_is (srtA l u)).1 ho
      simp only [hA, List.mem_singleton] at hr
      subst hr
      simp only at h2; omega
  have hp : puts (hA l u) (oneR t v).smp = some (add (hA l u) ([prA], t, v)) := by simp only [oneR, puts]; rw [if_neg (by rw [hold]; decide)]
  rw [tr, if_neg (by simp [chk_one]), hp]
  have := add_len (hA l u) ([prA], t, v)
  simp only [hA, List.length_singleton] at this
  exact if_neg (by simp only [hA]; omega)
theorem tr_delA (l : List Pt) (t : Int) : tr (hA l t) delR = 0 ∧ app (hA l t) delR = hA (without l 0 9) t := by
  have ht : tr (hA l t) delR = 0 := by
    rw [tr, if_neg (by simp [chk_del])]
    rfl
  refine ⟨ht, (app_del ht rfl).trans ?_⟩
  rfl
theorem saneA (l : List Pt) (t : Int) {k : Nat} (hl : l.length + k ≤ 1000000) : SaneN k (hA l t) := ⟨by simp only [hA, List.length_singleton]; omega, fun r hr => by simp only [hA, List.mem_singleton] at hr; subst hr; simp only; omega, fun r hr => by simp only [hA, List.mem_singleton] at hr; subst hr; exact (show 1 ≤ 1000000000 by decide)⟩
section
variable {J : Ob.Rel} {p : Nat} {g : H} {w0 w : World}
/-- Apply, of a record that was made just before. -/
theorem pappNew {w' : World} {u : Value} {r : Rc.R} (hJ : Thing J) (h : Ob.Own (Tens (IsPH p g) J) w0 w) (hv : Rc.RView w' (Lb.Nw w) u r) (hu : New0 w w') (hs : Srt g) (hb : Rc.Bnd r) (hsane : SaneN r.smp.length g) (hsl : ∀ x ∈ r.smp, x.1.length ≤ 1000000000) :
    Calls Try.prog 11 #[.pointer (some ⟨p, 0, none⟩), u] w' fun e w'' => e = .returned (.int .i64 (tr g r : Int)) ∧ Ob.Own (Tens (IsPH p (app g r)) J) w0 w'' :=
  (pappOwn hJ ((rcMade (Tens.ob (thingPH _ _) hJ) h hv hu).assoc.mono fun S k => Tens.mapR (fun A k => Tens.swap k) k) hs hb hsane hsl).mono fun e w'' ⟨a, b⟩ => ⟨a, (b.mono fun S k => Tens.cossa (Tens.mapR (fun A k => Tens.swap k) k)).dropr⟩
/-- Apply, of a record that lies in no blocks. -/
theorem pappNone {u : Value} {r : Rc.R} (hJ : Thing J) (h : Ob.Own (Tens (IsPH p g) J) w0 w) (hv : Rc.RView w (fun _ => False) u r) (hs : Srt g) (hb : Rc.Bnd r) (hsane : SaneN r.smp.length g) (hsl : ∀ x ∈ r.smp, x.1.length ≤ 1000000000) :
    Calls Try.prog 11 #[.pointer (some ⟨p, 0, none⟩), u] w fun e w'' => e = .returned (.int .i64 (tr g r : Int)) ∧ Ob.Own (Tens (IsPH p (app g r)) J) w0 w'' :=
  ownL (Q := fun e => e = .returned (.int .i64 (tr g r : Int))) hJ h fun A _ hA => papp_any w hA hs _ u r hv (fun _ f => f.elim) hb hsane hsl
/-- Query, beside the head. -/
theorem pqueryOwn (hJ : Thing J) (h : Ob.Own (Tens (IsPH p g) J) w0 w) (hs : Srt g) (hsane : Sane g) (T : Nat → Prop) (v : Value) (ms : List Mt.M) (hv : Mt.View w T v ms) (hb : Mt.Bnd ms) (a b : Int) (ha : -9223372036854775808 ≤ a ∧ a ≤ 9223372036854775807) (hb2 : -9223372036854775808 ≤ b ∧ b ≤ 9223372036854775807) :
    Calls Try.prog 15 #[.pointer (some ⟨p, 0, none⟩), v, .int .i64 a, .int .i64 b] w fun e w' => ∃ u, e = .returned u ∧ Ob.Own (Tens (IsPH p g) (Tens J (QB u (query g ms a b)))) w0 w' ∧ New0 w w' := by
  obtain ⟨A, hA⟩ := h.seeL
  exact (pquery_any w hA hs hsane T v ms hv hb a b ha hb2).mono fun e w' ⟨u, k1, k2, k3⟩ => ⟨u, k1, (qMade (Tens.ob (thingPH _ _) hJ) h k2 k3).assoc, k3⟩
end
theorem one_lab {t : Int} {v : Nat} : ∀ x ∈ (oneR t v).smp, x.1.length ≤ 1000000000 := fun x hx => by rw [List.mem_singleton.1 hx]; exact (show 1 ≤ 1000000000 by decide)
theorem view_del (w : World) : Rc.RView w (fun _ => False) (.agg #[.int .i64 2, .slice none 0 0, .slice none 0 0, .int .i64 0, .int .i64 9]) delR := ⟨⟨none, 0, 0⟩, ⟨none, 0, 0⟩, rfl, Rw.DView.noth _ _ _ _, Rw.View.noth _ _ _⟩
theorem q_first : query (hA [(5, 7)] 5) [] 0 9 = [([prA], [(5, 7)])] := rfl
theorem q_gone : query (hA (without [(5, 7)] 0 9) 5) [] 0 9 = [] := rfl
set_option maxHeartbeats 6400000 in
theorem works_any (w : World) : Calls Try.prog 8 #[] w fun e w' => e = .returned (.bool true) ∧ New0 w w' := by
  go_enter Try.func8, Try.ntmps8
  go_wp2_with fail
  refine (pnew_any w).mono ?_
  rintro e w2 ⟨p, S2, rfl, hp, hS2, hu2⟩
  have h2 := Lib.hid (Mt.ownNo (thingPH _ _) (Ob.Own.made (Below.refl _ _) hp hS2 hu2))
  clear hp hS2 hu2
  have HO1 := Lib.hid (one_any w2 5 7)
  go_wp2_with fail
  refine HO1.out.mono ?_
  rintro e w3 ⟨u3, rfl, hv3, hu3⟩
  obtain ⟨A3, c3, A3', c3', rfl, -, -⟩ := Rc.RView.shape hv3
  have HA := Lib.hid (pappNew Mt.thingNo h2.out hv3 hu3 srt_nil (bnd_one 5 7 (by decide) (by decide) (by decide)) (SaneN.nil (by decide)) one_lab)
  rw [(tr_first 5 7).1, (tr_first 5 7).2] at HA
  clear HO1 h2 hv3 hu3
  go_wp2_with fail
  refine HA.out.mono ?_
  rintro e w4 ⟨rfl, h4⟩
  replace h4 := Lib.hid h4
  clear HA
  have HO2 := Lib.hid (one_any w4 5 7)
  go_wp2_with fail
  refine HO2.out.mono ?_
  rintro e w5 ⟨u5, rfl, hv5, hu5⟩
  obtain ⟨A5, c5, A5', c5', rfl, -, -⟩ := Rc.RView.shape hv5
  have HA := Lib.hid (pappNew Mt.thingNo h4.out hv5 hu5 (srtA _ _) (bnd_one 5 7 (by decide) (by decide) (by decide)) (saneA _ _ (show 1 + 1 ≤ 1000000 by decide)) one_lab)
  rw [(tr_old (l := [(5, 7)]) (u := 5) (t := 5) (v := 7) (by decide)).1, (tr_old (l := [(5, 7)]) (u := 5) (t := 5) (v := 7) (by decide)).2] at HA
  clear HO2 h4 hv5 hu5
  go_wp2_with fail
  refine HA.out.mono ?_
  rintro e w6 ⟨rfl, h6⟩
  have HQ := Lib.hid (pqueryOwn Mt.thingNo h6 (srtA _ _) (saneA (k := 0) _ _ (by decide)).sane (fun _ => False) (.slice none 0 0) [] (Rw.View.noth _ _ _) (fun m hm => (by cases hm)) 0 9 (by decide) (by decide))
  rw [q_first] at HQ
  clear HA h6
  go_wp2_with fail
  refine HQ.out.mono ?_
  rintro e w7 ⟨u7, rfl, h7, -⟩
  obtain ⟨A7, c7, hu7, -, -⟩ := Rw.DView.shape (let ⟨S, hS⟩ := h7.dropl.seeR; ⟨S, hS.1⟩ : ∃ S, QView w7 S u7 [([prA], [(5, 7)])]).choose_spec
  subst hu7
  have hJ := Tens.ob Mt.thingNo (thingQB (.slice A7 [([prA], [((5 : Int), 7)])].length c7) [([prA], [((5 : Int), 7)])])
  have HA := Lib.hid (pappNone hJ h7 (view_del w7) (srtA _ _) bnd_delR (saneA _ _ (show 1 + 0 ≤ 1000000 by decide)) (fun x hx => (by cases hx)))
  rw [(tr_delA [(5, 7)] 5).1, (tr_delA [(5, 7)] 5).2] at HA
  clear HQ h7
  go_wp2_with fail
  refine HA.out.mono ?_
  rintro e w8 ⟨rfl, h8⟩
  have HQ := Lib.hid (pqueryOwn hJ h8 (srtA _ _) (saneA (k := 0) _ _ (by decide)).sane (fun _ => False) (.slice none 0 0) [] (Rw.View.noth _ _ _) (fun m hm => (by cases hm)) 0 9 (by decide) (by decide))
  rw [q_gone] at HQ
  clear HA h8
  go_wp2_with fail
  refine HQ.out.mono ?_
  rintro e w9 ⟨u9, rfl, h9, -⟩
  clear HQ
  obtain ⟨A9, c9, hu9, -, -⟩ := Rw.DView.shape (let ⟨S, hS⟩ := h9.dropl.seeR; ⟨S, hS.1⟩ : ∃ S, QView w9 S u9 []).choose_spec
  subst hu9
  have h9' := h9.mono fun S k => Tens.mapR (fun A k => Tens.assoc k) k
  obtain ⟨S9, hS9⟩ := h9'.dropl.dropl.seeL
  obtain ⟨b9, off9, rfl, -, hc9⟩ := qcells hS9.1 (by decide)
  obtain ⟨s9, t9, -, hp9, y0, y1⟩ := hc9 0 (by decide)
  obtain ⟨bp, offp, hpa, -, -, hpc⟩ := pview (l := [((5 : Int), 7)]) (by
    obtain ⟨_, _, e, -, -⟩ := Rw.View.shape hp9
    exact hp9) (by decide)
  obtain ⟨z0, z1⟩ := hpc 0 (by decide)
  obtain ⟨ta, tn, tc⟩ := t9
  simp only at hpa y1 hp9
  subst hpa
  obtain ⟨_, _, e9, -, -⟩ := Rw.View.shape hp9
  injection e9 with e91 e92 e93
  subst e91 e92 e93
  simp only [Nat.zero_mul, Nat.add_zero, List.getElem_cons_zero, List.length_singleton] at y0 y1 z0 z1
  replace z1 : w9.cell? ⟨bp, offp + 1, none⟩ = some (.int .u64 7) := z1
  have h10 := Lib.hid (Mt.ownNo (thingPH _ _) h9'.dropr)
  have HO3 := Lib.hid (one_any w9 5 1)
  clear h9 h9' hS9 hc9 hp9 hpc hJ
  go_wp2_with fail
  refine HO3.out.mono ?_
  rintro e w10 ⟨u10, rfl, hv10, hu10⟩
  obtain ⟨A10, c10, A10', c10', rfl, -, -⟩ := Rc.RView.shape hv10
  have HA := Lib.hid (pappNew Mt.thingNo h10.out hv10 hu10 (srtA _ _) (bnd_one 5 1 (by decide) (by decide) (by decide)) (saneA _ _ (show 0 + 1 ≤ 1000000 by decide)) one_lab)
  rw [(tr_old (l := without [(5, 7)] 0 9) (u := 5) (t := 5) (v := 1) (by decide)).1, (tr_old (l := without [(5, 7)] 0 9) (u := 5) (t := 5) (v := 1) (by decide)).2] at HA
  clear HO3 h10 hv10 hu10 y0 y1 z0 z1
  go_wp2_with fail
  refine HA.out.mono ?_
  rintro e w11 ⟨rfl, h11⟩
  replace h11 := Lib.hid h11
  clear HA
  have HO4 := Lib.hid (one_any w11 6 1)
  go_wp2_with fail
  refine HO4.out.mono ?_
  rintro e w12 ⟨u12, rfl, hv12, hu12⟩
  obtain ⟨A12, c12, A12', c12', rfl, -, -⟩ := Rc.RView.shape hv12
  have HA := Lib.hid (pappNew Mt.thingNo h11.out hv12 hu12 (srtA _ _) (bnd_one 6 1 (by decide) (by decide) (by decide)) (saneA _ _ (show 0 + 1 ≤ 1000000 by decide)) one_lab)
  rw [tr_next (l := without [(5, 7)] 0 9) (u := 5) (t := 6) (v := 1) (by decide)] at HA
  clear HO4 h11 hv12 hu12
  go_wp2_with fail
  refine HA.out.mono ?_
  rintro e w13 ⟨rfl, h13⟩
  have hN := Lib.hid (newOf h13.bel)
  clear HA h13
  go_wp2_with fail
  go_ret
  exact ⟨rfl, hN.out⟩
end Hd
end Go.Proofs.Ytfheehlfodoimaa
