/- The document's own disk (layer 4): Append into a file that there is, into a new one. -/
import Derived.Test.YtiadjjdmhpabnaaRefNine
namespace Go.Proofs.Ytiadjjdmhpabnaa
open Go.RowKit Go.Sort
namespace Dsk
open Go.Maps
set_option linter.unusedVariables false

theorem upon_drewN' (S : Nat → Prop) (w : World) (n : Nat) : Upon S w (w.drewN n) := ⟨rfl, rfl, rfl, Nat.le_refl _, fun _ _ _ => rfl⟩
set_option maxRecDepth 100000 in
set_option maxHeartbeats 6400000 in
theorem refapp_some (S : Nat → Prop) (q : Nat) (st : St) (s t : ByteArray) (U i : Nat) (hs : s.size ≤ maxLen) (w : World) (h : IsRef w S q st) (hf : Fine st) (hb : wrB st = true) (hn : isName s.data.toList = true) (hU : used (wrS st) = U) (hU2 : U ≤ 4000000000000000000)
    (hfull : ¬ wrap64 ((wrS st).room - (U : Int)) < (t.size : Int)) (hl : lookN st.N s.data.toList = some i) (hlen : ∀ f ∈ st.F, f.s.length + t.size ≤ 140737488355328) (ht : t.size ≤ 140737488355328) :
    Calls Try.prog 21 #[.pointer (some ⟨q, 0, none⟩), .string s, .string t] w fun e w' => e = .returned (.int .i64 0) ∧ RStep S q (addF (wrS st) s.data.toList t.data.toList) w w' := by
  have HW := Lib.hid (refwr_is S q st w h hb)
  obtain ⟨g, h⟩ := h
  obtain ⟨-, -, k2, -, -, -, -, -⟩ := r7 h.cell
  have HA := Lib.hid (at_any st.N g.nv s w h.N)
  have HN := Lib.hid (refname_any s hs)
  rw [hn] at HN
  have hfw := hf.wr
  obtain ⟨wN, wF, -, -⟩ := wr_same st
  rw [← wF] at hlen
  have hl1 : lookN (wrS st).N s.data.toList = some i := by rw [wN]; exact hl
  obtain ⟨j, hj, ha⟩ : ∃ j : Nat, (wrS st).N[j]? = some (s.data.toList, i) ∧ atI st.N s.data.toList = (j : Int) := by
    rcases at_look (N := st.N) (k := s.data.toList) with ⟨e, _⟩ | ⟨j, i', e1, e2, e3⟩
    · rw [hl] at e; cases e
    · rw [hl] at e1; cases e1
      exact ⟨j, by rw [wN]; exact e2, e3⟩
  rw [ha] at HA
  clear ha wN wF hl
  generalize wrS st = st1 at *
  have hend : Hid (addF st1 s.data.toList t.data.toList = { st1 with F := st1.F.modify i fun f => { f with s := f.s ++ t.data.toList } }) := Lib.hid (by unfold addF; rw [hl1])
  have hil : i < st1.F.length := hfw.nmN.ins _ (mem_of_look hl1)
  obtain ⟨f, hff⟩ : ∃ f, st1.F[i]? = some f := ⟨_, List.getElem?_eq_getElem hil⟩
  have hcat := hlen f (List.mem_of_getElem? hff)
  have hfi := Lib.hid (hfw.nmN.ins)
  replace hU := Lib.hid hU
  have hjl := (List.getElem?_eq_some_iff.1 hj).1
  have hd1 := decide_eq_false hfull
  have hdj : decide ((j : Int) < 0) = false := by simp
  replace hj := Lib.hid hj
  replace hff := Lib.hid hff
  obtain ⟨xs, hxs⟩ : ∃ xs : ByteArray, xs = ⟨f.s.toArray⟩ := ⟨_, rfl⟩
  have hxl : xs.size = f.s.length := by rw [hxs]; simp [ByteArray.size]
  rw [← hxl] at hcat
  replace hxs := Lib.hid hxs
  clear h hb hn hfull hf hfw hl1 hlen hxl
  go_enter Try.func21, Try.ntmps21
  go_wp2_with fail
  refine HA.out.mono ?_
  rintro e w1 ⟨rfl, rfl⟩
  go_wp2_with fail
  refine HW.out.mono ?_
  rintro e w1 ⟨rfl, hs1⟩
  obtain ⟨S1, g1, h1, hbeen⟩ := hs1.get
  obtain ⟨r0, m1, m2, -, -, -, -, -⟩ := r7 h1.cell
  obtain ⟨nb, nc, na, hnv, n1, n2, n3⟩ := e_cells h1.N
  obtain ⟨fb, fc, fa, hfv, f1, f2, f3⟩ := f_cells h1.F
  unfold maxLen at n2 f2
  obtain ⟨rfl, nl, n4⟩ := n3 (by intro e; rw [e] at hjl; simp at hjl)
  obtain ⟨rfl, fl, f4⟩ := f3 (by intro e; rw [e] at hil; simp at hil)
  obtain ⟨-, n5⟩ := n4 j _ hj.out
  obtain ⟨f5, -⟩ := f4 i _ hff.out
  unfold sv at f5
  rw [← hxs.out] at f5
  rw [hnv] at m2
  rw [hfv] at m1
  have r0' := fun d os => cell_regrown r0 d os
  have m2' := fun d os => cell_regrown m2 d os
  have hus := Lib.hid (fun d os => refused_q S1 q st1 ⟨g1, h1⟩ hfi.out hU.out hU2 d os)
  have hfz : ∀ o, w1.frozen? ⟨fb, o, none⟩ = false := by
    have hfr := h1.F
    rw [hfv] at hfr
    obtain ⟨c, hc⟩ := rowT hfr rfl
    exact fun o => Lib.frozen_of_heap hc o
  -- behind the region that draws
  have HM : Hid (∀ d os, (grow (redrawn w1 d) os).cell? ⟨q, 1, none⟩ = some (.slice (some ⟨fb, 0, none⟩) st1.F.length fc) ∧ (grow (redrawn w1 d) os).cell? ⟨nb, j * 2 + 1, none⟩ = some (.int .i64 (i : Int)) ∧ (grow (redrawn w1 d) os).cell? ⟨fb, i * 2, none⟩ = some (.string xs) ∧
      (grow (redrawn w1 d) os).frozen? ⟨fb, i * 2, none⟩ = false ∧ (∀ n u, xs ++ t = u → RStep S q { st1 with F := st1.F.modify i fun f => { f with s := f.s ++ t.data.toList } } w (((grow (redrawn w1 d) os).drewN n).setCell ⟨fb, i * 2, none⟩ (.string u)))) := Lib.hid fun d os => by
    refine ⟨cell_regrown m1 d os, cell_regrown n5 d os, cell_regrown f5 d os, ?_, fun n u hu => ?_⟩
    · have hh := (Upon.of_below (below_regrown w1 d os) (fun _ => False)).block fb fl (fun f => f)
      have hfr := h1.F
      rw [hfv] at hfr
      obtain ⟨c, hc⟩ := rowT hfr rfl
      exact Lib.frozen_of_heap (hh.trans hc) _
    · have hb2 := hbeen.calm d os
      exact Been.rstep ⟨hb2.sub, hb2.new, hb2.upon.trans (upon_drewN' _ _ _)⟩ (((h1.calm d os).kept (w' := (grow (redrawn w1 d) os).drewN n) (fun _ _ => rfl) (Nat.le_refl _)).addS hfv hff.out t u (by rw [← hxs.out]; exact hu))
  clear hs1 r0 m1 m2 hnv hfv n3 f3 n4 f4 n5 f5 h1 hbeen hfz nl fl
  go_wp2_with fail
  refine (HN.out w1).mono ?_
  rintro e w2 ⟨rfl, rfl⟩
  go_wp2_with fail
  refine wp_region_quiet_below (by kernel_rfl) (by kernel_rfl) ?_
  repeat (go_big_quiet_step (first
    | exact Calls.regrown_of (hus.out _ _)))
  refine wpQuiet_nil ?_
  intro _ hw'
  obtain ⟨⟨dq, osq⟩, hw''⟩ := hw'
  subst hw''
  obtain ⟨q1, q2, q3, q4, q5⟩ := HM.out dq osq
  have q0 := m2' dq osq
  replace q5 := Lib.hid q5
  clear HM m2' r0' hus hd1 hdj
  generalize grow (redrawn w1 dq) osq = w3 at *
  have hadd := fun (W : World) => run_string_add_sum (P := Try.prog) W xs t (by omega)
  go_wp2_with fail
  go_still_tail 17, (by kernel_rfl)
  change wpList _ _ _ _ _ w3.drew
  have z4 : w3.drew.frozen? ⟨fb, i * 2, none⟩ = false := q4
  have z3 : w3.drew.cell? ⟨fb, i * 2, none⟩ = some (.string xs) := q3
  have HE := Lib.hid (q5.out 1)
  clear q0 q1 q2 q3 q4 q5
  go_wp2_with fail
  go_ret
  exact ⟨rfl, by rw [hend.out]; exact HE.out _ rfl⟩

theorem RefM.place {w : World} {S : Nat → Prop} {q : Nat} {st : St} {g : RGhost} (h : RefM w S q st g) {j i : Nat} {k : Str} {f : FileS} (hj : st.N[j]? = some (k, i)) (hff : st.F[i]? = some f) (xs t : ByteArray) (hxs : xs = ⟨f.s.toArray⟩) :
    ∃ nb nc fb fc : Nat, w.cell? ⟨q, 1, none⟩ = some (.slice (some ⟨fb, 0, none⟩) st.F.length fc) ∧ w.cell? ⟨q, 2, none⟩ = some (.slice (some ⟨nb, 0, none⟩) st.N.length nc) ∧ w.cell? ⟨nb, j * 2 + 1, none⟩ = some (.int .i64 (i : Int)) ∧ w.cell? ⟨fb, i * 2, none⟩ = some (.string xs) ∧
      w.frozen? ⟨fb, i * 2, none⟩ = false ∧ j < st.N.length ∧ st.N.length ≤ nc ∧ nc ≤ 9223372036854775807 ∧ i < st.F.length ∧ st.F.length ≤ fc ∧ fc ≤ 9223372036854775807 ∧
      Hid (∀ u, xs ++ t = u → RStep S q { st with F := st.F.modify i fun f => { f with s := f.s ++ t.data.toList } } w (w.drew.setCell ⟨fb, i * 2, none⟩ (.string u))) := by
  obtain ⟨-, m1, m2, -, -, -, -, -⟩ := r7 h.cell
  obtain ⟨nb, nc, na, hnv, n1, n2, n3⟩ := e_cells h.N
  obtain ⟨fb, fc, fa, hfv, f1, f2, f3⟩ := f_cells h.F
  unfold maxLen at n2 f2
  have hjl := (List.getElem?_eq_some_iff.1 hj).1
  have hil := (List.getElem?_eq_some_iff.1 hff).1
  obtain ⟨rfl, nl, n4⟩ := n3 (by intro e; rw [e] at hjl; simp at hjl)
  obtain ⟨rfl, fl, f4⟩ := f3 (by intro e; rw [e] at hil; simp at hil)
  obtain ⟨-, n5⟩ := n4 j _ hj
  obtain ⟨f5, -⟩ := f4 i _ hff
  unfold sv at f5
  rw [← hxs] at f5
  rw [hnv] at m2
  rw [hfv] at m1
  refine ⟨nb, nc, fb, fc, m1, m2, n5, f5, ?_, hjl, n1, n2, hil, f1, f2, Lib.hid fun u hu => ?_⟩
  · have hfr := h.F
    rw [hfv] at hfr
    obtain ⟨c, hc⟩ := rowT hfr rfl
    exact Lib.frozen_of_heap hc _
  · exact Been.rstep ⟨fun _ h => h, fun _ h => .inl h, (Upon.refl S w).drew⟩ ((h.kept (w' := w.drew) (fun _ _ => rfl) (Nat.le_refl _)).addS hfv hff t u (by rw [← hxs]; exact hu))
theorem one_file : ∀ u ∈ [Value.string ByteArray.empty, Value.int .i64 0], u.oneCell' = true := by
  intro u hu
  simp only [List.mem_cons, List.not_mem_nil, or_false] at hu
  rcases hu with rfl | rfl <;> rfl
theorem modify_end {α : Type} (l : List α) (x : α) (g : α → α) : (l ++ [x]).modify l.length g = l ++ [g x] := by
  induction l with
  | nil => rfl
  | cons y r ih => exact congrArg (y :: ·) ih
set_option maxRecDepth 100000 in
set_option maxHeartbeats 6400000 in
theorem refapp_new (S : Nat → Prop) (q : Nat) (st : St) (s t : ByteArray) (U : Nat) (hs : s.size ≤ maxLen) (w : World) (h : IsRef w S q st) (hf : Fine st) (hb : wrB st = true) (hn : isName s.data.toList = true) (hU : used (wrS st) = U) (hU2 : U ≤ 4000000000000000000)
    (hfull : ¬ wrap64 ((wrS st).room - (U : Int)) < (t.size : Int)) (hl : lookN st.N s.data.toList = none) (h64 : (wrS st).N.length < 64) (ht : t.size ≤ 140737488355328) (hC : st.C.length ≤ 1000000000) (hFl : st.F.length ≤ 1000000000) :
    Calls Try.prog 21 #[.pointer (some ⟨q, 0, none⟩), .string s, .string t] w fun e w' => e = .returned (.int .i64 0) ∧ RStep S q (addF (wrS st) s.data.toList t.data.toList) w w' := by
  have HW := Lib.hid (refwr_is S q st w h hb)
  obtain ⟨g, h⟩ := h
  obtain ⟨-, -, k2, -, -, -, -, -⟩ := r7 h.cell
  have HA := Lib.hid (at_any st.N g.nv s w h.N)
  have HN := Lib.hid (refname_any s hs)
  rw [hn] at HN
  have hfw := hf.wr
  obtain ⟨wN, wF, wC, -⟩ := wr_same st
  rw [← wF] at hFl
  rw [← wC] at hC
  rw [← wN] at hl
  have ha : atI st.N s.data.toList = -1 := by
    rcases at_look (N := st.N) (k := s.data.toList) with ⟨_, e⟩ | ⟨j, i', e1, e2, e3⟩
    · exact e
    · rw [wN, e1] at hl; cases hl
  rw [ha] at HA
  clear ha wN wF wC
  generalize wrS st = st1 at *
  have hend : Hid (addF st1 s.data.toList t.data.toList = { st1 with F := st1.F ++ [⟨t.data.toList, 0⟩], N := putN st1.N s.data.toList st1.F.length, C := st1.C ++ [.put s.data.toList st1.F.length] }) := Lib.hid (by unfold addF; rw [hl])
  have hfi := Lib.hid (hfw.nmN.ins)
  replace hU := Lib.hid hU
  have hd1 := decide_eq_false hfull
  have hd2 : decide ((64 : Int) ≤ (st1.N.length : Int)) = false := decide_eq_false (by omega)
  have HNM := Lib.hid hn
  have HFW := Lib.hid hfw
  have HC1 := Lib.hid hC
  obtain ⟨i0, hi, hz0, hz1, hz2⟩ := info_parts infoFile
  clear h hb hn hfull hf hfw hl h64 hC
  go_enter Try.func21, Try.ntmps21
  go_wp2_with fail
  refine HA.out.mono ?_
  rintro e w1 ⟨rfl, rfl⟩
  go_wp2_with fail
  refine HW.out.mono ?_
  rintro e w1 ⟨rfl, hs1⟩
  obtain ⟨S1, g1, h1, hbeen⟩ := hs1.get
  obtain ⟨r0, -, m2, -, -, -, -, -⟩ := r7 h1.cell
  obtain ⟨nb, nc, na, hnv, n1, n2, n3⟩ := e_cells h1.N
  unfold maxLen at n2
  rw [hnv] at m2
  have r0' := fun d os => cell_regrown r0 d os
  have m2' := fun d os => cell_regrown m2 d os
  have hus := Lib.hid (fun d os => refused_q S1 q st1 ⟨g1, h1⟩ hfi.out hU.out hU2 d os)
  have H1 := Lib.hid (fun d os => h1.calm d os)
  have HB1 := Lib.hid (fun d os => hbeen.calm d os)
  clear hs1 r0 m2 hnv n3 h1 hbeen k2
  go_wp2_with fail
  refine (HN.out w1).mono ?_
  rintro e w2 ⟨rfl, rfl⟩
  go_wp2_with fail
  refine wp_region_quiet_below (by kernel_rfl) (by kernel_rfl) ?_
  repeat (go_big_quiet_step (first
    | exact Calls.regrown_of (hus.out _ _)))
  refine wpQuiet_nil ?_
  intro _ hw'
  obtain ⟨⟨dq, osq⟩, hw''⟩ := hw'
  subst hw''
  have h2 := H1.out dq osq
  have hb2 := Lib.hid (HB1.out dq osq)
  clear H1 HB1 m2' r0' hus hd1 hd2 n1 n2
  generalize grow (redrawn w1 dq) osq = w3 at *
  obtain ⟨-, m1, -, -, -, -, -, mf⟩ := r7 h2.cell
  have mf1 := mf 1
  have hown := Lib.hid h2.F
  replace h2 := Lib.hid h2
  clear mf
  go_wp2_with (at_builtin; refine wpList_append_lies _ rfl _ _ 38 rfl 0 66 i0 (.agg #[.string ByteArray.empty, .int .i64 0]) 2 24 Try.underlying38 hi hz0 hz1 hz2 rfl (by decide) _ _ _ rfl (ownsRow_alloc' hown.out _) ⟨w3.heap.size, 0, none⟩ 1 1 [.string ByteArray.empty, .int .i64 0] rfl rfl ?c1 one_file (by decide) ?c3 ?c4 ?c5 _ rfl ?_)
  case c1 => exact World.news_of_block (cell_new w3 _)
  case c3 => unfold maxLen; omega
  case c4 => omega
  case c5 => exact Nat.zero_le _
  intro gb cap w4 hown4 hgrow hat hlt
  obtain ⟨hq4, hst4⟩ := h2.out.moreF (x := ⟨[], 0⟩) hown4 ⟨hgrow.os, hgrow.tape, hgrow.output, hgrow.size, hgrow.block⟩ (hat.imp id (fun e => by simpa using e))
  have d4 : w4.cell? ⟨q, 1, none⟩ = some g1.fv := (r7 hq4).2.1
  have f4 := Lib.frozen_of_heap hq4 1
  have HG := Lib.hid (fun w5 e => hb2.out.rstep (hst4 w5 e))
  clear hown4 hgrow hat hlt hq4 hst4 hown h2 hb2 m1 mf1 hi hz0 hz1 hz2
  go_wp2_with fail
  obtain ⟨S5, g5, h5, b5⟩ := (HG.out _ rfl).get
  have hput := Lib.hid (refput_is S5 q { st1 with F := st1.F ++ [⟨[], 0⟩] } s st1.F.length _ ⟨g5, h5⟩ HNM.out (HFW.out.moreF ⟨[], 0⟩ (Nat.le_refl _)) HC1.out)
  replace b5 := Lib.hid b5
  clear h5 HG d4 f4
  refine hput.out.mono ?_
  rintro e w6 ⟨rfl, hs6⟩
  obtain ⟨S6, g6, h6, b6⟩ := (b5.out.rstep hs6).get
  have hN6 : lookN (putN st1.N s.data.toList st1.F.length) s.data.toList = some st1.F.length := look_put_same HFW.out.nmN.rising _ _
  obtain ⟨j, hj, ha⟩ : ∃ j : Nat, (putN st1.N s.data.toList st1.F.length)[j]? = some (s.data.toList, st1.F.length) ∧ atI (putN st1.N s.data.toList st1.F.length) s.data.toList = (j : Int) := by
    rcases at_look (N := putN st1.N s.data.toList st1.F.length) (k := s.data.toList) with ⟨e, _⟩ | ⟨j, i', e1, e2, e3⟩
    · rw [hN6] at e; cases e
    · rw [hN6] at e1; cases e1
      exact ⟨j, e2, e3⟩
  have hat := at_any (putN st1.N s.data.toList st1.F.length) g6.nv s w6 h6.N
  rw [ha] at hat
  obtain ⟨xs, hxs⟩ : ∃ xs : ByteArray, xs = ⟨([] : Str).toArray⟩ := ⟨_, rfl⟩
  have hx0 : xs.size = 0 := by rw [hxs]; rfl
  obtain ⟨nb', nc', fb', fc', p1, p2, p3, p4, p5, p6, p7, p8, p9, p10, p11, pe⟩ := h6.place (f := ⟨[], 0⟩) hj (by show (st1.F ++ [(⟨[], 0⟩ : FileS)])[st1.F.length]? = _; simp) xs t hxs
  have k6 : w6.cell? ⟨q, 2, none⟩ = some g6.nv := (r7 h6.cell).2.2.1
  have hnv6 : g6.nv = .slice (some ⟨nb', 0, none⟩) (putN st1.N s.data.toList st1.F.length).length nc' := by
    rw [k6] at p2; exact Option.some.inj p2
  rw [hnv6] at hat
  have p1' : w6.cell? ⟨q, 1, none⟩ = some (.slice (some ⟨fb', 0, none⟩) (st1.F ++ [(⟨[], 0⟩ : FileS)]).length fc') := p1
  have p9' : st1.F.length < (st1.F ++ [(⟨[], 0⟩ : FileS)]).length := p9
  have p2' : w6.cell? ⟨q, 2, none⟩ = some (.slice (some ⟨nb', 0, none⟩) (putN st1.N s.data.toList st1.F.length).length nc') := p2
  have p6' : j < (putN st1.N s.data.toList st1.F.length).length := p6
  have p7' : (putN st1.N s.data.toList st1.F.length).length ≤ nc' := p7
  have p10' : (st1.F ++ [(⟨[], 0⟩ : FileS)]).length ≤ fc' := p10
  have HE : Hid (∀ u, xs ++ t = u → RStep S q (addF st1 s.data.toList t.data.toList) w (w6.drew.setCell ⟨fb', st1.F.length * 2, none⟩ (.string u))) := Lib.hid fun u hu => by
    have := b6.rstep (pe.out u hu)
    rw [hend.out]
    have e : (st1.F ++ [(⟨[], 0⟩ : FileS)]).modify st1.F.length (fun f => { f with s := f.s ++ t.data.toList }) = st1.F ++ [⟨t.data.toList, 0⟩] := by rw [modify_end]; rfl
    rw [← e]
    exact this
  have hadd := fun (W : World) => run_string_add_sum (P := Try.prog) W xs t (by omega)
  clear hs6 h6 b6 hN6 hj ha hxs pe k6 hnv6 p1 p2 p6 p7 p9 p10 hput b5
  generalize (putN st1.N s.data.toList st1.F.length).length = NL at *
  generalize (st1.F ++ [(⟨[], 0⟩ : FileS)]).length = FN at *
  generalize st1.F.length = FL at *
  go_wp2_with fail
  refine hat.mono ?_
  rintro e w7 ⟨rfl, rfl⟩
  clear hat
  go_wp2_with fail
  go_still_tail 17, (by kernel_rfl)
  change wpList _ _ _ _ _ w6.drew
  have z4 : w6.drew.frozen? ⟨fb', FL * 2, none⟩ = false := p5
  have z3 : w6.drew.cell? ⟨fb', FL * 2, none⟩ = some (.string xs) := p4
  clear p1' p2' p3 p4 p5
  go_wp2_with fail
  go_ret
  exact ⟨rfl, HE.out _ rfl⟩
/-- Append, as the document says it. -/
theorem refapp_any (S : Nat → Prop) (q : Nat) (st : St) (s t : ByteArray) (hs : s.size ≤ maxLen) (w : World) (h : IsRef w S q st) (hf : Fine st) (hu : used st ≤ 4000000000000000000) (hr : -9223372036854775808 ≤ st.room - (used st : Int)) (hlen : ∀ f ∈ st.F, f.s.length + t.size ≤ 140737488355328) (ht : t.size ≤ 140737488355328) (hC : st.C.length ≤ 1000000000) (hFl : st.F.length ≤ 1000000000) :
    Calls Try.prog 21 #[.pointer (some ⟨q, 0, none⟩), .string s, .string t] w fun e w' => e = .returned (.int .i64 (appE st s.data.toList t.data.toList)) ∧ RStep S q (appS st s.data.toList t.data.toList) w w' := by
  by_cases hno : wrB st = false ∨ isName s.data.toList = false
  · exact refapp_no S q st s t hs w h hno
  · have hb : wrB st = true := by
      cases hb : wrB st with
      | true => rfl
      | false => exact absurd (.inl hb) hno
    have hn : isName s.data.toList = true := by
      cases hn : isName s.data.toList with
      | true => rfl
      | false => exact absurd (.inr hn) hno
    obtain ⟨wN, wF, wC, wR⟩ := wr_same st
    have hU : used (wrS st) = used st := by unfold used; rw [wN, wF]
    have hroom : st.room ≤ 9223372036854775807 := by obtain ⟨g, h⟩ := h; exact h.wr.2
    have hl1 : lookN (wrS st).N s.data.toList = lookN st.N s.data.toList := by rw [wN]
    have e1 : appE st s.data.toList t.data.toList = if full (wrS st) s.data.toList t.data.toList = true then 4 else 0 := by unfold appE; rw [hb, hn]; rfl
    have e2 : appS st s.data.toList t.data.toList = if full (wrS st) s.data.toList t.data.toList = true then wrS st else addF (wrS st) s.data.toList t.data.toList := by
      unfold appS; rw [hb, hn]
      cases full (wrS st) s.data.toList t.data.toList <;> rfl
    rw [e1, e2]
    rcases full_cases (wrS st) s t hf.wr (used st) hU (by rw [wR]; exact hr) (by rw [wR]; exact hroom) with ⟨hx, h1⟩ | ⟨hx, h1, h2, h3⟩ | ⟨hx, h1, i, h2⟩ | ⟨hx, h1, h2, h3⟩
    · rw [hx, if_pos rfl, if_pos rfl]
      exact refapp_full S q st s t (used st) hs w h hf hb hn hU hu (.inl h1)
    · rw [hx, if_pos rfl, if_pos rfl]
      exact refapp_full S q st s t (used st) hs w h hf hb hn hU hu (.inr ⟨h1, by rw [← hl1]; exact h2, h3⟩)
    · rw [hx, if_neg (by decide), if_neg (by decide)]
      exact refapp_some S q st s t (used st) i hs w h hf hb hn hU hu h1 (by rw [← hl1]; exact h2) hlen ht
    · rw [hx, if_neg (by decide), if_neg (by decide)]
      exact refapp_new S q st s t (used st) hs w h hf hb hn hU hu h1 (by rw [← hl1]; exact h2) h3 ht hC hFl
end Dsk
end Go.Proofs.Ytiadjjdmhpabnaa
