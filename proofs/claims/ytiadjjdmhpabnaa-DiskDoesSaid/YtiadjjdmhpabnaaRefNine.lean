/- The document's own disk (layer 4): Append. -/
import Derived.Test.YtiadjjdmhpabnaaRefEight
import Derived.Lib.QuietBelow
import Derived.Lib.Strings
namespace Go.Proofs.Ytiadjjdmhpabnaa
open Go.RowKit Go.Sort
namespace Dsk
open Go.Maps
set_option linter.unusedVariables false

theorem ref_calm {w : World} {S : Nat → Prop} {q : Nat} {st : St} (h : IsRef w S q st) (d : Nat) (os : Array Go.Obj) : IsRef (grow (redrawn w d) os) S q st :=
  h.upon (T := fun _ => False) (Upon.of_below (below_regrown w d os) _) fun _ _ f => f
theorem refused_q (S : Nat → Prop) (q : Nat) (st : St) {w : World} (h : IsRef w S q st) (hfi : ∀ p ∈ st.N, p.2 < st.F.length) {u : Nat} (hu : used st = u) (hu2 : u ≤ 4000000000000000000) (d : Nat) (os : Array Go.Obj) :
    Calls Try.prog 15 #[.pointer (some ⟨q, 0, none⟩)] (grow (redrawn w d) os) fun e w' => e = .returned (.int .i64 (u : Int)) ∧ Below (grow (redrawn w d) os).heap.size (grow (redrawn w d) os) w' := by
  subst hu
  refine (refused_any S q st _ (ref_calm h d os) hfi hu2).mono ?_
  rintro e w' ⟨rfl, hup⟩
  exact ⟨rfl, hup.below (Nat.le_refl _) fun _ f => f.elim⟩
theorem RefM.calm {w : World} {S : Nat → Prop} {q : Nat} {st : St} {g : RGhost} (h : RefM w S q st g) (d : Nat) (os : Array Go.Obj) : RefM (grow (redrawn w d) os) S q st g :=
  h.kept (fun b hb => (Upon.of_below (below_regrown w d os) (fun _ => False)).block b (h.lt b hb) (fun f => f)) (below_regrown w d os).size
theorem Been.calm {S S' : Nat → Prop} {a b : World} (h : Been S S' a b) (d : Nat) (os : Array Go.Obj) : Been S S' a (grow (redrawn b d) os) :=
  ⟨h.sub, h.new, h.upon.trans' (T := fun _ => False) (Upon.of_below (below_regrown b d os) _) fun _ _ f => f.elim⟩
theorem cat_is (s : Str) (t : ByteArray) : (⟨s.toArray⟩ : ByteArray) ++ t = ⟨(s ++ t.data.toList).toArray⟩ := by
  apply ByteArray.ext
  rw [ByteArray.data_append]
  simp
theorem add_flat (st : St) {i : Nat} {f : FileS} (hf : st.F[i]? = some f) (t : Str) : (st.F.modify i fun f => { f with s := f.s ++ t }).flatMap fC = (st.F.flatMap fC).set (i * 2) (sv (f.s ++ t)) := flat_setS _ _ f _ hf rfl
/-- Bytes are put behind what is in a file. -/
theorem RefM.addS {w : World} {S : Nat → Prop} {q : Nat} {st : St} {g : RGhost} {fb c i : Nat} {f : FileS} (h : RefM w S q st g) (hv : g.fv = .slice (some ⟨fb, 0, none⟩) st.F.length c) (hf : st.F[i]? = some f) (t u : ByteArray) (hu : (⟨f.s.toArray⟩ : ByteArray) ++ t = u) :
    RStep S q { st with F := st.F.modify i fun f => { f with s := f.s ++ t.data.toList } } w (w.setCell ⟨fb, i * 2, none⟩ (.string u)) := by
  have h1 := h.setF (j := i * 2) (u := .string u) (F' := st.F.modify i fun f => { f with s := f.s ++ t.data.toList }) hv (by rw [List.length_modify]) (by rw [add_flat st hf, ← hu, cat_is])
  exact h1
theorem Fine.moreF {st : St} (h : Fine st) (x : FileS) (hx : x.lasts ≤ x.s.length) : Fine { st with F := st.F ++ [x] } :=
  ⟨h.rising, h.now, h.good, fun p hp => by have := h.ins p hp; simp only [List.length_append, List.length_singleton]; omega, h.len, h.nmL, fun c hc => (h.chs c hc).mono (by simp only [List.length_append, List.length_singleton]; omega), fun f hf => by
    rcases List.mem_append.1 hf with hf | hf
    · exact h.lasts f hf
    · rw [List.mem_singleton.1 hf]; exact hx, h.left⟩
theorem infoFile : (Try.prog.info? 66).map (fun i => (i.zero, i.size, i.bytes)) = some (some (.agg #[.string ByteArray.empty, .int .i64 0]), 2, 24) := by kernel_rfl
/-- A new file. -/
theorem RefM.moreF {w w' : World} {S : Nat → Prop} {q : Nat} {st : St} {g : RGhost} {gb cap : Nat} {o : Obj} {x : FileS} (h : RefM w S q st g)
    (hown : w'.ownsRow 0 66 2 (.slice (some ⟨gb, 0, none⟩) (st.F.length + 1) cap) (st.F.length + 1) (st.F.flatMap fC ++ fC x)) (hg : (w.alloc o).grownBy w' g.fv.ownBlock) (hS : g.fv.ownBlock = some gb ∨ gb = w.heap.size + 1) :
    w'.heap[q]? = some (.cells (rCells st g) 42 (0, 0)) ∧ ∀ w2, w2 = w'.setCell ⟨q, 1, none⟩ (.slice (some ⟨gb, 0, none⟩) (st.F.length + 1) cap) → RStep S q { st with F := st.F ++ [x] } w w2 := by
  have hql := h.lt q h.s_q
  have hcq : g.fv.ownBlock ≠ some q := fun e => not_disk h.cell h.F nF e rfl
  have hk1 : ∀ b, S b → g.fv.ownBlock ≠ some b → w'.heap[b]? = w.heap[b]? := fun b hb hne => by
    have hl := h.lt b hb
    rw [hg.block b (by simp; omega) (fun e => hne e.symm), Below.heap_alloc _ _ _ hl]
  have hq1 := (hk1 q h.s_q hcq).trans h.cell
  refine ⟨hq1, fun w2 e2 => ?_⟩
  subst e2
  have hws : w.heap.size ≤ w'.heap.size := by have := hg.size; simp at this; omega
  have hgq : gb ≠ q := not_disk hq1 hown nF rfl
  have hk : ∀ b, S b → b ≠ q → g.fv.ownBlock ≠ some b → (w'.setCell ⟨q, 1, none⟩ (.slice (some ⟨gb, 0, none⟩) (st.F.length + 1) cap)).heap[b]? = w.heap[b]? := fun b hb hne hne2 => by
    rw [Below.heap_setCell _ _ _ _ hne]; exact hk1 b hb hne2
  have hr : ∀ {e : TypeId} {size n : Nat} {v : Value} {xs : List Value}, w.ownsRow 0 e size v n xs → (∀ b, v.ownBlock = some b → S b) → e ≠ 42 → e ≠ 66 → (w'.setCell ⟨q, 1, none⟩ (.slice (some ⟨gb, 0, none⟩) (st.F.length + 1) cap)).ownsRow 0 e size v n xs :=
    fun hrow hs he he2 => ownsRow_kept hrow fun b hb => hk b (hs b hb) (not_disk h.cell hrow he hb) (not_other hrow h.F he2 hb)
  have hgl : gb < w'.heap.size := (hown.lt gb rfl).2
  have hsz : (w'.setCell ⟨q, 1, none⟩ (.slice (some ⟨gb, 0, none⟩) (st.F.length + 1) cap)).heap.size = w'.heap.size := by simp [World.setCell]
  refine ⟨⟨fun x => S x ∨ x = gb, ⟨{ g with fv := .slice (some ⟨gb, 0, none⟩) (st.F.length + 1) cap }, ?_, ?_, hr h.N h.s_n nE nEF, hr h.L h.s_l nE nEF, hr h.C h.s_c nC (fun e => nFC e.symm), h.wl, h.wr, .inl h.s_q, fun b hb => .inr (Option.some.inj hb).symm, fun b hb => .inl (h.s_n b hb), fun b hb => .inl (h.s_l b hb), fun b hb => .inl (h.s_c b hb), ?_⟩, fun x hx => .inl hx, fun x hx => ?_⟩, ?_⟩
  · rw [setR hq1]; rfl
  · show World.ownsRow _ 0 _ 2 _ (st.F ++ [x]).length ((st.F ++ [x]).flatMap fC)
    rw [List.length_append, List.flatMap_append, show ([x] : List FileS).flatMap fC = fC x by simp]
    exact ownsRow_kept hown fun b hb => Below.heap_setCell _ _ _ _ (fun e => hgq ((Option.some.inj hb).trans e))
  · intro b hb
    rw [hsz]
    rcases hb with hb | hb
    · exact Nat.lt_of_lt_of_le (h.lt b hb) hws
    · rw [hb]; exact hgl
  · rcases hx with hx | hx
    · exact .inl hx
    · rcases hS with e | e
      · left; rw [hx]; exact h.s_f gb e
      · right; omega
  · exact (((Upon.refl S w).alloc o).grown hg (fun k hk => .inl (h.s_f k hk))).setCell (p := ⟨q, 1, none⟩) (.inl h.s_q) _

set_option maxRecDepth 100000 in
set_option maxHeartbeats 3200000 in
theorem refapp_no (S : Nat → Prop) (q : Nat) (st : St) (s t : ByteArray) (hs : s.size ≤ maxLen) (w : World) (h : IsRef w S q st) (hno : wrB st = false ∨ isName s.data.toList = false) :
    Calls Try.prog 21 #[.pointer (some ⟨q, 0, none⟩), .string s, .string t] w fun e w' => e = .returned (.int .i64 (appE st s.data.toList t.data.toList)) ∧ RStep S q (appS st s.data.toList t.data.toList) w w' := by
  have hst := h
  obtain ⟨g, h⟩ := h
  obtain ⟨-, -, k2, -, -, -, -, -⟩ := r7 h.cell
  have HA := Lib.hid (at_any st.N g.nv s w h.N)
  clear h
  cases hb : wrB st with
  | false =>
    have e1 : appE st s.data.toList t.data.toList = 11 := by simp [appE, hb]
    have e2 : appS st s.data.toList t.data.toList = wrS st := by simp [appS, hb]
    rw [e1, e2]
    have HW := Lib.hid (refwr_is S q st w hst hb)
    clear hst hb e1 e2 hno
    go_enter Try.func21, Try.ntmps21
    go_wp2_with fail
    refine HA.out.mono ?_
    rintro e w1 ⟨rfl, rfl⟩
    go_wp2_with fail
    refine HW.out.mono ?_
    rintro e w1 ⟨rfl, hs1⟩
    replace hs1 := Lib.hid hs1
    go_wp2_with fail
    go_ret
    exact ⟨rfl, hs1.out⟩
  | true =>
    have hn : isName s.data.toList = false := hno.resolve_left (by rw [hb]; decide)
    have e1 : appE st s.data.toList t.data.toList = 3 := by simp [appE, hb, hn]
    have e2 : appS st s.data.toList t.data.toList = wrS st := by simp [appS, hb, hn]
    rw [e1, e2]
    have HW := Lib.hid (refwr_is S q st w hst hb)
    have HN := Lib.hid (refname_any s hs)
    rw [hn] at HN
    clear hst hb e1 e2 hno hn
    go_enter Try.func21, Try.ntmps21
    go_wp2_with fail
    refine HA.out.mono ?_
    rintro e w1 ⟨rfl, rfl⟩
    go_wp2_with fail
    refine HW.out.mono ?_
    rintro e w1 ⟨rfl, hs1⟩
    replace hs1 := Lib.hid hs1
    go_wp2_with fail
    refine (HN.out w1).mono ?_
    rintro e w2 ⟨rfl, rfl⟩
    go_wp2_with fail
    go_ret
    exact ⟨rfl, hs1.out⟩

/-- Where room is lacking, or a name too many. -/
theorem full_cases (st : St) (s t : ByteArray) (hf : Fine st) (U : Nat) (hU : used st = U) (hr : -9223372036854775808 ≤ st.room - (U : Int)) (hr2 : st.room ≤ 9223372036854775807) :
    (full st s.data.toList t.data.toList = true ∧ wrap64 (st.room - (U : Int)) < (t.size : Int)) ∨
    (full st s.data.toList t.data.toList = true ∧ ¬ wrap64 (st.room - (U : Int)) < (t.size : Int) ∧ lookN st.N s.data.toList = none ∧ 64 ≤ st.N.length) ∨
    (full st s.data.toList t.data.toList = false ∧ ¬ wrap64 (st.room - (U : Int)) < (t.size : Int) ∧ (∃ i, lookN st.N s.data.toList = some i)) ∨
    (full st s.data.toList t.data.toList = false ∧ ¬ wrap64 (st.room - (U : Int)) < (t.size : Int) ∧ lookN st.N s.data.toList = none ∧ st.N.length < 64) := by
  have e : wrap64 (st.room - (U : Int)) = st.room - (U : Int) := IntWalk.wrap64_in _ (by omega)
  have htl : t.data.toList.length = t.size := by simp
  have h64 := hf.nmN.len
  rw [e]
  unfold full
  rw [hU, htl]
  by_cases h1 : st.room - (U : Int) < (t.size : Int)
  · left
    have : decide (st.room < ((U + t.size : Nat) : Int)) = true := decide_eq_true (by omega)
    exact ⟨by rw [this]; rfl, h1⟩
  · right
    have h2 : decide (st.room < ((U + t.size : Nat) : Int)) = false := decide_eq_false (by omega)
    rw [h2]
    cases hl : lookN st.N s.data.toList with
    | some i => right; left; exact ⟨rfl, h1, i, rfl⟩
    | none =>
      by_cases h3 : st.N.length = 64
      · left; exact ⟨by rw [decide_eq_true h3]; rfl, h1, rfl, by omega⟩
      · right; right; exact ⟨by rw [decide_eq_false h3]; rfl, h1, rfl, by omega⟩

set_option maxRecDepth 100000 in
set_option maxHeartbeats 3200000 in
theorem refapp_full (S : Nat → Prop) (q : Nat) (st : St) (s t : ByteArray) (U : Nat) (hs : s.size ≤ maxLen) (w : World) (h : IsRef w S q st) (hf : Fine st) (hb : wrB st = true) (hn : isName s.data.toList = true) (hU : used (wrS st) = U) (hU2 : U ≤ 4000000000000000000)
    (hfull : wrap64 ((wrS st).room - (U : Int)) < (t.size : Int) ∨ (¬ wrap64 ((wrS st).room - (U : Int)) < (t.size : Int) ∧ lookN st.N s.data.toList = none ∧ 64 ≤ (wrS st).N.length)) :
    Calls Try.prog 21 #[.pointer (some ⟨q, 0, none⟩), .string s, .string t] w fun e w' => e = .returned (.int .i64 4) ∧ RStep S q (wrS st) w w' := by
  have HW := Lib.hid (refwr_is S q st w h hb)
  obtain ⟨g, h⟩ := h
  obtain ⟨-, -, k2, -, -, -, -, -⟩ := r7 h.cell
  have HA := Lib.hid (at_any st.N g.nv s w h.N)
  have HN := Lib.hid (refname_any s hs)
  rw [hn] at HN
  have hfw := hf.wr
  generalize wrS st = st1 at *
  have hfi := Lib.hid (hfw.nmN.ins)
  replace hU := Lib.hid hU
  have hlook := Lib.hid (at_look (N := st.N) (k := s.data.toList))
  generalize atI st.N s.data.toList = K at *
  have hK : Hid (lookN st.N s.data.toList = none → K = -1) := Lib.hid fun h => by
    rcases hlook.out with ⟨_, e⟩ | ⟨j, i, e1, _, e2⟩
    · exact e
    · rw [h] at e1; cases e1
  have hfull2 : (decide (wrap64 (st1.room - (U : Int)) < (t.size : Int)) = true) ∨ (decide (wrap64 (st1.room - (U : Int)) < (t.size : Int)) = false ∧ K = -1 ∧ decide ((64 : Int) ≤ (st1.N.length : Int)) = true) := by
    rcases hfull with h1 | ⟨h1, h2, h3⟩
    · left; exact decide_eq_true h1
    · right; exact ⟨decide_eq_false h1, hK.out h2, decide_eq_true (by omega)⟩
  clear h hb hn hfull hlook hK hf hfw
  rcases hfull2 with hd1 | ⟨hd1, rfl, hd2⟩
  all_goals
    go_enter Try.func21, Try.ntmps21
    go_wp2_with fail
    refine HA.out.mono ?_
    rintro e w1 ⟨rfl, rfl⟩
    go_wp2_with fail
    refine HW.out.mono ?_
    rintro e w1 ⟨rfl, hs1⟩
    obtain ⟨S1, g1, h1, hbeen⟩ := hs1.get
    obtain ⟨r0, -, m2, -, -, -, -, -⟩ := r7 h1.cell
    obtain ⟨nb, nc, na, hnv, n1, n2, n3⟩ := e_cells h1.N
    unfold maxLen at n2
    rw [hnv] at m2
    have r0' := fun d os => cell_regrown r0 d os
    have m2' := fun d os => cell_regrown m2 d os
    have hus := Lib.hid (fun d os => refused_q S1 q st1 ⟨g1, h1⟩ hfi.out hU.out hU2 d os)
    replace hbeen := Lib.hid hbeen
    replace h1 := Lib.hid h1
    clear hs1 r0 m2 hnv n3
    go_wp2_with fail
    refine (HN.out w1).mono ?_
    rintro e w2 ⟨rfl, rfl⟩
    go_wp2_with fail
    refine wp_region_quiet_below (by kernel_rfl) (by kernel_rfl) ?_
    repeat (go_big_quiet_step (first
      | exact Calls.regrown_of (hus.out _ _)))
    refine wpQuiet_nil ?_
    intro _ hw'
    obtain ⟨⟨dq, osq⟩, hw''⟩ := hw'
    subst hw''
    go_wp2_with fail
    go_ret
    exact ⟨rfl, ⟨⟨S1, ⟨g1, h1.out.calm dq osq⟩, hbeen.out.sub, hbeen.out.new⟩, (hbeen.out.calm dq osq).upon⟩⟩
end Dsk
end Go.Proofs.Ytiadjjdmhpabnaa
