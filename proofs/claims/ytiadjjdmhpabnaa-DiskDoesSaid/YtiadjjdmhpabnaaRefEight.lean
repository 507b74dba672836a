/- The document's own disk (layer 4): files written in place; Sync, Rename, Remove. -/
import Derived.Test.YtiadjjdmhpabnaaRefSeven
import Derived.StillTailTactics
namespace Go.Proofs.Ytiadjjdmhpabnaa
open Go.RowKit
namespace Dsk
open Go.Maps
set_option linter.unusedVariables false

theorem row_setG {w : World} {e : TypeId} {size n g cap j : Nat} {u : Value} {xs : List Value} (h : w.ownsRow 0 e size (.slice (some ⟨g, 0, none⟩) n cap) n xs) :
    (w.setCell ⟨g, j, none⟩ u).ownsRow 0 e size (.slice (some ⟨g, 0, none⟩) n cap) n (xs.set j u) := by
  rcases h.2 with ⟨h0, _⟩ | ⟨g', cap', cur, hv, hb, hg, hmc, hcm, hcs, ht⟩
  · cases h0
  · cases hv
    refine ⟨by rw [List.length_set]; exact h.1, .inr ⟨g, cap, cur.setIfInBounds j u, rfl, hb, ?_, hmc, hcm, ?_, ?_⟩⟩
    · simp [World.setCell, Array.getElem?_modify, hg]
    · simpa using hcs
    · rw [← ht, Array.toList_setIfInBounds, List.take_set]
theorem flat_setS {φ : FileS → FileS} : ∀ (F : List FileS) (i : Nat) (f : FileS) (s : Str), F[i]? = some f → φ f = ⟨s, f.lasts⟩ → (F.modify i φ).flatMap fC = (F.flatMap fC).set (i * 2) (sv s)
  | [], i, f, s, h, _ => by simp at h
  | x :: r, 0, f, s, h, hφ => by
    simp at h; subst h
    simp [List.flatMap_cons, hφ, fC]
  | x :: r, i + 1, f, s, h, hφ => by
    have ih := flat_setS r i f s (by simpa using h) hφ
    rw [List.modify_succ_cons, List.flatMap_cons, ih, List.flatMap_cons, show (i + 1) * 2 = i * 2 + 2 by omega]
    rfl
theorem flat_setL {φ : FileS → FileS} : ∀ (F : List FileS) (i : Nat) (f : FileS) (m : Nat), F[i]? = some f → φ f = ⟨f.s, m⟩ → (F.modify i φ).flatMap fC = (F.flatMap fC).set (i * 2 + 1) (.int .i64 (m : Int))
  | [], i, f, m, h, _ => by simp at h
  | x :: r, 0, f, m, h, hφ => by
    simp at h; subst h
    simp [List.flatMap_cons, hφ, fC]
  | x :: r, i + 1, f, m, h, hφ => by
    have ih := flat_setL r i f m (by simpa using h) hφ
    rw [List.modify_succ_cons, List.flatMap_cons, ih, List.flatMap_cons, show (i + 1) * 2 + 1 = i * 2 + 1 + 2 by omega]
    rfl
/-- A file's cell is written. -/
theorem RefM.setF {w : World} {S : Nat → Prop} {q : Nat} {st : St} {g : RGhost} {fb c j : Nat} {u : Value} {F' : List FileS} (h : RefM w S q st g) (hv : g.fv = .slice (some ⟨fb, 0, none⟩) st.F.length c) (hl : F'.length = st.F.length) (hF : F'.flatMap fC = (st.F.flatMap fC).set j u) :
    RStep S q { st with F := F' } w (w.setCell ⟨fb, j, none⟩ u) := by
  have hfb : g.fv.ownBlock = some fb := by rw [hv]; rfl
  have hk : ∀ b, b ≠ fb → (w.setCell ⟨fb, j, none⟩ u).heap[b]? = w.heap[b]? := fun b hb => Below.heap_setCell _ _ _ _ hb
  have hqf : q ≠ fb := fun e => not_disk h.cell h.F nF hfb e.symm
  have hr : ∀ {e : TypeId} {size n : Nat} {v : Value} {xs : List Value}, w.ownsRow 0 e size v n xs → e ≠ 66 → (w.setCell ⟨fb, j, none⟩ u).ownsRow 0 e size v n xs :=
    fun hrow he => ownsRow_kept hrow fun b hb => hk b (fun e => not_other hrow h.F he hb (by rw [e]; exact hfb))
  refine ⟨⟨S, ⟨g, { h with cell := (hk q hqf).trans h.cell, F := ?_, N := hr h.N nEF, L := hr h.L nEF, C := hr h.C (fun e => nFC e.symm), lt := fun b hb => by simp [World.setCell]; exact h.lt b hb }⟩, fun _ h => h, fun _ h => .inl h⟩, (Upon.refl S w).setCell (p := ⟨fb, j, none⟩) (.inl (h.s_f fb hfb)) _⟩
  have h1 := h.F
  rw [hv] at h1
  show World.ownsRow _ 0 _ 2 g.fv F'.length (F'.flatMap fC)
  rw [hv, hl, hF]
  exact row_setG h1

theorem sync_flat (st : St) {i : Nat} {f : FileS} (hf : st.F[i]? = some f) : (st.F.modify i fun f => { f with lasts := f.s.length }).flatMap fC = (st.F.flatMap fC).set (i * 2 + 1) (.int .i64 (f.s.length : Int)) := flat_setL _ _ f _ hf rfl
set_option maxRecDepth 100000 in
set_option maxHeartbeats 3200000 in
theorem refsync_any (S : Nat → Prop) (q : Nat) (st : St) (s : ByteArray) (w : World) (h : IsRef w S q st) (hfi : ∀ p ∈ st.N, p.2 < st.F.length) :
    Calls Try.prog 22 #[.pointer (some ⟨q, 0, none⟩), .string s] w fun e w' => e = .returned (.int .i64 (syncE st s.data.toList)) ∧ RStep S q (syncS st s.data.toList) w w' := by
  have hst := h
  obtain ⟨g, h⟩ := h
  obtain ⟨-, -, k2, -, -, -, -, -⟩ := r7 h.cell
  have HA := Lib.hid (at_any st.N g.nv s w h.N)
  clear h
  cases hb : wrB st with
  | false =>
    have e1 : syncE st s.data.toList = 11 := by simp [syncE, hb]
    have e2 : syncS st s.data.toList = wrS st := by simp [syncS, hb]
    rw [e1, e2]
    have HW := Lib.hid (refwr_is S q st w hst hb)
    clear hst hb e1 e2 hfi
    go_enter Try.func22, Try.ntmps22
    go_wp2_with fail
    refine HA.out.mono ?_
    rintro e w1 ⟨rfl, rfl⟩
    go_wp2_with fail
    refine HW.out.mono ?_
    rintro e w1 ⟨rfl, hs1⟩
    replace hs1 := Lib.hid hs1
    go_wp2_with fail
    go_ret
    exact ⟨rfl, hs1.out⟩
  | true =>
    have HW := Lib.hid (refwr_is S q st w hst hb)
    have hN : (wrS st).N = st.N ∧ (wrS st).F = st.F := by unfold wrS; split <;> (try split) <;> exact ⟨rfl, rfl⟩
    rcases at_look (N := st.N) (k := s.data.toList) with ⟨hl, ha⟩ | ⟨j, i, hl, hj, ha⟩
    · have e1 : syncE st s.data.toList = 12 := by simp [syncE, hb, hl]
      have e2 : syncS st s.data.toList = wrS st := by simp [syncS, hb, syncF, hN.1, hl]
      rw [e1, e2]
      rw [ha] at HA
      clear hst hb e1 e2 hfi ha hl hN
      go_enter Try.func22, Try.ntmps22
      go_wp2_with fail
      refine HA.out.mono ?_
      rintro e w1 ⟨rfl, rfl⟩
      go_wp2_with fail
      refine HW.out.mono ?_
      rintro e w1 ⟨rfl, hs1⟩
      replace hs1 := Lib.hid hs1
      go_wp2_with fail
      go_ret
      exact ⟨rfl, hs1.out⟩
    · have e1 : syncE st s.data.toList = 0 := by simp [syncE, hb, hl]
      have hil : i < st.F.length := hfi _ (List.mem_of_getElem? hj)
      obtain ⟨f, hf⟩ : ∃ f, st.F[i]? = some f := ⟨_, List.getElem?_eq_getElem hil⟩
      have e2 : Hid (syncS st s.data.toList = { wrS st with F := (wrS st).F.modify i fun f => { f with lasts := f.s.length } }) := Lib.hid (by simp [syncS, hb, syncF, hN.1, hl])
      rw [e1]
      rw [ha] at HA
      have hjl := Lib.hid (List.getElem?_eq_some_iff.1 hj).1
      replace hN := Lib.hid hN
      replace hj := Lib.hid hj
      replace hf := Lib.hid hf
      replace hil := Lib.hid hil
      clear hst hb e1 hfi ha hl
      go_enter Try.func22, Try.ntmps22
      go_wp2_with fail
      refine HA.out.mono ?_
      rintro e w1 ⟨rfl, rfl⟩
      go_wp2_with fail
      refine HW.out.mono ?_
      rintro e w1 ⟨rfl, hs1⟩
      obtain ⟨S1, g1, h1, hbeen⟩ := hs1.get
      obtain ⟨-, m1, m2, -, -, -, -, -⟩ := r7 h1.cell
      obtain ⟨nb, nc, na, hnv, n1, n2, n3⟩ := e_cells h1.N
      obtain ⟨fb, fc, fa, hfv, f1, f2, f3⟩ := f_cells h1.F
      unfold maxLen at n2 f2
      rw [hN.out.1] at n1 n3 hnv
      rw [hN.out.2] at f1 f3 hfv
      obtain ⟨rfl, -, n4⟩ := n3 (by intro e; have := hjl.out; rw [e] at this; simp at this)
      obtain ⟨rfl, -, f4⟩ := f3 (by intro e; have := hil.out; rw [e] at this; simp at this)
      obtain ⟨-, n5⟩ := n4 j _ hj.out
      obtain ⟨f5, f6⟩ := f4 i _ hf.out
      rw [hnv] at m2
      rw [hfv] at m1
      have HS : Hid (RStep S q { wrS st with F := (wrS st).F.modify i fun f => { f with lasts := f.s.length } } w (w1.drew.setCell ⟨fb, i * 2 + 1, none⟩ (.int .i64 (f.s.length : Int)))) := Lib.hid (Been.rstep ⟨hbeen.sub, hbeen.new, hbeen.upon.drew⟩ ((h1.kept (w' := w1.drew) (fun _ _ => rfl) (Nat.le_refl _)).setF (by rw [hN.out.2]; exact hfv) (by rw [List.length_modify]) (by rw [hN.out.2]; exact sync_flat st hf.out)))
      obtain ⟨xs, hxs⟩ : ∃ xs : ByteArray, xs = ⟨f.s.toArray⟩ := ⟨_, rfl⟩
      have hxl : xs.size = f.s.length := by rw [hxs]; simp [ByteArray.size]
      unfold sv at f5
      rw [← hxs] at f5
      rw [← hxl] at HS
      have hfr := h1.F
      rw [hfv] at hfr
      have hfz : w1.frozen? ⟨fb, i * 2 + 1, none⟩ = false := by
        obtain ⟨c, hc⟩ := rowT hfr rfl
        exact Lib.frozen_of_heap hc _
      have hfz2 : w1.drew.frozen? ⟨fb, i * 2 + 1, none⟩ = false := hfz
      have f6d : w1.drew.cell? ⟨fb, i * 2 + 1, none⟩ = some (.int .i64 (f.lasts : Int)) := f6
      have hjl' := hjl.out
      have hil' := hil.out
      clear hxs hxl hnv hfv n3 f3 n4 f4 h1 hbeen hs1 hfr
      go_wp2_with fail
      go_still_tail 16, (by kernel_rfl)
      change wpList _ _ _ _ _ w1.drew
      clear m1 m2 n5 f5 f6 hfz
      generalize w1.drew = w2 at *
      go_wp2_with fail
      go_ret
      exact ⟨rfl, by rw [e2.out]; exact HS.out⟩

/-! ### the changes of names, as the calls make them -/
theorem sv_str (s : ByteArray) : sv s.data.toList = .string s := by cases s; simp [sv]
theorem fine_ne {st : St} (h : Fine st) : ∀ p ∈ st.N, p.1 ≠ [] := fun p hp e => by
  have := (h.nmN.nm p hp).1
  rw [e] at this; simp at this
theorem fine_len {st : St} (h : Fine st) : st.N.length ≤ 1000 := Nat.le_trans h.nmN.len (by decide)
theorem refdel_is (S : Nat → Prop) (q : Nat) (st : St) (s : ByteArray) (w : World) (h : IsRef w S q st) (hf : Fine st) (hC : st.C.length ≤ 1000000000) :
    Calls Try.prog 47 #[.pointer (some ⟨q, 0, none⟩), .agg #[.string s, .string ByteArray.empty, .int .i64 0]] w fun e w' => e = .returned (.tuple #[]) ∧ RStep S q (chg st (.del s.data.toList)) w w' := by
  have := refchange_any S q st (.del s.data.toList) w h trivial (fine_ne hf) (fine_len hf) hC
  unfold chFrom chTo chFile at this
  rwa [sv_str] at this
theorem refmove_is (S : Nat → Prop) (q : Nat) (st : St) (s t : ByteArray) (i : Nat) (w : World) (h : IsRef w S q st) (ht : isName t.data.toList = true) (hf : Fine st) (hC : st.C.length ≤ 1000000000) :
    Calls Try.prog 47 #[.pointer (some ⟨q, 0, none⟩), .agg #[.string s, .string t, .int .i64 (i : Int)]] w fun e w' => e = .returned (.tuple #[]) ∧ RStep S q (chg st (.move s.data.toList t.data.toList i)) w w' := by
  have hne : t.data.toList ≠ [] := fun e => by rw [e] at ht; simp [isName] at ht
  have := refchange_any S q st (.move s.data.toList t.data.toList i) w h hne (fine_ne hf) (fine_len hf) hC
  unfold chFrom chTo chFile at this
  rwa [sv_str, sv_str] at this
theorem refput_is (S : Nat → Prop) (q : Nat) (st : St) (t : ByteArray) (i : Nat) (w : World) (h : IsRef w S q st) (ht : isName t.data.toList = true) (hf : Fine st) (hC : st.C.length ≤ 1000000000) :
    Calls Try.prog 47 #[.pointer (some ⟨q, 0, none⟩), .agg #[.string ByteArray.empty, .string t, .int .i64 (i : Int)]] w fun e w' => e = .returned (.tuple #[]) ∧ RStep S q (chg st (.put t.data.toList i)) w w' := by
  have hne : t.data.toList ≠ [] := fun e => by rw [e] at ht; simp [isName] at ht
  have := refchange_any S q st (.put t.data.toList i) w h hne (fine_ne hf) (fine_len hf) hC
  unfold chFrom chTo chFile at this
  rwa [sv_str] at this
theorem wr_same (st : St) : (wrS st).N = st.N ∧ (wrS st).F = st.F ∧ (wrS st).C = st.C ∧ (wrS st).room = st.room := by unfold wrS; split <;> (try split) <;> exact ⟨rfl, rfl, rfl, rfl⟩

set_option maxRecDepth 100000 in
set_option maxHeartbeats 3200000 in
theorem refrem_any (S : Nat → Prop) (q : Nat) (st : St) (s : ByteArray) (w : World) (h : IsRef w S q st) (hf : Fine st) (hC : st.C.length ≤ 1000000000) :
    Calls Try.prog 26 #[.pointer (some ⟨q, 0, none⟩), .string s] w fun e w' => e = .returned (.int .i64 (remE st s.data.toList)) ∧ RStep S q (remS st s.data.toList) w w' := by
  cases hb : wrB st with
  | false =>
    have e1 : remE st s.data.toList = 11 := by simp [remE, hb]
    have e2 : remS st s.data.toList = wrS st := by simp [remS, hb]
    rw [e1, e2]
    have HW := Lib.hid (refwr_is S q st w h hb)
    clear h hb e1 e2 hf hC
    go_enter Try.func26, Try.ntmps26
    go_wp2_with fail
    refine HW.out.mono ?_
    rintro e w1 ⟨rfl, hs1⟩
    replace hs1 := Lib.hid hs1
    go_wp2_with fail
    go_ret
    exact ⟨rfl, hs1.out⟩
  | true =>
    have HW := Lib.hid (refwr_is S q st w h hb)
    obtain ⟨hN, -, hCC, -⟩ := wr_same st
    have hfw := Lib.hid hf.wr
    have hCw : Hid ((wrS st).C.length ≤ 1000000000) := Lib.hid (by rw [hCC]; exact hC)
    rcases at_look (N := st.N) (k := s.data.toList) with ⟨hl, ha⟩ | ⟨j, i, hl, hj, ha⟩
    · have e1 : remE st s.data.toList = 12 := by simp [remE, hb, hl]
      have e2 : remS st s.data.toList = wrS st := by simp [remS, hb, hl]
      rw [e1, e2]
      have HN := Lib.hid hN
      have HA := Lib.hid ha
      clear h hb e1 e2 hf hC hl ha hN hCC
      go_enter Try.func26, Try.ntmps26
      go_wp2_with fail
      refine HW.out.mono ?_
      rintro e w1 ⟨rfl, hs1⟩
      obtain ⟨S1, g1, h1, hbeen⟩ := hs1.get
      obtain ⟨-, -, k2, -, -, -, -, -⟩ := r7 h1.cell
      have hat := at_any (wrS st).N g1.nv s w1 h1.N
      rw [HN.out, HA.out] at hat
      replace hs1 := Lib.hid hs1
      clear h1 hbeen
      go_wp2_with fail
      refine hat.mono ?_
      rintro e w2 ⟨rfl, rfl⟩
      go_wp2_with fail
      go_ret
      exact ⟨rfl, hs1.out⟩
    · have e1 : remE st s.data.toList = 0 := by simp [remE, hb, hl]
      have e2 : Hid (remS st s.data.toList = chg (wrS st) (.del s.data.toList)) := Lib.hid (by simp [remS, hb, hl])
      rw [e1]
      have HN := Lib.hid hN
      have HA := Lib.hid ha
      clear h hb e1 hf hC hl ha hN hCC hj
      go_enter Try.func26, Try.ntmps26
      go_wp2_with fail
      refine HW.out.mono ?_
      rintro e w1 ⟨rfl, hs1⟩
      obtain ⟨S1, g1, h1, hbeen⟩ := hs1.get
      obtain ⟨-, -, k2, -, -, -, -, -⟩ := r7 h1.cell
      have hat := at_any (wrS st).N g1.nv s w1 h1.N
      rw [HN.out, HA.out] at hat
      have hch := Lib.hid (refdel_is S1 q (wrS st) s w1 ⟨g1, h1⟩ hfw.out hCw.out)
      replace hbeen := Lib.hid hbeen
      clear h1 hs1
      go_wp2_with fail
      refine hat.mono ?_
      rintro e w2 ⟨rfl, rfl⟩
      clear hat k2
      go_wp2_with fail
      refine hch.out.mono ?_
      rintro e w2 ⟨rfl, hs2⟩
      have hs3 := Lib.hid (hbeen.out.rstep hs2)
      clear hs2 hch
      go_wp2_with fail
      go_ret
      exact ⟨rfl, by rw [e2.out]; exact hs3.out⟩

set_option maxRecDepth 100000 in
set_option maxHeartbeats 3200000 in
theorem refren_any (S : Nat → Prop) (q : Nat) (st : St) (s t : ByteArray) (ht : t.size ≤ maxLen) (w : World) (h : IsRef w S q st) (hf : Fine st) (hC : st.C.length ≤ 1000000000) :
    Calls Try.prog 24 #[.pointer (some ⟨q, 0, none⟩), .string s, .string t] w fun e w' => e = .returned (.int .i64 (renE st s.data.toList t.data.toList)) ∧ RStep S q (renS st s.data.toList t.data.toList) w w' := by
  have hst := h
  obtain ⟨g, h⟩ := h
  obtain ⟨-, -, k2, -, -, -, -, -⟩ := r7 h.cell
  have HA := Lib.hid (at_any st.N g.nv s w h.N)
  clear h
  cases hb : wrB st with
  | false =>
    have e1 : renE st s.data.toList t.data.toList = 11 := by simp [renE, hb]
    have e2 : renS st s.data.toList t.data.toList = wrS st := by simp [renS, hb]
    rw [e1, e2]
    have HW := Lib.hid (refwr_is S q st w hst hb)
    clear hst hb e1 e2 hf hC
    go_enter Try.func24, Try.ntmps24
    go_wp2_with fail
    refine HA.out.mono ?_
    rintro e w1 ⟨rfl, rfl⟩
    go_wp2_with fail
    refine HW.out.mono ?_
    rintro e w1 ⟨rfl, hs1⟩
    replace hs1 := Lib.hid hs1
    go_wp2_with fail
    go_ret
    exact ⟨rfl, hs1.out⟩
  | true =>
    have HW := Lib.hid (refwr_is S q st w hst hb)
    obtain ⟨hN, -, hCC, -⟩ := wr_same st
    have hfw := Lib.hid hf.wr
    have hCw : Hid ((wrS st).C.length ≤ 1000000000) := Lib.hid (by rw [hCC]; exact hC)
    rcases at_look (N := st.N) (k := s.data.toList) with ⟨hl, ha⟩ | ⟨j, i, hl, hj, ha⟩
    · have e1 : renE st s.data.toList t.data.toList = 12 := by simp [renE, hb, hl]
      have e2 : renS st s.data.toList t.data.toList = wrS st := by simp [renS, hb, hl]
      rw [e1, e2]
      rw [ha] at HA
      clear hst hb e1 e2 hf hC hl ha hN hCC
      go_enter Try.func24, Try.ntmps24
      go_wp2_with fail
      refine HA.out.mono ?_
      rintro e w1 ⟨rfl, rfl⟩
      go_wp2_with fail
      refine HW.out.mono ?_
      rintro e w1 ⟨rfl, hs1⟩
      replace hs1 := Lib.hid hs1
      go_wp2_with fail
      go_ret
      exact ⟨rfl, hs1.out⟩
    · rw [ha] at HA
      have HNA := Lib.hid (refname_any t ht)
      cases hnm : isName t.data.toList with
      | false =>
        have e1 : renE st s.data.toList t.data.toList = 3 := by simp [renE, hb, hl, hnm]
        have e2 : renS st s.data.toList t.data.toList = wrS st := by simp [renS, hb, hl, hnm]
        rw [e1, e2]
        rw [hnm] at HNA
        clear hst hb e1 e2 hf hC hl ha hN hCC hj hnm
        go_enter Try.func24, Try.ntmps24
        go_wp2_with fail
        refine HA.out.mono ?_
        rintro e w1 ⟨rfl, rfl⟩
        go_wp2_with fail
        refine HW.out.mono ?_
        rintro e w1 ⟨rfl, hs1⟩
        replace hs1 := Lib.hid hs1
        go_wp2_with fail
        refine (HNA.out w1).mono ?_
        rintro e w2 ⟨rfl, rfl⟩
        go_wp2_with fail
        go_ret
        exact ⟨rfl, hs1.out⟩
      | true =>
        have e1 : renE st s.data.toList t.data.toList = 0 := by simp [renE, hb, hl, hnm]
        have e2 : Hid (renS st s.data.toList t.data.toList = chg (wrS st) (.move s.data.toList t.data.toList i)) := Lib.hid (by simp [renS, hb, hl, hnm])
        rw [e1]
        rw [hnm] at HNA
        have HN := Lib.hid hN
        have HJ := Lib.hid hj
        have hjl := (List.getElem?_eq_some_iff.1 hj).1
        have HNM := Lib.hid hnm
        clear hst hb e1 hf hC hl ha hN hCC hj hnm
        go_enter Try.func24, Try.ntmps24
        go_wp2_with fail
        refine HA.out.mono ?_
        rintro e w1 ⟨rfl, rfl⟩
        go_wp2_with fail
        refine HW.out.mono ?_
        rintro e w1 ⟨rfl, hs1⟩
        obtain ⟨S1, g1, h1, hbeen⟩ := hs1.get
        obtain ⟨-, -, m2, -, -, -, -, -⟩ := r7 h1.cell
        obtain ⟨nb, nc, na, hnv, n1, n2, n3⟩ := e_cells h1.N
        unfold maxLen at n2
        rw [HN.out] at n1 n3 hnv
        obtain ⟨rfl, -, n4⟩ := n3 (by intro e; rw [e] at hjl; simp at hjl)
        obtain ⟨-, n5⟩ := n4 j _ HJ.out
        rw [hnv] at m2
        have hch := Lib.hid (refmove_is S1 q (wrS st) s t i w1 ⟨g1, h1⟩ HNM.out hfw.out hCw.out)
        replace hbeen := Lib.hid hbeen
        clear h1 hs1 hnv n3 n4
        go_wp2_with fail
        refine (HNA.out w1).mono ?_
        rintro e w2 ⟨rfl, rfl⟩
        go_wp2_with fail
        refine hch.out.mono ?_
        rintro e w2 ⟨rfl, hs2⟩
        have hs3 := Lib.hid (hbeen.out.rstep hs2)
        clear hs2 hch
        go_wp2_with fail
        go_ret
        exact ⟨rfl, by rw [e2.out]; exact hs3.out⟩
end Dsk
end Go.Proofs.Ytiadjjdmhpabnaa
