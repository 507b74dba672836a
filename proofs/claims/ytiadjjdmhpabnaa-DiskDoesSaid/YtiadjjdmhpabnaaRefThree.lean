/- The document's own disk (layer 4): Read, Used, List. -/
import Derived.Test.YtiadjjdmhpabnaaRefTwo
namespace Go.Proofs.Ytiadjjdmhpabnaa
open Go.RowKit
namespace Dsk
open Go.Maps

theorem at_of_add (gb k : Nat) : (⟨gb, 0, none⟩ : Addr).add k = ⟨gb, k, none⟩ := by unfold Addr.add; split <;> simp_all

/-- The cells of a row of files. -/
theorem f_cells {w : World} {base : Nat} {v : Value} {F : List FileS} (h : w.ownsRow base 66 2 v F.length (F.flatMap fC)) :
    ∃ gb c a, v = .slice a F.length c ∧ F.length ≤ c ∧ c ≤ maxLen ∧ (F ≠ [] → a = some ⟨gb, 0, none⟩ ∧ gb < w.heap.size ∧ ∀ (j : Nat) (f : FileS), F[j]? = some f → w.cell? ⟨gb, j * 2, none⟩ = some (sv f.s) ∧ w.cell? ⟨gb, j * 2 + 1, none⟩ = some (.int .i64 (f.lasts : Int))) := by
  have hcells := fun g => h.cells (g := g)
  have hfl : ∀ (M : List FileS) (j : Nat) (f : FileS), M[j]? = some f → (M.flatMap fC)[j * 2]? = some (sv f.s) ∧ (M.flatMap fC)[j * 2 + 1]? = some (.int .i64 (f.lasts : Int)) := by
    intro M
    induction M with
    | nil => intro j p hj; simp at hj
    | cons x r ih =>
      intro j p hj
      cases j with
      | zero => simp at hj; subst hj; exact ⟨rfl, rfl⟩
      | succ j =>
        have := ih j p (by simpa using hj)
        rw [show (j + 1) * 2 = j * 2 + 2 by omega, show j * 2 + 2 + 1 = (j * 2 + 1) + 2 by omega]
        exact this
  rcases h.2 with ⟨hv, h0⟩ | ⟨gb, cap, cur, hv, hb, hg, hnc, hcm, _⟩
  · exact ⟨0, 0, none, by rw [hv, h0], by omega, Nat.zero_le _, fun hn => absurd (List.eq_nil_of_length_eq_zero h0) hn⟩
  · refine ⟨gb, cap, _, hv, hnc, hcm, fun _ => ⟨rfl, lt_of_block hg, fun j p hj => ?_⟩⟩
    obtain ⟨h1, h2⟩ := hfl F j p hj
    have a1 := hcells gb (by rw [hv]; rfl) _ _ h1
    have a2 := hcells gb (by rw [hv]; rfl) _ _ h2
    rw [at_of_add] at a1 a2
    exact ⟨a1, a2⟩

set_option maxHeartbeats 1600000 in
theorem refread_any (S : Nat → Prop) (q : Nat) (st : St) (s : ByteArray) (w : World) (h : IsRef w S q st) (hfi : ∀ p ∈ st.N, p.2 < st.F.length) :
    Calls Try.prog 9 #[.pointer (some ⟨q, 0, none⟩), .string s] w fun e w' => e = .returned (.tuple #[.string ⟨(readA st s.data.toList).toArray⟩, .int .i64 (readE st s.data.toList)]) ∧ Upon (fun _ => False) w w' := by
  obtain ⟨g, h⟩ := h
  obtain ⟨-, k1, k2, -, -, k5, -, -⟩ := r7 h.cell
  have HA := at_any st.N g.nv s w h.N
  cases hd : st.dead with
  | true =>
    have e1 : readE st s.data.toList = 11 := by simp [readE, hd]
    have e2 : readA st s.data.toList = [] := by simp [readA, hd]
    rw [e1, e2]
    rw [hd] at k5
    replace HA := Lib.hid HA
    clear h hd e1 e2 hfi k1
    go_enter Try.func9, Try.ntmps9
    go_wp2_with fail
    refine HA.out.mono ?_
    rintro e w1 ⟨rfl, rfl⟩
    go_wp2
    go_ret2
    exact ⟨rfl, Upon.refl _ _⟩
  | false =>
    rw [hd] at k5
    rcases at_look (N := st.N) (k := s.data.toList) with ⟨hl, ha⟩ | ⟨j, i, hl, hj, ha⟩
    · have e1 : readE st s.data.toList = 12 := by simp [readE, hd, hl]
      have e2 : readA st s.data.toList = [] := by simp [readA, hd, hl]
      rw [e1, e2]
      rw [ha] at HA
      replace HA := Lib.hid HA
      clear h hd hl ha e1 e2 hfi k1
      go_enter Try.func9, Try.ntmps9
      go_wp2_with fail
      refine HA.out.mono ?_
      rintro e w1 ⟨rfl, rfl⟩
      go_wp2
      go_ret2
      exact ⟨rfl, Upon.refl _ _⟩
    · have hil : i < st.F.length := hfi _ (List.mem_of_getElem? hj)
      obtain ⟨f, hf⟩ : ∃ f, st.F[i]? = some f := ⟨_, List.getElem?_eq_getElem hil⟩
      have e1 : readE st s.data.toList = 0 := by simp [readE, hd, hl]
      have e2 : readA st s.data.toList = f.s := by simp [readA, hd, hl, List.getD_eq_getElem?_getD, hf]
      rw [e1, e2]
      rw [ha] at HA
      obtain ⟨nb, nc, na, hnv, n1, n2, n3⟩ := e_cells h.N
      obtain ⟨fb, fc, fa, hfv, f1, f2, f3⟩ := f_cells h.F
      have hjl : j < st.N.length := (List.getElem?_eq_some_iff.1 hj).1
      obtain ⟨rfl, -, n4⟩ := n3 (by intro e; rw [e] at hjl; simp at hjl)
      obtain ⟨rfl, -, f4⟩ := f3 (by intro e; rw [e] at hil; simp at hil)
      obtain ⟨-, n5⟩ := n4 j _ hj
      obtain ⟨f5, -⟩ := f4 i _ hf
      unfold maxLen at n2 f2
      unfold sv at f5
      rw [hnv] at k2 HA
      rw [hfv] at k1
      replace HA := Lib.hid HA
      simp only at n5
      clear h hd hl ha e1 e2 hfi n3 n4 f3 f4 hnv hfv hf hj
      go_enter Try.func9, Try.ntmps9
      go_wp2_with fail
      refine HA.out.mono ?_
      rintro e w1 ⟨rfl, rfl⟩
      go_wp2_with fail
      go_quiet (fail)
      go_wp2
      go_ret2
      exact ⟨rfl, quiet_upon _ _⟩

def sumTo (st : St) (j : Nat) : Nat := ((st.N.take j).map fun p => (st.F.getD p.2 default).s.length).sum
theorem sumTo_all (st : St) {j : Nat} (h : st.N.length ≤ j) : sumTo st j = used st := by unfold sumTo used; rw [List.take_of_length_le h]
theorem sumTo_step (st : St) {j : Nat} {p : Str × Nat} {f : FileS} (hj : st.N[j]? = some p) (hf : st.F[p.2]? = some f) : sumTo st (j + 1) = sumTo st j + f.s.length := by
  unfold sumTo
  rw [List.take_add_one, hj]
  simp [List.getD_eq_getElem?_getD, hf]
theorem sumTo_le (st : St) (j : Nat) : sumTo st j ≤ used st := by
  have : used st = sumTo st j + ((st.N.drop j).map fun p => (st.F.getD p.2 default).s.length).sum := by
    unfold used sumTo
    rw [← List.sum_append, ← List.map_append, List.take_append_drop]
  omega

set_option maxHeartbeats 1600000 in
theorem refused_any (S : Nat → Prop) (q : Nat) (st : St) (w : World) (h : IsRef w S q st) (hfi : ∀ p ∈ st.N, p.2 < st.F.length) (hu : used st ≤ 4000000000000000000) :
    Calls Try.prog 15 #[.pointer (some ⟨q, 0, none⟩)] w fun e w' => e = .returned (.int .i64 (used st : Int)) ∧ Upon (fun _ => False) w w' := by
  obtain ⟨g, h⟩ := h
  obtain ⟨-, k1, k2, -, -, -, -, -⟩ := r7 h.cell
  obtain ⟨nb, nc, na, hnv, n1, n2, n3⟩ := e_cells h.N
  obtain ⟨fb, fc, fa, hfv, f1, f2, f3⟩ := f_cells h.F
  unfold maxLen at n2 f2
  rw [hnv] at k2
  rw [hfv] at k1
  have N3 := Lib.hid n3
  have F3 := Lib.hid f3
  have FI := Lib.hid hfi
  clear h hnv hfv n3 f3 hfi
  go_enter Try.func15, Try.ntmps15
  go_wp2
  go_loopw [3, 4] (fun t i wr => ∃ j n : Nat, j ≤ st.N.length ∧ i = .int .i64 (j : Int) ∧ t = .int .i64 (sumTo st j : Int) ∧ wr = w.drewN n) (fun _ i _ => st.N.length - (intOf i).toNat)
  case atStart => exact ⟨0, 0, Nat.zero_le _, rfl, rfl, rfl⟩
  case round =>
    obtain ⟨j, n, hj, rfl, rfl, rfl⟩ := hrel
    by_cases hlt : j < st.N.length
    · obtain ⟨p, hp⟩ : ∃ p, st.N[j]? = some p := ⟨_, List.getElem?_eq_getElem hlt⟩
      have hil : p.2 < st.F.length := FI.out _ (List.mem_of_getElem? hp)
      obtain ⟨f, hf⟩ : ∃ f, st.F[p.2]? = some f := ⟨_, List.getElem?_eq_getElem hil⟩
      obtain ⟨rfl, -, n4⟩ := N3.out (by intro e; rw [e] at hlt; simp at hlt)
      obtain ⟨rfl, -, f4⟩ := F3.out (by intro e; rw [e] at hil; simp at hil)
      obtain ⟨-, n5⟩ := n4 j _ hp
      obtain ⟨f5, -⟩ := f4 p.2 _ hf
      have hst := sumTo_step st hp hf
      have hle := Nat.le_trans (sumTo_le st (j + 1)) hu
      rw [hst] at hle
      obtain ⟨xs, hxs⟩ : ∃ xs : ByteArray, xs = ⟨f.s.toArray⟩ := ⟨_, rfl⟩
      have hxl : xs.size = f.s.length := by rw [hxs]; simp [ByteArray.size]
      unfold sv at f5
      rw [← hxs] at f5
      obtain ⟨i, hi⟩ : ∃ i, i = p.2 := ⟨_, rfl⟩
      rw [← hi] at n5 f5 hil
      rw [← hxl] at hle hst
      have hwr : IntKind.i64.wrap ((sumTo st j : Int) + (xs.size : Int)) = ((sumTo st (j + 1) : Nat) : Int) := by
        rw [hst, IntKind.wrap_i64]; push_cast; omega
      clear hst hxs hxl hp hf n4 f4 hi
      go_wp2_with fail
      go_quiet (fail)
      go_wp2
      refine ⟨⟨j + 1, n + nq, by omega, by push_cast; rfl, rfl, rfl⟩, ?_⟩
      simp only [intOf]; omega
    · have : j = st.N.length := by omega
      subst this
      have e := sumTo_all st (Nat.le_refl _)
      rw [e]
      clear e
      go_wp2
      go_ret
      exact ⟨rfl, quiet_upon _ _⟩
theorem cell_upon {T : Nat → Prop} {a b : World} (h : Upon T a b) {k o : Nat} (hk : k < a.heap.size) (hT : ¬ T k := by exact fun h => h) : b.cell? ⟨k, o, none⟩ = a.cell? ⟨k, o, none⟩ := World.cell?_of_block (h.block k hk hT)

/-! ### List -/
theorem infoStr : (Try.prog.info? 9).map (fun i => (i.zero, i.size, i.bytes)) = some (some (.string ByteArray.empty), 1, 16) := by kernel_rfl
/-- The names so far. -/
def ListUp (N : Nms) (w : World) (v i : Value) (wr : World) : Prop :=
  ∃ j : Nat, j ≤ N.length ∧ i = .int .i64 (j : Int) ∧ wr.ownsRow w.heap.size 9 1 v j ((N.take j).map fun p => sv p.1) ∧ Upon (fun _ => False) w wr
theorem listup_end {N : Nms} {w wr : World} {v : Value} {j : Nat} (hj : j = N.length) (h : wr.ownsRow w.heap.size 9 1 v j ((N.take j).map fun p => sv p.1)) : wr.ownsRow w.heap.size 9 1 v N.length (N.map (sv ∘ fun x => x.1)) := by
  subst hj
  rw [List.take_length] at h
  exact h

set_option maxRecDepth 100000 in
set_option maxHeartbeats 1600000 in
theorem reflist_any (S : Nat → Prop) (q : Nat) (st : St) (w : World) (h : IsRef w S q st) (hn : st.N.length ≤ 1000) :
    Calls Try.prog 12 #[.pointer (some ⟨q, 0, none⟩)] w
      fun e w' => ∃ v, e = .returned v ∧ w'.ownsRow w.heap.size 9 1 v (names st).length ((names st).map sv) ∧ Upon (fun _ => False) w w' := by
  have HRf := Lib.hid h
  obtain ⟨g, h⟩ := h
  obtain ⟨-, -, k2, -, -, k5, -, -⟩ := r7 h.cell
  obtain ⟨nb, nc, na, hnv, n1, n2, n3⟩ := e_cells h.N
  unfold maxLen at n2
  rw [hnv] at k2
  have H0 := Lib.hid (World.ownsRow_nil w w.heap.size 9 1)
  cases hd : st.dead with
  | true =>
    have e : names st = [] := by simp [names, hd]
    rw [e]
    rw [hd] at k5
    clear h hd e hnv n3 HRf
    go_enter Try.func12, Try.ntmps12
    go_wp2
    refine wp_loop_rounds 1 ?_
    rw [rounds_succ]
    by_cases h0 : 0 < st.N.length
    · go_wp2
      go_ret
      exact ⟨_, rfl, H0.out, Upon.refl _ _⟩
    · go_wp2
      go_ret
      exact ⟨_, rfl, H0.out, Upon.refl _ _⟩
  | false =>
    have e : names st = st.N.map (·.1) := by simp [names, hd]
    rw [e]
    rw [hd] at k5
    obtain ⟨i0, hi, hz0, hz1, hz2⟩ := info_parts infoStr
    have hql := h.lt q h.s_q
    have hnl : ∀ j p, st.N[j]? = some p → na = some ⟨nb, 0, none⟩ ∧ nb < w.heap.size ∧ w.cell? ⟨nb, j * 2, none⟩ = some (sv p.1) := fun j p hp => by
      have hjl := (List.getElem?_eq_some_iff.1 hp).1
      obtain ⟨x1, x2, x3⟩ := n3 (by intro e; rw [e] at hjl; simp at hjl)
      exact ⟨x1, x2, (x3 j p hp).1⟩
    have N3 := Lib.hid hnl
    clear h hd e hnv n3 HRf hnl
    go_enter Try.func12, Try.ntmps12
    go_wp2
    go_loopw [3, 4] (fun v i wr => ListUp st.N w v i wr) (fun _ i _ => st.N.length - (intOf i).toNat)
    case atStart => exact ⟨0, Nat.zero_le _, rfl, by simpa using H0.out, Upon.refl _ _⟩
    case round =>
      obtain ⟨j, hj, rfl, hrow, hup⟩ := hrel
      have k2' := (cell_upon hup hql (o := 2)).trans k2
      have k5' := (cell_upon hup hql (o := 5)).trans k5
      have HR := Lib.hid hrow
      have HU := Lib.hid hup
      clear hrow hup
      by_cases hlt : j < st.N.length
      · obtain ⟨p, hp⟩ : ∃ p, st.N[j]? = some p := ⟨_, List.getElem?_eq_getElem hlt⟩
        obtain ⟨rfl, x2, x3⟩ := N3.out j p hp
        have x3' := (cell_upon HU.out x2 (o := j * 2)).trans x3
        have ht : st.N.take (j + 1) = st.N.take j ++ [p] := by rw [List.take_add_one, hp]; rfl
        have HT := Lib.hid ht
        clear ht hp x3
        have H1 : Hid (∀ u ∈ [sv p.1], u.oneCell' = true) := Lib.hid (by intro u hu; rw [List.mem_singleton.1 hu]; rfl)
        have H2 : Hid (w.heap.size ≤ (wr.alloc (Obj.cells #[sv p.1] 9)).heap.size) := Lib.hid (by have := HU.out.size; simp; omega)
        go_wp2_with (at_builtin; go_loud (refine wpList_append_own _ rfl _ _ 35 rfl w.heap.size 9 i0 (.string ByteArray.empty) 1 16 Try.underlying35 hi hz0 hz1 hz2 rfl (by decide) _ _ _ rfl (HR.out.alloc _) ⟨wr.heap.size, 0, none⟩ 1 1 [sv p.1] rfl rfl (cell_one_new _ _ _) H1.out (by unfold maxLen; omega) (by omega) H2.out ?_))
        intro v' w3 hrow3 hg3 _
        have hup3 := (HU.out.alloc (Obj.cells #[sv p.1] 9)).grown hg3 (fun k hk => .inr (HR.out.lt k hk).1)
        have hrow4 : w3.ownsRow w.heap.size 9 1 v' (j + 1) ((st.N.take (j + 1)).map fun p => sv p.1) := by
          rw [HT.out, List.map_append, List.map_take]; exact hrow3
        have HX := Lib.hid (show ListUp st.N w v' (.int .i64 ((j : Int) + 1)) w3 from ⟨j + 1, by omega, by push_cast; rfl, hrow4, hup3⟩)
        clear hrow3 hg3 hup3 hrow4
        go_wp2
        refine ⟨HX.out, ?_⟩
        simp only [intOf]; omega
      · have he : j = st.N.length := by omega
        have HE := Lib.hid (listup_end he HR.out)
        subst he
        go_wp2
        go_ret
        refine ⟨_, rfl, ?_, HU.out⟩
        first
        | exact HE.out
        | (rw [List.length_map, List.map_map]; exact HE.out)
end Dsk
end Go.Proofs.Ytiadjjdmhpabnaa
