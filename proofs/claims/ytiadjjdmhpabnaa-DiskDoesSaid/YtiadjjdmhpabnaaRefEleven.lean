/- The document's own disk (layer 4): Crash. -/
import Derived.Test.YtiadjjdmhpabnaaRefTen
import Derived.Test.YtiadjjdmhpabnaaLastPure
namespace Go.Proofs.Ytiadjjdmhpabnaa
open Go.RowKit Go.Sort
namespace Dsk
open Go.Maps
set_option linter.unusedVariables false

/-- The cells of a row of changes. -/
theorem c_cells {w : World} {base : Nat} {v : Value} {C : List Chg} (h : w.ownsRow base 85 3 v C.length (C.flatMap cC)) :
    ∃ gb c a, v = .slice a C.length c ∧ C.length ≤ c ∧ c ≤ maxLen ∧ (C ≠ [] → a = some ⟨gb, 0, none⟩ ∧ gb < w.heap.size ∧ ∀ j x, C[j]? = some x → w.cell? ⟨gb, j * 3, none⟩ = some (sv (chFrom x)) ∧ w.cell? ⟨gb, j * 3 + 1, none⟩ = some (sv (chTo x)) ∧ w.cell? ⟨gb, j * 3 + 2, none⟩ = some (.int .i64 (chFile x : Int))) := by
  have hcells := fun g => h.cells (g := g)
  have hfl : ∀ (M : List Chg) (j : Nat) (p : Chg), M[j]? = some p → (M.flatMap cC)[j * 3]? = some (sv (chFrom p)) ∧ (M.flatMap cC)[j * 3 + 1]? = some (sv (chTo p)) ∧ (M.flatMap cC)[j * 3 + 2]? = some (.int .i64 (chFile p : Int)) := by
    intro M
    induction M with
    | nil => intro j p hj; simp at hj
    | cons x r ih =>
      intro j p hj
      have ex : (x :: r).flatMap cC = sv (chFrom x) :: sv (chTo x) :: .int .i64 (chFile x : Int) :: r.flatMap cC := by rw [List.flatMap_cons, cC_is]; rfl
      rw [ex]
      cases j with
      | zero => simp at hj; subst hj; exact ⟨rfl, rfl, rfl⟩
      | succ j =>
        have := ih j p (by simpa using hj)
        rw [show (j + 1) * 3 = j * 3 + 3 by omega, show j * 3 + 3 + 1 = (j * 3 + 1) + 3 by omega, show j * 3 + 3 + 2 = (j * 3 + 2) + 3 by omega]
        exact this
  rcases h.2 with ⟨hv, h0⟩ | ⟨gb, cap, cur, hv, hb, hg, hnc, hcm, _⟩
  · exact ⟨0, 0, none, by rw [hv, h0], by omega, Nat.zero_le _, fun hn => absurd (List.eq_nil_of_length_eq_zero h0) hn⟩
  · refine ⟨gb, cap, _, hv, hnc, hcm, fun _ => ⟨rfl, lt_of_block hg, fun j p hj => ?_⟩⟩
    obtain ⟨h1, h2, h3⟩ := hfl C j p hj
    have a1 := hcells gb (by rw [hv]; rfl) _ _ h1
    have a2 := hcells gb (by rw [hv]; rfl) _ _ h2
    have a3 := hcells gb (by rw [hv]; rfl) _ _ h3
    rw [at_of_add] at a1 a2 a3
    exact ⟨a1, a2, a3⟩

/-- The names that are made anew, change by change. -/
structure Redo (w : World) (S : Nat → Prop) (N : Nms) (v : Value) (wr : World) : Prop where
  row : wr.ownsRow 0 68 2 v N.length (N.flatMap eC)
  own : ∀ b, v.ownBlock = some b → S b ∨ w.heap.size ≤ b
  upon : Upon (fun _ => False) w wr
theorem Redo.next {w wr w' : World} {S : Nat → Prop} {N N' : Nms} {v v' : Value} (h : Redo w S N v wr) (hrow : w'.ownsRow wr.heap.size 68 2 v' N'.length (N'.flatMap eC)) (hu : Upon (fun _ => False) wr w') : Redo w S N' v' w' :=
  ⟨row_le hrow (Nat.zero_le _), fun b hb => .inr (Nat.le_trans h.upon.size (hrow.lt b hb).1), h.upon.trans hu⟩
/-- While the files are cut. -/
structure Cutting (w : World) (S : Nat → Prop) (q : Nat) (st : St) (g : RGhost) (N : Nms) (lv : Value) (F : List FileS) (wr : World) : Prop where
  ref : RefM wr S q { st with F := F } g
  row : wr.ownsRow 0 68 2 lv N.length (N.flatMap eC)
  own : ∀ b, lv.ownBlock = some b → S b ∨ w.heap.size ≤ b
  upon : Upon S w wr
  far : ∀ b, g.fv.ownBlock ≠ some b → b < w.heap.size → wr.heap[b]? = w.heap[b]?
theorem Cutting.first {w wr : World} {S : Nat → Prop} {q : Nat} {st : St} {g : RGhost} {N : Nms} {v : Value} (h : RefM w S q st g) (k : Redo w S N v wr) : Cutting w S q st g N v st.F wr :=
  ⟨h.kept (fun b hb => k.upon.block b (h.lt b hb) (fun f => f)) k.upon.size, k.row, k.own, k.upon.mono fun _ _ f => f.elim, fun b _ hb => k.upon.block b hb (fun f => f)⟩
theorem Cutting.calm {w wr : World} {S : Nat → Prop} {q : Nat} {st : St} {g : RGhost} {N : Nms} {lv : Value} {F : List FileS} (h : Cutting w S q st g N lv F wr) (d : Nat) (os : Array Go.Obj) : Cutting w S q st g N lv F (grow (redrawn wr d) os) := by
  have hb := below_regrown wr d os
  refine ⟨h.ref.calm d os, ownsRow_kept h.row fun b hx => hb.block b (h.row.lt b hx).2, h.own, h.upon.trans' (T := fun _ => False) (Upon.of_below hb _) fun _ _ f => f.elim, fun b hx hl => ?_⟩
  exact (hb.block b (Nat.lt_of_lt_of_le hl h.upon.size)).trans (h.far b hx hl)
theorem Cutting.set {w wr : World} {S : Nat → Prop} {q : Nat} {st : St} {g : RGhost} {N : Nms} {lv : Value} {F F' : List FileS} {fb c j : Nat} {u : Value} (h : Cutting w S q st g N lv F wr) (hv : g.fv = .slice (some ⟨fb, 0, none⟩) F.length c) (hl : F'.length = F.length) (hF : F'.flatMap fC = (F.flatMap fC).set j u) :
    Cutting w S q st g N lv F' (wr.setCell ⟨fb, j, none⟩ u) := by
  have hfb : g.fv.ownBlock = some fb := by rw [hv]; rfl
  have hk : ∀ b, b ≠ fb → (wr.setCell ⟨fb, j, none⟩ u).heap[b]? = wr.heap[b]? := fun b hb => Below.heap_setCell _ _ _ _ hb
  have hqf : q ≠ fb := fun e => not_disk h.ref.cell h.ref.F nF hfb e.symm
  have hr : ∀ {e : TypeId} {size n : Nat} {v : Value} {xs : List Value}, wr.ownsRow 0 e size v n xs → e ≠ 66 → (wr.setCell ⟨fb, j, none⟩ u).ownsRow 0 e size v n xs :=
    fun hrow he => ownsRow_kept hrow fun b hb => hk b (fun e => not_other hrow h.ref.F he hb (by rw [e]; exact hfb))
  refine ⟨{ h.ref with cell := (hk q hqf).trans h.ref.cell, F := ?_, N := hr h.ref.N nEF, L := hr h.ref.L nEF, C := hr h.ref.C (fun e => nFC e.symm), lt := fun b hb => by simp [World.setCell]; exact h.ref.lt b hb }, hr h.row nEF, h.own, h.upon.setCell (p := ⟨fb, j, none⟩) (.inl (h.ref.s_f fb hfb)) _, fun b hx hl => ?_⟩
  · have h1 := h.ref.F
    rw [hv] at h1
    show World.ownsRow _ 0 _ 2 g.fv F'.length (F'.flatMap fC)
    rw [hv, hl, hF]
    exact row_setG h1
  · rw [hk b (fun e => hx (by rw [hfb, e]))]; exact h.far b hx hl
theorem Cutting.drew {w wr : World} {S : Nat → Prop} {q : Nat} {st : St} {g : RGhost} {N : Nms} {lv : Value} {F : List FileS} (h : Cutting w S q st g N lv F wr) : Cutting w S q st g N lv F wr.drew :=
  ⟨h.ref.kept (fun _ _ => rfl) (Nat.le_refl _), ownsRow_kept h.row fun _ _ => rfl, h.own, h.upon.drew, h.far⟩
/-- The five stores at the end. -/
theorem Cutting.done {w wr : World} {S : Nat → Prop} {q : Nat} {st : St} {g : RGhost} {N : Nms} {lv : Value} {F : List FileS} (h : Cutting w S q st g N lv F wr) :
    RStep S q { room := st.room, dead := false, left := -1, F := F, N := N, L := N, C := [] } w (((((wr.setCell ⟨q, 2, none⟩ lv).setCell ⟨q, 3, none⟩ lv).setCell ⟨q, 4, none⟩ (.slice none 0 0)).setCell ⟨q, 5, none⟩ (.bool false)).setCell ⟨q, 6, none⟩ (.int .i64 (-1))) := by
  have hk : ∀ b, b ≠ q → (((((wr.setCell ⟨q, 2, none⟩ lv).setCell ⟨q, 3, none⟩ lv).setCell ⟨q, 4, none⟩ (.slice none 0 0)).setCell ⟨q, 5, none⟩ (.bool false)).setCell ⟨q, 6, none⟩ (.int .i64 (-1))).heap[b]? = wr.heap[b]? := fun b hb => by
    rw [Below.heap_setCell _ _ _ _ hb, Below.heap_setCell _ _ _ _ hb, Below.heap_setCell _ _ _ _ hb, Below.heap_setCell _ _ _ _ hb, Below.heap_setCell _ _ _ _ hb]
  have hsz : (((((wr.setCell ⟨q, 2, none⟩ lv).setCell ⟨q, 3, none⟩ lv).setCell ⟨q, 4, none⟩ (.slice none 0 0)).setCell ⟨q, 5, none⟩ (.bool false)).setCell ⟨q, 6, none⟩ (.int .i64 (-1))).heap.size = wr.heap.size := by simp [World.setCell]
  have hr : ∀ {e : TypeId} {size n : Nat} {v : Value} {xs : List Value}, wr.ownsRow 0 e size v n xs → e ≠ 42 → (((((wr.setCell ⟨q, 2, none⟩ lv).setCell ⟨q, 3, none⟩ lv).setCell ⟨q, 4, none⟩ (.slice none 0 0)).setCell ⟨q, 5, none⟩ (.bool false)).setCell ⟨q, 6, none⟩ (.int .i64 (-1))).ownsRow 0 e size v n xs :=
    fun hrow he => ownsRow_kept hrow fun b hb => hk b (not_disk h.ref.cell hrow he hb)
  have hq := h.ref.cell
  refine ⟨⟨fun x => S x ∨ lv.ownBlock = some x, ⟨⟨g.fv, lv, lv, .slice none 0 0⟩, ?_, hr h.ref.F nF, hr h.row nE, hr h.row nE, World.ownsRow_nil _ _ _ _, ⟨by simp, by simp⟩, h.ref.wr, .inl h.ref.s_q, fun b hb => .inl (h.ref.s_f b hb), fun b hb => .inr hb, fun b hb => .inr hb, (fun b hb => by cases hb), ?_⟩, fun x hx => .inl hx, fun x hx => hx.elim .inl (h.own x)⟩, ?_⟩
  · rw [setR (setR (setR (setR (setR hq))))]; rfl
  · intro b hb
    rw [hsz]
    rcases hb with hb | hb
    · exact h.ref.lt b hb
    · exact (h.row.lt b hb).2
  · have hs := h.ref.s_q
    exact ((((h.upon.setCell (p := ⟨q, 2, none⟩) (.inl hs) _).setCell (p := ⟨q, 3, none⟩) (.inl hs) _).setCell (p := ⟨q, 4, none⟩) (.inl hs) _).setCell (p := ⟨q, 5, none⟩) (.inl hs) _).setCell (p := ⟨q, 6, none⟩) (.inl hs) _

theorem modify_two (F : List FileS) (i M : Nat) {f : FileS} (hf : F[i]? = some f) : (F.modify i fun f => { f with s := f.s.take M }).modify i (fun f => { f with lasts := M }) = F.modify i fun f => cutF f M := by
  rw [List.modify_modify_eq]; rfl
theorem ext_take (s : Str) (M : Nat) (xs : ByteArray) (hx : xs = ⟨s.toArray⟩) : sv (s.take M) = .string (xs.extract 0 M) := by
  subst hx
  unfold sv
  congr 1
  apply ByteArray.ext
  simp

theorem modify_congr {α : Type} {l : List α} {i : Nat} {x : α} {φ ψ : α → α} (h : l[i]? = some x) (he : φ x = ψ x) : l.modify i φ = l.modify i ψ := by
  apply List.ext_getElem?
  intro j
  rw [List.getElem?_modify, List.getElem?_modify]
  by_cases e : i = j
  · subst e; rw [h]; simp [he]
  · simp [e]
theorem cut_next (ks : List Int) (N : Nms) (F : List FileS) (j M : Nat) (p : Str × Nat) (f : FileS) (hp : N[j]? = some p) (hf : (cutAll (ks.drop 1) (N.take j) F)[p.2]? = some f) (hM : M = f.lasts + kept1 (ks.drop (j + 1)) (f.s.length - f.lasts)) :
    cutAll (ks.drop 1) (N.take (j + 1)) F = ((cutAll (ks.drop 1) (N.take j) F).modify p.2 fun f => { f with s := f.s.take M }).modify p.2 fun f => { f with lasts := M } := by
  have hjl := (List.getElem?_eq_some_iff.1 hp).1
  have e : N.take (j + 1) = N.take j ++ [p] := by rw [List.take_add_one, hp]; rfl
  rw [e, cutAll_snoc, List.drop_drop, List.length_take, Nat.min_eq_left (by omega)]
  rw [List.modify_modify_eq]
  refine modify_congr hf ?_
  show cutF f _ = _
  rw [show 1 + j = j + 1 by omega, ← hM]
  rfl
theorem lasts_cut {st : St} (hf : Fine st) (ks : List Int) (N : Nms) (hN : crN st ks = N) (j : Nat) : ∀ f ∈ cutAll (ks.drop 1) (N.take j) st.F, f.lasts ≤ f.s.length := by
  subst hN; exact (fine_crAt hf ks j).lasts
theorem size_cut {st : St} (M : Nat) (h : ∀ f ∈ st.F, f.s.length ≤ M) (ks : List Int) (N : Nms) : ∀ f ∈ cutAll ks N st.F, f.s.length ≤ M :=
  cutAll_mem (P := fun f => f.s.length ≤ M) (fun f m hb => Nat.le_trans (List.length_take_le' _ _) hb) _ _ _ h
theorem KeepAt.calm {w : World} {v : Value} {ks : List Int} {db : Nat} (h : KeepAt w v ks db) (hl : ks ≠ [] → db < w.heap.size) (d : Nat) (os : Array Go.Obj) : KeepAt (grow (redrawn w d) os) v ks db := h.kept fun hn => (below_regrown w d os).block db (hl hn)
set_option maxRecDepth 100000 in
set_option maxHeartbeats 6400000 in
theorem refcrash_any (S : Nat → Prop) (q : Nat) (st : St) (ks : List Int) (v : Value) (db : Nat) (w : World) (h : IsRef w S q st) (hf : Fine st) (hkp : KeepAt w v ks db) (hdb : ks ≠ [] → db < w.heap.size ∧ ¬ S db) (hlen : ∀ f ∈ st.F, f.s.length ≤ 100000000000000) (hC : st.C.length ≤ 1000000000) :
    Calls Try.prog 30 #[.pointer (some ⟨q, 0, none⟩), v] w fun e w' => e = .returned (.tuple #[]) ∧ RStep S q (crash st ks) w w' := by
  obtain ⟨g, h⟩ := h
  obtain ⟨-, k1, -, k3, k4, -, -, -⟩ := r7 h.cell
  obtain ⟨cb, cc, ca, hcv, c1, c2, c3⟩ := c_cells h.C
  unfold maxLen at c2
  rw [hcv] at k4
  obtain ⟨P, hP⟩ : ∃ P, P = kept1 ks st.C.length := ⟨_, rfl⟩
  have hPle : P ≤ st.C.length := by rw [hP]; exact kept1_le _ _
  have HK0 := Lib.hid (show Calls Try.prog 50 #[v, .int .i64 0, .int .i64 (st.C.length : Int)] w (Ans (.int .i64 (P : Int)) w) by
    have := refkept_any ks db 0 st.C.length v (by omega) w hkp
    rw [List.drop_zero, ← hP] at this; exact this)
  replace hP := Lib.hid hP
  have hlt := Lib.hid h.lt
  have hq := h.lt q h.s_q
  have HC := Lib.hid c3
  have HF := Lib.hid hf
  have R0 : Hid (Redo w S st.L g.lv w) := Lib.hid ⟨h.L, fun b hb => .inl (h.s_l b hb), Upon.refl _ _⟩
  have HR := Lib.hid h
  have HKP := Lib.hid hkp
  have hL := h.L
  obtain ⟨lb, lc, la, hlv, -, -, -⟩ := e_cells hL
  rw [hlv] at k3 R0
  clear h hcv c3 hf hkp k1 hL hlv
  go_enter Try.func30, Try.ntmps30
  go_wp2_with fail
  refine HK0.out.mono ?_
  rintro e w1 ⟨rfl, rfl⟩
  clear HK0
  go_wp2_with fail
  clear k3
  go_loopw [5, 6] (fun lv i wr => ∃ (j : Nat) (a : Option Addr) (c : Nat), j ≤ P ∧ i = .int .i64 (j : Int) ∧ lv = .slice a ((st.C.take j).foldl appC st.L).length c ∧ Redo w S ((st.C.take j).foldl appC st.L) lv wr) (fun _ i _ => P - (intOf i).toNat)
  case atStart => exact ⟨0, _, _, Nat.zero_le _, rfl, rfl, R0.out⟩
  case round =>
    obtain ⟨j, a, c, hj, rfl, rfl, hrd⟩ := hrel
    have k4' := (cell_upon hrd.upon hq (o := 4)).trans k4
    by_cases hlt2 : j < P
    · obtain ⟨x, hx⟩ : ∃ x, st.C[j]? = some x := ⟨_, List.getElem?_eq_getElem (by omega)⟩
      obtain ⟨rfl, cl, c4⟩ := HC.out (by intro e; rw [e] at hx; simp at hx)
      obtain ⟨x0, x1, x2⟩ := c4 j x hx
      have y0 := (cell_upon hrd.upon cl (o := j * 3)).trans x0
      have y1 := (cell_upon hrd.upon cl (o := j * 3 + 1)).trans x1
      have y2 := (cell_upon hrd.upon cl (o := j * 3 + 2)).trans x2
      have hnm := HF.out.nmK j
      have hreal : chReal x := by
        have := HF.out.chs x (List.mem_of_getElem? hx)
        cases x with
        | put k i => intro e; have := this.1.1; rw [e] at this; simp at this
        | move a b i => intro e; have := this.2.1.1; rw [e] at this; simp at this
        | del a => trivial
      have hap := apply_is ((st.C.take j).foldl appC st.L) x (.slice a ((st.C.take j).foldl appC st.L).length c) wr hreal (fun p hp e => by have := (hnm.nm p hp).1; rw [e] at this; simp at this) hrd.row (Nat.le_trans hnm.len (by decide))
      have hsnoc : (st.C.take (j + 1)).foldl appC st.L = appC ((st.C.take j).foldl appC st.L) x := by
        rw [List.take_add_one, hx, List.foldl_append]; rfl
      rw [← hsnoc] at hap
      replace hap := Lib.hid hap
      replace hrd := Lib.hid hrd
      have hjC : j < st.C.length := by omega
      clear hnm hreal hsnoc c4 x0 x1 x2 hx
      go_wp2_with fail
      refine hap.out.mono ?_
      rintro e w2 ⟨v', rfl, hrow, hup⟩
      obtain ⟨lb2, lc2, la2, rfl, -, -, -⟩ := e_cells hrow
      have hn := Lib.hid (hrd.out.next hrow hup)
      clear hap hrow hup
      go_wp2_with fail
      go_roundw
      case rel => exact ⟨j + 1, _, _, by omega, by go_num, rfl, hn.out⟩
      case measure => simp [intOf]; omega
    · obtain rfl : j = P := by omega
      have C0 := Lib.hid (Cutting.first HR.out hrd)
      replace hrd := Lib.hid hrd
      have HN : Hid (crN st ks = (st.C.take j).foldl appC st.L) := Lib.hid (by unfold crN; rw [hP.out])
      have hins := Lib.hid (HF.out.nmK j).ins
      clear hP
      generalize (st.C.take j).foldl appC st.L = N at *
      clear hlt2 k4'
      go_wp2_with fail
      go_loopw [7] (fun i wr => ∃ j : Nat, j ≤ N.length ∧ i = .int .i64 (j : Int) ∧ Cutting w S q st g N (.slice a N.length c) (cutAll (ks.drop 1) (N.take j) st.F) wr) (fun i _ => N.length - (intOf i).toNat)
      case atStart => exact ⟨0, Nat.zero_le _, rfl, C0.out⟩
      case round =>
        obtain ⟨j, hj, rfl, hcu⟩ := hrel
        have hFl : (cutAll (ks.drop 1) (N.take j) st.F).length = st.F.length := len_cutAll _ _ _
        by_cases hlt3 : j < N.length
        · obtain ⟨p, hp⟩ : ∃ p, N[j]? = some p := ⟨_, List.getElem?_eq_getElem hlt3⟩
          obtain ⟨i, hi⟩ : ∃ i, i = p.2 := ⟨_, rfl⟩
          have hil : i < st.F.length := by rw [hi]; exact hins.out p (List.mem_of_getElem? hp)
          have hil2 : i < (cutAll (ks.drop 1) (N.take j) st.F).length := by rw [hFl]; exact hil
          obtain ⟨f, hff⟩ : ∃ f, (cutAll (ks.drop 1) (N.take j) st.F)[i]? = some f := ⟨_, List.getElem?_eq_getElem hil2⟩
          have hla := lasts_cut HF.out ks N HN.out j f (List.mem_of_getElem? hff)
          have hsi := size_cut 100000000000000 hlen (ks.drop 1) (N.take j) f (List.mem_of_getElem? hff)
          obtain ⟨D, hD⟩ : ∃ D, D = f.s.length - f.lasts := ⟨_, rfl⟩
          obtain ⟨K, hK⟩ : ∃ K, K = kept1 (ks.drop (j + 1)) D := ⟨_, rfl⟩
          have hKD : K ≤ D := by rw [hK]; exact kept1_le _ _
          obtain ⟨M, hM⟩ : ∃ M, M = f.lasts + K := ⟨_, rfl⟩
          have hMs : M ≤ f.s.length := by omega
          have hnext := cut_next ks N st.F j M p f hp (by rw [← hi]; exact hff) (by rw [← hD, ← hK]; exact hM)
          rw [← hi] at hnext
          obtain ⟨F0, hF0⟩ : ∃ F0, F0 = cutAll (ks.drop 1) (N.take j) st.F := ⟨_, rfl⟩
          rw [← hF0] at hcu hff hnext hil2
          obtain ⟨-, m1, -, -, -, -, -, -⟩ := r7 hcu.ref.cell
          obtain ⟨nb, nc, na, hnv, n1, n2, n3⟩ := e_cells hcu.row
          have hfF : wr.ownsRow 0 66 2 g.fv F0.length (F0.flatMap fC) := hcu.ref.F
          obtain ⟨fb, fc, fa, hfv, f1, f2, f3⟩ := f_cells hfF
          unfold maxLen at n2 f2
          obtain ⟨rfl, nl, n4⟩ := n3 (by intro e; rw [e] at hlt3; simp at hlt3)
          obtain ⟨rfl, fl, f4⟩ := f3 (by intro e; rw [e] at hil2; simp at hil2)
          cases hnv
          obtain ⟨-, n5⟩ := n4 j _ hp
          rw [← hi] at n5
          obtain ⟨f5, f6⟩ := f4 i _ hff
          obtain ⟨xs, hxs⟩ : ∃ xs : ByteArray, xs = ⟨f.s.toArray⟩ := ⟨_, rfl⟩
          have hxl : xs.size = f.s.length := by rw [hxs]; simp [ByteArray.size]
          unfold sv at f5
          rw [← hxs] at f5
          rw [hfv] at m1
          have hfb : g.fv.ownBlock = some fb := by rw [hfv]; rfl
          have hkw : KeepAt wr v ks db := HKP.out.kept fun hn => hcu.far db (fun e => (hdb hn).2 (HR.out.s_f db e)) (hdb hn).1
          have hdl : ks ≠ [] → db < wr.heap.size := fun hn => Nat.lt_of_lt_of_le (hdb hn).1 hcu.upon.size
          have hkept := Lib.hid (fun d os => show Calls Try.prog 50 #[v, .int .i64 (((j + 1 : Nat)) : Int), .int .i64 (D : Int)] (grow (redrawn wr d) os) fun e w' => e = .returned (.int .i64 (K : Int)) ∧ Below (grow (redrawn wr d) os).heap.size (grow (redrawn wr d) os) w' from (refkept_any ks db (j + 1) D v (by omega) _ (hkw.calm hdl d os)).mono fun e w' ⟨he, hw⟩ => ⟨by rw [he, hK], hw ▸ Below.refl _ _⟩)
          have m1' := fun d os => cell_regrown m1 d os
          have f5' := fun d os => cell_regrown f5 d os
          have f6' := fun d os => cell_regrown f6 d os
          have hw1 : wrap64 ((j : Int) + 1) = (((j + 1 : Nat)) : Int) := by rw [IntWalk.wrap64_in _ (by omega)]; push_cast; rfl
          have hw2 : wrap64 ((xs.size : Int) - (f.lasts : Int)) = (D : Int) := by rw [IntWalk.wrap64_in _ (by omega)]; omega
          have hw3 : wrap64 ((f.lasts : Int) + (K : Int)) = (M : Int) := by rw [IntWalk.wrap64_in _ (by omega)]; omega
          have HX := Lib.hid (ext_take f.s M xs hxs)
          have HFF := Lib.hid hff
          have HCU := Lib.hid (fun d os => hcu.calm d os)
          have HNX := Lib.hid hnext
          have HFV := Lib.hid hfv
          have hMx : M ≤ xs.size := by rw [hxl]; exact hMs
          have hlx : f.lasts ≤ xs.size := by rw [hxl]; exact hla
          generalize hLa : f.lasts = La at *
          replace hLa := Lib.hid hLa
          clear hcu hfF hfv f3 f4 n3 n4 hxs hxl hkw hdl hD hK hM hp hi hla hsi hMs hnext hF0 hff m1 hfb nl hKD
          go_wp2_with fail
          clear n5
          refine wp_region_quiet_below (by kernel_rfl) (by kernel_rfl) ?_
          repeat (go_big_quiet_step (first
            | exact Calls.regrown_of (hkept.out _ _)))
          refine wpQuiet_nil ?_
          intro _ hw'
          obtain ⟨⟨dq, osq⟩, hw''⟩ := hw'
          subst hw''
          rw [hw3]
          have q1 := m1' dq osq
          have q5 := f5' dq osq
          have q6 := f6' dq osq
          have hcu2 := HCU.out dq osq
          clear m1' f5' f6' HCU hkept hw1 hw2 hw3
          generalize grow (redrawn wr dq) osq = w3 at *
          have hfz : ∀ o, w3.frozen? ⟨fb, o, none⟩ = false := by
            have hfr := hcu2.ref.F
            rw [HFV.out] at hfr
            obtain ⟨c, hc⟩ := rowT hfr rfl
            exact fun o => Lib.frozen_of_heap hc o
          have hc3 : Cutting w S q st g N _ _ (w3.drew.setCell ⟨fb, i * 2, none⟩ (.string (xs.extract 0 M))) := hcu2.drew.set (F' := F0.modify i fun f => { f with s := f.s.take M }) HFV.out (by rw [List.length_modify]) (by rw [flat_setS F0 i f (f.s.take M) HFF.out rfl, HX.out])
          have hF1 : (F0.modify i fun f => { f with s := f.s.take M })[i]? = some ⟨f.s.take M, f.lasts⟩ := by rw [List.getElem?_modify, HFF.out]; simp
          have hc4 : Cutting w S q st g N _ _ ((w3.drew.setCell ⟨fb, i * 2, none⟩ (.string (xs.extract 0 M))).setCell ⟨fb, i * 2 + 1, none⟩ (.int .i64 (M : Int))) := hc3.set (F' := (F0.modify i fun f => { f with s := f.s.take M }).modify i fun f => { f with lasts := M }) (by rw [List.length_modify]; exact HFV.out) (by rw [List.length_modify]) (flat_setL _ i _ M hF1 rfl)
          rw [← HNX.out] at hc4
          have hc4' := Lib.hid hc4
          have c1 : (w3.drew.setCell ⟨fb, i * 2, none⟩ (.string (xs.extract 0 M))).cell? ⟨q, 1, none⟩ = some (.slice (some ⟨fb, 0, none⟩) F0.length fc) := by
            have := (r7 hc3.ref.cell).2.1
            rw [HFV.out] at this; exact this
          have z1 : w3.drew.frozen? ⟨fb, i * 2, none⟩ = false := hfz _
          have z2 : w3.drew.cell? ⟨fb, i * 2, none⟩ = some (.string xs) := q5
          have z3 : (w3.drew.setCell ⟨fb, i * 2, none⟩ (.string (xs.extract 0 M))).frozen? ⟨fb, i * 2 + 1, none⟩ = false := by
            have hfr := hc3.ref.F
            rw [HFV.out] at hfr
            obtain ⟨c, hc⟩ := rowT hfr rfl
            exact Lib.frozen_of_heap hc _
          have z4 : (w3.drew.setCell ⟨fb, i * 2, none⟩ (.string (xs.extract 0 M))).cell? ⟨fb, i * 2 + 1, none⟩ = some (.int .i64 (f.lasts : Int)) := by
            obtain ⟨fb', fc', fa', e1, -, -, e3⟩ := f_cells (F := F0.modify i fun f => { f with s := f.s.take M }) hc3.ref.F
            have hne2 : (F0.modify i fun f => { f with s := f.s.take M }) ≠ [] := by intro e; rw [e] at hF1; simp at hF1
            obtain ⟨e4, -, e5⟩ := e3 hne2
            rw [HFV.out, e4] at e1
            have e6 : fb = fb' := by
              injection e1 with e7 _ _
              injection e7 with e8
              injection e8
            rw [e6]
            have e9 := (e5 i _ hF1).2
            rw [e6] at e9
            exact e9
          clear hcu2 hc3 hc4 hF1 hfz HX HFF HNX HFV
          go_wp2_with fail
          go_still_tail 17, (by kernel_rfl)
          change wpList _ _ _ _ _ w3.drew
          clear q1 q5 q6
          generalize w3.drew = w4 at *
          go_wp2_with fail
          go_roundw
          case rel => exact ⟨j + 1, by omega, by go_num, hc4'.out⟩
          case measure => simp [intOf]; omega
        · obtain rfl : j = N.length := by omega
          rw [List.take_length] at hcu
          have hdn := hcu.done
          have e : ({ room := st.room, dead := false, left := -1, F := cutAll (ks.drop 1) N st.F, N := N, L := N, C := [] } : St) = crash st ks := by rw [← HN.out]; rfl
          rw [e] at hdn
          replace hdn := Lib.hid hdn
          obtain ⟨-, m1, m2, m3, m4, m5, m6, mf⟩ := r7 hcu.ref.cell
          have f2 := mf 2
          have f3 := mf 3
          have f4 := mf 4
          have f5 := mf 5
          have f6 := mf 6
          clear hcu mf m1 e C0 HR HC R0 HKP hins HF HN k4
          go_wp2_with fail
          go_end0
          exact ⟨rfl, hdn.out⟩
end Dsk
end Go.Proofs.Ytiadjjdmhpabnaa
