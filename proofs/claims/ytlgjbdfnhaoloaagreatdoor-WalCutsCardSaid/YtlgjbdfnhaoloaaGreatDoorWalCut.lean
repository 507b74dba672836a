/- shorten and CutAfter (layer 5). -/
import Derived.Test.YtlgjbdfnhaoloaaGreatDoorWalRepl
set_option linter.unusedSimpArgs false
set_option linter.unusedVariables false
namespace Go.Proofs.YtlgjbdfnhaoloaaGreatDoor
open Go.RowKit Go.Sort
namespace Wal
open Dig Frm Dsk

/-- What shorten leaves. -/
def Short (B : Nat) (W : World) (S : Nat → Prop) (pd pl : Nat) (lg : Lg) (v : Value) (T : Nat → Prop) (l : List GS) (w : World) (q : Tidied) (r : Ending) (w' : World) : Prop :=
  r = .returned (.int .i64 q.err) ∧ (∃ l', Stay B W S pd pl q.st { lg with segs := q.segs } l' v w' ∧ l'.map (·.s) = q.segs) ∧ ∀ b, T b → (∀ y ∈ l, ¬ own y b) → w'.heap[b]? = w.heap[b]?
theorem short_same {B : Nat} {W w : World} {S T : Nat → Prop} {pd pl : Nat} {st : St} {lg : Lg} {l : List GS} {v : Value} (hf : Fr B W S pd st T w) (h : LogM w T pd pl lg l v) {e : Int} (n : Nat) : Short B W S pd pl lg v T l w ⟨lg.segs, st, e⟩ (.returned (.int .i64 e)) (w.drewN n) := by
  refine ⟨rfl, ⟨l, ⟨T, (hf.own (w1 := w.drewN n) ⟨rfl, rfl, rfl, Nat.le_refl _, fun _ _ _ => rfl⟩).narrow fun b hb => .inl hb, ?_⟩, h.eq.symm⟩, fun _ _ _ => rfl⟩
  have := h.kept (w' := w.drewN n) fun _ _ => rfl
  exact this

set_option maxHeartbeats 800000 in
set_option maxRecDepth 100000 in
theorem shorten_nil (B : Nat) (W : World) (S T : Nat → Prop) (pd pl : Nat) (st : St) (lg : Lg) (n : Nat) (v : Value) (w : World) (hf : Fr B W S pd st T w) (h : LogM w T pd pl lg [] v) :
    Calls Tryz.prog 47 #[.pointer (some ⟨pl, 0, none⟩), .int .i64 (n : Int)] w (Short B W S pd pl lg v T [] w (shortenL lg.segs st n)) := by
  have e : shortenL lg.segs st n = ⟨lg.segs, st, 0⟩ := by rw [h.eq]; rfl
  rw [e]
  have HQ := Lib.hid (short_same (e := 0) hf h 0)
  obtain ⟨-, c1, -, -, -, -, -⟩ := h.cells
  obtain ⟨g, c, a, rfl, -⟩ := h.row.shape
  clear hf h e
  go_enter Tryz.func47, Tryz.ntmps47
  go_wp2
  go_ret
  exact HQ.out

theorem shorten_eq {l0 : List GS} {x : GS} {st : St} {n : Nat} (segs : List Seg) (he : segs = (l0 ++ [x]).map (·.s)) : shortenL segs st n =
    if x.s.last ≤ n then ⟨segs, st, 0⟩ else if readE st x.s.name ≠ 0 then ⟨segs, st, readE st x.s.name⟩
    else if (replaceL st x.s.name ((readA st x.s.name).take (x.s.lens.take (n - x.s.first + 1)).sum)).2 ≠ 0 then ⟨segs, (replaceL st x.s.name ((readA st x.s.name).take (x.s.lens.take (n - x.s.first + 1)).sum)).1, (replaceL st x.s.name ((readA st x.s.name).take (x.s.lens.take (n - x.s.first + 1)).sum)).2⟩
    else ⟨segs.dropLast ++ [{ x.s with lens := x.s.lens.take (n - x.s.first + 1) }], (replaceL st x.s.name ((readA st x.s.name).take (x.s.lens.take (n - x.s.first + 1)).sum)).1, 0⟩ := by
  have hl : segs.getLast? = some x.s := by rw [he, List.getLast?_map, List.getLast?_concat]; rfl
  unfold shortenL
  rw [hl]

set_option maxHeartbeats 800000 in
set_option maxRecDepth 100000 in
theorem shorten_fits (B : Nat) (W : World) (S T : Nat → Prop) (pd pl : Nat) (st : St) (lg : Lg) (n : Nat) (hn : n ≤ 1000000000000000) (l0 : List GS) (x : GS) (v : Value) (w : World) (hf : Fr B W S pd st T w) (h : LogM w T pd pl lg (l0 ++ [x]) v) (hle : x.s.last ≤ n) :
    Calls Tryz.prog 47 #[.pointer (some ⟨pl, 0, none⟩), .int .i64 (n : Int)] w (Short B W S pd pl lg v T (l0 ++ [x]) w (shortenL lg.segs st n)) := by
  have e : shortenL lg.segs st n = ⟨lg.segs, st, 0⟩ := by rw [shorten_eq _ h.eq, if_pos hle]
  rw [e]
  have HQ := Lib.hid (fun m => short_same (e := 0) hf h m)
  obtain ⟨-, c1, -, -, -, -, -⟩ := h.cells
  obtain ⟨g, c, a, rfl, -⟩ := h.row.shape
  have HTL := Lib.hid (tail_is T pd pl lg _ _ w h x (by rw [List.getLast?_concat]))
  have hxm : x ∈ l0 ++ [x] := by simp
  have hfi := h.segs.fine x hxm
  have HLS := Lib.hid (fun m => last_any x (w.drewN m) ((h.segs.seg x hxm).drewN m) hfi)
  have hpos : 0 < (l0 ++ [x]).length := by simp
  have hz : (((l0 ++ [x]).length : Int) == 0) = false := by simp; omega
  have hd : decide ((x.s.last : Int) ≤ (n : Int)) = true := decide_eq_true (by omega)
  have hle' : (x.s.last : Int) ≤ (n : Int) := by omega
  generalize (l0 ++ [x]).length = L at *
  generalize x.s.last = la at *
  clear hf h e hfi hxm
  go_enter Tryz.func47, Tryz.ntmps47
  go_wp2_with fail
  refine HTL.out.mono ?_
  rintro r w1 ⟨rfl, m1, rfl⟩
  go_wp2_with fail
  refine (HLS.out m1).mono ?_
  rintro r w1 ⟨rfl, m2, rfl⟩
  have HQ2 := Lib.hid (HQ.out (m1 + m2))
  clear HTL HLS HQ
  go_wp2
  go_ret
  first
  | exact HQ2.out
  | (rw [World.drewN_drewN]; exact HQ2.out)

theorem take_kept (D : ByteArray) (A : Nat) : (D.extract 0 (min A D.size)).data.toList = D.data.toList.take A := by
  rw [Frm.extract_list, List.drop_zero, ← size_list]
  rcases Nat.le_total A D.data.toList.length with h | h
  · rw [Nat.min_eq_left h]
  · rw [Nat.min_eq_right h, List.take_length, List.take_of_length_le h]
theorem len_le_sum (l : List Nat) (h : ∀ z ∈ l, 1 ≤ z) : l.length ≤ l.sum := by
  induction l with
  | nil => exact Nat.le_refl _
  | cons a r ih =>
    have h1 := h a (by simp)
    have h2 := ih fun z hz => h z (by simp [hz])
    simp only [List.length_cons, List.sum_cons]; omega
theorem psums_split (l : List Nat) (k : Nat) (hk : k ≤ l.length) : ∃ ys, intsV (psums l) = intsV (psums (l.take k)) ++ ys := by
  refine ⟨intsV ((psums l).drop (k + 1)), ?_⟩
  unfold intsV
  rw [psums_take l k hk, ← List.map_append, List.take_append_drop]
/-- The segment with fewer records. -/
theorem seg_cut {w : World} {x : GS} (h : SegAt w x) {g c k : Nat} (hv : x.v = .slice (some ⟨g, 0, none⟩) (x.s.lens.length + 1) c) (hk : k ≤ x.s.lens.length) :
    SegAt (w.setCell ⟨x.b, 1, none⟩ (.slice (some ⟨g, 0, none⟩) (k + 1) c)) ⟨x.b, .slice (some ⟨g, 0, none⟩) (k + 1) c, { x.s with lens := x.s.lens.take k }⟩ ∧ Upon (own x) w (w.setCell ⟨x.b, 1, none⟩ (.slice (some ⟨g, 0, none⟩) (k + 1) c)) := by
  have hlk : (x.s.lens.take k).length = k := by rw [List.length_take]; omega
  have hgb : g ≠ x.b := fun e => h.ne (by rw [hv]; exact congrArg some e)
  have hrow := h.row
  rw [hv] at hrow
  obtain ⟨ys, hys⟩ := psums_split x.s.lens k hk
  rw [hys] at hrow
  have hlen : (intsV (psums (x.s.lens.take k))).length = k + 1 := by unfold intsV; rw [List.length_map, psums_length, hlk]
  have hp := row_prefix hrow hlen
  refine ⟨⟨?_, ?_⟩, (Upon.refl _ w).setCell (p := ⟨x.b, 1, none⟩) (.inl (.inl rfl)) _⟩
  · rw [set_at h.cell]; rfl
  · show World.ownsRow _ 0 3 1 _ ((x.s.lens.take k).length + 1) _
    rw [hlk]
    exact ownsRow_kept hp fun b hb => Below.heap_setCell _ _ _ _ (by cases hb; exact hgb)

set_option maxHeartbeats 4000000 in
set_option maxRecDepth 100000 in
theorem shorten_cuts (B : Nat) (W : World) (S T : Nat → Prop) (pd pl : Nat) (st : St) (hF : ∀ f ∈ st.F, f.s.length ≤ 1000000000000) (hC : st.C.length ≤ 900000000) (lg : Lg) (hh : lg.hand = false) (n : Nat) (l0 : List GS) (x : GS) (v : Value) (w : World) (hf : Fr B W S pd st T w) (h : LogM w T pd pl lg (l0 ++ [x]) v)
    (hgt : n < x.s.last) (hfn : x.s.first ≤ n) (hlp : ∀ z ∈ x.s.lens, 1 ≤ z) :
    Calls Tryz.prog 47 #[.pointer (some ⟨pl, 0, none⟩), .int .i64 (n : Int)] w (Short B W S pd pl lg v T (l0 ++ [x]) w (shortenL lg.segs st n)) := by
  have hseq := shorten_eq (st := st) (n := n) _ h.eq
  rw [if_neg (by omega)] at hseq
  have hxm : x ∈ l0 ++ [x] := by simp
  have hfx := h.segs.fine x hxm
  have htop := hfx.top
  have hb2 := hfx.size
  have hb3 := hfx.len
  obtain ⟨j, hj⟩ : ∃ j, n - x.s.first = j := ⟨_, rfl⟩
  have hjl : j + 1 ≤ x.s.lens.length := by unfold Seg.last at hgt; omega
  have hjn : (n : Int) - (x.s.first : Int) = (j : Int) := by omega
  rw [hj] at hseq
  have hxn : x.s.name = nameL x.s.first := rfl
  rw [hxn] at hseq
  have hfile := read_file st hF (nameL x.s.first)
  obtain ⟨D, hD⟩ : ∃ D, fileB st (nameL x.s.first) = D := ⟨_, rfl⟩
  have hDl : readA st (nameL x.s.first) = D.data.toList := by rw [← hD]; unfold fileB; simp
  obtain ⟨E, hE⟩ : ∃ E, readE st (nameL x.s.first) = E := ⟨_, rfl⟩
  obtain ⟨A, hA⟩ : ∃ A, (x.s.lens.take (j + 1)).sum = A := ⟨_, rfl⟩
  have hAle : A ≤ 1000000000000 := by have := sum_take_le x.s.lens (j + 1); omega
  have hkd := take_kept D A
  rw [hDl, hE, hA, ← hkd] at hseq
  rw [hD] at hfile
  obtain ⟨-, cs, -, -, -, -, -⟩ := h.cells
  obtain ⟨gs, cc, aa, hvv, -⟩ := h.row.shape
  rw [hvv] at cs
  have HTL := Lib.hid (fun m => tail_is T pd pl lg _ v (w.drewN m) (h.kept (w' := w.drewN m) fun _ _ => rfl) x (by rw [List.getLast?_concat]))
  have HLS := Lib.hid (fun m => last_any x (w.drewN m) ((h.segs.seg x hxm).drewN m) hfx)
  have HWD := Lib.hid (fun m => And.intro ((hf.own (w1 := w.drewN m) ⟨rfl, rfl, rfl, Nat.le_refl _, fun _ _ _ => rfl⟩).narrow (T' := T) fun b hb => .inl hb) (h.kept (w' := w.drewN m) fun _ _ => rfl))
  have HRD := Lib.hid (fun (T2 : Nat → Prop) (w2 : World) (f2 : Fr B W S pd st T2 w2) => f2.read x.s.first htop)
  rw [hD, hE] at HRD
  have HSEQ := Lib.hid hseq
  have HX := Lib.hid hxm
  have HFX := Lib.hid hfx
  have HKD := Lib.hid hkd
  have HFF := Lib.hid hF
  have HCC := Lib.hid hC
  have HH := Lib.hid hh
  have HEQ := Lib.hid h.eq
  have HLP := Lib.hid hlp
  have hpos : 0 < (l0 ++ [x]).length := by simp
  have hz : (((l0 ++ [x]).length : Int) == 0) = false := by simp; omega
  have hgt' : ¬ ((x.s.last : Int) ≤ (n : Int)) := by omega
  have hd : decide ((x.s.last : Int) ≤ (n : Int)) = false := decide_eq_false hgt'
  have hgtN : ¬ x.s.last ≤ n := by omega
  have hdN : decide (x.s.last ≤ n) = false := decide_eq_false hgtN
  have hz2 : (((l0.length : Nat) : Int) + 1 == 0) = false := by simp; omega
  clear hf h hxm hfx hF hC hh hlp hseq hE hD hDl hkd hxn hvv hj
  go_enter Tryz.func47, Tryz.ntmps47
  go_wp2_with fail
  refine (HTL.out 0).mono ?_
  rintro r w1 ⟨rfl, m1, rfl⟩
  go_wp2_with fail
  refine (HLS.out m1).mono ?_
  rintro r w1 ⟨rfl, m2, rfl⟩
  go_wp2_with fail
  refine (HTL.out _).mono ?_
  rintro r w1 ⟨rfl, m3, rfl⟩
  obtain ⟨f0, h0⟩ := HWD.out (m1 + m2 + m3)
  rw [show (w.drewN (m1 + m2)).drewN m3 = w.drewN (m1 + m2 + m3) from World.drewN_drewN ..]
  clear HTL HLS HWD cs
  have HWW := Lib.hid (show ∀ b : Nat, (w.drewN (m1 + m2 + m3)).heap[b]? = w.heap[b]? from fun _ => rfl)
  generalize w.drewN (m1 + m2 + m3) = w0 at f0 h0 HWW ⊢
  have hfx := HFX.out
  have HN := Lib.hid (name_any x B w0.drew ((h0.segs.seg x HX.out).kept fun _ _ => rfl) hfx (f0.env.kept (w' := w0.drew) (fun _ _ => rfl) (Nat.le_refl _)))
  obtain ⟨d0, -, -, -, -, -, -⟩ := h0.cells
  have HW := Lib.hid (show ∀ w3, Below w0.drew.heap.size w0.drew w3 → Below w0.heap.size w0 w3 ∧ w3.cell? ⟨pl, 0, none⟩ = some (.pointer (some ⟨pd, 0, none⟩)) from fun w3 hb => by
      have hb' : Below w0.heap.size w0 w3 := chain2 (w1 := w0.drew) ⟨rfl, rfl, rfl, Nat.le_refl _, fun _ _ => rfl⟩ hb
      exact ⟨hb', (hb'.cell (p := ⟨pl, 0, none⟩) (f0.lt pl h0.tp)).trans d0⟩)
  have F1 := Lib.hid f0
  have H1 := Lib.hid h0
  clear f0 h0 hfx
  go_wp2_with fail
  go_cut [6, 7] (fun y z wx => y = .string D ∧ z = .int .i64 E ∧ Wrote1 B W S pd st T w0 wx)
  case first =>
    go_region_with (first
      | (go_at_call 33; refine HN.out.mono ?_; rintro r w3 ⟨rfl, hb2⟩; obtain ⟨hb2', d9⟩ := HW.out w3 hb2; replace hb2' := Lib.hid hb2'; clear hb2)
      | (go_at_call 52; refine (HRD.out _ w3 (F1.out.below hb2'.out)).mono ?_; rintro r w4 ⟨rfl, f4, k4, z4⟩; have HWR := Lib.hid (show Wrote1 B W S pd st T w0 w4 from ⟨_, f4, fun b hb => .inl hb, fun b hb => (k4 b (.inl hb)).trans (hb2'.out.block b (F1.out.lt b hb))⟩); clear f4 k4 z4))
    all_goals (go_wp2_with fail; go_meet; exact ⟨rfl, rfl, HWR.out⟩)
  case rest =>
    obtain ⟨rfl, rfl, T', f3, k1, k2⟩ := hcut
    have h3 := (H1.out.kept k2).mono k1
    have HK2 := Lib.hid (fun b (hb : T b) => (k2 b hb).trans (HWW.out b))
    have HK1 := Lib.hid k1
    clear HN HW HRD H1 F1 k1 k2 d0 HWW
    by_cases hE : E = 0
    · subst hE
      have hsg := h3.segs.seg x HX.out
      obtain ⟨g, c, hv, hg, hc1, hc2⟩ := hsg.shape
      unfold maxLen at hc2
      obtain ⟨c0, c1, -, -⟩ := hsg.cells
      have hce := hsg.cell_at (g := g) (by rw [hv]; rfl) (j + 1) hjl
      rw [hA] at hce
      rw [hv] at c1
      have HV := Lib.hid hv
      have hkw : IntKind.i64.wrap ((n : Int) - (x.s.first : Int)) = (j : Int) := by rw [hjn]; exact IntWalk.i64_in _ (by omega)
      have hmin : min (A : Int) (D.size : Int) = ((min A D.size : Nat) : Int) := by omega
      have hM : min A D.size ≤ D.size := Nat.min_le_right _ _
      have hM2 : (D.extract 0 (min A D.size)).size ≤ 1000000000000 := by rw [ByteArray.size_extract]; omega
      have HNX := Lib.hid (fun m => name_any x B (wc.drewN m) (hsg.drewN m) HFX.out (f3.env.kept (w' := wc.drewN m) (fun _ _ => rfl) (Nat.le_refl _)))
      have F3 := Lib.hid f3
      have H3 := Lib.hid h3
      clear f3 h3 hsg hv hg
      generalize hMM : min A D.size = M at *
      go_wp2_with fail
      go_quiet (fail)
      go_wp2_with fail
      refine (HNX.out _).mono ?_
      rintro r w5 ⟨rfl, hb5⟩
      have hb5' := of_drewN hb5
      have f5 := F3.out.below hb5'
      have h5 : LogM w5 (more T' wc w5) pd pl lg (l0 ++ [x]) v := (H3.out.kept fun b hb => hb5'.block b (F3.out.lt b hb)).mono fun b hb => .inl hb
      have HRP := Lib.hid (replace_any B W S (more T' wc w5) pd pl st x.s.first htop (D.extract 0 M) hM2 HFF.out HCC.out w5 f5 h5.tp h5.cells.1)
      have H5 := Lib.hid h5
      have HK5 := Lib.hid (fun b (hb : T b) => (hb5'.block b (F3.out.lt b (HK1.out b hb))).trans (HK2.out b hb))
      clear f5 h5 hb5 hb5' HNX F3 H3
      go_wp2_with fail
      refine HRP.out.mono ?_
      rintro r w6 ⟨rfl, f6, k6, z6⟩
      have hseq := HSEQ.out
      rw [if_neg (fun hh => hh rfl)] at hseq
      have h6 := H5.out.kept k6
      by_cases hE2 : (replaceL st (nameL x.s.first) (D.extract 0 M).data.toList).2 = 0
      · rw [if_neg (fun hh => hh hE2)] at hseq
        rw [hE2]
        have hsx := h6.segs.seg x HX.out
        obtain ⟨s1, s2⟩ := seg_cut hsx HV.out (k := j + 1) hjl
        have hfx' : FineS ({ x.s with lens := x.s.lens.take (j + 1) } : Seg) := ⟨HFX.out.pos, HFX.out.top, by show (x.s.lens.take (j + 1)).sum ≤ _; rw [hA]; omega, by
          show (x.s.lens.take (j + 1)).length ≤ (x.s.lens.take (j + 1)).sum
          exact len_le_sum _ fun z hz => HLP.out z (List.mem_of_mem_take hz)⟩
        have hch := LogM.change (l1 := []) f6 h6 (x' := ⟨x.b, .slice (some ⟨g, 0, none⟩) (j + 1 + 1) c, { x.s with lens := x.s.lens.take (j + 1) }⟩) rfl s1 hfx' (fun b hb => .inl (hb.elim .inl fun e => .inr (by rw [HV.out]; exact e))) s2
        obtain ⟨d1, d2, -, d4⟩ := hsx.cells
        have e1 := d4 1
        have HQ := Lib.hid (show Short B W S pd pl lg v T (l0 ++ [x]) w (shortenL lg.segs st n) (.returned (.int .i64 0)) (w6.setCell ⟨x.b, 1, none⟩ (.slice (some ⟨g, 0, none⟩) (j + 1 + 1) c)) from by
          rw [hseq]
          obtain ⟨y, hy⟩ : ∃ y : GS, y = ⟨x.b, .slice (some ⟨g, 0, none⟩) (j + 1 + 1) c, { x.s with lens := x.s.lens.take (j + 1) }⟩ := ⟨_, rfl⟩
          rw [← hy] at hch
          have hsg : (l0 ++ [y]).map (·.s) = lg.segs.dropLast ++ [{ x.s with lens := x.s.lens.take (j + 1) }] := by
            rw [HEQ.out, List.map_append, List.map_append, List.map_singleton, List.map_singleton, List.dropLast_concat, hy]
          rw [hsg] at hch
          exact ⟨rfl, ⟨l0 ++ [y], ⟨_, hch.1, hch.2⟩, hsg⟩, fun b hb hno => (Below.heap_setCell _ _ _ _ (fun e => hno x (by simp) (.inl e))).trans ((k6 b (.inl (HK1.out b hb))).trans (HK5.out b hb))⟩)
        rw [HV.out] at d2
        clear f6 h6 k6 z6 hsx s1 s2 hch hfx' HRP H5 hseq HSEQ
        go_wp2
        go_ret
        exact HQ.out
      · have hne : ((replaceL st (nameL x.s.first) (D.extract 0 M).data.toList).2 != 0) = true := by rw [bne_iff_ne]; exact hE2
        rw [if_pos hE2] at hseq
        have HQ := Lib.hid (show Short B W S pd pl lg v T (l0 ++ [x]) w (shortenL lg.segs st n) (.returned (.int .i64 (replaceL st (nameL x.s.first) (D.extract 0 M).data.toList).2)) w6 from by
          rw [hseq]
          exact ⟨rfl, ⟨_, ⟨_, f6, h6⟩, HEQ.out.symm⟩, fun b hb _ => (k6 b (.inl (HK1.out b hb))).trans (HK5.out b hb)⟩)
        generalize (replaceL st (nameL x.s.first) (D.extract 0 M).data.toList).2 = E2 at *
        clear f6 h6 k6 z6 HRP H5 hseq HSEQ
        go_wp2
        go_ret
        exact HQ.out
    · have hne : (E != 0) = true := by simp; exact hE
      have HQ := Lib.hid (show Short B W S pd pl lg v T (l0 ++ [x]) w (shortenL lg.segs st n) (.returned (.int .i64 E)) wc from by
        rw [HSEQ.out, if_pos hE]
        exact ⟨rfl, ⟨_, ⟨_, f3, h3⟩, HEQ.out.symm⟩, fun b hb _ => HK2.out b hb⟩)
      clear f3 h3 HSEQ
      go_wp2
      go_ret
      exact HQ.out

theorem shorten_any (B : Nat) (W : World) (S T : Nat → Prop) (pd pl : Nat) (st : St) (hF : ∀ f ∈ st.F, f.s.length ≤ 1000000000000) (hC : st.C.length ≤ 900000000) (lg : Lg) (hh : lg.hand = false) (n : Nat) (hn : n ≤ 1000000000000000) (l : List GS) (v : Value) (w : World) (hf : Fr B W S pd st T w) (h : LogM w T pd pl lg l v)
    (hfn : ∀ x ∈ l, x.s.first ≤ n) (hlp : ∀ x ∈ l, ∀ z ∈ x.s.lens, 1 ≤ z) :
    Calls Tryz.prog 47 #[.pointer (some ⟨pl, 0, none⟩), .int .i64 (n : Int)] w (Short B W S pd pl lg v T l w (shortenL lg.segs st n)) := by
  by_cases hl : l = []
  · subst hl
    exact shorten_nil B W S T pd pl st lg n v w hf h
  · obtain ⟨l0, x, rfl⟩ : ∃ l0 x, l = l0 ++ [x] := ⟨l.dropLast, l.getLast hl, (List.dropLast_concat_getLast hl).symm⟩
    by_cases hle : x.s.last ≤ n
    · exact shorten_fits B W S T pd pl st lg n hn l0 x v w hf h hle
    · exact shorten_cuts B W S T pd pl st hF hC lg hh n l0 x v w hf h (by omega) (hfn x (by simp)) (hlp x (by simp))

/-! ### what taking leaves -/
theorem takeL_err {α : Type} (nm : α → Str) (goes : Nat → Bool) : ∀ (l : List α) (j : Nat) (st : St) (e : Int), e ≠ 0 → takeL nm goes j l st e = (l, st, e)
  | [], _, _, _, _ => rfl
  | x :: r, j, st, e, he => by
    unfold takeL
    rw [if_pos (.inl he), takeL_err nm goes r (j + 1) st e he]
theorem takeL_kept {α : Type} (nm : α → Str) (goes : Nat → Bool) (P : α → Bool) : ∀ (l : List α) (j : Nat) (st : St) {K : List α} {st' : St}, (∀ i x, l[i]? = some x → goes (j + i) = P x) → takeL nm goes j l st 0 = (K, st', 0) → ∀ x ∈ K, P x = false
  | [], _, _, K, st', _, h, x, hx => by
    unfold takeL at h
    injection h with h1 h2
    rw [← h1] at hx; cases hx
  | y :: r, j, st, K, st', hg, h, x, hx => by
    have hy := hg 0 y rfl
    have hr : ∀ i x, r[i]? = some x → goes (j + 1 + i) = P x := fun i x hi => by
      have := hg (i + 1) x (by simpa using hi)
      rw [show j + 1 + i = j + (i + 1) by omega]; exact this
    unfold takeL at h
    by_cases hc : goes j = false
    · rw [if_pos (.inr hc)] at h
      injection h with h1 h2
      have ih := takeL_kept nm goes P r (j + 1) st (K := (takeL nm goes (j + 1) r st 0).1) (st' := st') hr (by rw [← h2])
      rw [← h1] at hx
      rcases List.mem_cons.1 hx with rfl | hx
      · rw [← hy]; exact hc
      · exact ih x hx
    · rw [if_neg (by simp [hc])] at h
      by_cases he : remE st (nm y) = 0
      · rw [he] at h
        injection h with h1 h2
        have ih := takeL_kept nm goes P r (j + 1) (remS st (nm y)) (K := (takeL nm goes (j + 1) r (remS st (nm y)) 0).1) (st' := st') hr (by rw [← h2])
        rw [if_pos rfl, List.nil_append] at h1
        rw [← h1] at hx
        exact ih x hx
      · rw [takeL_err nm goes r (j + 1) _ _ he] at h
        injection h with h1 h2
        injection h2 with h3 h4
        exact absurd h4 he
theorem takeL_F {α : Type} (nm : α → Str) (goes : Nat → Bool) : ∀ (l : List α) (j : Nat) (st : St) (e : Int), (takeL nm goes j l st e).2.1.F = st.F
  | [], _, _, _ => rfl
  | x :: r, j, st, e => by
    unfold takeL
    split
    · exact takeL_F nm goes r (j + 1) st e
    · exact (takeL_F nm goes r (j + 1) _ _).trans (remS_F _ _)

/-- The row is turned round. -/
theorem LogM.turned {w w' : World} {T : Nat → Prop} {pd pl : Nat} {lg : Lg} {l : List GS} {v : Value} (h : LogM w T pd pl lg l v) (hh : lg.hand = false) (hu : Upon (fun b => v.ownBlock = some b) w w') (hlt : ∀ b, T b → b < w.heap.size) (hr : RowAt w' T l.reverse v) :
    LogM w' T pd pl { lg with segs := lg.segs.reverse } l.reverse v := by
  obtain ⟨q1, q2⟩ := h.pl_own
  refine { cell := ?_, row := hr, segs := ⟨fun x hx => ?_, fun x hx => h.segs.inT x (List.mem_reverse.1 hx), ?_, fun x hx => h.segs.fine x (List.mem_reverse.1 hx)⟩, eq := by rw [h.eq, List.map_reverse], tp := h.tp, last := h.last, dur := h.dur, hand := fun e => by rw [hh] at e; cases e }
  · rw [hu.block pl (hlt pl h.tp) q2, h.cell]
    unfold logCells handV
    rw [hh]; rfl
  · have hx' := List.mem_reverse.1 hx
    exact (h.segs.seg x hx').kept fun b hb => hu.block b (hlt b (h.segs.inT x hx' b hb)) fun e => h.row.ne (h.segs.seg x hx') e hb
  · rw [List.pairwise_reverse]
    exact h.segs.apart.imp fun {x y} hxy b h1 h2 => hxy b h2 h1

def TakenG (B : Nat) (W : World) (S : Nat → Prop) (pd pl : Nat) (goes : Nat → Bool) (l : List GS) (G : Nat → World → Prop) (st : St) (lc : Array Value) (T : Nat → Prop) (r : Ending) (w' : World) : Prop :=
  ∃ K st' e v' T', r = .returned (.int .i64 e) ∧ Taken B W S pd pl goes l st lc T w' K st' e v' T' ∧ (e = 0 → G l.length w')
/-- Behind DeleteFunc: the log's cells take the new row. -/
theorem taken_ofG {B : Nat} {W w2 : World} {S T : Nat → Prop} {F : FuncId} {caps : Array Value} {goes : Nat → Bool} {l : List GS} {G : Nat → World → Prop} {U : Nat → Prop} {lc : Array Value} {pd pl eb gb lb : Nat} {st : St} {v : Value} {r : Ending}
    (h : Deleted ⟨B, W, S, F, caps, goes, l, G, U, lc, pd, pl, eb, gb, lb, fun b => v.ownBlock = some b⟩ st T r w2) (hv : ∀ b, v.ownBlock = some b → T b) :
    ∃ v' e, r = .returned v' ∧ (∃ a n c, v' = .slice a n c) ∧ w2.cell? ⟨lb, 0, none⟩ = some (.pointer (some ⟨pl, 0, none⟩)) ∧ w2.heap[pl]? = some (.cells lc 56 (0, 0)) ∧ (w2.setCell ⟨pl, 1, none⟩ v').cell? ⟨eb, 0, none⟩ = some (.int .i64 e) ∧
      TakenG B W S pd pl goes l G st lc T (.returned (.int .i64 e)) (w2.setCell ⟨pl, 1, none⟩ v') := by
  obtain ⟨v', K, st', e, T', rfl, h1, h2, h3, h4⟩ := h
  have hsub := takeL_sub nmG goes l 0 st 0
  rw [h3] at hsub
  have hc := takeL_C nmG goes l 0 st 0
  rw [h3] at hc
  have hple : eb ≠ pl := h2.ne.2.2
  have hrow : RowAt w2 T' K v' := ⟨h4.row, fun b hb => h1 b (hv b (h4.inT b hb))⟩
  have hs := h2.bx.segs.sub hsub
  have hlog := h2.bx.log
  simp only at hlog
  refine ⟨v', e, rfl, ?_, cell_of_one h2.bx.b, hlog, ?_, K, st', e, v', more T' w2 (w2.setCell ⟨pl, 1, none⟩ v'), rfl, ?_, fun he => h2.goes.keep _ _ _ (h2.g he) fun b hb => Below.heap_setCell _ _ _ _ (fun e => h2.ue.2.2.2 (show U pl from (show b = pl from e) ▸ hb))⟩
  · obtain ⟨g, c, a, e, _⟩ := h4.shape
    exact ⟨_, _, _, e⟩
  · rw [World.cell?_setCell_other _ _ _ _ (fun e => hple (by have := congrArg Addr.block e; exact this.symm))]
    exact cell_of_one h2.bx.e
  · have hu : Upon T' w2 (w2.setCell ⟨pl, 1, none⟩ v') := (Upon.refl _ w2).setCell (p := ⟨pl, 1, none⟩) (.inl h2.bx.tp) _
    have hk : ∀ b, b ≠ pl → (w2.setCell ⟨pl, 1, none⟩ v').heap[b]? = w2.heap[b]? := fun b hb => Below.heap_setCell _ _ _ _ hb
    refine { fr := h2.fr.own hu, eq := h3, row := ⟨ownsRow_kept h4.row fun b hb => hk b ?_, fun b hb => .inl (hrow.inT b hb)⟩, segs := ⟨fun x hx => (hs.seg x hx).kept fun b hb => hk b ?_, fun x hx b hb => .inl (hs.inT x hx b hb), hs.apart, hs.fine⟩, cell := set_at hlog, sub := fun b hb => .inl (h1 b hb), c := hc }
    · rintro rfl
      obtain ⟨c, hc⟩ := h4.type _ hb
      rw [hlog] at hc
      simp at hc
    · rintro rfl
      obtain ⟨c, T2, e1, e2⟩ := own_type (hs.seg x hx) hb
      rw [hlog] at e1
      simp at e1
      rcases e2 with rfl | rfl <;> exact absurd e1.2 (by decide)

set_option maxHeartbeats 3200000 in
set_option maxRecDepth 100000 in
theorem takeOut_anyG (B : Nat) (W : World) (S T : Nat → Prop) (F : FuncId) (caps : Array Value) (goes : Nat → Bool) (l : List GS) (G : Nat → World → Prop) (U : Nat → Prop) (lc : Array Value) (pd pl : Nat) (st : St) (v : Value) (w : World)
    (hf : Fr B W S pd st T w) (hg : GoesAt F caps goes l G U) (h0 : G 0 w) (hs : SegsAt w T l) (hr : RowAt w T l v) (hl : w.heap[pl]? = some (.cells lc 56 (0, 0))) (hlc : lc[0]? = some (.pointer (some ⟨pd, 0, none⟩))) (hlv : lc[1]? = some v) (hp : T pl)
    (hU : ∀ b, U b → T b) (hUp : ¬ U pl) (hUs : ∀ x ∈ l, ∀ b, own x b → ¬ U b) (hUr : ∀ b, v.ownBlock = some b → ¬ U b) (hC : st.C.length + l.length ≤ 1000000000) :
    Calls Tryz.prog 45 #[.pointer (some ⟨pl, 0, none⟩), .func (.func F) #[] caps] w (TakenG B W S pd pl goes l G st lc T) := by
  have HS := Lib.hid (fun w1 hu hz h1 h2 h3 => tk_start (w1 := w1) hf hg h0 hs hr hl hlc hp hU hUp hUs hUr hC hu hz h1 h2 h3)
  have HRW := Lib.hid (fun w1 (hu : Upon (fun _ => False) w w1) => (show RowAt w1 (fun b => v.ownBlock = some b) l v from ⟨(hr.kept fun b hb => hu.block b (hf.lt b hb) (fun h => h)).row, fun b hb => hb⟩))
  have HV := Lib.hid hr.inT
  have c1 : w.cell? ⟨pl, 1, none⟩ = some v := by rw [Lib.cell_of_heap hl]; exact hlv
  have HL := Lib.hid (hf.lt pl hp)
  have hvs : ∃ a n c, v = .slice a n c := by obtain ⟨g, c, a, e, _⟩ := hr.shape; exact ⟨_, _, _, e⟩
  have HLV := Lib.hid hlv
  obtain ⟨W1, hW1⟩ : ∃ x, x = (((w.alloc (.cells #[.pointer (some ⟨pl, 0, none⟩)] 28 (0, 0))).alloc (.cells #[.func (.func F) #[] caps] 59 (0, 0))).alloc (.cells #[.int .i64 0] 29 (0, 0))).drew := ⟨_, rfl⟩
  have hu1 : Upon (fun _ => False) w W1 := by rw [hW1]; exact ((((Upon.refl _ w).alloc _).alloc _).alloc _).drew
  have hz1 : W1.heap.size = w.heap.size + 3 := by rw [hW1]; simp
  have hFar := HS.out W1 hu1 (by omega) (by rw [hW1]; exact (Below.heap_alloc _ _ _ (by simp; omega)).trans ((Below.heap_alloc _ _ _ (by simp)).trans (cell_new w _))) (by
    rw [hW1]
    have := cell_new (w.alloc (.cells #[.pointer (some ⟨pl, 0, none⟩)] 28 (0, 0))) (.cells #[.func (.func F) #[] caps] 59 (0, 0))
    exact (Below.heap_alloc _ _ _ (by simp)).trans (by simpa using this)) (by
    rw [hW1]
    have := cell_new ((w.alloc (.cells #[.pointer (some ⟨pl, 0, none⟩)] 28 (0, 0))).alloc (.cells #[.func (.func F) #[] caps] 59 (0, 0))) (.cells #[.int .i64 0] 29 (0, 0))
    have e : ((w.alloc (.cells #[.pointer (some ⟨pl, 0, none⟩)] 28 (0, 0))).alloc (.cells #[.func (.func F) #[] caps] 59 (0, 0))).heap.size = w.heap.size + 2 := by simp
    rw [e] at this
    exact this)
  have HDEL := Lib.hid (delete_any _ st T v W1 hFar (HRW.out W1 hu1) (fun b hb x => ⟨fun h => Option.some.inj (h.symm.trans hb), fun h => by rw [h]; exact hb⟩))
  rw [hW1] at HDEL
  unfold delV at HDEL
  clear hf hg h0 hs hr hl hlc hlv hp hU hUp hUs hUr hC hFar hu1 hz1 hW1 HS HRW
  have c1a := fun (o o2 o3 : Obj) => (World.cell?_alloc_lt ((w.alloc o).alloc o2) o3 ⟨pl, 1, none⟩ (by have := HL.out; simp; omega)).trans ((World.cell?_alloc_lt (w.alloc o) o2 ⟨pl, 1, none⟩ (by have := HL.out; simp; omega)).trans ((World.cell?_alloc_lt w o ⟨pl, 1, none⟩ HL.out).trans c1))
  go_enter Tryz.func45, Tryz.ntmps45
  go_wp2_with fail
  go_region_with (go_at_call 72; refine HDEL.out.mono ?_; rintro r w2 hd; obtain ⟨v', e, rfl, ⟨a', n', c', rfl⟩, d1, d2, d3, hT⟩ := taken_ofG hd HV.out; have d4 : w2.cell? ⟨pl, 1, none⟩ = some v := (by rw [Lib.cell_of_heap d2]; exact HLV.out); have d5 := Lib.frozen_of_heap d2 1; replace hT := Lib.hid hT; clear hd d2)
  all_goals
    clear c1 c1a HDEL HL HV HLV
    go_wp2
    go_ret
    exact hT.out

theorem cut_take {lg : Lg} {l : List GS} {st : St} {n : Nat} (he : lg.segs = l.map (·.s)) {K : List GS} {st' : St} {e : Int} (h : takeL nmG (fun j => decide ((n : Int) < ((l.reverse.getD j ⟨0, .pointer none, default⟩).s.first : Int))) 0 l.reverse st 0 = (K, st', e)) :
    cutT lg st n = (K.map (·.s), st', e) := by
  unfold cutT
  have hg : (fun j => decide (n < (lg.segs.reverse.getD j default).first)) = (fun j => decide ((n : Int) < ((l.reverse.getD j ⟨0, .pointer none, default⟩).s.first : Int))) := by
    funext j
    have : lg.segs.reverse.getD j default = (l.reverse.getD j ⟨0, .pointer none, default⟩).s := by
      rw [he, ← List.map_reverse, List.getD_eq_getElem?_getD, List.getElem?_map, List.getD_eq_getElem?_getD]
      cases l.reverse[j]? <;> rfl
    rw [this]
    exact decide_eq_decide.2 ⟨fun h => by omega, fun h => by omega⟩
  rw [hg, he, ← List.map_reverse]
  exact takeL_segs _ _ _ h

set_option maxHeartbeats 8000000 in
set_option maxRecDepth 100000 in
theorem cut_any (B : Nat) (S : Nat → Prop) (pd pl : Nat) (st : St) (hF : ∀ f ∈ st.F, f.s.length ≤ 1000000000000) (hC : st.C.length ≤ 800000000) (lg : Lg) (hsl : lg.segs.length ≤ 1000000) (hlp : ∀ s ∈ lg.segs, ∀ z ∈ s.lens, 1 ≤ z) (n : Nat) (h1 : lg.first ≤ n + 1) (h2 : n ≤ lg.last) (h3 : lg.first ≤ 1000000000000) (w : World) (h : LG B w S pd pl st lg) :
    Calls Tryz.prog 18 #[.pointer (some ⟨pl, 0, none⟩), .int .i64 (n : Int)] w (Did B S pd pl (cutL lg st (n : Int)) w) := by
  obtain ⟨T, l, v, hf, h⟩ := h
  have hll : l.length ≤ 1000000 := by rw [h.eq, List.length_map] at hsl; exact hsl
  have hla := h.last
  -- the box
  obtain ⟨w1, hw1⟩ : ∃ w1, w1 = w.alloc (.cells #[.int .i64 (n : Int)] 3 (0, 0)) := ⟨_, rfl⟩
  have hb1 : Below w.heap.size w w1 := by rw [hw1]; exact (Below.refl _ _).alloc (Nat.le_refl _) _
  have hk1 : ∀ b, T b → w1.heap[b]? = w.heap[b]? := fun b hb => hb1.block b (hf.lt b hb)
  have hz1 : w1.heap.size = w.heap.size + 1 := by rw [hw1]; simp
  have hbox : w1.heap[w.heap.size]? = some (.cells #[.int .i64 (n : Int)] 3 (0, 0)) := by rw [hw1]; exact cell_new w _
  have f1 := hf.below hb1
  have g1 : LogM w1 (more T w w1) pd pl lg l v := (h.kept hk1).mono fun b hb => .inl hb
  have hbT : more T w w1 w.heap.size := .inr ⟨Nat.le_refl _, by omega⟩
  have hne : w.heap.size ≠ pl := fun e => by have := hf.lt pl h.tp; omega
  have hxb : ∀ x ∈ l, ¬ own x w.heap.size := fun x hx ho => by have := hf.lt _ (h.segs.inT x hx _ ho); omega
  have hvb : v.ownBlock ≠ some w.heap.size := fun e => by have := hf.lt _ (h.row.inT _ e); omega
  have HFQ : Hid (∀ m, Calls Tryz.prog 20 #[.pointer (some ⟨pl, 0, none⟩)] (w1.drewN m) fun e w'' => e = .returned (.int .i64 (lg.first : Int)) ∧ ∃ q, w'' = w1.drewN q) :=
    Lib.hid fun m => (first_is (more T w w1) pd pl lg l v (w1.drewN m) (g1.kept (w' := w1.drewN m) fun _ _ => rfl)).mono fun e w' hh => ⟨hh.1, m, hh.2.symm⟩
  obtain ⟨-, -, c2, -, c4, -, fr⟩ := g1.cells
  have fr2 := fr 2
  have cb : w1.cell? ⟨w.heap.size, 0, none⟩ = some (.int .i64 (n : Int)) := cell_of_one hbox
  have HBX := Lib.hid hbox
  have HST := Lib.hid (fun m => LogM.set ((f1.own (w1 := w1.drewN m) ⟨rfl, rfl, rfl, Nat.le_refl _, fun _ _ _ => rfl⟩).narrow (T' := more T w w1) fun b hb => .inl hb) (g1.kept (w' := w1.drewN m) fun _ _ => rfl) (lg' := { lg with hand := false }) (x := .pointer none) 2 rfl g1.last g1.dur (fun hh => by cases hh) rfl)
  have hq1 : ¬ ((n : Int) < (lg.first : Int) - 1) := by omega
  have hq2 : ¬ ((lg.last : Int) < (n : Int)) := by omega
  have hd1 : decide ((n : Int) < (lg.first : Int) - 1) = false := decide_eq_false hq1
  have hd2 : decide ((lg.last : Int) < (n : Int)) = false := decide_eq_false hq2
  have hd2n : decide (lg.last < n) = false := decide_eq_false (by omega)
  have HB0 := Lib.hid (show w1 = w.alloc (.cells #[.int .i64 (n : Int)] 3 (0, 0)) from hw1)
  have HEQ := Lib.hid h.eq
  obtain ⟨hx, hhx⟩ : ∃ x, handV lg.hand l = x := ⟨_, rfl⟩
  rw [hhx] at c2
  clear fr hb1 hk1 hf h f1 g1 hbox hhx hw1
  go_enter Tryz.func18, Tryz.ntmps18
  go_wp2_with fail
  rw [← HB0.out]
  go_quiet ((go_at_call 20; exact HFQ.out _))
  go_wp2_with fail
  obtain ⟨f2, g2⟩ := HST.out nq
  have hbox2 : ((w1.drewN nq).setCell ⟨pl, 2, none⟩ (.pointer none)).heap[w.heap.size]? = some (.cells #[.int .i64 (n : Int)] 3 (0, 0)) := (Below.heap_setCell _ _ _ _ hne).trans HBX.out
  have htl : ∀ b, more T w w1 b → b < ((w1.drewN nq).setCell ⟨pl, 2, none⟩ (.pointer none)).heap.size := f2.lt
  generalize hw2 : (w1.drewN nq).setCell ⟨pl, 2, none⟩ (.pointer none) = w2 at *
  clear hw2
  have cb2 : w2.cell? ⟨w.heap.size, 0, none⟩ = some (.int .i64 (n : Int)) := cell_of_one hbox2
  obtain ⟨-, e1, -, -, e4, -, -⟩ := g2.cells
  simp only at e4
  obtain ⟨gs, cc, aa, rfl, -⟩ := g2.row.shape
  have F2 := Lib.hid f2
  have G2 := Lib.hid g2
  have HB2 := Lib.hid hbox2
  clear f2 g2 hbox2 HST HBX HFQ c2 c4 cb fr2 hq1 hq2 hd1 hd2 hd2n HB0
  by_cases hnl : n = lg.last
  · have hbe : ((n : Int) == (lg.last : Int)) = true := by simp; omega
    have HQ := Lib.hid (fun m => (show Did B S pd pl (cutL lg st (n : Int)) w (.returned (.int .i64 0)) (w2.drewN m) from by
      have e : cutL lg st (n : Int) = ⟨{ lg with hand := false }, st, 0⟩ := by unfold cutL; rw [if_neg (by omega), if_pos (by omega)]
      unfold Did
      rw [e]
      exact ⟨rfl, LStep.of ((F2.out.own (w1 := w2.drewN m) ⟨rfl, rfl, rfl, Nat.le_refl _, fun _ _ _ => rfl⟩).narrow (T' := more T w w1) fun b hb => .inl hb) (G2.out.kept (w' := w2.drewN m) fun _ _ => rfl)⟩))
    go_quiet (fail)
    have HQ2 := Lib.hid (HQ.out nq)
    clear HQ
    go_wp2
    go_ret
    exact HQ2.out
  · have hbe : ((n : Int) == (lg.last : Int)) = false := by simp; omega
    go_quiet (fail)
    -- turned round
    have F3 := Lib.hid ((F2.out.own (w1 := w2.drewN nq) ⟨rfl, rfl, rfl, Nat.le_refl _, fun _ _ _ => rfl⟩).narrow (T' := more T w w1) fun b hb => .inl hb)
    have G3 := Lib.hid (G2.out.kept (w' := w2.drewN nq) fun _ _ => rfl)
    have HB3 := Lib.hid (show (w2.drewN nq).heap[w.heap.size]? = _ from HB2.out)
    have e1' : (w2.drewN nq).cell? ⟨pl, 1, none⟩ = _ := e1
    generalize hw3 : w2.drewN nq = w3 at *
    clear hw3 F2 G2 HB2 e1 e4 cb2 hbe
    have HRV := Lib.hid (reverse_any (more T w w1) l _ w3 G3.out.row)
    go_wp2_with fail
    refine HRV.out.mono ?_
    rintro r w4 ⟨rfl, hu4, hr4⟩
    have huT : Upon (more T w w1) w3 w4 := hu4.mono fun b _ hb => G3.out.row.inT b hb
    have f4 := (F3.out.own huT).narrow (T' := more T w w1) fun b hb => .inl hb
    have g4 := LogM.turned G3.out rfl hu4 F3.out.lt hr4
    have hbox4 : w4.heap[w.heap.size]? = some (.cells #[.int .i64 (n : Int)] 3 (0, 0)) := (hu4.block _ (F3.out.lt _ hbT) hvb).trans HB3.out
    have HTK := Lib.hid (takeOut_anyG B w S (more T w w1) _ _ _ l.reverse _ _ _ pd pl st _ w4 f4 (goes_cut l.reverse w.heap.size (n : Int) (by omega)) hbox4 g4.segs g4.row g4.cell rfl rfl g4.tp (fun b hb => by rw [hb]; exact hbT) (fun e => hne e.symm) (fun x hx b hb e => hxb x (List.mem_reverse.1 hx) (by rw [← e]; exact hb)) (fun b hb e => hvb (by rw [← e]; exact hb)) (by rw [List.length_reverse]; omega))
    have HP := Lib.hid g4.tp
    have e4 := g4.cells.2.1
    clear hu4 hr4 huT f4 g4 hbox4 HRV F3 HB3 e1'
    go_wp2_with fail
    refine HTK.out.mono ?_
    rintro r w5 ⟨K, st', e, v', T', rfl, ht, hbox5⟩
    have g5 := taken_log (lg := { { lg with hand := false } with segs := lg.segs.reverse }) rfl G3.out.last G3.out.dur ht HP.out
    have f5 := ht.fr
    have hcut := cut_take HEQ.out ht.eq
    have hKsub : ∀ x ∈ K, x ∈ l := by
      intro x hx
      have h1 := (takeL_sub nmG _ l.reverse 0 st 0).subset (by rw [ht.eq]; exact hx)
      exact List.mem_reverse.1 h1
    have hF' : ∀ f ∈ st'.F, f.s.length ≤ 1000000000000 := by
      have h1 := takeL_F nmG (fun j => decide ((n : Int) < ((l.reverse.getD j ⟨0, .pointer none, default⟩).s.first : Int))) l.reverse 0 st 0
      rw [ht.eq] at h1
      rw [show st'.F = st.F from h1]; exact hF
    have hC' : st'.C.length ≤ 900000000 := by have := ht.c; rw [List.length_reverse] at this; omega
    have hfst : e = 0 → ∀ x ∈ K, x.s.first ≤ n := by
      intro he x hx
      have h1 := takeL_kept nmG (fun j => decide ((n : Int) < ((l.reverse.getD j ⟨0, .pointer none, default⟩).s.first : Int))) (fun x => decide ((n : Int) < (x.s.first : Int))) l.reverse 0 st (K := K) (st' := st') (fun i x hi => by
        simp only [Nat.zero_add]
        rw [List.getD_eq_getElem?_getD, hi]; rfl) (by rw [ht.eq, he]) x hx
      simp at h1
      omega
    have hlpK : ∀ x ∈ K, ∀ z ∈ x.s.lens, 1 ≤ z := fun x hx z hz => hlp x.s (by rw [HEQ.out]; exact List.mem_map.2 ⟨x, hKsub x hx, rfl⟩) z hz
    have hres : cutL lg st (n : Int) = if e ≠ 0 then ⟨{ lg with hand := false, segs := (K.map (·.s)).reverse }, st', e⟩ else
        if (shortenL (K.map (·.s)).reverse st' n).err ≠ 0 then ⟨{ lg with hand := false, segs := (shortenL (K.map (·.s)).reverse st' n).segs }, (shortenL (K.map (·.s)).reverse st' n).st, (shortenL (K.map (·.s)).reverse st' n).err⟩
        else endL { lg with hand := false, segs := (shortenL (K.map (·.s)).reverse st' n).segs } (shortenL (K.map (·.s)).reverse st' n).st n := by
      unfold cutL
      rw [if_neg (by omega), if_neg (by omega)]
      simp only [Int.toNat_natCast, hcut]
    obtain ⟨gs2, cc2, aa2, rfl, -⟩ := g5.row.shape
    have HRV := Lib.hid (reverse_any T' K _ w5 g5.row)
    have e5 := g5.cells.2.1
    have F5 := Lib.hid f5
    have G5 := Lib.hid g5
    have HRES := Lib.hid hres
    have HF' := Lib.hid hF'
    have HC' := Lib.hid hC'
    have HFST := Lib.hid hfst
    have HLPK := Lib.hid hlpK
    have HB5 := Lib.hid (show e = 0 → w5.heap[w.heap.size]? = some (.cells #[.int .i64 (n : Int)] 3 (0, 0)) ∧ w.heap.size < w5.heap.size ∧ (Value.slice aa2 K.length cc2).ownBlock ≠ some w.heap.size from fun he => ⟨hbox5 he, ht.fr.lt _ (ht.sub _ hbT), fun e => by
      obtain ⟨c, hc⟩ := g5.row.type _ e
      have hb : w5.heap[w.heap.size]? = some (.cells #[.int .i64 (n : Int)] 3 (0, 0)) := hbox5 he
      rw [hc] at hb
      simp at hb⟩)
    have HTB := Lib.hid (ht.sub _ hbT)
    have HKB := Lib.hid (show ∀ y ∈ K, ¬ own y w.heap.size from fun y hy => hxb y (hKsub y hy))
    clear ht hbox5 HTK HP e4 hres hcut hKsub hF' hC' hfst hlpK f5 g5 G3
    go_wp2_with fail
    refine HRV.out.mono ?_
    rintro r w6 ⟨rfl, hu6, hr6⟩
    have f6 := (F5.out.own (hu6.mono fun b _ hb => G5.out.row.inT b hb)).narrow (T' := T') fun b hb => .inl hb
    have g6 := LogM.turned G5.out rfl hu6 F5.out.lt hr6
    have HU6 := Lib.hid hu6
    clear hu6 hr6 HRV F5 G5 e5
    by_cases he : e = 0
    · subst he
      have HSH := Lib.hid (shorten_any B w S T' pd pl st' HF'.out HC'.out _ rfl n (by omega) K.reverse _ w6 f6 g6 (fun x hx => HFST.out rfl x (List.mem_reverse.1 hx)) (fun x hx => HLPK.out x (List.mem_reverse.1 hx)))
      simp only at HSH
      have cb6 : w6.cell? ⟨w.heap.size, 0, none⟩ = some (.int .i64 (n : Int)) := by
        obtain ⟨b1, b2, b3⟩ := HB5.out rfl
        exact cell_of_one ((HU6.out.block _ b2 b3).trans b1)
      have hres := HRES.out
      rw [if_neg (fun h => h rfl)] at hres
      have hKr : (K.map (·.s)).reverse = K.reverse.map (·.s) := by rw [List.map_reverse]
      rw [hKr] at hres HSH
      have HRES2 := Lib.hid hres
      have hfr : ∀ o, w6.frozen? ⟨w.heap.size, o, none⟩ = false := fun o => by
        obtain ⟨b1, b2, b3⟩ := HB5.out rfl
        exact Lib.frozen_of_heap ((HU6.out.block _ b2 b3).trans b1) o
      clear f6 g6 hres HRES HF' HC' HFST HLPK HB5 HU6 hKr
      have hTb : T' w.heap.size := HTB.out
      have hKb : ∀ y ∈ K.reverse, ¬ own y w.heap.size := fun y hy ho => HKB.out y (List.mem_reverse.1 hy) ho
      have HKBR := Lib.hid hKb
      have HTB2 := Lib.hid hTb
      clear hKb hTb HTB HKB
      generalize shortenL (K.reverse.map (·.s)) st' n = q at *
      go_wp2_with fail
      refine HSH.out.mono ?_
      rintro r w7 ⟨rfl, ⟨l', ⟨T7, f7, g7⟩, hl7⟩, hk7⟩
      have cb7 : w7.cell? ⟨w.heap.size, 0, none⟩ = some (.int .i64 (n : Int)) := (World.cell?_of_block (w := w6) (a := ⟨w.heap.size, 0, none⟩) (hk7 _ HTB2.out HKBR.out)).trans cb6
      by_cases hqe : q.err = 0
      · have HEN := Lib.hid (endAt_any B w S T7 pd pl q.st _ l' _ n (by omega) w7 f7 g7)
        have HQ := Lib.hid (show ∀ w8, Stay B w S pd pl (endL { lg with hand := false, segs := q.segs } q.st n).st (endL { lg with hand := false, segs := q.segs } q.st n).lg l' (.slice aa2 K.length cc2) w8 → Did B S pd pl (cutL lg st (n : Int)) w (.returned (.int .i64 (endL { lg with hand := false, segs := q.segs } q.st n).err)) w8 from fun w8 ⟨T8, f8, g8⟩ => by
          unfold Did
          rw [HRES2.out, if_neg (fun h => h hqe)]
          exact ⟨rfl, LStep.of f8 g8⟩)
        rw [hqe]
        clear f7 g7 hl7 hk7 HSH HRES2 cb6 hqe
        simp only at HEN
        generalize endL { lg with hand := false, segs := q.segs } q.st n = Z at *
        go_wp2_with fail
        refine HEN.out.mono ?_
        rintro r w8 ⟨rfl, hst8⟩
        have HQ8 := Lib.hid (HQ.out w8 hst8)
        clear hst8 HEN HQ
        go_wp2
        go_ret
        exact HQ8.out
      · have hqn : (q.err != 0) = true := by simp; exact hqe
        have HQ := Lib.hid (show Did B S pd pl (cutL lg st (n : Int)) w (.returned (.int .i64 q.err)) w7 from by
          unfold Did
          rw [HRES2.out, if_pos hqe]
          exact ⟨rfl, LStep.of f7 g7⟩)
        clear f7 g7 hl7 hk7 HSH HRES2 cb6
        generalize q.err = E at *
        go_wp2
        go_ret
        exact HQ.out
    · have hnee : (e != 0) = true := by simp; exact he
      have HQ := Lib.hid (show Did B S pd pl (cutL lg st (n : Int)) w (.returned (.int .i64 e)) w6 from by
        unfold Did
        rw [HRES.out, if_pos he]
        exact ⟨rfl, LStep.of f6 g6⟩)
      clear f6 g6 HRES HF' HC' HFST HLPK HB5 HU6
      go_wp2
      go_ret
      exact HQ.out
end Wal
end Go.Proofs.YtlgjbdfnhaoloaaGreatDoor
