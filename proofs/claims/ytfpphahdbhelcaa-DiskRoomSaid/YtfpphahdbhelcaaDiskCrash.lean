/- (*Disk).Crash (layer 4). -/
import Derived.Test.YtfpphahdbhelcaaDiskPick
import Derived.Deep.RegionWith
import Derived.Deep.CutRange
import Derived.LoopTactic
namespace Go.Proofs.Ytfpphahdbhelcaa
open Go.RowKit
namespace Dsk
open Go.Maps

set_option maxHeartbeats 800000 in
theorem picker_any (a : Option Addr) (n c : Nat) (w : World) :
    Calls Try.prog 45 #[.slice a n c] w fun e w' => e = .returned (.func (.func 60) #[] #[.pointer (some ⟨w.heap.size, 0, none⟩)]) ∧ w.alloc (.cells #[.slice a n c] 27 (0, 0)) = w' := by
  go_enter Try.func45, Try.ntmps45
  go_wp2
  go_ret
  exact ⟨rfl, rfl⟩

/-- The names behind a crash, and the files when j of them have been cut. -/
def crN (st : St) (keep : List Int) : Nms := (st.C.take (kept1 keep st.C.length)).foldl appC st.L
def crAt (st : St) (keep : List Int) (j : Nat) : St :=
  { room := st.room, dead := false, left := -1, F := cutAll (keep.drop 1) ((crN st keep).take j) st.F, N := crN st keep, L := crN st keep, C := [] }

theorem cutAll_snoc : ∀ (keep : List Int) (N : Nms) (F : List FileS) (p : Str × Nat), cutAll keep (N ++ [p]) F = (cutAll keep N F).modify p.2 fun f => cutF f (f.lasts + kept1 (keep.drop N.length) (f.s.length - f.lasts))
  | keep, [], F, p => by simp [cutAll]
  | keep, q :: r, F, p => by
    rw [List.cons_append]
    unfold cutAll
    rw [cutAll_snoc (keep.drop 1) r _ p]
    congr 1
    rw [List.drop_drop, List.length_cons, Nat.add_comm]
theorem len_cutAll : ∀ (keep : List Int) (N : Nms) (F : List FileS), (cutAll keep N F).length = F.length
  | _, [], _ => rfl
  | keep, p :: r, F => by unfold cutAll; rw [len_cutAll (keep.drop 1) r]; simp
theorem crAt_end (st : St) (keep : List Int) : crAt st keep (crN st keep).length = crash st keep := by
  unfold crAt crash; rw [List.take_length]; rfl
theorem fine_crAt {st : St} (h : Fine st) (keep : List Int) (j : Nat) : Fine (crAt st keep j) := by
  have hk := h.nmK (kept1 keep st.C.length)
  refine ⟨hk.rising, rfl, trivial, fun p hp => by simp only [crAt]; rw [len_cutAll]; exact hk.ins p hp, hk.len, hk.nm, by simp [crAt], ?_, by simp [crAt]⟩
  have : ∀ (N : Nms) (keep : List Int) (F : List FileS), (∀ f ∈ F, f.lasts ≤ f.s.length) → ∀ f ∈ cutAll keep N F, f.lasts ≤ f.s.length := by
    intro N
    induction N with
    | nil => intro _ F hF; exact hF
    | cons p r ih =>
      intro keep F hF
      unfold cutAll
      refine ih _ _ ?_
      intro f hf
      obtain ⟨i, hi, rfl⟩ := List.mem_iff_getElem.1 hf
      rw [List.getElem_modify]
      have hm := hF _ (List.getElem_mem (l := F) (by simpa using hi : i < F.length))
      split
      · have hk := kept1_le keep ((F[i]'(by simpa using hi)).s.length - (F[i]'(by simpa using hi)).lasts)
        simp only [cutF, List.length_take]
        omega
      · exact hm
  exact this _ _ _ h.lasts

/-- Behind settle and the copy of the names. -/
theorem crash_mid {w1 w2 w3 : World} {S : Nat → Prop} {p : Nat} {st : St} {keep : List Int} {g : Ghost} (hf : Fine st) (h : DiskM w2 S p (settle st (kept1 keep st.C.length)) g) (hm : MapAt w3 w2.heap.size g.fs (crN st keep)) (hb : Below w2.heap.size w2 w3)
    (hu : Upon S w1 w2) :
    (w3.cell? ⟨p, 3, none⟩ = some (.map (some g.bn)) ∧ w3.cell? ⟨p, 1, none⟩ = some (.bool (!st.dead)) ∧ w3.cell? ⟨p, 2, none⟩ = some (.int .i64 g.fv) ∧ ∀ o, w3.frozen? ⟨p, o, none⟩ = false) ∧
    ∃ S' g', DiskG (((w3.setCell ⟨p, 3, none⟩ (.map (some w2.heap.size))).setCell ⟨p, 1, none⟩ (.bool true)).setCell ⟨p, 2, none⟩ (.int .i64 (-1))) S' p (crAt st keep 0) g' ∧
      Been S S' w1 (((w3.setCell ⟨p, 3, none⟩ (.map (some w2.heap.size))).setCell ⟨p, 1, none⟩ (.bool true)).setCell ⟨p, 2, none⟩ (.int .i64 (-1))) ∧ ∀ b, S' b → S b ∨ w2.heap.size ≤ b := by
  have hp3 : w3.heap[p]? = some (.cells (cellsOf (settle st (kept1 keep st.C.length)) g) 60 (0, 0)) := (hb.block p (h.lt p h.s_p)).trans h.cell
  obtain ⟨-, k1, k2, k3, -, -, kf⟩ := c6 hp3
  refine ⟨⟨k3, k1, k2, kf⟩, ?_⟩
  have hlt := h.lt p h.s_p
  have hm3 := hm.lt
  have hk : ∀ b, b < w2.heap.size → b ≠ p → (((w3.setCell ⟨p, 3, none⟩ (.map (some w2.heap.size))).setCell ⟨p, 1, none⟩ (.bool true)).setCell ⟨p, 2, none⟩ (.int .i64 (-1))).heap[b]? = w2.heap[b]? := fun b hb' hne => by
    rw [Below.heap_setCell _ _ _ _ hne, Below.heap_setCell _ _ _ _ hne, Below.heap_setCell _ _ _ _ hne]; exact hb.block b hb'
  have hc : ∀ (b : Nat) c T z, S b → w2.heap[b]? = some (Obj.cells c T z) → T ≠ 60 → (((w3.setCell ⟨p, 3, none⟩ (.map (some w2.heap.size))).setCell ⟨p, 1, none⟩ (.bool true)).setCell ⟨p, 2, none⟩ (.int .i64 (-1))).heap[b]? = w2.heap[b]? := fun b c T z hS hb' hT =>
    hk b (h.lt b hS) (by rintro rfl; rw [h.cell] at hb'; simp at hb'; exact hT hb'.2.1.symm)
  have hsz : (((w3.setCell ⟨p, 3, none⟩ (.map (some w2.heap.size))).setCell ⟨p, 1, none⟩ (.bool true)).setCell ⟨p, 2, none⟩ (.int .i64 (-1))).heap.size = w3.heap.size := by simp [World.setCell]
  refine ⟨fun b => S b ∨ b = w2.heap.size, { g with bn := w2.heap.size, fv := -1 }, ?_, ⟨fun b hb => .inl hb, fun b hb => ?_, ?_⟩, fun b hb => hb.elim .inl fun e => .inr (by rw [e]; exact Nat.le_refl _)⟩
  · exact {
      fine := fine_crAt hf keep 0
      cell := by rw [set6 (set6 (set6 hp3))]; rfl
      fuse := rfl
      wf := ⟨by simp only; omega, by simp only; omega⟩
      wr := h.wr
      now := hm.kept (by rw [Below.heap_setCell _ _ _ _ (by simp; omega), Below.heap_setCell _ _ _ _ (by simp; omega), Below.heap_setCell _ _ _ _ (by simp; omega)])
      last := map_kept_cells h.last fun es clock hh => hk _ h.last.lt (by intro e; rw [e, h.cell] at hh; cases hh)
      two := by have := h.last.lt; simp only; omega
      files := (files_keptB h.files fun b c T z hS hb' hT => hc b c T z hS hb' (by rintro rfl; rcases hT with e | e <;> cases e)).mono fun b hb => .inl hb
      chs := (h.chs.keptB fun b c T hS hb' hT => hc b c T _ hS hb' (by rintro rfl; rcases hT with e | e | e <;> cases e)).mono fun b hb => .inl hb
      s_p := .inl h.s_p
      s_n := .inr rfl
      s_l := .inl h.s_l
      lt := fun b hb' => by
        rw [hsz]
        rcases hb' with hb' | hb'
        · exact Nat.lt_of_lt_of_le (h.lt b hb') hb.size
        · rw [hb']; exact hm3 }
  · rcases hb with hb | hb
    · exact .inl hb
    · exact .inr (by rw [hb]; exact hu.size)
  · exact (((hu.trans' (Upon.of_below hb (fun _ => False)) fun _ _ h => h.elim).setCell (p := ⟨p, 3, none⟩) (.inl h.s_p) _).setCell (p := ⟨p, 1, none⟩) (.inl h.s_p) _).setCell (p := ⟨p, 2, none⟩) (.inl h.s_p) _

/-- How far the crash has come: j files are cut. -/
structure CrAt (w w6 : World) (S : Nat → Prop) (p kb gb db : Nat) (st : St) (keep : List Int) (j : Nat) (wr : World) : Prop where
  disk : ∃ S' g, DiskG wr S' p (crAt st keep j) g ∧ Been S S' w wr ∧ ¬ S' kb ∧ (crN st keep ≠ [] → ¬ S' gb) ∧ (keep ≠ [] → ¬ S' db)
  box : ∃ v', wr.heap[kb]? = some (.cells #[v'] 27 (0, 0)) ∧ KeepAt wr v' (keep.drop (1 + j)) db
  row : crN st keep ≠ [] → wr.heap[gb]? = w6.heap[gb]?
  size : w6.heap.size ≤ wr.heap.size

/-- .. one more. -/
theorem crAt_step {w w6 wr w1 w2 : World} {S S' : Nat → Prop} {p kb gb db : Nat} {st : St} {keep : List Int} {j : Nat} {g : Ghost} {x : Str} {i : Nat} {f : FileS} (hd : DiskG wr S' p (crAt st keep j) g) (hbn : Been S S' w wr) (hkb : ¬ S' kb) (hgb : crN st keep ≠ [] → ¬ S' gb) (hdb : keep ≠ [] → ¬ S' db)
    (hkl : kb < w6.heap.size) (hgl : crN st keep ≠ [] → gb < w6.heap.size) (hdl : keep ≠ [] → db < w6.heap.size) (hgk : gb ≠ kb) (hwk : w.heap.size ≤ kb)
    (hrow : crN st keep ≠ [] → wr.heap[gb]? = w6.heap[gb]?) (hsz : w6.heap.size ≤ wr.heap.size)
    (hx : (crN st keep)[j]? = some (x, i)) (hf : (crAt st keep j).F[i]? = some f)
    {m : Nat} (hp : Picked (keep.drop (1 + j)) db kb (f.s.length - f.lasts) wr (.returned (.int .i64 (m : Int))) w1) (hm : m = kept1 (keep.drop (1 + j)) (f.s.length - f.lasts)) {r : Option Nat} (hr : r = g.rows.getD i none)
    (hw : Wrote (blk g.fs i) r (f.s.take (f.lasts + m)) (f.lasts + m) w1 w2) : CrAt w w6 S p kb gb db st keep (j + 1) w2 := by
  subst hr
  obtain ⟨_, ⟨v', hb1, hk1⟩, hg1⟩ := hp
  have hne : crN st keep ≠ [] := by intro e; rw [e] at hx; simp at hx
  have hil := (List.getElem?_eq_some_iff.1 hf).1
  have hd1 : DiskG w1 S' p (crAt st keep j) g := hd.kept (fun b hb => hg1.block b (hd.lt b hb) (fun e => hkb (by cases e; exact hb))) hg1.size
  have hbn1 : Been S S' w w1 := ⟨hbn.sub, hbn.new, hbn.upon.trans' (T := fun k => k = kb) ⟨hg1.os, hg1.tape, hg1.output, hg1.size, fun k hk hn => hg1.block k hk (fun e => hn (Option.some.inj e))⟩ (fun i hi e => by omega)⟩
  have hst := hd1.wrote hf hw (q := fun f => cutF f (f.lasts + kept1 (keep.drop (1 + j)) (f.s.length - f.lasts))) (by simp only [cutF]; rw [hm]) (by
    refine hd1.fine.modF i _ fun f' hf' => ?_
    have hk := kept1_le (keep.drop (1 + j)) (f'.s.length - f'.lasts)
    simp only [cutF, List.length_take]
    omega)
  have e : ({ crAt st keep j with F := (crAt st keep j).F.modify i fun f => cutF f (f.lasts + kept1 (keep.drop (1 + j)) (f.s.length - f.lasts)) } : St) = crAt st keep (j + 1) := by
    unfold crAt
    simp only
    rw [take_snoc' hx, cutAll_snoc]
    have hl : ((crN st keep).take j).length = j := by
      have := (List.getElem?_eq_some_iff.1 hx).1
      simp; omega
    rw [hl, List.drop_drop]
  rw [e] at hst
  obtain ⟨S'', g'', hd2, hbn2⟩ := hst.get
  have hu := hw.upon
  have hfb : ∀ k, (k = blk g.fs i ∨ some k = g.rows.getD i none) → S' k := by
    rintro k (h | h)
    · rw [h]; exact hd1.files.s_f i hil
    · exact hd1.files.s_r i k h.symm
  have hs1 := hg1.size
  refine ⟨⟨S'', g'', hd2, hbn1.trans hbn2, fun h => ?_, fun hn h => ?_, fun hn h => ?_⟩, ⟨v', ?_, ?_⟩, fun _ => ?_, Nat.le_trans hsz (Nat.le_trans hs1 hu.size)⟩
  · rcases hbn2.new _ h with h | h
    · exact hkb h
    · omega
  · rcases hbn2.new _ h with h | h
    · exact hgb hn h
    · have := hgl hn; omega
  · rcases hbn2.new _ h with h | h
    · exact hdb hn h
    · have := hdl hn; omega
  · exact (hu.block kb (by omega) (fun h => hkb (hfb kb h))).trans hb1
  · rw [List.drop_drop] at hk1
    rw [show 1 + (j + 1) = 1 + j + 1 by omega]
    refine hk1.kept fun hn => ?_
    have hkn : keep ≠ [] := by intro e; rw [e] at hn; simp at hn
    exact hu.block db (by have := hdl hkn; omega) (fun h => hdb hkn (hfb db h))
  · rw [hu.block gb (by have := hgl hne; omega) (fun h => hgb hne (hfb gb h)), hg1.block gb (by have := hgl hne; omega) (fun e => hgk (Option.some.inj e))]
    exact hrow hne
end Dsk
end Go.Proofs.Ytfpphahdbhelcaa
