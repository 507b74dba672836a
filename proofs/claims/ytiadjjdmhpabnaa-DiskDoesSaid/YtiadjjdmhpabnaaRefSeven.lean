/- The document's own disk (layer 4): change. -/
import Derived.Test.YtiadjjdmhpabnaaRefSix
import Derived.Deep.RegionWith
import Derived.Deep.RegionLaw
namespace Go.Proofs.Ytiadjjdmhpabnaa
open Go.RowKit
namespace Dsk
open Go.Maps
set_option linter.unusedVariables false

theorem not_disk {w : World} {q b : Nat} {c : Array Value} {base size n : Nat} {e : TypeId} {v : Value} {xs : List Value} (hq : w.heap[q]? = some (.cells c 42 (0, 0))) (hrow : w.ownsRow base e size v n xs) (he : e ≠ 42) (hb : v.ownBlock = some b) : b ≠ q := by
  rintro rfl
  obtain ⟨c, hc⟩ := rowT hrow hb
  rw [hq] at hc
  simp at hc
  exact he hc.2.symm
theorem not_other {w : World} {b : Nat} {base size n base' size' n' : Nat} {e e' : TypeId} {v v' : Value} {xs xs' : List Value} (h : w.ownsRow base e size v n xs) (h' : w.ownsRow base' e' size' v' n' xs') (he : e ≠ e') (hb : v.ownBlock = some b) : v'.ownBlock ≠ some b := by
  intro hb'
  obtain ⟨c, hc⟩ := rowT h hb
  obtain ⟨c', hc'⟩ := rowT h' hb'
  rw [hc] at hc'
  simp at hc'
  exact he hc'.2
theorem nF : (66 : TypeId) ≠ 42 := by decide
theorem nE : (68 : TypeId) ≠ 42 := by decide
theorem nC : (85 : TypeId) ≠ 42 := by decide
theorem nFC : (66 : TypeId) ≠ 85 := by decide
theorem nEC : (68 : TypeId) ≠ 85 := by decide
theorem nEF : (68 : TypeId) ≠ 66 := by decide

/-- The names are a new row. -/
theorem RefM.setN {w w1 : World} {S : Nat → Prop} {q : Nat} {st : St} {g : RGhost} {v' : Value} {N' : Nms} (h : RefM w S q st g) (hu : Upon (fun _ => False) w w1) (hrow : w1.ownsRow w.heap.size 68 2 v' N'.length (N'.flatMap eC)) :
    ∃ S', RefM (w1.setCell ⟨q, 2, none⟩ v') S' q { st with N := N' } { g with nv := v' } ∧ Been S S' w (w1.setCell ⟨q, 2, none⟩ v') := by
  have hql := h.lt q h.s_q
  have hk : ∀ b, S b → b ≠ q → (w1.setCell ⟨q, 2, none⟩ v').heap[b]? = w.heap[b]? := fun b hb hne => by
    rw [Below.heap_setCell _ _ _ _ hne]; exact hu.block b (h.lt b hb) (fun f => f)
  have hq1 : w1.heap[q]? = some (.cells (rCells st g) 42 (0, 0)) := (hu.block q hql (fun f => f)).trans h.cell
  have hr : ∀ {e : TypeId} {size n : Nat} {v : Value} {xs : List Value}, w.ownsRow 0 e size v n xs → (∀ b, v.ownBlock = some b → S b) → e ≠ 42 → (w1.setCell ⟨q, 2, none⟩ v').ownsRow 0 e size v n xs :=
    fun hrow hs he => ownsRow_kept hrow fun b hb => hk b (hs b hb) (not_disk h.cell hrow he hb)
  have hlt : ∀ b, v'.ownBlock = some b → w.heap.size ≤ b ∧ b < w1.heap.size := fun b hb => hrow.lt b hb
  have hsz : (w1.setCell ⟨q, 2, none⟩ v').heap.size = w1.heap.size := by simp [World.setCell]
  refine ⟨fun x => S x ∨ v'.ownBlock = some x, ⟨?_, hr h.F h.s_f nF, ?_, hr h.L h.s_l nE, hr h.C h.s_c nC, h.wl, h.wr, .inl h.s_q, fun b hb => .inl (h.s_f b hb), fun b hb => .inr hb, fun b hb => .inl (h.s_l b hb), fun b hb => .inl (h.s_c b hb), ?_⟩, ⟨fun x hx => .inl hx, fun x hx => hx.imp id fun e => (hlt x e).1, ?_⟩⟩
  · rw [setR hq1]; rfl
  · exact ownsRow_kept (row_le hrow (Nat.zero_le _)) fun b hb => Below.heap_setCell _ _ _ _ (fun e => by have := (hlt b hb).1; have e2 : b = q := e; omega)
  · intro b hb
    rw [hsz]
    rcases hb with hb | hb
    · exact Nat.lt_of_lt_of_le (h.lt b hb) hu.size
    · exact (hlt b hb).2
  · exact (hu.mono fun _ _ f => f.elim).setCell (p := ⟨q, 2, none⟩) (.inl h.s_q) _

/-- One change more. -/
theorem RefM.moreC {w w' : World} {S : Nat → Prop} {q : Nat} {st : St} {g : RGhost} {gb cap : Nat} {o : Obj} {c : Chg} (h : RefM w S q st g)
    (hown : w'.ownsRow 0 85 3 (.slice (some ⟨gb, 0, none⟩) (st.C.length + 1) cap) (st.C.length + 1) (st.C.flatMap cC ++ cC c)) (hg : (w.alloc o).grownBy w' g.cv.ownBlock) (hS : g.cv.ownBlock = some gb ∨ gb = w.heap.size + 1) :
    w'.heap[q]? = some (.cells (rCells st g) 42 (0, 0)) ∧ ∀ w2, w2 = w'.setCell ⟨q, 4, none⟩ (.slice (some ⟨gb, 0, none⟩) (st.C.length + 1) cap) → RStep S q { st with C := st.C ++ [c] } w w2 := by
  have hql := h.lt q h.s_q
  have hcq : g.cv.ownBlock ≠ some q := fun e => not_disk h.cell h.C nC e rfl
  have hk1 : ∀ b, S b → g.cv.ownBlock ≠ some b → w'.heap[b]? = w.heap[b]? := fun b hb hne => by
    have hl := h.lt b hb
    rw [hg.block b (by simp; omega) (fun e => hne e.symm), Below.heap_alloc _ _ _ hl]
  have hq1 := (hk1 q h.s_q hcq).trans h.cell
  refine ⟨hq1, fun w2 e2 => ?_⟩
  subst e2
  have hws : w.heap.size ≤ w'.heap.size := by have := hg.size; simp at this; omega
  have hgq : gb ≠ q := not_disk hq1 hown nC rfl
  have hk : ∀ b, S b → b ≠ q → g.cv.ownBlock ≠ some b → (w'.setCell ⟨q, 4, none⟩ (.slice (some ⟨gb, 0, none⟩) (st.C.length + 1) cap)).heap[b]? = w.heap[b]? := fun b hb hne hne2 => by
    rw [Below.heap_setCell _ _ _ _ hne]; exact hk1 b hb hne2
  have hr : ∀ {e : TypeId} {size n : Nat} {v : Value} {xs : List Value}, w.ownsRow 0 e size v n xs → (∀ b, v.ownBlock = some b → S b) → e ≠ 42 → e ≠ 85 → (w'.setCell ⟨q, 4, none⟩ (.slice (some ⟨gb, 0, none⟩) (st.C.length + 1) cap)).ownsRow 0 e size v n xs :=
    fun hrow hs he he2 => ownsRow_kept hrow fun b hb => hk b (hs b hb) (not_disk h.cell hrow he hb) (not_other hrow h.C he2 hb)
  have hgl : gb < w'.heap.size := (hown.lt gb rfl).2
  have hsz : (w'.setCell ⟨q, 4, none⟩ (.slice (some ⟨gb, 0, none⟩) (st.C.length + 1) cap)).heap.size = w'.heap.size := by simp [World.setCell]
  refine ⟨⟨fun x => S x ∨ x = gb, ⟨{ g with cv := .slice (some ⟨gb, 0, none⟩) (st.C.length + 1) cap }, ?_, hr h.F h.s_f nF nFC, hr h.N h.s_n nE nEC, hr h.L h.s_l nE nEC, ?_, h.wl, h.wr, .inl h.s_q, fun b hb => .inl (h.s_f b hb), fun b hb => .inl (h.s_n b hb), fun b hb => .inl (h.s_l b hb), fun b hb => .inr (Option.some.inj hb).symm, ?_⟩, fun x hx => .inl hx, fun x hx => ?_⟩, ?_⟩
  · rw [setR hq1]; rfl
  · show World.ownsRow _ 0 _ 3 _ (st.C ++ [c]).length ((st.C ++ [c]).flatMap cC)
    rw [List.length_append, List.flatMap_append, show ([c] : List Chg).flatMap cC = cC c by simp]
    exact ownsRow_kept hown fun b hb => Below.heap_setCell _ _ _ _ (fun e => hgq ((Option.some.inj hb).trans e))
  · intro b hb
    rw [hsz]
    rcases hb with hb | hb
    · exact Nat.lt_of_lt_of_le (h.lt b hb) hws
    · rw [hb]; exact hgl
  · rcases hx with hx | hx
    · exact .inl hx
    · rcases hS with e | e
      · left; rw [hx]; exact h.s_c gb e
      · right; omega
  · exact (((Upon.refl S w).alloc o).grown hg (fun k hk => .inl (h.s_c k hk))).setCell (p := ⟨q, 4, none⟩) (.inl h.s_q) _
theorem infoC : (Try.prog.info? 85).map (fun i => (i.zero, i.size, i.bytes)) = some (some (.agg #[.string ByteArray.empty, .string ByteArray.empty, .int .i64 0]), 3, 40) := by kernel_rfl
theorem cC_is (c : Chg) : cC c = [sv (chFrom c), sv (chTo c), .int .i64 (chFile c : Int)] := by cases c <;> rfl
theorem apply_is (N : Nms) (c : Chg) (v : Value) (w : World) (hc : chReal c) (hN : ∀ p ∈ N, p.1 ≠ []) (h : w.ownsRow 0 68 2 v N.length (N.flatMap eC)) (hn : N.length ≤ 1000) :
    Calls Try.prog 51 #[v, .agg #[sv (chFrom c), sv (chTo c), .int .i64 (chFile c : Int)]] w
      fun e w' => ∃ v', e = .returned v' ∧ w'.ownsRow w.heap.size 68 2 v' (appC N c).length ((appC N c).flatMap eC) ∧ Upon (fun _ => False) w w' := by
  have := apply_any N (chFrom c) (chTo c) (chFile c) v w h hn
  rwa [applyN_is N c hc hN] at this
theorem one_three (a b : ByteArray) (k : Int) : ∀ u ∈ [Value.string a, Value.string b, Value.int .i64 k], u.oneCell' = true := by
  intro u hu
  simp only [List.mem_cons, List.not_mem_nil, or_false] at hu
  rcases hu with rfl | rfl | rfl <;> rfl
/-- Behind the names' change: what the second statement finds. -/
theorem RefM.mid {W w2 : World} {S : Nat → Prop} {q B : Nat} {st : St} {g : RGhost} {v' a b c : Value} {N' : Nms} (h : RefM W S q st g) (hu : Upon (fun _ => False) W w2) (hrow : w2.ownsRow W.heap.size 68 2 v' N'.length (N'.flatMap eC)) (hBq : B ≠ q) (hB : B < W.heap.size)
    (b0 : W.cell? ⟨B, 0, none⟩ = some a) (b1 : W.cell? ⟨B, 1, none⟩ = some b) (b2 : W.cell? ⟨B, 2, none⟩ = some c) : ∃ (w3 : World) (S' : Nat → Prop), w2.setCell ⟨q, 2, none⟩ v' = w3 ∧ RefM w3 S' q { st with N := N' } { g with nv := v' } ∧ Been S S' W w3 ∧
      w3.cell? ⟨q, 4, none⟩ = some g.cv ∧ w3.frozen? ⟨q, 4, none⟩ = false ∧ w3.cell? ⟨B, 0, none⟩ = some a ∧ w3.cell? ⟨B, 1, none⟩ = some b ∧ w3.cell? ⟨B, 2, none⟩ = some c := by
  obtain ⟨S', h1, h2⟩ := h.setN hu hrow
  have hk : ∀ o, (w2.setCell ⟨q, 2, none⟩ v').cell? ⟨B, o, none⟩ = W.cell? ⟨B, o, none⟩ := fun o => World.cell?_of_block ((Below.heap_setCell _ _ _ _ hBq).trans (hu.block B hB (fun f => f)))
  exact ⟨_, S', rfl, h1, h2, (r7 h1.cell).2.2.2.2.1, (r7 h1.cell).2.2.2.2.2.2.2 4, (hk 0).trans b0, (hk 1).trans b1, (hk 2).trans b2⟩
theorem ownsRow_alloc' {w : World} {base : Nat} {e : TypeId} {size n : Nat} {v : Value} {xs : List Value} (h : w.ownsRow base e size v n xs) (o : Obj) : (w.alloc o).ownsRow base e size v n xs := ownsRow_kept h fun b hb => Below.heap_alloc _ _ _ (h.lt b hb).2
set_option maxRecDepth 100000 in
set_option maxHeartbeats 3200000 in
theorem refchange_any (S : Nat → Prop) (q : Nat) (st : St) (c : Chg) (w : World) (h : IsRef w S q st) (hc : chReal c) (hN : ∀ p ∈ st.N, p.1 ≠ []) (hn : st.N.length ≤ 1000) (hC : st.C.length ≤ 1000000000) :
    Calls Try.prog 47 #[.pointer (some ⟨q, 0, none⟩), .agg #[sv (chFrom c), sv (chTo c), .int .i64 (chFile c : Int)]] w fun e w' => e = .returned (.tuple #[]) ∧ RStep S q (chg st c) w w' := by
  obtain ⟨g, h⟩ := h
  obtain ⟨i0, hi, hz0, hz1, hz2⟩ := info_parts infoC
  have hcc := cC_is c
  obtain ⟨F, hF⟩ : ∃ F : ByteArray, F = ⟨(chFrom c).toArray⟩ := ⟨_, rfl⟩
  obtain ⟨T, hT⟩ : ∃ T : ByteArray, T = ⟨(chTo c).toArray⟩ := ⟨_, rfl⟩
  obtain ⟨n, hnn⟩ : ∃ n : Nat, n = chFile c := ⟨_, rfl⟩
  have hup0 : Upon (fun _ => False) w (w.alloc (.cells #[.string F, .string T, .int .i64 (n : Int)] 85 (0, 0))) := (Upon.refl _ w).alloc _
  have h1 : RefM (w.alloc (.cells #[.string F, .string T, .int .i64 (n : Int)] 85 (0, 0))) S q st g := h.kept (fun b hb => hup0.block b (h.lt b hb) (fun f => f)) hup0.size
  have HAP := fun X (hX : X.ownsRow 0 68 2 g.nv st.N.length (st.N.flatMap eC)) => apply_is st.N c g.nv X hc hN hX hn
  unfold sv at HAP hcc ⊢
  rw [← hF, ← hT, ← hnn] at HAP hcc ⊢
  clear hF hT hnn
  have hbx := cell_new w (.cells #[.string F, .string T, .int .i64 (n : Int)] 85 (0, 0))
  have hl := h.lt
  obtain ⟨W, hW⟩ : ∃ W, W = w.alloc (.cells #[.string F, .string T, .int .i64 (n : Int)] 85 (0, 0)) := ⟨_, rfl⟩
  have hWs : W.heap.size = w.heap.size + 1 := by rw [hW]; simp
  obtain ⟨B, hB⟩ : ∃ B, B = w.heap.size := ⟨_, rfl⟩
  have hBq : B ≠ q := by have := hl q h.s_q; omega
  rw [← hB] at hbx
  have k2 : W.cell? ⟨q, 2, none⟩ = some g.nv := by rw [hW]; exact (r7 h1.cell).2.2.1
  have b0 : W.cell? ⟨B, 0, none⟩ = some (.string F) := by rw [hW, Lib.cell_of_heap hbx]; rfl
  have b1 : W.cell? ⟨B, 1, none⟩ = some (.string T) := by rw [hW, Lib.cell_of_heap hbx]; rfl
  have b2 : W.cell? ⟨B, 2, none⟩ = some (.int .i64 (n : Int)) := by rw [hW, Lib.cell_of_heap hbx]; rfl
  rw [← hW] at h1
  have HAP2 : Hid (∀ X : World, X.heap = W.heap → Upon (fun _ => False) W X → Calls Try.prog 51 #[g.nv, .agg #[.string F, .string T, .int .i64 (n : Int)]] X
      fun e w' => ∃ a' c', e = .returned (.slice a' (appC st.N c).length c') ∧ w'.ownsRow W.heap.size 68 2 (.slice a' (appC st.N c).length c') (appC st.N c).length ((appC st.N c).flatMap eC) ∧ Upon (fun _ => False) W w' ∧ w'.frozen? ⟨q, 2, none⟩ = false ∧ w'.cell? ⟨q, 2, none⟩ = some g.nv) := Lib.hid fun X hX hU => by
    refine (HAP X (ownsRow_kept h1.N fun b _ => by rw [hX])).mono ?_
    rintro e w' ⟨v', he, hr, hu⟩
    rw [hX] at hr
    have hu2 := hU.trans hu
    obtain ⟨gb, c', a', rfl, -⟩ := e_cells hr
    exact ⟨a', c', he, hr, hu2, Lib.frozen_of_heap ((hu2.block q (h1.lt q h1.s_q) (fun f => f)).trans h1.cell) 2, (r7 ((hu2.block q (h1.lt q h1.s_q) (fun f => f)).trans h1.cell)).2.2.1⟩
  have HUP : Hid (Upon S w W) := Lib.hid (by rw [hW]; exact hup0.mono fun _ _ f => f.elim)
  have HB : Hid (B < W.heap.size) := Lib.hid (by omega)
  have hWe := hW
  replace h1 := Lib.hid h1
  clear hbx hup0 HAP h
  go_enter Try.func47, Try.ntmps47
  go_wp2_with fail
  rw [← hB, ← hW]
  clear hW hWe hB hWs
  go_region_with (go_at_call 51; refine (HAP2.out _ ?_ ?_).mono ?_; rfl; (repeat (first | exact Upon.refl _ _ | refine Upon.drew ?_)); rintro e w2 ⟨a', c', rfl, hrow2, hup2, hf2, hc2⟩)
  all_goals
    obtain ⟨w3, S3, hw3, h3, hbeen, k4, f4, c0, c1, c2⟩ := h1.out.mid hup2 hrow2 hBq HB.out b0 b1 b2
    rw [hw3]
    have hcC := Lib.hid h3.C
    have hlen : st.C.length + 1 ≤ 1000000001 := by omega
    replace hlen := Lib.hid hlen
    have hq3 := h3.lt q h3.s_q
    have k4a := fun (o : Obj) => (World.cell?_alloc_lt w3 o ⟨q, 4, none⟩ hq3).trans k4
    have H3 := Lib.hid h3
    have HBN := Lib.hid hbeen
    have HCC := Lib.hid hcc
    clear hw3 h3 hbeen hup2 hrow2 hf2 hc2 k2 b0 b1 b2 h1 HAP2 hcc hC hn hN hc
    go_wp2_with fail
    go_region_law (first
      | (refine step_append_lies (o := ⟨some 20, _, _, _, _, _⟩) _ (by rfl) _ _ _ (by rfl) 0 85 i0 (.agg #[.string ByteArray.empty, .string ByteArray.empty, .int .i64 0]) 3 40 Try.underlying40 hi hz0 hz1 hz2 rfl (by omega) _ st.C.length (st.C.flatMap cC) (by rfl) (ownsRow_alloc' hcC.out _) ⟨w3.heap.size, 0, none⟩ 1 1 [.string F, .string T, .int .i64 (n : Int)] (by rfl) rfl (World.news_of_block (cell_new _ _)) (one_three _ _ _) (by omega) (by have := hlen.out; unfold maxLen; omega) (by have := hlen.out; omega) (by omega) _ rfl ?_
         intro gb cap w4 hown hgrow hat hlt
         rw [← HCC.out] at hown
         obtain ⟨hq4, hst4⟩ := H3.out.moreC hown ⟨hgrow.os, hgrow.tape, hgrow.output, hgrow.size, hgrow.block⟩ (hat.imp id (fun e => by simpa using e))
         have d4 : w4.cell? ⟨q, 4, none⟩ = some g.cv := (r7 hq4).2.2.2.2.1
         have f4 := Lib.frozen_of_heap hq4 4
         have HG := Lib.hid (fun w5 e => HBN.out.rstep (hst4 w5 e))
         clear hown hgrow hat hlt hq4 hst4))
    all_goals
      go_wp2_with fail
      go_end0
      exact ⟨rfl, Been.rstep ⟨fun _ h => h, fun _ h => .inl h, HUP.out⟩ (HG.out _ rfl)⟩
end Dsk
end Go.Proofs.Ytiadjjdmhpabnaa
