/- slices.Delete at points (layer 13). -/
import Derived.Test.YtfheehlfodoimaaGreatHdSpan
import Derived.ArgAppend
import Derived.Deep.RegionLaw
import Derived.Laws.CopyRow
set_option maxRecDepth 100000
namespace Go.Proofs.YtfheehlfodoimaaGreat
open Go.RowKit Go.Sort
namespace Hd
open Bit Dsk Ob Dig Nm
set_option linter.unusedVariables false
set_option linter.unusedSimpArgs false
theorem setCells_row {w : World} {g o : Nat} {T : TypeId} {cur : Array Value} {vs : List Value} (hg : w.heap[g]? = some (.cells cur T (0, 0))) (hl : o + vs.length ≤ cur.size) (h1 : ∀ v ∈ vs, v.oneCell' = true) :
    (w.setCells g o vs).heap[g]? = some (.cells (cur.toList.take o ++ vs ++ cur.toList.drop (o + vs.length)).toArray T (0, 0)) := by
  have e1 := run_storeCells_at Tryz.prog g o T vs 0 cur w hg (by simpa using hl) h1
  have e2 := run_storeCells_cells (P := Tryz.prog) g o vs 0 w (fun j hj => by simp only [World.cell?, hg, Option.isSome_iff_exists]; exact ⟨cur[o + j]'(by omega), by simp [show o + j < cur.size by omega]⟩) (fun j hj => by simp [World.frozen?, hg]) h1
  rw [e1] at e2
  simp only [Nat.add_zero] at e2
  injection e2 with _ e2
  rw [← e2]
  exact setRow_heap w g cur _ T _ hg
theorem setCells_upon (w : World) (g o : Nat) (vs : List Value) : Upon (fun k => k = g) w (w.setCells g o vs) := by
  induction vs generalizing o w with
  | nil => exact Upon.refl _ _
  | cons v vs ih =>
    rw [World.setCells]
    exact (Upon.setCell (S := fun k => k = g) (p := ⟨g, o, none⟩) (Upon.refl _ w) (.inl rfl) v).trans' (ih (w.setCell ⟨g, o, none⟩ v) (o + 1)) (fun _ _ e => e)
/-- The cells of so many points that are zero. -/
def zeroL (m : Nat) : List Value := (Builtin.zeroCells #[.int .i64 0, .int .u64 0] m).toList
theorem zeroL_len (m : Nat) : (zeroL m).length = m * 2 := by simp [zeroL, Builtin.zeroCells]
theorem zeroL_one (m : Nat) : ∀ v ∈ zeroL m, v.oneCell' = true := fun v hv => by
  simp only [zeroL, Builtin.zeroCells, Array.toList_map, List.mem_map] at hv
  obtain ⟨i, -, rfl⟩ := hv
  have : i % 2 = 0 ∨ i % 2 = 1 := by omega
  rcases this with h | h <;> simp [h, Value.oneCell']
theorem zeroPt (w : World) : (zeroValue 81).run Tryz.prog w = .ok (.agg #[.int .i64 0, .int .u64 0]) w := by kernel_rfl
theorem run_clearP (w : World) (ty : TypeId) (g o m c : Nat) (hm : 0 < m) (hc : ∀ j, j < m * 2 → (w.cell? ⟨g, o + j, none⟩).isSome = true) (hf : ∀ j, j < m * 2 → w.frozen? ⟨g, o + j, none⟩ = false) :
    (Builtin.clear_ #[57] ty #[.slice (some ⟨g, o, none⟩) m c]).run Tryz.prog w = .ok (.tuple #[]) (w.setCells g o (zeroL m)) := by
  have hst := run_storeCells_cells (P := Tryz.prog) g o (zeroL m) 0 w (by rw [zeroL_len]; simpa using hc) (by rw [zeroL_len]; simpa using hf) (zeroL_one m)
  simp only [Nat.add_zero] at hst
  obtain ⟨k, rfl⟩ : ∃ k, m = k + 1 := ⟨m - 1, by omega⟩
  have e : (Builtin.zeroCells (Value.agg #[.int .i64 0, .int .u64 0]).cells (k + 1)).toList = zeroL (k + 1) := rfl
  simp [Builtin.clear_, run_underlying Tryz.underlying57, zeroPt, e, hst]
/-- A row's block. -/
theorem mine_blk {w : World} {g n c : Nat} {l : List Pt} (h : PMine w (.slice (some ⟨g, 0, none⟩) n c) l) : ∃ cur, w.heap[g]? = some (.cells cur 81 (0, 0)) ∧ n = l.length ∧ l.length ≤ c ∧ c ≤ maxLen ∧ cur.size = c * 2 ∧ cur.toList.take (l.length * 2) = Rw.cells layP l := by
  rcases h.2 with ⟨h0, _⟩ | ⟨g', c', cur, hv, -, hg, h1, h2, h3, h4⟩
  · cases h0
  · injection hv with e1 e2 e3
    injection e1 with e1
    injection e1 with e1
    subst e1 e2 e3
    exact ⟨cur, hg, rfl, h1, h2, h3, h4⟩
theorem mine_of {w : World} {g c : Nat} {l : List Pt} {cur : Array Value} (hg : w.heap[g]? = some (.cells cur 81 (0, 0))) (h1 : l.length ≤ c) (h2 : c ≤ maxLen) (h3 : cur.size = c * 2) (h4 : cur.toList.take (l.length * 2) = Rw.cells layP l) : PMine w (.slice (some ⟨g, 0, none⟩) l.length c) l :=
  ⟨by rw [Rw.cells_len], .inr ⟨g, c, cur, rfl, Nat.zero_le _, hg, h1, h2, h3, h4⟩⟩
/-- What Delete leaves. -/
def DelE (w w' : World) (v : Value) (u : Rw.Sl) (m : List Pt) : Prop := PMine w' u.v m ∧ (∀ k, u.v.ownBlock = some k → v.ownBlock = some k) ∧ Upon (fun k => v.ownBlock = some k) w w'
theorem delE_of {w W1 W2 : World} {g c b d : Nat} {l : List Pt} (h : PMine w (.slice (some ⟨g, 0, none⟩) l.length c) l) (hbd : b < d) (hd : d ≤ l.length) (h1 : W1 = w.drew.setCells g (0 + b * 2) (Rw.cells layP (l.drop d))) (h2 : W2 = W1.setCells g ((b + (l.length - d)) * 2) (zeroL (d - b))) :
    DelE w W2 (.slice (some ⟨g, 0, none⟩) l.length c) ⟨some ⟨g, 0, none⟩, b + (l.length - d), c⟩ (l.take b ++ l.drop d) := by
  obtain ⟨cur, hg, -, hlc, hcm, hsz, htk⟩ := mine_blk h
  have hgd : w.drew.heap[g]? = some (.cells cur 81 (0, 0)) := hg
  have hnl : (Rw.cells layP (l.drop d)).length = (l.length - d) * 2 := by rw [Rw.cells_len, List.length_drop]; rfl
  have hg1 := setCells_row (o := 0 + b * 2) (vs := Rw.cells layP (l.drop d)) hgd (by omega) (Rw.cells_one layP _)
  rw [← h1] at hg1
  have hs1 : (cur.toList.take (0 + b * 2) ++ Rw.cells layP (l.drop d) ++ cur.toList.drop (0 + b * 2 + (Rw.cells layP (l.drop d)).length)).length = cur.size := by
    simp only [List.length_append, List.length_take, List.length_drop, hnl, Array.length_toList]; omega
  have hg2 := setCells_row (o := (b + (l.length - d)) * 2) (vs := zeroL (d - b)) hg1 (by rw [zeroL_len, List.size_toArray, hs1]; omega) (zeroL_one _)
  rw [← h2] at hg2
  have hl : (l.take b ++ l.drop d).length = b + (l.length - d) := by rw [List.length_append, List.length_take, List.length_drop]; omega
  have htb : cur.toList.take (0 + b * 2) = Rw.cells layP (l.take b) := by
    have e1 : cur.toList.take (0 + b * 2) = (cur.toList.take (l.length * 2)).take (b * 2) := by rw [List.take_take]; congr 1; omega
    rw [e1, htk]
    have e2 : Rw.cells layP l = Rw.cells layP (l.take b) ++ Rw.cells layP (l.drop b) := by rw [← Rw.cells_app, List.take_append_drop]
    have e3 : (Rw.cells layP (l.take b)).length = b * 2 := by rw [Rw.cells_len, List.length_take]; show min b l.length * 2 = _; omega
    rw [e2, ← e3, List.take_left]
  refine ⟨?_, fun k hk => hk, ?_⟩
  · have := mine_of (l := l.take b ++ l.drop d) (c := c) hg2 (by rw [hl]; omega) hcm (by
      simp only [List.size_toArray, List.length_append, List.length_take, List.length_drop, zeroL_len] at hs1 ⊢
      simp only [hnl, Array.length_toList] at hs1 ⊢
      omega) (by
      rw [hl]
      simp only []
      rw [List.append_assoc, List.take_append_of_le_length (by rw [List.length_take, hs1]; omega), List.take_take, Nat.min_self]
      rw [htb] at hs1 ⊢
      have e3 : (Rw.cells layP (l.take b)).length = b * 2 := by rw [Rw.cells_len, List.length_take]; show min b l.length * 2 = _; omega
      have e4 : (Rw.cells layP (l.take b) ++ Rw.cells layP (l.drop d)).length = (b + (l.length - d)) * 2 := by rw [List.length_append, e3, hnl]; omega
      rw [List.take_append_of_le_length (by rw [e4]; exact Nat.le_refl _), ← e4, List.take_length, Rw.cells_app])
    rw [hl] at this
    exact this
  · rw [h2, h1]
    have q := ((Upon.refl (fun k => k = g) w).drew.trans (setCells_upon w.drew g (0 + b * 2) (Rw.cells layP (l.drop d)))).trans (setCells_upon _ g ((b + (l.length - d)) * 2) (zeroL (d - b)))
    exact q.mono fun k _ e => by rw [e]; rfl
set_option maxHeartbeats 3200000 in
theorem delete_any (w : World) (pa : Option Addr) (pc : Nat) (l : List Pt) (h : PMine w (.slice pa l.length pc) l) (b d : Nat) (hbd : b ≤ d) (hd : d ≤ l.length) (hn : l.length ≤ 1000000000) :
    Calls Tryz.prog 64 #[.slice pa l.length pc, .int .i64 (b : Int), .int .i64 (d : Int)] w fun e w' => ∃ u : Rw.Sl, e = .returned u.v ∧ DelE w w' (.slice pa l.length pc) u (l.take b ++ l.drop d) := by
  have hcap : l.length ≤ pc ∧ pc ≤ maxLen := by
    obtain ⟨A1, c1, e1, e2, e3⟩ := Rw.View.shape h.view
    injection e1 with _ _ e1
    subst e1
    exact ⟨e2, e3⟩
  obtain ⟨hc1, hc2⟩ := hcap
  unfold maxLen at hc2
  by_cases heq : b = d
  · subst heq
    have hfin : Hid (DelE w w (.slice pa l.length pc) ⟨pa, l.length, pc⟩ l) := Lib.hid ⟨h, fun k hk => hk, Upon.refl _ _⟩
    rw [List.take_append_drop]
    clear h
    obtain ⟨n, hn2⟩ : ∃ n, l.length = n := ⟨_, rfl⟩
    rw [hn2] at hfin hn hc1 hd ⊢
    clear hn2
    cases pa with
    | none =>
      go_enter Tryz.func64, Tryz.ntmps64
      go_wp2_with fail
      all_goals
        go_ret
        exact ⟨⟨none, _, pc⟩, rfl, hfin.out⟩
    | some ad =>
      go_enter Tryz.func64, Tryz.ntmps64
      go_wp2_with fail
      all_goals
        go_ret
        first
        | exact ⟨⟨some ad, _, pc⟩, rfl, hfin.out⟩
        | (obtain rfl : n = b := by omega
           exact ⟨⟨some ad, _, pc⟩, rfl, hfin.out⟩)
  · have hlt : b < d := by omega
    obtain ⟨g, hpa⟩ : ∃ g, pa = some ⟨g, 0, none⟩ := by
      rcases h.shape with ⟨-, h2⟩ | ⟨g, c, h1, -⟩
      · rw [h2] at hd; simp at hd; omega
      · injection h1 with h1 _ _; exact ⟨g, h1⟩
    subst hpa
    have hF := Lib.hid (fun W1 W2 h1 h2 => delE_of (W1 := W1) (W2 := W2) h hlt hd h1 h2)
    obtain ⟨cur, hg, -, hlc, hcm, hsz, htk⟩ := mine_blk h
    obtain ⟨news, hnews⟩ : ∃ news, Rw.cells layP (l.drop d) = news := ⟨_, rfl⟩
    have hnl : news.length = (l.length - d) * 2 := by rw [← hnews, Rw.cells_len, List.length_drop]; rfl
    have hone : ∀ v ∈ news, v.oneCell' = true := by rw [← hnews]; exact Rw.cells_one layP _
    have hcell : ∀ j, j < pc * 2 → (w.cell? ⟨g, j, none⟩).isSome = true := fun j hj => by simp only [World.cell?, hg, Option.isSome_iff_exists]; exact ⟨cur[j]'(by omega), by simp [show j < cur.size by omega]⟩
    have hfro : ∀ j, w.frozen? ⟨g, j, none⟩ = false := fun j => by simp [World.frozen?, hg]
    obtain ⟨Ad, hAd, hsrc⟩ : ∃ A : Addr, (if pc = d then some (⟨g, 0, none⟩ : Addr) else some ⟨g, d * 2, none⟩) = some A ∧ Hid (∀ t u, news[t]? = some u → w.drew.cell? (A.add t) = some u) := by
      by_cases hpd : pc = d
      · refine ⟨⟨g, 0, none⟩, by simp [hpd], Lib.hid (fun t u hu => ?_)⟩
        have h0 : news.length = 0 := by rw [hnl]; omega
        rw [List.length_eq_zero_iff.1 h0] at hu
        simp at hu
      · refine ⟨⟨g, d * 2, none⟩, by simp [hpd], Lib.hid (fun t u hu => ?_)⟩
        have ht : t < (l.length - d) * 2 := by rw [← hnl]; exact (List.getElem?_eq_some_iff.1 hu).1
        have e1 : ((⟨g, d * 2, none⟩ : Addr).add t) = ⟨g, d * 2 + t, none⟩ := Arg.addr_plain _ _ _
        rw [e1]
        show w.cell? _ = _
        rw [← hnews] at hu
        obtain ⟨i, t', hi, ht', rfl, hu'⟩ := Rw.cells_inv layP hu
        rw [List.getElem_drop] at hu'
        have := Rw.Mine.cells h (i := d + i) (t := t') (by rw [List.length_drop] at hi; omega) hu'
        rw [show d * 2 + (i * layP.k + t') = (d + i) * layP.k + t' by show d * 2 + (i * 2 + t') = (d + i) * 2 + t'; omega]
        exact this
    have s1 : Hid (news.length = (l.length - d) * 2) := Lib.hid hnl
    have s2 : Hid (∀ u ∈ news, u.oneCell' = true) := Lib.hid hone
    have s3 : Hid (∀ t, t < news.length → (w.drew.cell? ⟨g, 0 + b * 2 + t, none⟩).isSome = true ∧ w.drew.frozen? ⟨g, 0 + b * 2 + t, none⟩ = false) := Lib.hid (fun t ht => ⟨hcell _ (by omega), hfro _⟩)
    obtain ⟨W1, hW1⟩ : ∃ W1, w.drew.setCells g (0 + b * 2) news = W1 := ⟨_, rfl⟩
    have hg1 := setCells_row (w := w.drew) (g := g) (o := 0 + b * 2) (vs := news) (T := 81) (cur := cur) hg (by omega) hone
    rw [hW1] at hg1
    have hsz1 : (cur.toList.take (0 + b * 2) ++ news ++ cur.toList.drop (0 + b * 2 + news.length)).length = pc * 2 := by
      simp only [List.length_append, List.length_take, List.length_drop, Array.length_toList]; omega
    have hcl : ∀ ty, (Builtin.clear_ #[57] ty #[.slice (some ⟨g, (b + (l.length - d)) * 2, none⟩) (l.length - (b + (l.length - d))) (pc - (b + (l.length - d)))]).run Tryz.prog W1 = .ok (.tuple #[]) (W1.setCells g ((b + (l.length - d)) * 2) (zeroL (l.length - (b + (l.length - d))))) := fun ty =>
      run_clearP W1 ty g _ _ _ (by omega) (fun j hj => by simp only [World.cell?, hg1, Option.isSome_iff_exists]; exact ⟨_, List.getElem?_toArray ▸ List.getElem?_eq_getElem (by rw [hsz1]; omega)⟩) (fun j hj => by simp [World.frozen?, hg1])
    have hfin : Hid (DelE w (W1.setCells g ((b + (l.length - d)) * 2) (zeroL (l.length - (b + (l.length - d))))) (.slice (some ⟨g, 0, none⟩) l.length pc) ⟨some ⟨g, 0, none⟩, b + (l.length - d), pc⟩ (l.take b ++ l.drop d)) := Lib.hid (hF.out W1 _ (by rw [hnews]; exact hW1.symm) (by rw [show l.length - (b + (l.length - d)) = d - b by omega]))
    replace hW1 := Lib.hid hW1
    have hic : b ≤ pc := by omega
    have hjc : d ≤ pc := by omega
    obtain ⟨i0, hi0, hz0, hz1, hz2⟩ := info_parts (show (Tryz.prog.info? 81).map (fun i => (i.zero, i.size, i.bytes)) = some (some (.agg #[.int .i64 0, .int .u64 0]), 2, 16) from by kernel_rfl)
    replace hz0 := Lib.hid hz0
    replace hz2 := Lib.hid hz2
    replace hAd := Lib.hid hAd
    clear hF hg htk h hnews hnl hone hcell hfro hg1 hsz1 hsz hcm
    go_enter Tryz.func64, Tryz.ntmps64
    go_wp2_with fail
    refine HeldS.wp_region_S 7 (S := fun _ => True) (by kernel_rfl) trivial (fun hHeld => ?_)
    refine HeldS.wpAnyS_take (i := 0) [6, 2] (oi := _) (v := ?_) rfl (by kernel_rfl) (by kernel_rfl) (by kernel_rfl) (by kernel_rfl) (by kernel_rfl) (fun _ _ _ h => h) (Or.inl ⟨by rfl, ?_⟩) (by assumption) ?_
    rotate_left
    · (intro w hSw; (try dsimp only at hSw); go_simp; (try with_reducible rfl))
    (try simp only [Act.put, List.setIfInBounds_toArray, List.set_cons_zero, List.set_cons_succ])
    refine HeldS.wpAnyS_take (i := 1) [6, 2] (oi := _) (v := ?_) rfl (by kernel_rfl) (by kernel_rfl) (by kernel_rfl) (by kernel_rfl) (by kernel_rfl) (fun _ _ _ h => h) (Or.inl ⟨by rfl, ?_⟩) (by assumption) ?_
    rotate_left
    · (intro w hSw; (try dsimp only at hSw); go_simp; (try with_reducible rfl))
    (try simp only [Act.put, List.setIfInBounds_toArray, List.set_cons_zero, List.set_cons_succ])
    refine HeldS.wpAnyS_take (i := 2) [6] (oi := _) (v := ?_) rfl (by kernel_rfl) (by kernel_rfl) (by kernel_rfl) (by kernel_rfl) (by kernel_rfl) (fun _ _ _ h => h) (Or.inl ⟨by rfl, ?_⟩) (by assumption) ?_
    rotate_left
    · (intro w hSw; (try dsimp only at hSw); go_simp; (try with_reducible rfl))
    (try simp only [Act.put, List.setIfInBounds_toArray, List.set_cons_zero, List.set_cons_succ])
    refine HeldS.wpAnyS_take (i := 3) [6, 5] (oi := _) (v := ?_) rfl (by kernel_rfl) (by kernel_rfl) (by kernel_rfl) (by kernel_rfl) (by kernel_rfl) (fun _ _ _ h => h) (Or.inl ⟨by rfl, ?_⟩) (by assumption) ?_
    rotate_left
    · (intro w hSw; (try dsimp only at hSw); go_simp; (try with_reducible rfl))
    (try simp only [Act.put, List.setIfInBounds_toArray, List.set_cons_zero, List.set_cons_succ])
    refine HeldS.wpAnyS_take (i := 4) [6, 5] (oi := _) (v := ?_) rfl (by kernel_rfl) (by kernel_rfl) (by kernel_rfl) (by kernel_rfl) (by kernel_rfl) (fun _ _ _ h => h) (Or.inl ⟨by rfl, ?_⟩) (by assumption) ?_
    rotate_left
    · (intro w hSw; (try dsimp only at hSw); go_simp; (try with_reducible rfl))
    (try simp only [Act.put, List.setIfInBounds_toArray, List.set_cons_zero, List.set_cons_succ])
    refine HeldS.wpAnyS_take (i := 5) [6] (oi := _) (v := ?_) rfl (by kernel_rfl) (by kernel_rfl) (by kernel_rfl) (by kernel_rfl) (by kernel_rfl) (fun _ _ _ h => h) (Or.inl ⟨by rfl, ?_⟩) (by assumption) ?_
    rotate_left
    · (intro w hSw; (try dsimp only at hSw); go_simp; (try with_reducible rfl))
    (try simp only [Act.put, List.setIfInBounds_toArray, List.set_cons_zero, List.set_cons_succ])
    refine HeldS.wpAnyS_ready (rs := [6]) (by kernel_rfl) (by simp) ?_
    refine HeldS.AllS.cons (o := ⟨some 26, _, _, _, _, _⟩) rfl (fun K hK => ?_) HeldS.AllS.nil
    try rw [hAd.out]
    refine step_append_room (o := ⟨some 26, _, _, _, _, _⟩) rfl (.tmp 22) (.tmp 25) 57 rfl 81 i0 2 Tryz.underlying57 hi0 hz1 g 0 b pc (by rfl) Ad (l.length - d) (pc - d) news (by rfl) s1.out hsrc.out s2.out (by omega) s3.out ?_
    rw [hW1.out]
    refine hK.out _ _ trivial (fun hHeld => ?_)
    clear hK K
    (try simp only [Act.put, List.setIfInBounds_toArray, List.set_cons_zero, List.set_cons_succ])
    refine HeldS.wpAnyS_ready (rs := [7]) (by kernel_rfl) (by simp) ?_
    refine HeldS.AllS.last (s := 7) (o := ⟨some 0, _, _, _, _, _⟩) rfl (fun K hK => ?_) HeldS.AllS.nil
    go_simp
    refine hK.out _ _ ?_
    clear hK K
    (try simp only [Act.put, List.setIfInBounds_toArray, List.set_cons_zero, List.set_cons_succ])
    refine HeldS.wpAnyS_done (by kernel_rfl) ?_ _
    go_wp2_with fail
    go_ret
    exact ⟨⟨some ⟨g, 0, none⟩, b + (l.length - d), pc⟩, rfl, hfin.out⟩
end Hd
end Go.Proofs.YtfheehlfodoimaaGreat
