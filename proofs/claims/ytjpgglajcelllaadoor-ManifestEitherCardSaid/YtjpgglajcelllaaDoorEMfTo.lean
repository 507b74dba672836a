/- What law 17 says beside (layer 17): great, To, From; Same; None. Written by wip/tools/mfto.py. -/
import Derived.Test.YtjpgglajcelllaaDoorEMfSix
import Derived.Test.YtjpgglajcelllaaDoorEMfGrow
import Derived.BigQuiet
set_option maxRecDepth 100000
namespace Go.Proofs.YtjpgglajcelllaaDoor
open Go.RowKit
namespace Mf
open Bit Dsk Ob Dig
set_option linter.unusedVariables false
set_option linter.unusedSimpArgs false
/-! ### From -/
set_option maxHeartbeats 3200000 in
theorem from_any (w : World) (S : Nat → Prop) (v : Value) (m : M) (hv : MView w S v m) :
    Calls Tryd.prog 17 #[v] w fun e w' => e = .returned v ∧ New0 w w' := by
  obtain ⟨A, c, rfl, -⟩ := hv.shape
  clear hv
  obtain ⟨wa, hwa⟩ : ∃ wa, w.alloc (.cells #[.int .i64 m.epoch, .int .i64 m.base, .int .i64 m.promise, .int .i64 m.mark, .int .i64 m.check, .slice A m.blocks.length c] 26 (0, 0)) = wa := ⟨_, rfl⟩
  obtain ⟨wb, hwb⟩ : ∃ wb, wa.alloc (.cells #[.int .i64 m.epoch, .int .i64 m.base, .int .i64 m.promise, .int .i64 m.mark, .int .i64 m.check, .slice A m.blocks.length c] 24 (0, 0)) = wb := ⟨_, rfl⟩
  have sa : wa.heap.size = w.heap.size + 1 := by rw [← hwa]; simp
  have ua : New0 w wa := by rw [← hwa]; exact (Upon.refl _ w).alloc _
  have ub : New0 wa wb := by rw [← hwb]; exact (Upon.refl _ wa).alloc _
  have hY : Six 24 (w.heap.size + 1) ⟨.int .i64 m.epoch, .int .i64 m.base, .int .i64 m.promise, .int .i64 m.mark, .int .i64 m.check, .slice A m.blocks.length c⟩ wb := by rw [← hwb, ← sa]; exact six_new _ wa ⟨.int .i64 m.epoch, .int .i64 m.base, .int .i64 m.promise, .int .i64 m.mark, .int .i64 m.check, .slice A m.blocks.length c⟩
  have hX : Six 26 w.heap.size ⟨.int .i64 m.epoch, .int .i64 m.base, .int .i64 m.promise, .int .i64 m.mark, .int .i64 m.check, .slice A m.blocks.length c⟩ wa := by rw [← hwa]; exact six_new _ w ⟨.int .i64 m.epoch, .int .i64 m.base, .int .i64 m.promise, .int .i64 m.mark, .int .i64 m.check, .slice A m.blocks.length c⟩
  have hX2 := hX.new ((Upon.refl (fun _ => False) wa).alloc (.cells #[.int .i64 0, .int .i64 0, .int .i64 0, .int .i64 0, .int .i64 0, .slice none 0 0] 24 (0, 0)))
  rw [← hwa] at hX2
  obtain ⟨k0, k1, k2, k3, k4, k5⟩ := hX2.cells
  obtain ⟨r0, r1, r2, r3, r4, r5⟩ := hY.cells
  have huz := Lib.hid (ua.trans ub)
  rw [← hwa] at hwb
  replace hwb := Lib.hid hwb
  dsimp only at k0 k1 k2 k3 k4 k5 r0 r1 r2 r3 r4 r5
  clear hwa sa ua ub hX hX2 hY
  go_enter Tryd.func17, Tryd.ntmps17
  go_wp2_with fail
  rw [hwb.out]
  refine bodyPost_ret (v := .agg #[.int .i64 m.epoch, .int .i64 m.base, .int .i64 m.promise, .int .i64 m.mark, .int .i64 m.check, .slice A m.blocks.length c]) (by simp [results, Tryd.results17, go_sem, r0, r1, r2, r3, r4, r5]) rfl ?_
  exact ⟨rfl, huz.out⟩
set_option maxHeartbeats 1600000 in
theorem pnone_any (w : World) : Calls Tryd.prog 18 #[] w fun e w' => e = .returned (mv noneM ⟨none, 0, 0⟩) ∧ New0 w w' := by
  obtain ⟨wb, hwb⟩ : ∃ wb, w.alloc (.cells #[.int .i64 1, .int .i64 0, .int .i64 1, .int .i64 (-9223372036854775808), .int .i64 0, .slice none 0 0] 26 (0, 0)) = wb := ⟨_, rfl⟩
  have ub : New0 w wb := by rw [← hwb]; exact (Upon.refl _ w).alloc _
  have hY : Six 26 w.heap.size ⟨.int .i64 1, .int .i64 0, .int .i64 1, .int .i64 (-9223372036854775808), .int .i64 0, .slice none 0 0⟩ wb := by rw [← hwb]; exact six_new _ w ⟨.int .i64 1, .int .i64 0, .int .i64 1, .int .i64 (-9223372036854775808), .int .i64 0, .slice none 0 0⟩
  obtain ⟨r0, r1, r2, r3, r4, r5⟩ := hY.cells
  dsimp only at r0 r1 r2 r3 r4 r5
  replace ub := Lib.hid ub
  replace hwb := Lib.hid hwb
  clear hY
  go_enter Tryd.func18, Tryd.ntmps18
  go_wp2_with fail
  rw [hwb.out]
  refine bodyPost_ret (v := .agg #[.int .i64 1, .int .i64 0, .int .i64 1, .int .i64 (-9223372036854775808), .int .i64 0, .slice none 0 0]) (by simp [results, Tryd.results18, go_sem, r0, r1, r2, r3, r4, r5]) rfl ?_
  exact ⟨rfl, ub.out⟩
/-! ### great -/
def SmallM (m : M) : Prop := m.blocks.length ≤ 199 ∧ ∀ b ∈ m.blocks, b.size ≤ 10000
/-- What great tells. -/
def GreatE (w : World) (m : M) (e : Ending) (w' : World) : Prop := ∃ B : Bool, e = .returned (.bool B) ∧ New0 w w' ∧ (B = false → SmallM m)
set_option maxHeartbeats 3200000 in
theorem great_any (w : World) (S : Nat → Prop) (v : Value) (m : M) (hv : MView w S v m) (hb : Bnd m) :
    Calls Tryd.prog 8 #[v] w (GreatE w m) := by
  obtain ⟨A, c, rfl, hn⟩ := hv.shape
  have hnb : NBnd m.blocks := hb.nms
  have hbig := NView.big hn
  have hpost : Hid (∀ (B : Bool) w', New0 w w' → (B = false → m.blocks.length ≤ 199 ∧ ∀ b ∈ m.blocks, b.size ≤ 10000) → GreatE w m (.returned (.bool B)) w') := Lib.hid (fun B w' h1 h2 => ⟨B, rfl, h1, h2⟩)
  obtain ⟨wb, hwb⟩ : ∃ wb, w.alloc (.cells #[.int .i64 m.epoch, .int .i64 m.base, .int .i64 m.promise, .int .i64 m.mark, .int .i64 m.check, .slice A m.blocks.length c] 24 (0, 0)) = wb := ⟨_, rfl⟩
  have hu : New0 w wb := by rw [← hwb]; exact (Upon.refl _ w).alloc _
  have hX : Six 24 w.heap.size ⟨.int .i64 m.epoch, .int .i64 m.base, .int .i64 m.promise, .int .i64 m.mark, .int .i64 m.check, .slice A m.blocks.length c⟩ wb := by rw [← hwb]; exact six_new _ w ⟨.int .i64 m.epoch, .int .i64 m.base, .int .i64 m.promise, .int .i64 m.mark, .int .i64 m.check, .slice A m.blocks.length c⟩
  have hv2 := Lib.hid (Rw.View.new hn hu)
  obtain ⟨k0, k1, k2, k3, k4, k5⟩ := hX.cells
  replace hu := Lib.hid hu
  replace hwb := Lib.hid hwb
  replace hnb := Lib.hid hnb
  obtain ⟨l, hl⟩ : ∃ l, m.blocks = l := ⟨_, rfl⟩
  rw [hl] at hpost hv2 hnb hbig hwb k5 ⊢
  clear hb hn hX hl hv
  go_enter Tryd.func8, Tryd.ntmps8
  go_wp2_with fail
  rw [hwb.out]
  go_wp2_with fail
  clear hwb
  go_loopw [3, 4] (fun nv ov wr => ∃ (n j : Nat), nv = .int .i64 (n : Int) ∧ ov = .int .i64 (j : Int) ∧ j ≤ l.length ∧ l.length ≤ n ∧ n ≤ 9223372036854775807 ∧ Hid (∀ i (h : i < l.length), i < j → l[i].size < 50 * (n + 1)) ∧ wr = wb) (fun _ ov _ => l.length - (intOf ov).toNat)
  case atStart => exact ⟨l.length, 0, rfl, rfl, Nat.zero_le _, Nat.le_refl _, hbig, Lib.hid (fun i _ h => absurd h (Nat.not_lt_zero i)), rfl⟩
  case round =>
    obtain ⟨n, j, rfl, rfl, hj, hln, hnb2, hall, rfl⟩ := hrel
    by_cases hlt : j < l.length
    · by_cases hn : n < 200
      · obtain ⟨b0, off, rfl, -, -, hcells⟩ := NView.cells hv2.out (by omega)
        have x0 := hcells j hlt
        have hz := hnb.out _ (List.getElem_mem hlt)
        have hnx : Hid (∀ i (h : i < l.length), i < j + 1 → l[i].size < 50 * (n + l[j].size / 50 + 1)) := Lib.hid (fun i hi h2 => by
          by_cases e : i = j
          · subst e; omega
          · have := hall.out i hi (by omega); omega)
        obtain ⟨t, ht⟩ : ∃ t, l[j] = t := ⟨_, rfl⟩
        rw [ht] at x0 hz hnx
        clear hcells ht hall
        go_wp2_with fail
        go_roundw
        case rel => exact ⟨n + t.size / 50, j + 1, by first | rfl | go_num | (congr 1; omega), by go_num, hlt, by omega, by omega, hnx, (by first | rfl | trivial)⟩
        case measure => simp [intOf]; omega
      · have d : (200 : Int) ≤ (n : Int) := by omega
        have hend := Lib.hid (hpost.out true wr hu.out (fun h => by cases h))
        have d2 : ¬ (n : Int) < 200 := by omega
        clear hall hpost hv2 hnb
        go_wp2_with fail
        go_ret
        exact hend.out
    · by_cases hn : n < 200
      · have d : ¬ (200 : Int) ≤ (n : Int) := by omega
        have hend := Lib.hid (hpost.out false wr hu.out (fun _ => ⟨by omega, fun b hb => by
          obtain ⟨i, hi, rfl⟩ := List.mem_iff_getElem.1 hb
          have := hall.out i hi (by omega); omega⟩))
        clear hall hpost hv2 hnb
        go_wp2_with fail
        go_ret
        exact hend.out
      · have d : (200 : Int) ≤ (n : Int) := by omega
        have hend := Lib.hid (hpost.out true wr hu.out (fun h => by cases h))
        clear hall hpost hv2 hnb
        go_wp2_with fail
        go_ret
        exact hend.out
/-! ### To -/
set_option maxHeartbeats 6400000 in
theorem to_any (w : World) (S : Nat → Prop) (v : Value) (m : M) (hv : MView w S v m) (hs : m.blocks.length ≤ 1000) :
    Calls Tryd.prog 9 #[v] w fun e w' => ∃ u : Rw.Sl, e = .returned (mv m u) ∧ NView w' All u.v m.blocks ∧ New0 w w' := by
  obtain ⟨A, c, rfl, hn⟩ := hv.shape
  clear hv
  obtain ⟨wa, hwa⟩ : ∃ wa, w.alloc (.cells #[.int .i64 m.epoch, .int .i64 m.base, .int .i64 m.promise, .int .i64 m.mark, .int .i64 m.check, .slice A m.blocks.length c] 24 (0, 0)) = wa := ⟨_, rfl⟩
  obtain ⟨wb, hwb⟩ : ∃ wb, wa.alloc (.cells #[.int .i64 0, .int .i64 0, .int .i64 0, .int .i64 0, .int .i64 0, .slice none 0 0] 26 (0, 0)) = wb := ⟨_, rfl⟩
  have sa : wa.heap.size = w.heap.size + 1 := by rw [← hwa]; simp
  have sb : wb.heap.size = w.heap.size + 2 := by rw [← hwb]; simp [sa]
  have ua : New0 w wa := by rw [← hwa]; exact (Upon.refl _ w).alloc _
  have ub : New0 wa wb := by rw [← hwb]; exact (Upon.refl _ wa).alloc _
  have hX : Six 24 w.heap.size ⟨.int .i64 m.epoch, .int .i64 m.base, .int .i64 m.promise, .int .i64 m.mark, .int .i64 m.check, .slice A m.blocks.length c⟩ wb := Six.new (by rw [← hwa]; exact six_new _ w ⟨.int .i64 m.epoch, .int .i64 m.base, .int .i64 m.promise, .int .i64 m.mark, .int .i64 m.check, .slice A m.blocks.length c⟩) ub
  have hY : Six 26 (w.heap.size + 1) svZ wb := by rw [← hwb, ← sa]; exact six_new _ wa svZ
  have hw2 : Hid ((w.alloc (.cells #[.int .i64 m.epoch, .int .i64 m.base, .int .i64 m.promise, .int .i64 m.mark, .int .i64 m.check, .slice A m.blocks.length c] 24 (0, 0))).alloc (.cells #[.int .i64 0, .int .i64 0, .int .i64 0, .int .i64 0, .int .i64 0, .slice none 0 0] 26 (0, 0)) = wb) := Lib.hid (by rw [hwa, hwb])
  have hU := Lib.hid (ua.trans ub)
  have hvb := Lib.hid (Rw.View.new hn (ua.trans ub))
  -- what lasts while new blocks turn
  have hS := Lib.hid (fun w' (hu : Upon (fun k => k = wb.heap.size) wb w') => (show w'.cell? ⟨w.heap.size, 0, none⟩ = some (.int .i64 m.epoch) ∧ w'.cell? ⟨w.heap.size, 1, none⟩ = some (.int .i64 m.base) ∧ w'.cell? ⟨w.heap.size, 2, none⟩ = some (.int .i64 m.promise) ∧ w'.cell? ⟨w.heap.size, 3, none⟩ = some (.int .i64 m.mark) ∧ w'.cell? ⟨w.heap.size, 4, none⟩ = some (.int .i64 m.check) ∧ w'.cell? ⟨w.heap.size, 5, none⟩ = some (.slice A m.blocks.length c) from (hX.upon hu (by omega)).cells))
  have hE := cell_new wb (.cells #[] 9 (0, 0))
  have hR := Lib.hid (fun w' (hu : Upon (fun k => k = wb.heap.size) wb w') => hY.upon hu (by omega))
  replace hE := Lib.hid hE
  replace sb := Lib.hid sb
  clear hwa hwb sa ua ub hX hY hn
  go_enter Tryd.func9, Tryd.ntmps9
  go_wp2_with fail
  rw [hw2.out]
  refine HeldS.wp_region_S 15 (S := fun w' => w'.cell? ⟨w.heap.size, 0, none⟩ = some (.int .i64 m.epoch) ∧ w'.cell? ⟨w.heap.size, 1, none⟩ = some (.int .i64 m.base) ∧ w'.cell? ⟨w.heap.size, 2, none⟩ = some (.int .i64 m.promise) ∧ w'.cell? ⟨w.heap.size, 3, none⟩ = some (.int .i64 m.mark) ∧ w'.cell? ⟨w.heap.size, 4, none⟩ = some (.int .i64 m.check) ∧ w'.cell? ⟨w.heap.size, 5, none⟩ = some (.slice A m.blocks.length c)) (by kernel_rfl) (hS.out _ (Upon.drew (Upon.refl _ _))) (fun hHeld => ?_)
  refine HeldS.wpAnyS_take (i := 0) [14, 1] (oi := _) (v := ?_) rfl (by kernel_rfl) (by kernel_rfl) (by kernel_rfl) (by kernel_rfl) (by kernel_rfl) (fun _ _ _ h => h) (Or.inl ⟨by rfl, ?_⟩) (by assumption) ?_
  rotate_left
  · (intro w hSw; (try dsimp only at hSw); go_simp; (try with_reducible rfl))
  (try simp only [Act.put, List.setIfInBounds_toArray, List.set_cons_zero, List.set_cons_succ])
  refine HeldS.wpAnyS_take (i := 1) [14] (oi := _) (v := ?_) rfl (by kernel_rfl) (by kernel_rfl) (by kernel_rfl) (by kernel_rfl) (by kernel_rfl) (fun _ _ _ h => h) (Or.inl ⟨by rfl, ?_⟩) (by assumption) ?_
  rotate_left
  · (intro w hSw; (try dsimp only at hSw); go_simp; (try with_reducible rfl))
  (try simp only [Act.put, List.setIfInBounds_toArray, List.set_cons_zero, List.set_cons_succ])
  refine HeldS.wpAnyS_take (i := 2) [14, 3] (oi := _) (v := ?_) rfl (by kernel_rfl) (by kernel_rfl) (by kernel_rfl) (by kernel_rfl) (by kernel_rfl) (fun _ _ _ h => h) (Or.inl ⟨by rfl, ?_⟩) (by assumption) ?_
  rotate_left
  · (intro w hSw; (try dsimp only at hSw); go_simp; (try with_reducible rfl))
  (try simp only [Act.put, List.setIfInBounds_toArray, List.set_cons_zero, List.set_cons_succ])
  refine HeldS.wpAnyS_take (i := 3) [14] (oi := _) (v := ?_) rfl (by kernel_rfl) (by kernel_rfl) (by kernel_rfl) (by kernel_rfl) (by kernel_rfl) (fun _ _ _ h => h) (Or.inl ⟨by rfl, ?_⟩) (by assumption) ?_
  rotate_left
  · (intro w hSw; (try dsimp only at hSw); go_simp; (try with_reducible rfl))
  (try simp only [Act.put, List.setIfInBounds_toArray, List.set_cons_zero, List.set_cons_succ])
  refine HeldS.wpAnyS_take (i := 4) [14, 5] (oi := _) (v := ?_) rfl (by kernel_rfl) (by kernel_rfl) (by kernel_rfl) (by kernel_rfl) (by kernel_rfl) (fun _ _ _ h => h) (Or.inl ⟨by rfl, ?_⟩) (by assumption) ?_
  rotate_left
  · (intro w hSw; (try dsimp only at hSw); go_simp; (try with_reducible rfl))
  (try simp only [Act.put, List.setIfInBounds_toArray, List.set_cons_zero, List.set_cons_succ])
  refine HeldS.wpAnyS_take (i := 5) [14] (oi := _) (v := ?_) rfl (by kernel_rfl) (by kernel_rfl) (by kernel_rfl) (by kernel_rfl) (by kernel_rfl) (fun _ _ _ h => h) (Or.inl ⟨by rfl, ?_⟩) (by assumption) ?_
  rotate_left
  · (intro w hSw; (try dsimp only at hSw); go_simp; (try with_reducible rfl))
  (try simp only [Act.put, List.setIfInBounds_toArray, List.set_cons_zero, List.set_cons_succ])
  refine HeldS.wpAnyS_take (i := 6) [14, 7] (oi := _) (v := ?_) rfl (by kernel_rfl) (by kernel_rfl) (by kernel_rfl) (by kernel_rfl) (by kernel_rfl) (fun _ _ _ h => h) (Or.inl ⟨by rfl, ?_⟩) (by assumption) ?_
  rotate_left
  · (intro w hSw; (try dsimp only at hSw); go_simp; (try with_reducible rfl))
  (try simp only [Act.put, List.setIfInBounds_toArray, List.set_cons_zero, List.set_cons_succ])
  refine HeldS.wpAnyS_take (i := 7) [14] (oi := _) (v := ?_) rfl (by kernel_rfl) (by kernel_rfl) (by kernel_rfl) (by kernel_rfl) (by kernel_rfl) (fun _ _ _ h => h) (Or.inl ⟨by rfl, ?_⟩) (by assumption) ?_
  rotate_left
  · (intro w hSw; (try dsimp only at hSw); go_simp; (try with_reducible rfl))
  (try simp only [Act.put, List.setIfInBounds_toArray, List.set_cons_zero, List.set_cons_succ])
  refine HeldS.wpAnyS_take (i := 8) [14, 9] (oi := _) (v := ?_) rfl (by kernel_rfl) (by kernel_rfl) (by kernel_rfl) (by kernel_rfl) (by kernel_rfl) (fun _ _ _ h => h) (Or.inl ⟨by rfl, ?_⟩) (by assumption) ?_
  rotate_left
  · (intro w hSw; (try dsimp only at hSw); go_simp; (try with_reducible rfl))
  (try simp only [Act.put, List.setIfInBounds_toArray, List.set_cons_zero, List.set_cons_succ])
  refine HeldS.wpAnyS_take (i := 9) [14] (oi := _) (v := ?_) rfl (by kernel_rfl) (by kernel_rfl) (by kernel_rfl) (by kernel_rfl) (by kernel_rfl) (fun _ _ _ h => h) (Or.inl ⟨by rfl, ?_⟩) (by assumption) ?_
  rotate_left
  · (intro w hSw; (try dsimp only at hSw); go_simp; (try with_reducible rfl))
  (try simp only [Act.put, List.setIfInBounds_toArray, List.set_cons_zero, List.set_cons_succ])
  refine HeldS.wpAnyS_take (i := 11) [14, 13, 12] (oi := _) (v := ?_) rfl (by kernel_rfl) (by kernel_rfl) (by kernel_rfl) (by kernel_rfl) (by kernel_rfl) (fun _ _ _ h => h) (Or.inl ⟨by rfl, ?_⟩) (by assumption) ?_
  rotate_left
  · (intro w hSw; (try dsimp only at hSw); go_simp; (try with_reducible rfl))
  (try simp only [Act.put, List.setIfInBounds_toArray, List.set_cons_zero, List.set_cons_succ])
  refine HeldS.wpAnyS_take (i := 12) [14, 13] (oi := _) (v := ?_) rfl (by kernel_rfl) (by kernel_rfl) (by kernel_rfl) (by kernel_rfl) (by kernel_rfl) (fun _ _ _ h => h) (Or.inl ⟨by rfl, ?_⟩) (by assumption) ?_
  rotate_left
  · (intro w hSw; (try dsimp only at hSw); go_simp; (try with_reducible rfl))
  (try simp only [Act.put, List.setIfInBounds_toArray, List.set_cons_zero, List.set_cons_succ])
  refine HeldS.wpAnyS_ready (rs := [10]) (by kernel_rfl) (by simp) ?_
  refine HeldS.AllS.cons (o := ⟨some 13, _, _, _, _, _⟩) rfl (fun K hK => ?_) HeldS.AllS.nil
  go_simp
  refine hK.out _ _ (hS.out _ (Upon.alloc (Upon.drew (Upon.refl _ _)) _)) (fun hHeld => ?_)
  clear hK K
  (try simp only [Act.put, List.setIfInBounds_toArray, List.set_cons_zero, List.set_cons_succ])
  refine HeldS.wpAnyS_ready (rs := [13]) (by kernel_rfl) (by simp) ?_
  refine HeldS.AllS.cons (o := ⟨some 16, _, _, _, _, _⟩) rfl (fun K hK => ?_) HeldS.AllS.nil
  refine Rw.step_append typN (o := ⟨some 16, _, _, _, _, _⟩) (by rfl) _ _ (by rfl) (.slice (some ⟨wb.heap.size, 0, none⟩) 0 0) _ [] m.blocks S (by rfl) (by rfl) (Rw.Mine.empty layN hE.out) (Rw.View.new hvb.out (Upon.alloc (Upon.drew (Upon.refl _ _)) _)) (by rw [List.length_nil]; omega) (by rw [List.length_nil]; omega) ?_
  intro v' x hown hg hbl
  rw [List.nil_append] at hown
  obtain ⟨A8, c8, rfl, -, -⟩ := Rw.View.shape (show NMine x v' m.blocks from hown).view
  have hux : Upon (fun k => k = wb.heap.size) wb x := Upon.grown (Upon.alloc (Upon.drew (Upon.refl _ _)) _) hg (fun k hk => .inl (by injection hk with hk; exact hk.symm))
  refine hK.out _ _ (hS.out x hux) (fun hHeld => ?_)
  clear hK K
  (try simp only [Act.put, List.setIfInBounds_toArray, List.set_cons_zero, List.set_cons_succ])
  refine HeldS.wpAnyS_take (i := 14) [] (oi := _) (v := ?_) rfl (by kernel_rfl) (by kernel_rfl) (by kernel_rfl) (by kernel_rfl) (by kernel_rfl) (fun _ _ _ h => h) (Or.inl ⟨by rfl, ?_⟩) (by assumption) ?_
  rotate_left
  · (intro w hSw; (try dsimp only at hSw); go_simp; (try with_reducible rfl))
  (try simp only [Act.put, List.setIfInBounds_toArray, List.set_cons_zero, List.set_cons_succ])
  have hYx := hR.out x hux
  obtain ⟨c0, c1, c2, c3, c4, c5⟩ := hYx.cells
  have z0 := hYx.frozen 0
  obtain ⟨⟨p1, q1⟩, ⟨p2, q2⟩, ⟨p3, q3⟩, ⟨p4, q4⟩, ⟨p5, q5⟩⟩ := hYx.roads ⟨.int .i64 m.epoch, .int .i64 m.base, .int .i64 m.promise, .int .i64 m.mark, .int .i64 m.check, .slice A8 m.blocks.length c8⟩
  have hF := hYx.setAll ⟨.int .i64 m.epoch, .int .i64 m.base, .int .i64 m.promise, .int .i64 m.mark, .int .i64 m.check, .slice A8 m.blocks.length c8⟩
  have sb := sb.out
  have hnx : New0 w x := Upon.trans' hU.out hux (fun i hi e => by omega)
  have huz : New0 w (setSix (w.heap.size + 1) ⟨.int .i64 m.epoch, .int .i64 m.base, .int .i64 m.promise, .int .i64 m.mark, .int .i64 m.check, .slice A8 m.blocks.length c8⟩ x) := upon_setSix hnx (.inr (Nat.le_succ _))
  have hVz : NView (setSix (w.heap.size + 1) ⟨.int .i64 m.epoch, .int .i64 m.base, .int .i64 m.promise, .int .i64 m.mark, .int .i64 m.check, .slice A8 m.blocks.length c8⟩ x) All (.slice A8 m.blocks.length c8) m.blocks := by
    refine Rw.View.all (Rw.Mine.view (Rw.Mine.upon hown (show Upon (fun k => k = w.heap.size + 1) x _ from upon_setSix (Upon.refl _ _) (.inl rfl)) fun k hk e => ?_))
    rcases hbl with h | h
    · rw [h] at hk; injection hk with hk; have hk : wb.heap.size = k := hk; have e : k = w.heap.size + 1 := e; omega
    · rw [h] at hk; injection hk with hk
      have h2 : ((wb.alloc (.cells #[] 9 (0, 0))).drew).heap.size = wb.heap.size + 1 := by show (wb.alloc (.cells #[] 9 (0, 0))).heap.size = _; simp
      rw [h2] at hk
      have e : k = w.heap.size + 1 := e
      omega
  obtain ⟨r0, r1, r2, r3, r4, r5⟩ := hF.cells
  have hend := Lib.hid (And.intro hVz huz)
  dsimp only [svZ, setSix] at c0 c1 c2 c3 c4 c5 p1 q1 p2 q2 p3 q3 p4 q4 p5 q5 r0 r1 r2 r3 r4 r5 hend
  refine HeldS.wpAnyS_ready (rs := [15]) (by kernel_rfl) (by simp) ?_
  refine HeldS.AllS.last (s := 15) (o := ⟨none, _, _, _, _, _⟩) rfl (fun K hK => ?_) HeldS.AllS.nil
  clear hHeld hYx hF hnx huz hVz hux hg hbl hown hS hR hE hU hvb hw2 sb
  go_simp
  refine hK.out _ _ ?_
  clear hK K
  (try simp only [Act.put, List.setIfInBounds_toArray, List.set_cons_zero, List.set_cons_succ])
  refine HeldS.wpAnyS_done (by kernel_rfl) ?_ _
  go_wp2_with fail
  refine bodyPost_ret (v := .agg #[.int .i64 m.epoch, .int .i64 m.base, .int .i64 m.promise, .int .i64 m.mark, .int .i64 m.check, .slice A8 m.blocks.length c8]) (by simp [results, Tryd.results9, go_sem, r0, r1, r2, r3, r4, r5]) rfl ?_
  exact ⟨⟨A8, m.blocks.length, c8⟩, rfl, hend.out.1, hend.out.2⟩
end Mf
end Go.Proofs.YtjpgglajcelllaaDoor
