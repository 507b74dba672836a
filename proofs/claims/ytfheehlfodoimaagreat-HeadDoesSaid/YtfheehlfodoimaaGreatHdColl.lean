/- maps.Values, slices.Collect, slices.SortedFunc, slices.Values, inOrder, at the head's series (layer 13). -/
import Derived.Test.YtfheehlfodoimaaGreatHdLay
import Derived.Maps.AppendAt
set_option maxRecDepth 100000
namespace Go.Proofs.YtfheehlfodoimaaGreat
open Go.RowKit Go.Sort
namespace Hd
open Bit Dsk Ob Dig Go.Proofs.YtfheehlfodoimaaGreat.Nm
set_option linter.unusedVariables false
attribute [local go_sem] Oper.semAt_some
set_option maxHeartbeats 1000000 in
theorem values_in (n : Nat) (b : Nat) (w : World) :
    CallsIn Fence.wide n Tryz.prog 68 #[.map (some b)] w fun e w' => e = .returned (.func (.func 87) #[] #[.pointer (some ⟨w.heap.size, 0, none⟩)]) ∧ w' = w.alloc (.cells #[.map (some b)] 48) := by
  refine callsIn_of_wp Tryz.func68 rfl trivial ?_ rfl
  simp only [Tryz.ntmps68, List.size_toArray, List.length_cons, List.length_nil, Nat.reduceAdd, Nat.reduceSub, Array.replicate_succ, Array.replicate_zero, List.push_toArray, List.append_toArray, List.nil_append, List.cons_append]
  gi_wp2
  go_ret
  exact ⟨rfl, rfl⟩
set_option maxHeartbeats 1000000 in
theorem each_in (n : Nat) (a : Option Addr) (len cap : Nat) (w : World) :
    CallsIn Fence.wide n Tryz.prog 66 #[.slice a len cap] w fun e w' => e = .returned (.func (.func 84) #[] #[.pointer (some ⟨w.heap.size, 0, none⟩)]) ∧ w' = w.alloc (.cells #[.slice a len cap] 111) := by
  refine callsIn_of_wp Tryz.func66 rfl trivial ?_ rfl
  simp only [Tryz.ntmps66, List.size_toArray, List.length_cons, List.length_nil, Nat.reduceAdd, Nat.reduceSub, Array.replicate_succ, Array.replicate_zero, List.push_toArray, List.append_toArray, List.nil_append, List.cons_append]
  gi_wp2
  go_ret
  exact ⟨rfl, rfl⟩
theorem infoQ : (Tryz.prog.info? 82).map (fun i => (i.zero, i.size, i.bytes)) = some (some (.pointer none), 1, 8) := by kernel_rfl
theorem row_not_walk {W : World} {base : Nat} {e : TypeId} {size : Nat} {v : Value} {k : Nat} {xs : List Value} (h : W.ownsRow base e size v k xs) : ∀ (j : Nat) (o : Go.Obj), v.ownBlock = some j → W.heap[j]? = some o → o.isWalk = false := by
  intro j o hj ho
  rcases h.2 with ⟨rfl, _⟩ | ⟨g, cap, cur, rfl, _, hgb, _⟩
  · simp [Value.ownBlock] at hj
  · have : g = j := by simpa [Value.ownBlock] using hj
    subst this; rw [hgb] at ho; cases ho; rfl
set_option maxHeartbeats 2000000 in
theorem appSeq_in (n : Nat) (hn : 2 ≤ n) (Bm b : Nat) (N : Nms) (bs : List Nat) (hv : Vals N bs) (hbs : bs.length ≤ 1000000000) (w : World) (hBm : Bm < w.heap.size) (hm : w.cell? ⟨Bm, 0, none⟩ = some (.map (some b))) (hown : MapS w b N) :
    CallsIn Fence.wide n Tryz.prog 90 #[.slice none 0 0, .func (.func 87) #[] #[.pointer (some ⟨Bm, 0, none⟩)]] w fun e w' => ∃ (v : Value) (xs : List Nat), e = .returned v ∧ xs.Perm bs ∧
      w'.ownsRow w.heap.size 82 1 v xs.length (xs.map encQ) ∧ Below w.heap.size w w' := by
  have h1 : 1 ≤ n := by omega
  obtain ⟨i0, hi, hz0, hz1, hz2⟩ := info_parts infoQ
  refine callsIn_of_wp_marks Tryz.func90 rfl trivial ?_ rfl
  simp only [Tryz.ntmps90, List.size_toArray, List.length_cons, List.length_nil, Nat.reduceAdd, Nat.reduceSub, Array.replicate_succ, Array.replicate_zero, List.push_toArray, List.append_toArray, List.nil_append, List.cons_append]
  gi_wp2
  have bO := Go.Boxed.new w 111 (.slice none 0 0)
  have hB0 : Below w.heap.size w (w.alloc (.cells #[.slice none 0 0] 111)) := (Below.refl _ w).alloc (Nat.le_refl _) _
  have hm0 : (w.alloc (.cells #[.slice none 0 0] 111)).cell? ⟨Bm, 0, none⟩ = some (.map (some b)) := (hB0.cell (p := ⟨Bm, 0, none⟩) hBm).trans hm
  have ho0 : MapS (w.alloc (.cells #[.slice none 0 0] 111)) b N := hown.kept (hB0.block b hown.lt)
  refine wpIn_rangeFunc_ownF rfl h1 (gf := 87) (lb := #[.pointer (some ⟨Bm, 0, none⟩)]) rfl trivial (enters_of Tryz.func87 (by kernel_rfl) rfl)
    (vals_stops (n - 1) (by omega) Bm b N bs hv _ (by simp; omega) hm0 ho0) walksK_t walksK_b (Below.refl _ _) (fun _ => rfl)
    (fun pre W => (∃ v, Go.Boxed W w.heap.size 111 v ∧ W.ownsRow w.heap.size 82 1 v pre.length (pre.map encQ) ∧ True) ∧ Below w.heap.size w W)
    (fun _ _ _ => False)
    (OwnFrom.and (Own.from (holdsRow_own w.heap.size w.heap.size 111 82 1 (fun pre : List Nat => pre.length) (fun pre => pre.map encQ) (fun pre v => True)) _) (ownFrom_below (Nat.le_refl _) (by simp)))
    (fun _ _ _ _ _ hs _ _ => hs)
    ⟨⟨_, bO, World.ownsRow_nil _ _ _ _, trivial⟩, hB0⟩
    (fun x => { tmps := #[.slice none 0 0, .func (.func 87) #[] #[.pointer (some ⟨Bm, 0, none⟩)], .pointer (some ⟨w.heap.size, 0, none⟩), undef, .slice none 0 0, encQ x, .func (.func 87) #[] #[.pointer (some ⟨Bm, 0, none⟩)], encQ x, undef, undef, undef, undef, undef], defers := [] }) ?assign ?body ?done ?stop
  case assign =>
    intro l x W K hK
    gi_wp2
    exact hK
  case body =>
    rintro l pre x W ⟨⟨v, hv2, hrow, -⟩, hB⟩ hlt
    have hc := hv2.cell
    unfold encQ
    gi_wp2_with (gi_at_builtin; refine wpListIn_append_own _ rfl _ _ 111 rfl w.heap.size 82 i0 (.pointer none) 1 8 Tryz.underlying111 hi hz0 hz1 hz2 rfl (by decide) _ _ _ rfl (hrow.alloc _) ⟨W.heap.size, 0, none⟩ 1 1 [encQ x] rfl rfl (cell_one_new _ _ _) (by simp [Value.oneCell', encQ]) (by unfold maxLen; omega) (by omega) (by have := hB.size; simp; omega) ?_; intro v' w1 hown' hgrow _; obtain ⟨g', cap', rfl⟩ := ownsRow_succ hown'; obtain ⟨hv1, hv2', hr2, hk2, hb2⟩ := hv2.appended (by decide) hrow hB.size (Nat.le_refl _) hown' hgrow; have hc1 := hv1.cell; have hf1 := hv1.frozen)
    refine ⟨hk2, ?_, ⟨_, hv2', by rw [List.length_append, List.map_append]; exact hr2, trivial⟩, hB.trans hb2⟩
    exact ((KeepsWalks.alloc _ _).trans (KeepsWalks.of_grownBy hgrow (row_not_walk (hrow.alloc _)))).trans (KeepsWalks.setCell _ _ _)
  case done =>
    rintro D ys W hD hperm ⟨⟨v, hv2, hrow, -⟩, hB⟩ hK
    have hc := hv2.cell
    gi_wp2
    refine ⟨by simp, .inl ⟨_, _, rfl, run_takeDeferred hK, ?_⟩⟩
    exact ⟨_, results_tmp rfl _ _ _, v, ys, rfl, hperm, ownsRow_putObj hrow _ hK rfl, hB.trans (belowK_b (w := w) (Nat.le_refl _) W D _ _ (by simp at hD; omega) hK rfl rfl)⟩
  case stop =>
    rintro D c pre W _ _ h _
    exact h.elim
set_option maxHeartbeats 1000000 in
theorem collect_in (n : Nat) (hn : 3 ≤ n) (Bm b : Nat) (N : Nms) (bs : List Nat) (hv : Vals N bs) (hbs : bs.length ≤ 1000000000) (w : World) (hBm : Bm < w.heap.size) (hm : w.cell? ⟨Bm, 0, none⟩ = some (.map (some b))) (hown : MapS w b N) :
    CallsIn Fence.wide n Tryz.prog 85 #[.func (.func 87) #[] #[.pointer (some ⟨Bm, 0, none⟩)]] w fun e w' => ∃ (v : Value) (xs : List Nat), e = .returned v ∧ xs.Perm bs ∧
      w'.ownsRow w.heap.size 82 1 v xs.length (xs.map encQ) ∧ Below w.heap.size w w' := by
  refine callsIn_of_wp Tryz.func85 rfl trivial ?_ rfl
  simp only [Tryz.ntmps85, List.size_toArray, List.length_cons, List.length_nil, Nat.reduceAdd, Nat.reduceSub, Array.replicate_succ, Array.replicate_zero, List.push_toArray, List.append_toArray, List.nil_append, List.cons_append]
  have h1 : 1 ≤ n := by omega
  have hcall : Fence.wide.fn 90 := trivial
  gi_wp2_with (gi_at_call 90; refine (appSeq_in (n - 1) (by omega) Bm b N bs hv hbs _ hBm hm hown).mono ?_; rintro e w' ⟨v, xs, rfl, hS, hrow, hb⟩)
  go_ret
  exact ⟨v, xs, rfl, hS, hrow, hb⟩
theorem cellsZ : ∀ xs : List Nat, Rw.cells layZ xs = xs.map encQ
  | [] => rfl
  | a :: l => by
    have h := cellsZ l
    unfold Rw.cells at h ⊢
    rw [List.flatMap_cons, h]; rfl
theorem mine_of_row {w : World} {base : Nat} {v : Value} {xs : List Nat} (h : w.ownsRow base 82 1 v xs.length (xs.map encQ)) : Rw.Mine layZ 82 w v xs ∧ ∀ k, v.ownBlock = some k → base ≤ k := by
  have e := cellsZ xs
  constructor
  · unfold Rw.Mine
    rw [e]
    refine ⟨h.1, ?_⟩
    rcases h.2 with k | ⟨g, cap, cur, k1, k2, k3⟩
    · exact .inl k
    · exact .inr ⟨g, cap, cur, k1, Nat.zero_le _, k3⟩
  · intro k hk
    rcases h.2 with ⟨hv, -⟩ | ⟨g, cap, cur, k1, k2, -⟩
    · rw [hv] at hk; cases hk
    · rw [k1] at hk
      injection hk with hk
      rw [← hk]; exact k2
section
variable {A R : Nat → Prop} {p b : Nat} {N : Nms} {bs : List Nat} {rs : List RR} {h : H}
set_option maxHeartbeats 2000000 in
theorem sortedF_any (w : World) (hh : HeadP w A R p b N bs rs h) (hs : Srt h) (hfew : h.length ≤ 1000000000) (Bm : Nat) (hBm : Bm < w.heap.size) (hm : w.cell? ⟨Bm, 0, none⟩ = some (.map (some b))) :
    Calls Tryz.prog 67 #[.func (.func 87) #[] #[.pointer (some ⟨Bm, 0, none⟩)], .func (.func 69) #[] #[]] w fun e w' => ∃ u : Rw.Sl, e = .returned u.v ∧
      Rw.Mine layZ 82 w' u.v bs ∧ (∀ k, u.v.ownBlock = some k → w.heap.size ≤ k) ∧ New0 w w' := by
  have HC := Lib.hid (callsIn_wide.1 (collect_in 5 (by omega) Bm b N bs hh.vals (by rw [hh.blen]; exact hfew) w hBm hm hh.map))
  have HH := Lib.hid (fun w1 (hu : New0 w w1) => hh.new hu)
  have HL := Lib.hid (fun k hk => hh.lt k hk)
  replace hs := Lib.hid hs
  clear hh hm
  go_enter Tryz.func67, Tryz.ntmps67
  go_wp2_with fail
  refine HC.out.mono ?_
  rintro e w2 ⟨v, xs, rfl, hp, hrow, hbel⟩
  have hu2 : New0 w w2 := newOf hbel
  obtain ⟨hmn, hbase⟩ := mine_of_row hrow
  obtain ⟨a, c, rfl, -, -⟩ := Rw.View.shape (Rw.Mine.view hmn)
  have HS := Lib.hid (sortS_any w2 (HH.out w2 hu2) hs.out _ xs hmn hp hfew (fun k hk => ⟨fun e => by have := hbase k hk; have := HL.out k (.inl e); omega, fun e => by have := hbase k hk; have := HL.out k (.inr e); omega⟩))
  have hbl := hp.length_eq
  rw [hbl] at HS hbase ⊢
  replace hbase := Lib.hid hbase
  replace hu2 := Lib.hid hu2
  clear hbel hrow hmn HC HH
  go_wp2_with fail
  refine HS.out.mono ?_
  rintro e w3 ⟨rfl, hm3, hu3⟩
  have hfin := Lib.hid (upon_new hu2.out hu3 (fun k hk => hbase.out k hk))
  replace hm3 := Lib.hid hm3
  clear HS hu3
  go_wp2_with fail
  go_ret
  exact ⟨⟨a, bs.length, c⟩, rfl, hm3.out, hbase.out, hfin.out⟩
set_option maxHeartbeats 2000000 in
/-- The iterator that inOrder hands back. -/
theorem inOrder_any (w : World) (hh : HeadP w A R p b N bs rs h) (hs : Srt h) (hfew : h.length ≤ 1000000000) :
    Calls Tryz.prog 48 #[.pointer (some ⟨p, 0, none⟩)] w fun e w' => ∃ (Bs : Nat) (u : Rw.Sl), e = .returned (.func (.func 84) #[] #[.pointer (some ⟨Bs, 0, none⟩)]) ∧
      Bs < w'.heap.size ∧ w'.cell? ⟨Bs, 0, none⟩ = some u.v ∧ Rw.Mine layZ 82 w' u.v bs ∧ New0 w w' := by
  have b0 := hh.box0
  have HV := Lib.hid (callsIn_wide.1 (values_in 5 b w))
  have ux := (Upon.refl (fun _ => False) w).alloc (.cells #[.map (some b)] 48 (0, 0))
  have HS := Lib.hid (sortedF_any (w.alloc (.cells #[.map (some b)] 48 (0, 0))) (hh.new ux) hs hfew w.heap.size (by simp) (by rw [Lib.cell_of_heap (cell_new w _)]; rfl))
  have HE := Lib.hid (fun a len cap W => callsIn_wide.1 (each_in 5 a len cap W))
  replace ux := Lib.hid ux
  clear hh hs
  go_enter Tryz.func48, Tryz.ntmps48
  go_wp2_with fail
  refine HV.out.mono ?_
  rintro e w1 ⟨rfl, rfl⟩
  clear HV b0
  go_wp2_with fail
  refine HS.out.mono ?_
  rintro e w2 ⟨⟨a, n, c⟩, rfl, hm2, hb2, hu2⟩
  have hn2 := Lib.hid (ux.out.trans hu2)
  replace hm2 := Lib.hid hm2
  clear HS hu2 hb2
  go_wp2_with fail
  refine (HE.out a n c w2).mono ?_
  rintro e w3 ⟨rfl, rfl⟩
  have u3 := (Upon.refl (fun _ => False) w2).alloc (.cells #[.slice a n c] 111 (0, 0))
  have hfin : Hid ((w2.alloc (.cells #[.slice a n c] 111 (0, 0))).cell? ⟨w2.heap.size, 0, none⟩ = some (.slice a n c)) := Lib.hid (by rw [Lib.cell_of_heap (cell_new w2 _)]; rfl)
  have hm3 := Lib.hid (Rw.Mine.new hm2.out u3)
  have hn3 := Lib.hid (hn2.out.trans u3)
  clear HE u3 hm2
  go_wp2_with fail
  go_ret
  exact ⟨w2.heap.size, ⟨a, n, c⟩, rfl, by simp, hfin.out, hm3.out, hn3.out⟩
end
end Hd
end Go.Proofs.YtfheehlfodoimaaGreat
