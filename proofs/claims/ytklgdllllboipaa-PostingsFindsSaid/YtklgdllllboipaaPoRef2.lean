/- The document's own put: a number at its place (layer 14). -/
import Derived.Test.YtklgdllllboipaaPoRef1
import Derived.ArgAppend
import Derived.Lib.QuietBelow
import Derived.Deep.RegionHeld3
set_option maxRecDepth 100000
namespace Go.Proofs.Ytklgdllllboipaa
open Go.RowKit Go.Sort
namespace Po
open Bit Dsk Ob Dig
set_option linter.unusedVariables false
theorem slice_till {w : World} {S : Nat → Prop} {A : Option Addr} {c : Nat} {l : List Int} (h : IView w S (.slice A l.length c) l) {j : Nat} (hj : j ≤ l.length) :
    ∃ A', (∀ W, (Instr.slice 22 (.slice A l.length c) none (some (.int .i64 (j : Int))) none).run Try.prog W = .ok (.slice A' j c) W) ∧ IView w S (.slice A' j c) (l.take j) := by
  obtain ⟨A0, c0, h0, hlc, hcm⟩ := Rw.View.shape h
  injection h0 with _ _ h0
  subst h0
  refine ⟨if c = 0 then A else A.map (·.add (0 * 1)), fun W => ?_, ?_⟩
  · have h1 : (0 : Int) ≤ (j : Int) := by omega
    have h2 : (j : Int) ≤ (c : Int) := by omega
    rw [run_slice_h (w := W) 22 A l.length c Try.underlying22 .i64 (j : Int) h1 h2]
    simp [go_sem, sliced, Try.sizeOf3]
  · by_cases hp : 0 < l.length
    · obtain ⟨b, off, rfl, -, -, -⟩ := IView.cells h hp
      have e : (if c = 0 then some (⟨b, off, none⟩ : Addr) else (some (⟨b, off, none⟩ : Addr)).map (·.add (0 * 1))) = some ⟨b, off, none⟩ := by
        split
        · rfl
        · simp [Addr.add]
      rw [e]
      exact h.till rfl hj (by omega) (Nat.le_refl _)
    · have hl : l = [] := List.length_eq_zero_iff.1 (by omega)
      subst hl
      have : j = 0 := by simpa using hj
      subst this
      exact Rw.View.nil _ _ _ _ hcm
theorem slice_from {w : World} {S : Nat → Prop} {A : Option Addr} {c : Nat} {l : List Int} (h : IView w S (.slice A l.length c) l) {j : Nat} (hj : j ≤ l.length) :
    ∃ A', (∀ W, (Instr.slice 22 (.slice A l.length c) (some (.int .i64 (j : Int))) none none).run Try.prog W = .ok (.slice A' (l.length - j) (c - j)) W) ∧ IView w S (.slice A' (l.length - j) (c - j)) (l.drop j) := by
  obtain ⟨A0, c0, h0, hlc, hcm⟩ := Rw.View.shape h
  injection h0 with _ _ h0
  subst h0
  refine ⟨if c = j then A else A.map (·.add (j * 1)), fun W => ?_, ?_⟩
  · have h1 : (0 : Int) ≤ (j : Int) := by omega
    have h2 : (j : Int) ≤ (l.length : Int) := by omega
    rw [run_slice_l (w := W) 22 A l.length c Try.underlying22 .i64 (j : Int) h1 h2]
    simp [go_sem, sliced, Try.sizeOf3]
  · by_cases hp : j < l.length
    · obtain ⟨b, off, rfl, -, -, -⟩ := IView.cells h (by omega)
      have e : (if c = j then some (⟨b, off, none⟩ : Addr) else (some (⟨b, off, none⟩ : Addr)).map (·.add (j * 1))) = some ⟨b, off + j * 1, none⟩ := by
        rw [if_neg (by omega)]
        simp [Addr.add]
      rw [e]
      exact h.from rfl hj
    · have e : l.drop j = [] := List.drop_eq_nil_of_le (by omega)
      have e2 : l.length - j = 0 := by omega
      rw [e, e2]
      exact Rw.View.nil _ _ _ _ (by omega)

theorem view_next (w : World) (o : Go.Obj) (n : Int) : IView ((w.alloc o).alloc (.cells #[.int .i64 n] 3 (0, 0))) All (.slice (some ⟨w.heap.size + 1, 0, none⟩) 1 1) [n] := by
  have h := view_one (w.alloc o) n
  rwa [show (w.alloc o).heap.size = w.heap.size + 1 by simp] at h
theorem mine_next (w : World) (o : Go.Obj) : IMine ((w.alloc o).alloc (.cells #[] 3 (0, 0))) (.slice (some ⟨w.heap.size + 1, 0, none⟩) 0 0) [] := by
  have h := Rw.Mine.empty layI (T := 3) (cell_new (w.alloc o) (.cells #[] 3 (0, 0)))
  rwa [show (w.alloc o).heap.size = w.heap.size + 1 by simp] at h
theorem carry_next {w x : World} {o : Go.Obj} {n : Int} (hg : (((w.alloc o).alloc (.cells #[.int .i64 n] 3 (0, 0))).drew).grownBy x (some w.heap.size)) : IView x All (.slice (some ⟨w.heap.size + 1, 0, none⟩) 1 1) [n] := by
  have h := Rw.View.drew (n := 1) (view_next w o n)
  obtain ⟨A, c, h1, h2, h3, h4⟩ := h
  refine ⟨A, c, h1, h2, h3, fun hp => ?_⟩
  obtain ⟨b, off, k1, k2, k3⟩ := h4 hp
  have hb : b = w.heap.size + 1 := by injection h1 with h1; rw [k1] at h1; injection h1 with h1; injection h1 with h1; exact h1.symm
  refine ⟨b, off, k1, k2, fun i hi t u ht => ?_⟩
  have h5 := k3 i hi t u ht
  have hlt := World.block_lt_of_cell? _ _ h5
  have h6 := hg.block b hlt (by rw [hb]; intro e; have := Option.some.inj e; omega)
  rw [← h5, World.cell?, World.cell?, h6]
  rfl
theorem carry_old {w x : World} {o : Go.Obj} {n : Int} (hg : (((w.alloc (.cells #[.int .i64 n] 3 (0, 0))).alloc o).drew).grownBy x (some (w.heap.size + 1))) : IView x All (.slice (some ⟨w.heap.size, 0, none⟩) 1 1) [n] := by
  have h := Rw.View.drew (n := 1) (Rw.View.new (view_one w n) ((Upon.refl (fun _ => False) _).alloc o))
  obtain ⟨A, c, h1, h2, h3, h4⟩ := h
  refine ⟨A, c, h1, h2, h3, fun hp => ?_⟩
  obtain ⟨b, off, k1, k2, k3⟩ := h4 hp
  have hb : b = w.heap.size := by injection h1 with h1; rw [k1] at h1; injection h1 with h1; injection h1 with h1; exact h1.symm
  refine ⟨b, off, k1, k2, fun i hi t u ht => ?_⟩
  have h5 := k3 i hi t u ht
  have hlt := World.block_lt_of_cell? _ _ h5
  have h6 := hg.block b hlt (by rw [hb]; intro e; have := Option.some.inj e; omega)
  rw [← h5, World.cell?, World.cell?, h6]
  rfl
def PutE (w : World) (l : List Int) (n : Int) (e : Ending) (w' : World) : Prop :=
  ∃ v r, e = .returned v ∧ IView w' All v r ∧ Up r ∧ (∀ x, x ∈ r ↔ x = n ∨ x ∈ l) ∧ r.length ≤ l.length + 1 ∧ New0 w w'
set_option maxHeartbeats 3200000 in
theorem put_any (w : World) (v : Value) (l : List Int) (n : Int) (hv : IView w All v l) (hl : l.length ≤ 1000000) (hup : Up l) :
    Calls Try.prog 23 #[v, .int .i64 n] w fun e w' => PutE w l n e w' := by
  obtain ⟨A, c, rfl, hlc, hcm⟩ := Rw.View.shape hv
  unfold maxLen at hcm
  replace hv := Lib.hid hv
  replace hup := Lib.hid hup
  replace hlc := Lib.hid hlc
  replace hcm := Lib.hid hcm
  go_enter Try.func23, Try.ntmps23
  go_wp2_with fail
  go_loopw [5] (fun ov wr => ∃ j : Nat, ov = .int .i64 (j : Int) ∧ j ≤ l.length ∧ Hid (∀ k (hk : k < l.length), k < j → l[k] < n) ∧ wr = w) (fun ov _ => l.length - (intOf ov).toNat)
  case atStart => exact ⟨0, rfl, Nat.zero_le _, Lib.hid (fun k _ h => by omega), rfl⟩
  case round =>
    obtain ⟨j, rfl, hj, hg, rfl⟩ := hrel
    obtain ⟨A1, hs1, hT⟩ := slice_till hv.out hj
    obtain ⟨A2, hs2, hD⟩ := slice_from hv.out hj
    by_cases hlt : j < l.length
    · obtain ⟨b, off, rfl, -, -, hcells⟩ := IView.cells hv.out (by omega)
      have x0 := hcells j hlt
      have hnext := Lib.hid (fun (h : l[j] < n) => (show ∀ k (hk : k < l.length), k < j + 1 → l[k] < n from fun k hk h2 => by
        by_cases e : k = j
        · subst e; exact h
        · exact hg.out k hk (by omega)))
      have hhere := Lib.hid (fun (h : l[j] = n) => (show PutE wr l n (.returned (.slice (some ⟨b, off, none⟩) l.length c)) wr from
        ⟨_, l, rfl, hv.out, hup.out, fun x => ⟨.inr, fun h2 => h2.elim (fun e => e ▸ h ▸ List.getElem_mem hlt) id⟩, by omega, Upon.refl _ _⟩))
      have hins := Lib.hid (fun (h : n < l[j]) => up_ins hup.out hj (fun k hk h2 => hg.out k hk h2) (fun _ => h))
      obtain ⟨m, hm⟩ : ∃ m, l[j] = m := ⟨_, rfl⟩
      rw [hm] at x0 hnext hhere hins
      clear hcells hm hg
      by_cases hc1 : m < n
      · have hG := Lib.hid (hnext.out hc1)
        clear hnext hhere hins hs1 hs2 hT hD
        go_wp2_with fail
        go_roundw
        case rel => exact ⟨j + 1, by go_num, hlt, hG, by first | rfl | trivial⟩
        case measure => simp [intOf]; omega
      · by_cases hc2 : m = n
        · have hE := Lib.hid (hhere.out hc2)
          subst hc2
          clear hnext hhere hins hs1 hs2 hT hD
          go_wp2_with fail
          go_ret
          exact hE.out
        · have hIns := Lib.hid (hins.out (by omega))
          have hg : Hid True := Lib.hid trivial
          clear hnext hhere hins
          have hfin : Hid (∀ W' v', IMine W' v' (l.take j ++ [n] ++ l.drop j) → New0 wr W' → PutE wr l n (.returned v') W') := Lib.hid fun W' v' hm hu =>
            ⟨v', _, rfl, hm.view.all, hIns.out, fun x => mem_ins, by simp only [List.length_append, List.length_take, List.length_drop, List.length_singleton]; omega, hu⟩
          have htl : (l.take j).length = j := by rw [List.length_take]; omega
          have hdl : (l.drop j).length = l.length - j := List.length_drop
          replace hT := Lib.hid hT
          replace hD := Lib.hid hD
          have pv := Lib.hid (fun W' : World => view_one W' n)
          have me := Lib.hid (fun W' : World => Rw.Mine.empty layI (T := 3) (cell_new W' (.cells #[] 3 (0, 0))))
          clear hIns hg hv hup
          go_wp2_with fail
          go_region_held3 (fun w' => New0 wr w')
            ((first | assumption | (repeat (first | assumption | exact Upon.refl _ _ | refine Upon.drew ?_ | refine Upon.alloc ?_ _))))
            (first
            | (refine Rw.step_append typI (o := ⟨some 37, _, _, _, _, _⟩) (by rfl) _ _ (by rfl) _ _ [] (l.take j) All (by rfl) (by rfl) (by first | exact (me.out wr).new (by repeat (first | assumption | exact Upon.refl _ _ | refine Upon.drew ?_ | refine Upon.alloc ?_ _)) | exact (mine_next wr (.cells #[.int .i64 n] 3 (0, 0))).new (by repeat (first | assumption | exact Upon.refl _ _ | refine Upon.drew ?_ | refine Upon.alloc ?_ _))) (Rw.View.new hT.out (by repeat (first | assumption | exact Upon.refl _ _ | refine Upon.drew ?_ | refine Upon.alloc ?_ _))) (by rw [htl]; simp; omega) (by rw [htl]; simp; omega) ?_
               intro v1 x1 hm1 hg1 hb1
               have hn1 : New0 wr x1 := Upon.grown (by repeat (first | assumption | exact Upon.refl _ _ | refine Upon.drew ?_ | refine Upon.alloc ?_ _)) hg1 (fun g h => .inr (by
                 have h' := Option.some.inj h
                 simp at h'
                 omega))
               have hf1 : ∀ g, v1.ownBlock = some g → wr.heap.size ≤ g := fun g h => by
                 rcases hb1 with hb1 | hb1
                 · rw [h] at hb1
                   have e1 := Option.some.inj hb1
                   simp at e1
                   omega
                 · rw [h] at hb1
                   have e1 := Option.some.inj hb1
                   simp at e1
                   omega
               first | (have hp1 := carry_next hg1) | (have hp1 := carry_old hg1) | skip
               clear hg1 hb1)
            | (refine Rw.step_append typI (o := ⟨some 40, _, _, _, _, _⟩) (by rfl) _ _ (by rfl) v1 _ ([] ++ l.take j) [n] All (by rfl) (by rfl) (hm1.new (by repeat (first | assumption | exact Upon.refl _ _ | refine Upon.drew ?_ | refine Upon.alloc ?_ _))) (by first | exact pv.out x1 | exact hp1) (by rw [List.nil_append, htl, List.length_singleton]; omega) (by rw [List.nil_append, htl, List.length_singleton]; omega) ?_
               intro v2 x2 hm2 hg2 hb2
               have hn2 : New0 wr x2 := Upon.grown (by repeat (first | assumption | exact Upon.refl _ _ | refine Upon.drew ?_ | refine Upon.alloc ?_ _)) hg2 (fun g h => .inr (hf1 g h))
               have hf2 : ∀ g, v2.ownBlock = some g → wr.heap.size ≤ g := fun g h => by
                 rcases hb2 with hb2 | hb2
                 · exact hf1 g (by rw [← hb2]; exact h)
                 · rw [h] at hb2
                   have e1 := Option.some.inj hb2
                   have e2 := hn1.size
                   try simp at e1
                   omega
               clear hg2 hb2)
            | (refine Rw.step_append typI (o := ⟨some 44, _, _, _, _, _⟩) (by rfl) _ _ (by rfl) v2 _ ([] ++ l.take j ++ [n]) (l.drop j) All (by rfl) (by rfl) (hm2.new (by repeat (first | assumption | exact Upon.refl _ _ | refine Upon.drew ?_ | refine Upon.alloc ?_ _))) (Rw.View.new hD.out (by repeat (first | assumption | exact Upon.refl _ _ | refine Upon.drew ?_ | refine Upon.alloc ?_ _))) (by rw [List.length_append, List.nil_append, htl, List.length_singleton, hdl]; omega) (by rw [List.length_append, List.nil_append, htl, List.length_singleton, hdl]; omega) ?_
               intro v3 x3 hm3 hg3 hb3
               have hn3 : New0 wr x3 := Upon.grown (by repeat (first | assumption | exact Upon.refl _ _ | refine Upon.drew ?_ | refine Upon.alloc ?_ _)) hg3 (fun g h => .inr (hf2 g h))
               have hE := Lib.hid (hfin.out x3 v3 hm3 hn3)
               clear hg3 hb3)
            | fail)
          all_goals
            go_wp2_with fail
            go_ret
            exact hE.out
    · have hIns := Lib.hid (up_ins (n := n) hup.out hj (fun k hk h2 => hg.out k hk h2) (fun h => absurd h hlt))
      have hfin : Hid (∀ W' v', IMine W' v' (l.take j ++ [n] ++ l.drop j) → New0 wr W' → PutE wr l n (.returned v') W') := Lib.hid fun W' v' hm hu =>
        ⟨v', _, rfl, hm.view.all, hIns.out, fun x => mem_ins, by simp only [List.length_append, List.length_take, List.length_drop, List.length_singleton]; omega, hu⟩
      have htl : (l.take j).length = j := by rw [List.length_take]; omega
      have hdl : (l.drop j).length = l.length - j := List.length_drop
      replace hT := Lib.hid hT
      replace hD := Lib.hid hD
      have pv := Lib.hid (fun W' : World => view_one W' n)
      have me := Lib.hid (fun W' : World => Rw.Mine.empty layI (T := 3) (cell_new W' (.cells #[] 3 (0, 0))))
      clear hIns hg hv hup
      go_wp2_with fail
      go_region_held3 (fun w' => New0 wr w')
        ((first | assumption | (repeat (first | assumption | exact Upon.refl _ _ | refine Upon.drew ?_ | refine Upon.alloc ?_ _))))
        (first
        | (refine Rw.step_append typI (o := ⟨some 37, _, _, _, _, _⟩) (by rfl) _ _ (by rfl) _ _ [] (l.take j) All (by rfl) (by rfl) (by first | exact (me.out wr).new (by repeat (first | assumption | exact Upon.refl _ _ | refine Upon.drew ?_ | refine Upon.alloc ?_ _)) | exact (mine_next wr (.cells #[.int .i64 n] 3 (0, 0))).new (by repeat (first | assumption | exact Upon.refl _ _ | refine Upon.drew ?_ | refine Upon.alloc ?_ _))) (Rw.View.new hT.out (by repeat (first | assumption | exact Upon.refl _ _ | refine Upon.drew ?_ | refine Upon.alloc ?_ _))) (by rw [htl]; simp; omega) (by rw [htl]; simp; omega) ?_
           intro v1 x1 hm1 hg1 hb1
           have hn1 : New0 wr x1 := Upon.grown (by repeat (first | assumption | exact Upon.refl _ _ | refine Upon.drew ?_ | refine Upon.alloc ?_ _)) hg1 (fun g h => .inr (by
             have h' := Option.some.inj h
             simp at h'
             omega))
           have hf1 : ∀ g, v1.ownBlock = some g → wr.heap.size ≤ g := fun g h => by
             rcases hb1 with hb1 | hb1
             · rw [h] at hb1
               have e1 := Option.some.inj hb1
               try simp at e1
               omega
             · rw [h] at hb1
               have e1 := Option.some.inj hb1
               try simp at e1
               omega
           first | (have hp1 := carry_next hg1) | (have hp1 := carry_old hg1) | skip
           clear hg1 hb1)
        | (refine Rw.step_append typI (o := ⟨some 40, _, _, _, _, _⟩) (by rfl) _ _ (by rfl) v1 _ ([] ++ l.take j) [n] All (by rfl) (by rfl) (hm1.new (by repeat (first | assumption | exact Upon.refl _ _ | refine Upon.drew ?_ | refine Upon.alloc ?_ _))) (by first | exact pv.out x1 | exact hp1) (by rw [List.nil_append, htl, List.length_singleton]; omega) (by rw [List.nil_append, htl, List.length_singleton]; omega) ?_
           intro v2 x2 hm2 hg2 hb2
           have hn2 : New0 wr x2 := Upon.grown (by repeat (first | assumption | exact Upon.refl _ _ | refine Upon.drew ?_ | refine Upon.alloc ?_ _)) hg2 (fun g h => .inr (hf1 g h))
           have hf2 : ∀ g, v2.ownBlock = some g → wr.heap.size ≤ g := fun g h => by
             rcases hb2 with hb2 | hb2
             · exact hf1 g (by rw [← hb2]; exact h)
             · rw [h] at hb2
               have e1 := Option.some.inj hb2
               have e2 := hn1.size
               try simp at e1
               omega
           clear hg2 hb2)
        | (refine Rw.step_append typI (o := ⟨some 44, _, _, _, _, _⟩) (by rfl) _ _ (by rfl) v2 _ ([] ++ l.take j ++ [n]) (l.drop j) All (by rfl) (by rfl) (hm2.new (by repeat (first | assumption | exact Upon.refl _ _ | refine Upon.drew ?_ | refine Upon.alloc ?_ _))) (Rw.View.new hD.out (by repeat (first | assumption | exact Upon.refl _ _ | refine Upon.drew ?_ | refine Upon.alloc ?_ _))) (by rw [List.length_append, List.nil_append, htl, List.length_singleton, hdl]; omega) (by rw [List.length_append, List.nil_append, htl, List.length_singleton, hdl]; omega) ?_
           intro v3 x3 hm3 hg3 hb3
           have hn3 : New0 wr x3 := Upon.grown (by repeat (first | assumption | exact Upon.refl _ _ | refine Upon.drew ?_ | refine Upon.alloc ?_ _)) hg3 (fun g h => .inr (hf2 g h))
           have hE := Lib.hid (hfin.out x3 v3 hm3 hn3)
           clear hg3 hb3)
        | fail)
      all_goals
        go_wp2_with fail
        go_ret
        exact hE.out
end Po
end Go.Proofs.Ytklgdllllboipaa
