/- The document's head (layer 13): put, walked: the labels are not in. -/
import Derived.Test.YtfheehlfodoimaaGreatPHd2
import Derived.Test.YtfheehlfodoimaaGreatPHeld
set_option maxRecDepth 100000
namespace Go.Proofs.YtfheehlfodoimaaGreat
open Go.RowKit Go.Sort
open Bit Dsk Ob Dig
namespace Rw
/-- 'append' to a row that is new since W: what is beside it stays. -/
theorem step_new5 {α : Type} {L : Lay α} {sT T : TypeId} {bytes : Nat} (ty : Typ L sT T bytes) {W w : World} {ops : Array Oper} {o : Oper} {a : Act} {K : Act → World → Prop} {Q : Exit → Act → World → Prop} {E : Prop} (hgd : o.guard = none) (sl x : Operand)
    (ho : o.op = .call { callee := .builtin .append, args := #[sl, x], argTypes := #[sT, sT] })
    (v xv : Value) (l m : List α) (S : Nat → Prop) (hs : a.eval sl = v) (hx : a.eval x = xv) (hown : Mine L T w v l) (hbase : ∀ b, v.ownBlock = some b → W.heap.size ≤ b) (hW : Bit.New0 W w) (hxv : View L w S xv m) (hlen : (l.length + m.length) * bytes ≤ 140737488355328) (hcount : l.length + m.length ≤ 140737488355328)
    (h : ∀ A k c w', Hid (k = (l ++ m).length) → Mine L T w' (.slice A k c) (l ++ m) → (∀ b, (Value.slice A k c).ownBlock = some b → W.heap.size ≤ b) → Bit.New0 W w' → (∀ {β : Type} {L' : Lay β} {T' : TypeId} {v' : Value} {l' : List β}, T' ≠ T → Mine L' T' w v' l' → Mine L' T' w' v' l') → K (a.put o.dst (.slice A k c)) w') :
    if Region.wanted o (yielded ops a.tmps) = true then Oper.wp Tryz.prog o a w K Q else E := by
  refine step_append ty hgd sl x ho v xv l m S hs hx hown hxv hlen hcount ?_
  intro v' w' hm hg hb
  obtain ⟨A, c, rfl, -, -⟩ := hm.view.shape
  refine h A _ c w' (Lib.hid rfl) hm (fun b hk => ?_) (Rw.grown_new (v' := .slice A (l ++ m).length c) hg (fun g hk => hbase g hk) W (Nat.le_refl _) hW) (fun {β L' T' v2 l'} hT h2 => ?_)
  · rcases hb with hb | hb
    · exact hbase b (hb.symm.trans hk)
    · rw [hb] at hk
      injection hk with hk
      have := hW.size
      omega
  · refine h2.upon (Upon.grown (Upon.refl _ w) hg (fun k hk => .inl hk)) (fun b hb2 hk => ?_)
    obtain ⟨cs, e1⟩ := h2.typ hb2
    obtain ⟨cs2, e2⟩ := hown.typ hk
    exact Hd.typ_ne hT e1 e2 rfl
end Rw
namespace Hd
set_option linter.unusedVariables false
set_option linter.unusedSimpArgs false

theorem cell_two (W : World) (a b : Obj) : ((W.alloc a).alloc b).drew.heap[W.heap.size]? = some a ∧ ((W.alloc a).alloc b).drew.heap[W.heap.size + 1]? = some b := by
  have h1 := cell_new (W.alloc a) b
  have h2 : (W.alloc a).heap.size = W.heap.size + 1 := Array.size_push _
  refine ⟨?_, by rw [h2] at h1; exact h1⟩
  have h3 := ((Upon.refl (fun _ => False) (W.alloc a)).alloc b).block W.heap.size (by omega) (fun f => f)
  exact h3.trans (cell_new W a)
theorem upon_comp {A B : Nat → Prop} {w w1 w2 : World} (h1 : Upon A w w1) (h2 : Upon B w1 w2) (hB : ∀ b, B b → A b ∨ w.heap.size ≤ b) : Upon A w w2 := h1.trans' h2 (fun b hb k => (hB b k).elim id (fun k2 => by omega))
theorem ne_SP : (42 : TypeId) ≠ 81 := by decide
theorem ne_SR : (42 : TypeId) ≠ 59 := by decide
set_option maxHeartbeats 12800000 in
theorem put_new (w : World) {A R : Nat → Prop} {p : Nat} {u : Rw.Sl} {rs : List RR} {h : H} (hh : HeadR w A R p u rs h) (hsane : Sane h) (S : Nat → Prop) (la : Option Addr) (lc : Nat) (l : List Lb.Pr) (t : Int) (q : Nat) (hv : Lb.View w S (.slice la l.length lc) l) (hll : l.length ≤ 1000000000)
    (hin : isIn h l = false) (hu0 : ∃ g, u.a = some ⟨g, 0, none⟩) :
    Calls Tryz.prog 18 #[.pointer (some ⟨p, 0, none⟩), .agg #[.slice la l.length lc, .int .i64 t, .int .u64 (q : Int)]] w fun e w' => e = .returned (.bool true) ∧ PutE w w' A R p (add h (l, t, q)) := by
  have ux := (Upon.refl (fun _ => False) w).alloc (.cells #[.slice la l.length lc, .int .i64 t, .int .u64 (q : Int)] 42 (0, 0))
  have hT : Rw.Blk3 42 w.heap.size (.slice la l.length lc) (.int .i64 t) (.int .u64 (q : Int)) (w.alloc (.cells #[.slice la l.length lc, .int .i64 t, .int .u64 (q : Int)] 42 (0, 0))) := cell_new w _
  obtain ⟨wx, hwx⟩ : ∃ wx, w.alloc (.cells #[.slice la l.length lc, .int .i64 t, .int .u64 (q : Int)] 42 (0, 0)) = wx := ⟨_, rfl⟩
  have hT' := hT.cells
  have HA := at_any _ (hh.new ux) S _ l (Rw.View.new hv ux)
  rw [hin] at HA
  rw [hwx] at ux hT
  obtain ⟨ua, un, uc⟩ := u
  obtain ⟨g, hg⟩ := hu0
  simp only at hg
  subst hg
  have hlen := hh.len
  simp only at hlen
  subst hlen
  have hrl := hh.rows.len
  have hix := ix_le h l
  have hadd := room_new hin
  have hh0 := Lib.hid (fun w' (hu : New0 wx w') => hh.new (ux.trans hu))
  have hC := Lib.hid (fun w' (hu : New0 wx w') => (hT.new hu).cells)
  have hvw := Lib.hid (fun w' (hu : New0 wx w') => (Rw.View.new hv (ux.trans hu)).all)
  have hcap : h.length ≤ uc := by
    obtain ⟨A1, c1, e1, e2, -⟩ := hh.row.view.shape
    injection e1 with _ _ e1
    simp only at e1
    omega
  have hsl := hsane.len
  replace hrl := Lib.hid hrl
  replace hadd := Lib.hid hadd
  replace HA := Lib.hid HA
  replace hwx := Lib.hid hwx
  replace hT := Lib.hid hT
  replace ux := Lib.hid ux
  replace hh := Lib.hid hh
  obtain ⟨i, hi⟩ : ∃ i, ix h l = i := ⟨_, rfl⟩
  simp only [hi] at HA hix hadd
  replace hi := Lib.hid hi
  clear hv hin
  obtain ⟨s0, s1, s2⟩ := hT'
  go_enter Tryz.func18, Tryz.ntmps18
  go_wp2_with fail
  refine HA.out.mono ?_
  rintro e w2 ⟨rfl, n, rfl⟩
  rw [hwx.out]
  have hn2 := Lib.hid (upon_drewN (fun _ => False) wx n)
  clear HA s0 s1 s2 hwx
  generalize wx.drewN n = w2 at *
  go_wp2_with fail
  go_quiet (fail)
  have hn3 := Lib.hid (hn2.out.trans (upon_drewN (fun _ => False) w2 nq))
  clear hn2
  generalize w2.drewN nq = W at *
  have hW := Lib.hid (hh0.out W hn3.out)
  have hvl := hvw.out W hn3.out
  obtain ⟨s0, s1, s2⟩ := hC.out W hn3.out
  have b0 := hW.out.box0
  have bf := hW.out.boxF
  simp only at b0
  have hvR := (Rw.Mine.view hW.out.row).all
  have hvt : Rw.View layR W All (.slice (some ⟨g, 0, none⟩) i uc) (rs.take i) := Rw.View.till hvR hrl.out.symm (by rw [hrl.out]; exact hix) (by omega) (Nat.le_refl _)
  obtain ⟨Ad, hAd⟩ : ∃ Ad, (if uc = i then some (⟨g, 0, none⟩ : Addr) else some ⟨g, i * 3, none⟩) = Ad := ⟨_, rfl⟩
  have hvd : Rw.View layR W All (.slice Ad (h.length - i) (uc - i)) (rs.drop i) := by
    have h1 : Rw.View layR W All (.slice (some ⟨g, 0 + i * 3, none⟩) (h.length - i) (uc - i)) (rs.drop i) := Rw.View.from hvR hrl.out.symm (by rw [hrl.out]; exact hix)
    rw [← hAd]
    split
    · rename_i hc
      have e1 : h.length - i = 0 := by omega
      have e2 : rs.drop i = [] := List.drop_eq_nil_of_le (by rw [hrl.out]; omega)
      rw [e1, e2]
      exact Rw.View.nil _ _ _ _ (by unfold maxLen; omega)
    · rw [Nat.zero_add] at h1
      exact h1
  have hAd := Lib.hid hAd
  have hiu : i ≤ uc := by omega
  have hrl2 : rs.length ≤ 1000000000 := by rw [hrl.out]; exact hsl
  have hS5 : Hid (∀ w', New0 W w' → w'.cell? ⟨p, 0, none⟩ = some (.slice (some ⟨g, 0, none⟩) h.length uc) ∧ w'.frozen? ⟨p, 0, none⟩ = false ∧ w'.cell? ⟨w.heap.size, 0, none⟩ = some (.slice la l.length lc)) := Lib.hid (fun w' hu => ⟨(hW.out.new hu).box0, (hW.out.new hu).boxF, (hC.out w' (hn3.out.trans hu)).1⟩)
  have hbase : ∀ k, W.heap.size ≤ k → ∀ b, (Value.slice (some ⟨k, 0, none⟩) 0 0).ownBlock = some b → W.heap.size ≤ b := fun k hk b hb => by
    have hb := Option.some.inj (show some k = some b from hb)
    omega
  have hsz : Hid (∀ x, New0 W x → W.heap.size ≤ x.heap.size) := Lib.hid (fun x hx => hx.size)
  replace hvt := Lib.hid hvt
  replace hvd := Lib.hid hvd
  replace hvl := Lib.hid hvl
  clear hvR
  go_wp2_with fail
  go_cut [] from 30 to 54 (fun wc => ∃ (x : World) (U lab : Rw.Sl), wc = x.setCell ⟨p, 0, none⟩ (.slice U.a U.n U.c) ∧ Hid (New0 W x) ∧ Hid (Lb.Mine x lab.v l) ∧ Hid (∀ b, lab.v.ownBlock = some b → W.heap.size ≤ b) ∧ Hid (RMine x U.v (rs.take i ++ [⟨lab, ⟨none, 0, 0⟩, 0⟩] ++ rs.drop i)) ∧ Hid (∀ b, U.v.ownBlock = some b → W.heap.size ≤ b))
  case first =>
    refine HeldS.wp_region_S 25 (S := fun w' => w'.cell? ⟨p, 0, none⟩ = some (.slice (some ⟨g, 0, none⟩) h.length uc) ∧ w'.frozen? ⟨p, 0, none⟩ = false ∧ w'.cell? ⟨w.heap.size, 0, none⟩ = some (.slice la l.length lc)) (by kernel_rfl) (hS5.out _ ((Upon.refl _ W).drew)) (fun hHeld => ?_)
    refine HeldS.wpAnyS_take (i := 0) [] (oi := _) (v := ?_) rfl (by kernel_rfl) (by kernel_rfl) (by kernel_rfl) (by kernel_rfl) (by kernel_rfl) (fun _ _ _ h => h) (Or.inl ⟨by rfl, ?_⟩) (by assumption) ?_
    rotate_left
    · (intro w hSw; (try dsimp only at hSw); go_simp; (try with_reducible rfl))
    (try simp only [Act.put, List.setIfInBounds_toArray, List.set_cons_zero, List.set_cons_succ])
    refine HeldS.wpAnyS_take (i := 2) [] (oi := _) (v := ?_) rfl (by kernel_rfl) (by kernel_rfl) (by kernel_rfl) (by kernel_rfl) (by kernel_rfl) (fun _ _ _ h => h) (Or.inl ⟨by rfl, ?_⟩) (by assumption) ?_
    rotate_left
    · (intro w hSw; (try dsimp only at hSw); go_simp; (try with_reducible rfl))
    (try simp only [Act.put, List.setIfInBounds_toArray, List.set_cons_zero, List.set_cons_succ])
    refine HeldS.wpAnyS_take (i := 3) [] (oi := _) (v := ?_) rfl (by kernel_rfl) (by kernel_rfl) (by kernel_rfl) (by kernel_rfl) (by kernel_rfl) (fun _ _ _ h => h) (Or.inl ⟨by rfl, ?_⟩) (by assumption) ?_
    rotate_left
    · (intro w hSw; (try dsimp only at hSw); go_simp; (try with_reducible rfl))
    (try simp only [Act.put, List.setIfInBounds_toArray, List.set_cons_zero, List.set_cons_succ])
    refine HeldS.wpAnyS_take (i := 4) [] (oi := _) (v := ?_) rfl (by kernel_rfl) (by kernel_rfl) (by kernel_rfl) (by kernel_rfl) (by kernel_rfl) (fun _ _ _ h => h) (Or.inl ⟨by rfl, ?_⟩) (by assumption) ?_
    rotate_left
    · (intro w hSw; (try dsimp only at hSw); go_simp; (try with_reducible rfl))
    (try simp only [Act.put, List.setIfInBounds_toArray, List.set_cons_zero, List.set_cons_succ])
    refine HeldS.wpAnyS_take (i := 5) [] (oi := _) (v := ?_) rfl (by kernel_rfl) (by kernel_rfl) (by kernel_rfl) (by kernel_rfl) (by kernel_rfl) (fun _ _ _ h => h) (Or.inl ⟨by rfl, ?_⟩) (by assumption) ?_
    rotate_left
    · (intro w hSw; (try dsimp only at hSw); go_simp; (try with_reducible rfl))
    (try simp only [Act.put, List.setIfInBounds_toArray, List.set_cons_zero, List.set_cons_succ])
    refine HeldS.wpAnyS_take (i := 6) [] (oi := _) (v := ?_) rfl (by kernel_rfl) (by kernel_rfl) (by kernel_rfl) (by kernel_rfl) (by kernel_rfl) (fun _ _ _ h => h) (Or.inl ⟨by rfl, ?_⟩) (by assumption) ?_
    rotate_left
    · (intro w hSw; (try dsimp only at hSw); go_simp; (try with_reducible rfl))
    (try simp only [Act.put, List.setIfInBounds_toArray, List.set_cons_zero, List.set_cons_succ])
    refine HeldS.wpAnyS_take (i := 7) [] (oi := _) (v := ?_) rfl (by kernel_rfl) (by kernel_rfl) (by kernel_rfl) (by kernel_rfl) (by kernel_rfl) (fun _ _ _ h => h) (Or.inl ⟨by rfl, ?_⟩) (by assumption) ?_
    rotate_left
    · (intro w hSw; (try dsimp only at hSw); go_simp; (try with_reducible rfl))
    (try simp only [Act.put, List.setIfInBounds_toArray, List.set_cons_zero, List.set_cons_succ])
    refine HeldS.wpAnyS_take (i := 10) [] (oi := _) (v := ?_) rfl (by kernel_rfl) (by kernel_rfl) (by kernel_rfl) (by kernel_rfl) (by kernel_rfl) (fun _ _ _ h => h) (Or.inl ⟨by rfl, ?_⟩) (by assumption) ?_
    rotate_left
    · (intro w hSw; (try dsimp only at hSw); go_simp; (try with_reducible rfl))
    (try simp only [Act.put, List.setIfInBounds_toArray, List.set_cons_zero, List.set_cons_succ])
    refine HeldS.wpAnyS_take (i := 11) [] (oi := _) (v := ?_) rfl (by kernel_rfl) (by kernel_rfl) (by kernel_rfl) (by kernel_rfl) (by kernel_rfl) (fun _ _ _ h => h) (Or.inl ⟨by rfl, ?_⟩) (by assumption) ?_
    rotate_left
    · (intro w hSw; (try dsimp only at hSw); go_simp; (try with_reducible rfl))
    (try simp only [Act.put, List.setIfInBounds_toArray, List.set_cons_zero, List.set_cons_succ])
    refine HeldS.wpAnyS_take (i := 16) [] (oi := _) (v := ?_) rfl (by kernel_rfl) (by kernel_rfl) (by kernel_rfl) (by kernel_rfl) (by kernel_rfl) (fun _ _ _ h => h) (Or.inl ⟨by rfl, ?_⟩) (by assumption) ?_
    rotate_left
    · (intro w hSw; (try dsimp only at hSw); go_simp; (try with_reducible rfl))
    (try simp only [Act.put, List.setIfInBounds_toArray, List.set_cons_zero, List.set_cons_succ])
    refine HeldS.wpAnyS_take (i := 17) [] (oi := _) (v := ?_) rfl (by kernel_rfl) (by kernel_rfl) (by kernel_rfl) (by kernel_rfl) (by kernel_rfl) (fun _ _ _ h => h) (Or.inl ⟨by rfl, ?_⟩) (by assumption) ?_
    rotate_left
    · (intro w hSw; (try dsimp only at hSw); go_simp; (try with_reducible rfl))
    (try simp only [Act.put, List.setIfInBounds_toArray, List.set_cons_zero, List.set_cons_succ])
    refine HeldS.wpAnyS_take (i := 18) [] (oi := _) (v := ?_) rfl (by kernel_rfl) (by kernel_rfl) (by kernel_rfl) (by kernel_rfl) (by kernel_rfl) (fun _ _ _ h => h) (Or.inl ⟨by rfl, ?_⟩) (by assumption) ?_
    rotate_left
    · (intro w hSw; (try dsimp only at hSw); go_simp; (try with_reducible rfl))
    (try simp only [Act.put, List.setIfInBounds_toArray, List.set_cons_zero, List.set_cons_succ])
    refine HeldS.wpAnyS_take (i := 19) [] (oi := _) (v := ?_) rfl (by kernel_rfl) (by kernel_rfl) (by kernel_rfl) (by kernel_rfl) (by kernel_rfl) (fun _ _ _ h => h) (Or.inl ⟨by rfl, ?_⟩) (by assumption) ?_
    rotate_left
    · (intro w hSw; (try dsimp only at hSw); go_simp; (try with_reducible rfl))
    (try simp only [Act.put, List.setIfInBounds_toArray, List.set_cons_zero, List.set_cons_succ])
    refine HeldS.wpAnyS_take (i := 20) [] (oi := _) (v := ?_) rfl (by kernel_rfl) (by kernel_rfl) (by kernel_rfl) (by kernel_rfl) (by kernel_rfl) (fun _ _ _ h => h) (Or.inl ⟨by rfl, ?_⟩) (by assumption) ?_
    rotate_left
    · (intro w hSw; (try dsimp only at hSw); go_simp; (try with_reducible rfl))
    (try simp only [Act.put, List.setIfInBounds_toArray, List.set_cons_zero, List.set_cons_succ])
    refine HeldS.wpAnyS_take (i := 21) [] (oi := _) (v := .slice Ad (h.length - i) (uc - i)) rfl (by kernel_rfl) (by kernel_rfl) (by kernel_rfl) (by kernel_rfl) (by kernel_rfl) (fun _ _ _ h => h) (Or.inl ⟨by rfl, ?_⟩) (by assumption) ?_
    · (intro w hSw; (try dsimp only at hSw); go_simp; (try first | exact hAd.out | rw [hAd.out]))
    (try simp only [Act.put, List.setIfInBounds_toArray, List.set_cons_zero, List.set_cons_succ])
    refine HeldS.wpAnyS_ready (rs := [1, 9]) (by kernel_rfl) (by simp) ?_
    refine HeldS.AllS.cons (o := ⟨some 31, _, _, _, _, _⟩) rfl (fun K hK => ?_) ?_
    · go_simp
      refine hK.out _ _ ?_ (fun hHeld => ?_)
      · exact hS5.out _ (by repeat (first | assumption | exact Upon.refl _ _ | refine Upon.drew ?_ | refine Upon.alloc ?_ _))
      clear hK K
      (try simp only [Act.put, List.setIfInBounds_toArray, List.set_cons_zero, List.set_cons_succ])
      refine HeldS.wpAnyS_ready (rs := [8, 9]) (by kernel_rfl) (by simp) ?_
      refine HeldS.AllS.cons (o := ⟨some 38, _, _, _, _, _⟩) rfl (fun K hK => ?_) ?_
      · refine Rw.step_new5 typR (W := W) (o := ⟨some 38, _, _, _, _, _⟩) (by rfl) _ _ (by rfl) (.slice (some ⟨_, 0, none⟩) 0 0) _ [] (rs.take i) All (by rfl) (by rfl) (by first | exact Rw.Mine.empty layR (cell_two _ _ _).2 | exact Rw.Mine.empty layR (cell_two _ _ _).1 | exact Rw.Mine.empty layR (cell_new _ _)) (hbase _ (by first | exact Nat.le_refl _ | exact Nat.le_succ _ | exact hsz.out _ (by repeat (first | assumption | exact Upon.refl _ _ | refine Upon.drew ?_ | refine Upon.alloc ?_ _)))) (by repeat (first | assumption | exact Upon.refl _ _ | refine Upon.drew ?_ | refine Upon.alloc ?_ _)) (hvt.out.new (by repeat (first | assumption | exact Upon.refl _ _ | refine Upon.drew ?_ | refine Upon.alloc ?_ _))) (by simp; omega) (by simp; omega) ?_
        intro A8 n8 c8 x8 q8 M8 b8 N8 k8
        refine hK.out _ _ ?_ (fun hHeld => ?_)
        · exact hS5.out _ (by repeat (first | assumption | exact Upon.refl _ _ | refine Upon.drew ?_ | refine Upon.alloc ?_ _))
        clear hK K
        (try simp only [Act.put, List.setIfInBounds_toArray, List.set_cons_zero, List.set_cons_succ])
        refine HeldS.wpAnyS_ready (rs := [9]) (by kernel_rfl) (by simp) ?_
        refine HeldS.AllS.cons (o := ⟨some 39, _, _, _, _, _⟩) rfl (fun K hK => ?_) ?_
        · go_simp
          refine hK.out _ _ ?_ (fun hHeld => ?_)
          · exact hS5.out _ (by repeat (first | assumption | exact Upon.refl _ _ | refine Upon.drew ?_ | refine Upon.alloc ?_ _))
          clear hK K
          (try simp only [Act.put, List.setIfInBounds_toArray, List.set_cons_zero, List.set_cons_succ])
          refine HeldS.wpAnyS_ready (rs := [12]) (by kernel_rfl) (by simp) ?_
          refine HeldS.AllS.cons (o := ⟨some 42, _, _, _, _, _⟩) rfl (fun K hK => ?_) ?_
          · refine Rw.step_new5 Lb.typPr (W := W) (o := ⟨some 42, _, _, _, _, _⟩) (by rfl) _ _ (by rfl) (.slice (some ⟨_, 0, none⟩) 0 0) _ [] l All (by rfl) (by rfl) (by first | exact hL0 | exact Rw.Mine.empty Lb.layPr (cell_new _ _)) (hbase _ (by first | exact Nat.le_refl _ | exact Nat.le_succ _ | exact hsz.out _ (by repeat (first | assumption | exact Upon.refl _ _ | refine Upon.drew ?_ | refine Upon.alloc ?_ _)))) (by repeat (first | assumption | exact Upon.refl _ _ | refine Upon.drew ?_ | refine Upon.alloc ?_ _)) (hvl.out.new (by repeat (first | assumption | exact Upon.refl _ _ | refine Upon.drew ?_ | refine Upon.alloc ?_ _))) (by simp; omega) (by simp; omega) ?_
            intro A12 n12 c12 x12 q12 M12 b12 N12 k12
            have M8' := k12 ne_RL (M8.new (by repeat (first | assumption | exact Upon.refl _ _ | refine Upon.drew ?_ | refine Upon.alloc ?_ _)))
            refine hK.out _ _ ?_ (fun hHeld => ?_)
            · exact hS5.out _ (by repeat (first | assumption | exact Upon.refl _ _ | refine Upon.drew ?_ | refine Upon.alloc ?_ _))
            clear hK K
            (try simp only [Act.put, List.setIfInBounds_toArray, List.set_cons_zero, List.set_cons_succ])
            refine HeldS.wpAnyS_take (i := 13) [] (oi := _) (v := ?_) rfl (by kernel_rfl) (by kernel_rfl) (by kernel_rfl) (by kernel_rfl) (by kernel_rfl) (fun _ _ _ h => h) (Or.inl ⟨by rfl, ?_⟩) (by assumption) ?_
            rotate_left
            · (intro w hSw; (try dsimp only at hSw); go_simp; (try with_reducible rfl))
            (try simp only [Act.put, List.setIfInBounds_toArray, List.set_cons_zero, List.set_cons_succ])
            refine HeldS.wpAnyS_ready (rs := [14]) (by kernel_rfl) (by simp) ?_
            refine HeldS.AllS.cons (o := ⟨some 44, _, _, _, _, _⟩) rfl (fun K hK => ?_) ?_
            · go_simp
              refine hK.out _ _ ?_ (fun hHeld => ?_)
              · exact hS5.out _ (by repeat (first | assumption | exact Upon.refl _ _ | refine Upon.drew ?_ | refine Upon.alloc ?_ _))
              clear hK K
              (try simp only [Act.put, List.setIfInBounds_toArray, List.set_cons_zero, List.set_cons_succ])
              refine HeldS.wpAnyS_ready (rs := [15]) (by kernel_rfl) (by simp) ?_
              refine HeldS.AllS.cons (o := ⟨some 45, _, _, _, _, _⟩) rfl (fun K hK => ?_) ?_
              · refine Rw.step_new5 typR (W := W) (o := ⟨some 45, _, _, _, _, _⟩) (by rfl) _ _ (by rfl) (.slice A8 n8 c8) _ ([] ++ rs.take i) [⟨⟨A12, n12, c12⟩, ⟨none, 0, 0⟩, 0⟩] All (by rfl) (by rfl) (M8'.new (by repeat (first | assumption | exact Upon.refl _ _ | refine Upon.drew ?_ | refine Upon.alloc ?_ _))) b8 (by repeat (first | assumption | exact Upon.refl _ _ | refine Upon.drew ?_ | refine Upon.alloc ?_ _)) (rview_one x12 ⟨⟨A12, n12, c12⟩, ⟨none, 0, 0⟩, 0⟩) (by simp; omega) (by simp; omega) ?_
                intro A15 n15 c15 x15 q15 M15 b15 N15 k15
                have M12' := k15 ne_RL.symm (M12.new (by repeat (first | assumption | exact Upon.refl _ _ | refine Upon.drew ?_ | refine Upon.alloc ?_ _)))
                refine hK.out _ _ ?_ (fun hHeld => ?_)
                · exact hS5.out _ (by repeat (first | assumption | exact Upon.refl _ _ | refine Upon.drew ?_ | refine Upon.alloc ?_ _))
                clear hK K
                (try simp only [Act.put, List.setIfInBounds_toArray, List.set_cons_zero, List.set_cons_succ])
                refine HeldS.wpAnyS_ready (rs := [22]) (by kernel_rfl) (by simp) ?_
                refine HeldS.AllS.cons (o := ⟨some 52, _, _, _, _, _⟩) rfl (fun K hK => ?_) ?_
                · refine Rw.step_new5 typR (W := W) (o := ⟨some 52, _, _, _, _, _⟩) (by rfl) _ _ (by rfl) (.slice A15 n15 c15) _ ([] ++ rs.take i ++ [⟨⟨A12, n12, c12⟩, ⟨none, 0, 0⟩, 0⟩]) (rs.drop i) All (by rfl) (by rfl) M15 b15 (by repeat (first | assumption | exact Upon.refl _ _ | refine Upon.drew ?_ | refine Upon.alloc ?_ _)) (hvd.out.new (by repeat (first | assumption | exact Upon.refl _ _ | refine Upon.drew ?_ | refine Upon.alloc ?_ _))) (by simp; omega) (by simp; omega) ?_
                  intro A22 n22 c22 x22 q22 M22 b22 N22 k22
                  have M12'' := k22 ne_RL.symm M12'
                  refine hK.out _ _ ?_ (fun hHeld => ?_)
                  · exact hS5.out _ (by repeat (first | assumption | exact Upon.refl _ _ | refine Upon.drew ?_ | refine Upon.alloc ?_ _))
                  clear hK K
                  (try simp only [Act.put, List.setIfInBounds_toArray, List.set_cons_zero, List.set_cons_succ])
                  refine HeldS.wpAnyS_take (i := 23) [24] (oi := _) (v := ?_) rfl (by kernel_rfl) (by kernel_rfl) (by kernel_rfl) (by kernel_rfl) (by kernel_rfl) (fun _ _ _ h => h) (Or.inl ⟨by rfl, ?_⟩) (by assumption) ?_
                  rotate_left
                  · (intro w hSw; (try dsimp only at hSw); go_simp; (try with_reducible rfl))
                  (try simp only [Act.put, List.setIfInBounds_toArray, List.set_cons_zero, List.set_cons_succ])
                  refine HeldS.wpAnyS_take (i := 24) [] (oi := _) (v := ?_) rfl (by kernel_rfl) (by kernel_rfl) (by kernel_rfl) (by kernel_rfl) (by kernel_rfl) (fun _ _ _ h => h) (Or.inl ⟨by rfl, ?_⟩) (by assumption) ?_
                  rotate_left
                  · (intro w hSw; (try dsimp only at hSw); go_simp; (try with_reducible rfl))
                  (try simp only [Act.put, List.setIfInBounds_toArray, List.set_cons_zero, List.set_cons_succ])
                  refine HeldS.wpAnyS_ready (rs := [25]) (by kernel_rfl) (by simp) ?_
                  refine HeldS.AllS.last (s := 25) (o := ⟨none, _, _, _, _, _⟩) rfl (fun K hK => ?_) ?_
                  · obtain ⟨pc5, pf5, -⟩ := hHeld
                    go_simp
                    refine hK.out _ _ ?_
                    clear hK K
                    (try simp only [Act.put, List.setIfInBounds_toArray, List.set_cons_zero, List.set_cons_succ])
                    refine HeldS.wpAnyS_done (by kernel_rfl) ?_ _
                    go_wp2_with fail
                    go_meet
                    exact ⟨x22, ⟨A22, _, c22⟩, ⟨A12, _, c12⟩, rfl, Lib.hid N22, Lib.hid M12'', Lib.hid b12, Lib.hid M22, Lib.hid b22⟩
                  exact HeldS.AllS.nil
                exact HeldS.AllS.nil
              exact HeldS.AllS.nil
            exact HeldS.AllS.nil
          exact HeldS.AllS.nil
        exact HeldS.AllS.nil
      refine HeldS.AllS.cons (o := ⟨some 39, _, _, _, _, _⟩) rfl (fun K hK => ?_) ?_
      · go_simp
        refine hK.out _ _ ?_ (fun hHeld => ?_)
        · exact hS5.out _ (by repeat (first | assumption | exact Upon.refl _ _ | refine Upon.drew ?_ | refine Upon.alloc ?_ _))
        clear hK K
        (try simp only [Act.put, List.setIfInBounds_toArray, List.set_cons_zero, List.set_cons_succ])
        refine HeldS.wpAnyS_ready (rs := [8]) (by kernel_rfl) (by simp) ?_
        refine HeldS.AllS.cons (o := ⟨some 38, _, _, _, _, _⟩) rfl (fun K hK => ?_) ?_
        · refine Rw.step_new5 typR (W := W) (o := ⟨some 38, _, _, _, _, _⟩) (by rfl) _ _ (by rfl) (.slice (some ⟨_, 0, none⟩) 0 0) _ [] (rs.take i) All (by rfl) (by rfl) (by first | exact Rw.Mine.empty layR (cell_two _ _ _).2 | exact Rw.Mine.empty layR (cell_two _ _ _).1 | exact Rw.Mine.empty layR (cell_new _ _)) (hbase _ (by first | exact Nat.le_refl _ | exact Nat.le_succ _ | exact hsz.out _ (by repeat (first | assumption | exact Upon.refl _ _ | refine Upon.drew ?_ | refine Upon.alloc ?_ _)))) (by repeat (first | assumption | exact Upon.refl _ _ | refine Upon.drew ?_ | refine Upon.alloc ?_ _)) (hvt.out.new (by repeat (first | assumption | exact Upon.refl _ _ | refine Upon.drew ?_ | refine Upon.alloc ?_ _))) (by simp; omega) (by simp; omega) ?_
          intro A8 n8 c8 x8 q8 M8 b8 N8 k8
          have hL0 := k8 ne_RL.symm ((by exact Rw.Mine.empty Lb.layPr (cell_two W _ _).2) : Lb.Mine _ (.slice (some ⟨_, 0, none⟩) 0 0) [])
          refine hK.out _ _ ?_ (fun hHeld => ?_)
          · exact hS5.out _ (by repeat (first | assumption | exact Upon.refl _ _ | refine Upon.drew ?_ | refine Upon.alloc ?_ _))
          clear hK K
          (try simp only [Act.put, List.setIfInBounds_toArray, List.set_cons_zero, List.set_cons_succ])
          refine HeldS.wpAnyS_ready (rs := [12]) (by kernel_rfl) (by simp) ?_
          refine HeldS.AllS.cons (o := ⟨some 42, _, _, _, _, _⟩) rfl (fun K hK => ?_) ?_
          · refine Rw.step_new5 Lb.typPr (W := W) (o := ⟨some 42, _, _, _, _, _⟩) (by rfl) _ _ (by rfl) (.slice (some ⟨_, 0, none⟩) 0 0) _ [] l All (by rfl) (by rfl) (by first | exact hL0 | exact Rw.Mine.empty Lb.layPr (cell_new _ _)) (hbase _ (by first | exact Nat.le_refl _ | exact Nat.le_succ _ | exact hsz.out _ (by repeat (first | assumption | exact Upon.refl _ _ | refine Upon.drew ?_ | refine Upon.alloc ?_ _)))) (by repeat (first | assumption | exact Upon.refl _ _ | refine Upon.drew ?_ | refine Upon.alloc ?_ _)) (hvl.out.new (by repeat (first | assumption | exact Upon.refl _ _ | refine Upon.drew ?_ | refine Upon.alloc ?_ _))) (by simp; omega) (by simp; omega) ?_
            intro A12 n12 c12 x12 q12 M12 b12 N12 k12
            have M8' := k12 ne_RL (M8.new (by repeat (first | assumption | exact Upon.refl _ _ | refine Upon.drew ?_ | refine Upon.alloc ?_ _)))
            refine hK.out _ _ ?_ (fun hHeld => ?_)
            · exact hS5.out _ (by repeat (first | assumption | exact Upon.refl _ _ | refine Upon.drew ?_ | refine Upon.alloc ?_ _))
            clear hK K
            (try simp only [Act.put, List.setIfInBounds_toArray, List.set_cons_zero, List.set_cons_succ])
            refine HeldS.wpAnyS_take (i := 13) [] (oi := _) (v := ?_) rfl (by kernel_rfl) (by kernel_rfl) (by kernel_rfl) (by kernel_rfl) (by kernel_rfl) (fun _ _ _ h => h) (Or.inl ⟨by rfl, ?_⟩) (by assumption) ?_
            rotate_left
            · (intro w hSw; (try dsimp only at hSw); go_simp; (try with_reducible rfl))
            (try simp only [Act.put, List.setIfInBounds_toArray, List.set_cons_zero, List.set_cons_succ])
            refine HeldS.wpAnyS_ready (rs := [14]) (by kernel_rfl) (by simp) ?_
            refine HeldS.AllS.cons (o := ⟨some 44, _, _, _, _, _⟩) rfl (fun K hK => ?_) ?_
            · go_simp
              refine hK.out _ _ ?_ (fun hHeld => ?_)
              · exact hS5.out _ (by repeat (first | assumption | exact Upon.refl _ _ | refine Upon.drew ?_ | refine Upon.alloc ?_ _))
              clear hK K
              (try simp only [Act.put, List.setIfInBounds_toArray, List.set_cons_zero, List.set_cons_succ])
              refine HeldS.wpAnyS_ready (rs := [15]) (by kernel_rfl) (by simp) ?_
              refine HeldS.AllS.cons (o := ⟨some 45, _, _, _, _, _⟩) rfl (fun K hK => ?_) ?_
              · refine Rw.step_new5 typR (W := W) (o := ⟨some 45, _, _, _, _, _⟩) (by rfl) _ _ (by rfl) (.slice A8 n8 c8) _ ([] ++ rs.take i) [⟨⟨A12, n12, c12⟩, ⟨none, 0, 0⟩, 0⟩] All (by rfl) (by rfl) (M8'.new (by repeat (first | assumption | exact Upon.refl _ _ | refine Upon.drew ?_ | refine Upon.alloc ?_ _))) b8 (by repeat (first | assumption | exact Upon.refl _ _ | refine Upon.drew ?_ | refine Upon.alloc ?_ _)) (rview_one x12 ⟨⟨A12, n12, c12⟩, ⟨none, 0, 0⟩, 0⟩) (by simp; omega) (by simp; omega) ?_
                intro A15 n15 c15 x15 q15 M15 b15 N15 k15
                have M12' := k15 ne_RL.symm (M12.new (by repeat (first | assumption | exact Upon.refl _ _ | refine Upon.drew ?_ | refine Upon.alloc ?_ _)))
                refine hK.out _ _ ?_ (fun hHeld => ?_)
                · exact hS5.out _ (by repeat (first | assumption | exact Upon.refl _ _ | refine Upon.drew ?_ | refine Upon.alloc ?_ _))
                clear hK K
                (try simp only [Act.put, List.setIfInBounds_toArray, List.set_cons_zero, List.set_cons_succ])
                refine HeldS.wpAnyS_ready (rs := [22]) (by kernel_rfl) (by simp) ?_
                refine HeldS.AllS.cons (o := ⟨some 52, _, _, _, _, _⟩) rfl (fun K hK => ?_) ?_
                · refine Rw.step_new5 typR (W := W) (o := ⟨some 52, _, _, _, _, _⟩) (by rfl) _ _ (by rfl) (.slice A15 n15 c15) _ ([] ++ rs.take i ++ [⟨⟨A12, n12, c12⟩, ⟨none, 0, 0⟩, 0⟩]) (rs.drop i) All (by rfl) (by rfl) M15 b15 (by repeat (first | assumption | exact Upon.refl _ _ | refine Upon.drew ?_ | refine Upon.alloc ?_ _)) (hvd.out.new (by repeat (first | assumption | exact Upon.refl _ _ | refine Upon.drew ?_ | refine Upon.alloc ?_ _))) (by simp; omega) (by simp; omega) ?_
                  intro A22 n22 c22 x22 q22 M22 b22 N22 k22
                  have M12'' := k22 ne_RL.symm M12'
                  refine hK.out _ _ ?_ (fun hHeld => ?_)
                  · exact hS5.out _ (by repeat (first | assumption | exact Upon.refl _ _ | refine Upon.drew ?_ | refine Upon.alloc ?_ _))
                  clear hK K
                  (try simp only [Act.put, List.setIfInBounds_toArray, List.set_cons_zero, List.set_cons_succ])
                  refine HeldS.wpAnyS_take (i := 23) [24] (oi := _) (v := ?_) rfl (by kernel_rfl) (by kernel_rfl) (by kernel_rfl) (by kernel_rfl) (by kernel_rfl) (fun _ _ _ h => h) (Or.inl ⟨by rfl, ?_⟩) (by assumption) ?_
                  rotate_left
                  · (intro w hSw; (try dsimp only at hSw); go_simp; (try with_reducible rfl))
                  (try simp only [Act.put, List.setIfInBounds_toArray, List.set_cons_zero, List.set_cons_succ])
                  refine HeldS.wpAnyS_take (i := 24) [] (oi := _) (v := ?_) rfl (by kernel_rfl) (by kernel_rfl) (by kernel_rfl) (by kernel_rfl) (by kernel_rfl) (fun _ _ _ h => h) (Or.inl ⟨by rfl, ?_⟩) (by assumption) ?_
                  rotate_left
                  · (intro w hSw; (try dsimp only at hSw); go_simp; (try with_reducible rfl))
                  (try simp only [Act.put, List.setIfInBounds_toArray, List.set_cons_zero, List.set_cons_succ])
                  refine HeldS.wpAnyS_ready (rs := [25]) (by kernel_rfl) (by simp) ?_
                  refine HeldS.AllS.last (s := 25) (o := ⟨none, _, _, _, _, _⟩) rfl (fun K hK => ?_) ?_
                  · obtain ⟨pc5, pf5, -⟩ := hHeld
                    go_simp
                    refine hK.out _ _ ?_
                    clear hK K
                    (try simp only [Act.put, List.setIfInBounds_toArray, List.set_cons_zero, List.set_cons_succ])
                    refine HeldS.wpAnyS_done (by kernel_rfl) ?_ _
                    go_wp2_with fail
                    go_meet
                    exact ⟨x22, ⟨A22, _, c22⟩, ⟨A12, _, c12⟩, rfl, Lib.hid N22, Lib.hid M12'', Lib.hid b12, Lib.hid M22, Lib.hid b22⟩
                  exact HeldS.AllS.nil
                exact HeldS.AllS.nil
              exact HeldS.AllS.nil
            exact HeldS.AllS.nil
          exact HeldS.AllS.nil
        exact HeldS.AllS.nil
      exact HeldS.AllS.nil
    refine HeldS.AllS.cons (o := ⟨some 39, _, _, _, _, _⟩) rfl (fun K hK => ?_) ?_
    · go_simp
      refine hK.out _ _ ?_ (fun hHeld => ?_)
      · exact hS5.out _ (by repeat (first | assumption | exact Upon.refl _ _ | refine Upon.drew ?_ | refine Upon.alloc ?_ _))
      clear hK K
      (try simp only [Act.put, List.setIfInBounds_toArray, List.set_cons_zero, List.set_cons_succ])
      refine HeldS.wpAnyS_ready (rs := [1]) (by kernel_rfl) (by simp) ?_
      refine HeldS.AllS.cons (o := ⟨some 31, _, _, _, _, _⟩) rfl (fun K hK => ?_) ?_
      · go_simp
        refine hK.out _ _ ?_ (fun hHeld => ?_)
        · exact hS5.out _ (by repeat (first | assumption | exact Upon.refl _ _ | refine Upon.drew ?_ | refine Upon.alloc ?_ _))
        clear hK K
        (try simp only [Act.put, List.setIfInBounds_toArray, List.set_cons_zero, List.set_cons_succ])
        refine HeldS.wpAnyS_ready (rs := [8]) (by kernel_rfl) (by simp) ?_
        refine HeldS.AllS.cons (o := ⟨some 38, _, _, _, _, _⟩) rfl (fun K hK => ?_) ?_
        · refine Rw.step_new5 typR (W := W) (o := ⟨some 38, _, _, _, _, _⟩) (by rfl) _ _ (by rfl) (.slice (some ⟨_, 0, none⟩) 0 0) _ [] (rs.take i) All (by rfl) (by rfl) (by first | exact Rw.Mine.empty layR (cell_two _ _ _).2 | exact Rw.Mine.empty layR (cell_two _ _ _).1 | exact Rw.Mine.empty layR (cell_new _ _)) (hbase _ (by first | exact Nat.le_refl _ | exact Nat.le_succ _ | exact hsz.out _ (by repeat (first | assumption | exact Upon.refl _ _ | refine Upon.drew ?_ | refine Upon.alloc ?_ _)))) (by repeat (first | assumption | exact Upon.refl _ _ | refine Upon.drew ?_ | refine Upon.alloc ?_ _)) (hvt.out.new (by repeat (first | assumption | exact Upon.refl _ _ | refine Upon.drew ?_ | refine Upon.alloc ?_ _))) (by simp; omega) (by simp; omega) ?_
          intro A8 n8 c8 x8 q8 M8 b8 N8 k8
          have hL0 := k8 ne_RL.symm ((by exact Rw.Mine.empty Lb.layPr (cell_two W _ _).1) : Lb.Mine _ (.slice (some ⟨_, 0, none⟩) 0 0) [])
          refine hK.out _ _ ?_ (fun hHeld => ?_)
          · exact hS5.out _ (by repeat (first | assumption | exact Upon.refl _ _ | refine Upon.drew ?_ | refine Upon.alloc ?_ _))
          clear hK K
          (try simp only [Act.put, List.setIfInBounds_toArray, List.set_cons_zero, List.set_cons_succ])
          refine HeldS.wpAnyS_ready (rs := [12]) (by kernel_rfl) (by simp) ?_
          refine HeldS.AllS.cons (o := ⟨some 42, _, _, _, _, _⟩) rfl (fun K hK => ?_) ?_
          · refine Rw.step_new5 Lb.typPr (W := W) (o := ⟨some 42, _, _, _, _, _⟩) (by rfl) _ _ (by rfl) (.slice (some ⟨_, 0, none⟩) 0 0) _ [] l All (by rfl) (by rfl) (by first | exact hL0 | exact Rw.Mine.empty Lb.layPr (cell_new _ _)) (hbase _ (by first | exact Nat.le_refl _ | exact Nat.le_succ _ | exact hsz.out _ (by repeat (first | assumption | exact Upon.refl _ _ | refine Upon.drew ?_ | refine Upon.alloc ?_ _)))) (by repeat (first | assumption | exact Upon.refl _ _ | refine Upon.drew ?_ | refine Upon.alloc ?_ _)) (hvl.out.new (by repeat (first | assumption | exact Upon.refl _ _ | refine Upon.drew ?_ | refine Upon.alloc ?_ _))) (by simp; omega) (by simp; omega) ?_
            intro A12 n12 c12 x12 q12 M12 b12 N12 k12
            have M8' := k12 ne_RL (M8.new (by repeat (first | assumption | exact Upon.refl _ _ | refine Upon.drew ?_ | refine Upon.alloc ?_ _)))
            refine hK.out _ _ ?_ (fun hHeld => ?_)
            · exact hS5.out _ (by repeat (first | assumption | exact Upon.refl _ _ | refine Upon.drew ?_ | refine Upon.alloc ?_ _))
            clear hK K
            (try simp only [Act.put, List.setIfInBounds_toArray, List.set_cons_zero, List.set_cons_succ])
            refine HeldS.wpAnyS_take (i := 13) [] (oi := _) (v := ?_) rfl (by kernel_rfl) (by kernel_rfl) (by kernel_rfl) (by kernel_rfl) (by kernel_rfl) (fun _ _ _ h => h) (Or.inl ⟨by rfl, ?_⟩) (by assumption) ?_
            rotate_left
            · (intro w hSw; (try dsimp only at hSw); go_simp; (try with_reducible rfl))
            (try simp only [Act.put, List.setIfInBounds_toArray, List.set_cons_zero, List.set_cons_succ])
            refine HeldS.wpAnyS_ready (rs := [14]) (by kernel_rfl) (by simp) ?_
            refine HeldS.AllS.cons (o := ⟨some 44, _, _, _, _, _⟩) rfl (fun K hK => ?_) ?_
            · go_simp
              refine hK.out _ _ ?_ (fun hHeld => ?_)
              · exact hS5.out _ (by repeat (first | assumption | exact Upon.refl _ _ | refine Upon.drew ?_ | refine Upon.alloc ?_ _))
              clear hK K
              (try simp only [Act.put, List.setIfInBounds_toArray, List.set_cons_zero, List.set_cons_succ])
              refine HeldS.wpAnyS_ready (rs := [15]) (by kernel_rfl) (by simp) ?_
              refine HeldS.AllS.cons (o := ⟨some 45, _, _, _, _, _⟩) rfl (fun K hK => ?_) ?_
              · refine Rw.step_new5 typR (W := W) (o := ⟨some 45, _, _, _, _, _⟩) (by rfl) _ _ (by rfl) (.slice A8 n8 c8) _ ([] ++ rs.take i) [⟨⟨A12, n12, c12⟩, ⟨none, 0, 0⟩, 0⟩] All (by rfl) (by rfl) (M8'.new (by repeat (first | assumption | exact Upon.refl _ _ | refine Upon.drew ?_ | refine Upon.alloc ?_ _))) b8 (by repeat (first | assumption | exact Upon.refl _ _ | refine Upon.drew ?_ | refine Upon.alloc ?_ _)) (rview_one x12 ⟨⟨A12, n12, c12⟩, ⟨none, 0, 0⟩, 0⟩) (by simp; omega) (by simp; omega) ?_
                intro A15 n15 c15 x15 q15 M15 b15 N15 k15
                have M12' := k15 ne_RL.symm (M12.new (by repeat (first | assumption | exact Upon.refl _ _ | refine Upon.drew ?_ | refine Upon.alloc ?_ _)))
                refine hK.out _ _ ?_ (fun hHeld => ?_)
                · exact hS5.out _ (by repeat (first | assumption | exact Upon.refl _ _ | refine Upon.drew ?_ | refine Upon.alloc ?_ _))
                clear hK K
                (try simp only [Act.put, List.setIfInBounds_toArray, List.set_cons_zero, List.set_cons_succ])
                refine HeldS.wpAnyS_ready (rs := [22]) (by kernel_rfl) (by simp) ?_
                refine HeldS.AllS.cons (o := ⟨some 52, _, _, _, _, _⟩) rfl (fun K hK => ?_) ?_
                · refine Rw.step_new5 typR (W := W) (o := ⟨some 52, _, _, _, _, _⟩) (by rfl) _ _ (by rfl) (.slice A15 n15 c15) _ ([] ++ rs.take i ++ [⟨⟨A12, n12, c12⟩, ⟨none, 0, 0⟩, 0⟩]) (rs.drop i) All (by rfl) (by rfl) M15 b15 (by repeat (first | assumption | exact Upon.refl _ _ | refine Upon.drew ?_ | refine Upon.alloc ?_ _)) (hvd.out.new (by repeat (first | assumption | exact Upon.refl _ _ | refine Upon.drew ?_ | refine Upon.alloc ?_ _))) (by simp; omega) (by simp; omega) ?_
                  intro A22 n22 c22 x22 q22 M22 b22 N22 k22
                  have M12'' := k22 ne_RL.symm M12'
                  refine hK.out _ _ ?_ (fun hHeld => ?_)
                  · exact hS5.out _ (by repeat (first | assumption | exact Upon.refl _ _ | refine Upon.drew ?_ | refine Upon.alloc ?_ _))
                  clear hK K
                  (try simp only [Act.put, List.setIfInBounds_toArray, List.set_cons_zero, List.set_cons_succ])
                  refine HeldS.wpAnyS_take (i := 23) [24] (oi := _) (v := ?_) rfl (by kernel_rfl) (by kernel_rfl) (by kernel_rfl) (by kernel_rfl) (by kernel_rfl) (fun _ _ _ h => h) (Or.inl ⟨by rfl, ?_⟩) (by assumption) ?_
                  rotate_left
                  · (intro w hSw; (try dsimp only at hSw); go_simp; (try with_reducible rfl))
                  (try simp only [Act.put, List.setIfInBounds_toArray, List.set_cons_zero, List.set_cons_succ])
                  refine HeldS.wpAnyS_take (i := 24) [] (oi := _) (v := ?_) rfl (by kernel_rfl) (by kernel_rfl) (by kernel_rfl) (by kernel_rfl) (by kernel_rfl) (fun _ _ _ h => h) (Or.inl ⟨by rfl, ?_⟩) (by assumption) ?_
                  rotate_left
                  · (intro w hSw; (try dsimp only at hSw); go_simp; (try with_reducible rfl))
                  (try simp only [Act.put, List.setIfInBounds_toArray, List.set_cons_zero, List.set_cons_succ])
                  refine HeldS.wpAnyS_ready (rs := [25]) (by kernel_rfl) (by simp) ?_
                  refine HeldS.AllS.last (s := 25) (o := ⟨none, _, _, _, _, _⟩) rfl (fun K hK => ?_) ?_
                  · obtain ⟨pc5, pf5, -⟩ := hHeld
                    go_simp
                    refine hK.out _ _ ?_
                    clear hK K
                    (try simp only [Act.put, List.setIfInBounds_toArray, List.set_cons_zero, List.set_cons_succ])
                    refine HeldS.wpAnyS_done (by kernel_rfl) ?_ _
                    go_wp2_with fail
                    go_meet
                    exact ⟨x22, ⟨A22, _, c22⟩, ⟨A12, _, c12⟩, rfl, Lib.hid N22, Lib.hid M12'', Lib.hid b12, Lib.hid M22, Lib.hid b22⟩
                  exact HeldS.AllS.nil
                exact HeldS.AllS.nil
              exact HeldS.AllS.nil
            exact HeldS.AllS.nil
          exact HeldS.AllS.nil
        exact HeldS.AllS.nil
      exact HeldS.AllS.nil
    exact HeldS.AllS.nil
  case rest =>
    obtain ⟨x, U, lab, rfl, hx, hM, hlb, hR, hUb⟩ := hcut
    obtain ⟨A6, R6, hH, eA1, eA2, eR, hup6⟩ := HeadR.insert hW.out hx.out i hM.out hlb.out hR.out hUb.out
    have hadd3 : add h (l, t, q) = (h.take i ++ [⟨l, [], 0⟩] ++ h.drop i : H).set i ⟨l, [] ++ [(t, q)], t⟩ := by
      have h0 : (h.take i ++ [⟨l, [], 0⟩] ++ h.drop i : H)[i]? = some ⟨l, [], 0⟩ := by
        have : (h.take i).length = i := by rw [List.length_take]; omega
        rw [List.append_assoc, List.getElem?_append_right (by omega), this, Nat.sub_self]
        rfl
      have e : (room h l)[ix h l]? = some ⟨l, [], 0⟩ := by rw [hi.out, hadd.out]; exact h0
      have e2 : (room h l)[ix h l]'(room_lt h l) = ⟨l, [], 0⟩ := by
        rw [List.getElem?_eq_getElem (room_lt h l)] at e
        exact Option.some.inj e
      show (room h l).set (ix h l) (grow1 (l, t, q) ((room h l)[ix h l]'(room_lt h l))) = _
      rw [e2, hi.out, hadd.out]
      rfl
    have h2i : (h.take i ++ [⟨l, [], 0⟩] ++ h.drop i : H)[i]? = some ⟨l, [], 0⟩ := by
      have : (h.take i).length = i := by rw [List.length_take]; omega
      rw [List.append_assoc, List.getElem?_append_right (by omega), this, Nat.sub_self]
      rfl
    have hplt : p < w.heap.size := (Array.getElem?_eq_some_iff.1 hh.out.box).1
    have hT6 : Rw.Blk3 42 w.heap.size (.slice la l.length lc) (.int .i64 t) (.int .u64 (q : Int)) (x.setCell ⟨p, 0, none⟩ (.slice U.a U.n U.c)) := (hT.out.new (hn3.out.trans hx.out)).upon (Upon.setCell (S := fun b => b = p) (p := ⟨p, 0, none⟩) (Upon.refl _ x) (.inl rfl) _) (fun e => by omega)
    have hup0 : Upon A w (x.setCell ⟨p, 0, none⟩ (.slice U.a U.n U.c)) := by
      have k1 : Upon A w W := (ux.out.trans hn3.out).mono fun _ _ f => f.elim
      exact k1.trans hup6
    have hWsz : w.heap.size ≤ W.heap.size := (ux.out.trans hn3.out).size
    have hsz6 : w.heap.size ≤ (x.setCell ⟨p, 0, none⟩ (.slice U.a U.n U.c)).heap.size := hup0.size
    change HeadR (x.setCell ⟨p, 0, none⟩ (.slice U.a U.n U.c)) A6 R6 p U _ _ at hH
    generalize hh2 : (h.take i ++ [⟨l, [], 0⟩] ++ h.drop i : H) = h2 at *
    generalize rs.take i ++ [⟨lab, ⟨none, 0, 0⟩, 0⟩] ++ rs.drop i = rs2 at *
    generalize x.setCell ⟨p, 0, none⟩ (.slice U.a U.n U.c) = w6 at *
    obtain ⟨hj, h2i⟩ := List.getElem?_eq_some_iff.1 h2i
    have hri : i < rs2.length := by rw [hH.rows.len]; exact hj
    obtain ⟨g6, c6, r6, hu6, -, -, -, -, -, -, -, -⟩ := hH.at hj
    have hF := Lib.hid (fun w' (hu2 : New0 w6 w') => (hH.new hu2).at2 hj hu6 hri)
    have hgr := Lib.hid (fun (W x : World) (k1 : New0 w6 W) (t' : Rw.Sl) (k2 : PMine x t'.v (h2[i].pts ++ [(t, q)])) (k3 : W.grownBy x rs2[i].pts.v.ownBlock) (k4 : t'.v.ownBlock = rs2[i].pts.v.ownBlock ∨ t'.v.ownBlock = some W.heap.size) => HeadR.grow hH k1 hj hu6 hri k2 k3 k4 t)
    have hD := Lib.hid (fun b (hb : rs2[i].pts.v.ownBlock = some b) => (hH.rows.pts _ hri hj).typ hb)
    have hgtyp : ∃ cs, w6.heap[g6]? = some (.cells cs 59 (0, 0)) := Rw.Mine.typ hH.row (g := g6) (by rw [hu6]; rfl)
    have hne : ∀ b, rs2[i].pts.v.ownBlock = some b → b ≠ p ∧ b ≠ g6 ∧ b ≠ w.heap.size := fun b hb => by
      obtain ⟨cs, h1⟩ := hD.out b hb
      obtain ⟨cs2, h3⟩ := hgtyp
      exact ⟨(typ_ne ne_HP hH.box h1).symm, (typ_ne ne_RP h3 h1).symm, (typ_ne ne_SP hT6 h1).symm⟩
    have hpg : p ≠ g6 := by obtain ⟨cs2, h3⟩ := hgtyp; exact typ_ne ne_HR hH.box h3
    have hgT : g6 ≠ w.heap.size := by obtain ⟨cs2, h3⟩ := hgtyp; exact (typ_ne ne_SR hT6 h3).symm
    have hC6 := Lib.hid (fun w' (hu : New0 w6 w') => (hT6.new hu).cells)
    have hhl := hH.few
    obtain ⟨⟨pa, pn, pc⟩, hps⟩ : ∃ s, rs2[i].pts = s := ⟨_, rfl⟩
    obtain ⟨pts, hpts⟩ : ∃ pts, h2[i].pts = pts := ⟨_, rfl⟩
    obtain ⟨lst, hlst⟩ : ∃ lst, h2[i].last = lst := ⟨_, rfl⟩
    have hpl : pts.length ≤ 1000000000 := by rw [← hpts, h2i]; exact Nat.zero_le _
    have hadd2 : h2.set i ⟨h2[i].lab, pts ++ [(t, q)], t⟩ = add h (l, t, q) := by rw [hadd3, ← hpts, h2i]
    rw [hlst, hpts, hps] at hF
    rw [hpts, hps] at hgr
    rw [hps] at hne
    simp only at hF
    replace hadd2 := Lib.hid hadd2
    replace hne := Lib.hid hne
    replace hpg := Lib.hid hpg
    replace hgT := Lib.hid hgT
    replace eA1 := Lib.hid eA1
    replace eA2 := Lib.hid eA2
    replace eR := Lib.hid eR
    replace hup0 := Lib.hid hup0
    replace hWsz := Lib.hid hWsz
    clear hD hgtyp hH hT6 hadd3 h2i hps hpts hlst hri hu6 hup6 hsz6 hplt hh2 hx hM hlb hR hUb hS5 hbase hsz hvt hvd hvl hAd hW hh hi hadd hT ux hvw hh0 hrl hC b0 bf s0 s1 s2 hn3
    obtain ⟨b0, x1, x2, hpm, hfz⟩ := hF.out w6 (Upon.refl _ w6)
    obtain ⟨s0, s1, s2⟩ := hC6.out w6 (Upon.refl _ w6)
    have W := w6
    have hgf := hfz (i * 3 + 1)
    have hgf2 := Lib.hid (hfz (i * 3 + 2))
    have hS : Hid (∀ w', Upon (fun b => (Value.slice pa pn pc).ownBlock = some b) w6 w' → w'.cell? ⟨p, 0, none⟩ = some (.slice (some ⟨g6, 0, none⟩) h2.length c6) ∧ w'.cell? ⟨g6, i * 3 + 1, none⟩ = some (.slice pa pn pc) ∧ w'.cell? ⟨w.heap.size, 1, none⟩ = some (.int .i64 t) ∧ w'.cell? ⟨w.heap.size, 2, none⟩ = some (.int .u64 (q : Int)) ∧ w'.frozen? ⟨g6, i * 3 + 1, none⟩ = false) := Lib.hid (fun w' hu => by
      have k : ∀ (b o : Nat) (v : Value), w6.cell? ⟨b, o, none⟩ = some v → (¬ (Value.slice pa pn pc).ownBlock = some b) → w'.cell? ⟨b, o, none⟩ = some v := fun b o v hc hn => by
        rw [← hc, World.cell?, World.cell?, hu.block b (World.block_lt_of_cell? w6 _ hc) hn]
      have kg := fun e => (hne.out g6 e).2.1 rfl
      refine ⟨k _ _ _ b0 (fun e => (hne.out p e).1 rfl), k _ _ _ x1 kg, k _ _ _ s1 (fun e => (hne.out _ e).2.2 rfl), k _ _ _ s2 (fun e => (hne.out _ e).2.2 rfl), ?_⟩
      rw [← hgf, World.frozen?, World.frozen?, hu.block g6 (World.block_lt_of_cell? w6 _ x1) kg])
    have x1a := (hS.out (w6.alloc (.cells #[.int .i64 t, .int .u64 (q : Int)] 81 (0, 0))) ((Upon.refl _ w6).alloc _)).2.1
    have hS2 : Hid (∀ w', Upon (fun b => (Value.slice pa pn pc).ownBlock = some b ∨ b = g6) w6 w' → w'.cell? ⟨p, 0, none⟩ = some (.slice (some ⟨g6, 0, none⟩) h2.length c6) ∧ w'.cell? ⟨w.heap.size, 1, none⟩ = some (.int .i64 t) ∧ w'.cell? ⟨w.heap.size, 2, none⟩ = some (.int .u64 (q : Int))) := Lib.hid (fun w' hu => by
      have k : ∀ (b o : Nat) (v : Value), w6.cell? ⟨b, o, none⟩ = some v → (¬ (Value.slice pa pn pc).ownBlock = some b) → b ≠ g6 → w'.cell? ⟨b, o, none⟩ = some v := fun b o v hc hn hg => by
        rw [← hc, World.cell?, World.cell?, hu.block b (World.block_lt_of_cell? w6 _ hc) (fun e => e.elim hn hg)]
      exact ⟨k _ _ _ b0 (fun e => (hne.out p e).1 rfl) hpg.out, k _ _ _ s1 (fun e => (hne.out _ e).2.2 rfl) hgT.out.symm, k _ _ _ s2 (fun e => (hne.out _ e).2.2 rfl) hgT.out.symm⟩)
    replace hpm := Lib.hid hpm
    clear hfz
    go_wp2_with fail
    have b0a := (hS.out (w6.alloc (.cells #[.int .i64 t, .int .u64 (q : Int)] 81 (0, 0))) ((Upon.refl _ w6).alloc _)).1
    go_cut [] from 55 to 76 (fun wc => ∃ (X x : World) (A8 : Option Addr) (c8 : Nat), wc = x.setCell ⟨g6, i * 3 + 1, none⟩ (.slice A8 (pts.length + 1) c8) ∧ Hid (New0 w6 X) ∧ Hid (PMine x (.slice A8 (pts ++ [(t, q)]).length c8) (pts ++ [(t, q)])) ∧ Hid (X.grownBy x (Value.slice pa pn pc).ownBlock) ∧ Hid ((Value.slice A8 (pts ++ [(t, q)]).length c8).ownBlock = (Value.slice pa pn pc).ownBlock ∨ (Value.slice A8 (pts ++ [(t, q)]).length c8).ownBlock = some X.heap.size))
    case first =>
      refine wp_region_held_drew (S := fun w' => w'.cell? ⟨p, 0, none⟩ = some (.slice (some ⟨g6, 0, none⟩) h2.length c6) ∧ w'.cell? ⟨w.heap.size, 1, none⟩ = some (.int .i64 t) ∧ w'.cell? ⟨w.heap.size, 2, none⟩ = some (.int .u64 (q : Int))) (by kernel_rfl) (hS2.out _ ((Upon.refl _ w6).drew)) (fun hHeld => ?_)
      refine wpAnyH_take (i := 0) (oi := _) (v := ?_) rfl (by kernel_rfl) (by kernel_rfl) (by kernel_rfl) (fun _ _ _ h => h) (Or.inl ⟨by rfl, ?_⟩) (by assumption) ?_
      rotate_left
      · (intro w hSw; (try dsimp only at hSw); go_simp; (try with_reducible rfl))
      (try simp only [Act.put, List.setIfInBounds_toArray, List.set_cons_zero, List.set_cons_succ])
      refine wpAnyH_take (i := 1) (oi := _) (v := ?_) rfl (by kernel_rfl) (by kernel_rfl) (by kernel_rfl) (fun _ _ _ h => h) (Or.inl ⟨by rfl, ?_⟩) (by assumption) ?_
      rotate_left
      · (intro w hSw; (try dsimp only at hSw); go_simp; (try with_reducible rfl))
      (try simp only [Act.put, List.setIfInBounds_toArray, List.set_cons_zero, List.set_cons_succ])
      refine wpAnyH_take (i := 2) (oi := _) (v := ?_) rfl (by kernel_rfl) (by kernel_rfl) (by kernel_rfl) (fun _ _ _ h => h) (Or.inl ⟨by rfl, ?_⟩) (by assumption) ?_
      rotate_left
      · (intro w hSw; (try dsimp only at hSw); go_simp; (try with_reducible rfl))
      (try simp only [Act.put, List.setIfInBounds_toArray, List.set_cons_zero, List.set_cons_succ])
      refine wpAnyH_take (i := 3) (oi := _) (v := ?_) rfl (by kernel_rfl) (by kernel_rfl) (by kernel_rfl) (fun _ _ _ h => h) (Or.inl ⟨by rfl, ?_⟩) (by assumption) ?_
      rotate_left
      · (intro w hSw; (try dsimp only at hSw); go_simp; (try with_reducible rfl))
      (try simp only [Act.put, List.setIfInBounds_toArray, List.set_cons_zero, List.set_cons_succ])
      refine wpAnyH_take (i := 4) (oi := _) (v := ?_) rfl (by kernel_rfl) (by kernel_rfl) (by kernel_rfl) (fun _ _ _ h => h) (Or.inl ⟨by rfl, ?_⟩) (by assumption) ?_
      rotate_left
      · (intro w hSw; (try dsimp only at hSw); go_simp; (try with_reducible rfl))
      (try simp only [Act.put, List.setIfInBounds_toArray, List.set_cons_zero, List.set_cons_succ])
      refine wpAnyH_take (i := 5) (oi := _) (v := ?_) rfl (by kernel_rfl) (by kernel_rfl) (by kernel_rfl) (fun _ _ _ h => h) (Or.inl ⟨by rfl, ?_⟩) (by assumption) ?_
      rotate_left
      · (intro w hSw; (try dsimp only at hSw); go_simp; (try with_reducible rfl))
      (try simp only [Act.put, List.setIfInBounds_toArray, List.set_cons_zero, List.set_cons_succ])
      refine wpAnyH_take (i := 6) (oi := _) (v := ?_) rfl (by kernel_rfl) (by kernel_rfl) (by kernel_rfl) (fun _ _ _ h => h) (Or.inl ⟨by rfl, ?_⟩) (by assumption) ?_
      rotate_left
      · (intro w hSw; (try dsimp only at hSw); go_simp; (try with_reducible rfl))
      (try simp only [Act.put, List.setIfInBounds_toArray, List.set_cons_zero, List.set_cons_succ])
      refine wpAnyH_take (i := 7) (oi := _) (v := ?_) rfl (by kernel_rfl) (by kernel_rfl) (by kernel_rfl) (fun _ _ _ h => h) (Or.inl ⟨by rfl, ?_⟩) (by assumption) ?_
      rotate_left
      · (intro w hSw; (try dsimp only at hSw); go_simp; (try with_reducible rfl))
      (try simp only [Act.put, List.setIfInBounds_toArray, List.set_cons_zero, List.set_cons_succ])
      refine wpAnyH_take (i := 8) (oi := _) (v := ?_) rfl (by kernel_rfl) (by kernel_rfl) (by kernel_rfl) (fun _ _ _ h => h) (Or.inl ⟨by rfl, ?_⟩) (by assumption) ?_
      rotate_left
      · (intro w hSw; (try dsimp only at hSw); go_simp; (try with_reducible rfl))
      (try simp only [Act.put, List.setIfInBounds_toArray, List.set_cons_zero, List.set_cons_succ])
      refine wpAnyH_take (i := 9) (oi := _) (v := ?_) rfl (by kernel_rfl) (by kernel_rfl) (by kernel_rfl) (fun _ _ _ h => h) (Or.inl ⟨by rfl, ?_⟩) (by assumption) ?_
      rotate_left
      · (intro w hSw; (try dsimp only at hSw); go_simp; (try with_reducible rfl))
      (try simp only [Act.put, List.setIfInBounds_toArray, List.set_cons_zero, List.set_cons_succ])
      refine wpAnyH_take (i := 10) (oi := _) (v := ?_) rfl (by kernel_rfl) (by kernel_rfl) (by kernel_rfl) (fun _ _ _ h => h) (Or.inl ⟨by rfl, ?_⟩) (by assumption) ?_
      rotate_left
      · (intro w hSw; (try dsimp only at hSw); go_simp; (try with_reducible rfl))
      (try simp only [Act.put, List.setIfInBounds_toArray, List.set_cons_zero, List.set_cons_succ])
      refine wpAnyH_take (i := 11) (oi := _) (v := ?_) rfl (by kernel_rfl) (by kernel_rfl) (by kernel_rfl) (fun _ _ _ h => h) (Or.inl ⟨by rfl, ?_⟩) (by assumption) ?_
      rotate_left
      · (intro w hSw; (try dsimp only at hSw); go_simp; (try with_reducible rfl))
      (try simp only [Act.put, List.setIfInBounds_toArray, List.set_cons_zero, List.set_cons_succ])
      refine wpAnyH_take (i := 13) (oi := _) (v := ?_) rfl (by kernel_rfl) (by kernel_rfl) (by kernel_rfl) (fun _ _ _ h => h) (Or.inl ⟨by rfl, ?_⟩) (by assumption) ?_
      rotate_left
      · (intro w hSw; (try dsimp only at hSw); go_simp; (try with_reducible rfl))
      (try simp only [Act.put, List.setIfInBounds_toArray, List.set_cons_zero, List.set_cons_succ])
      refine wpAnyH_take (i := 14) (oi := _) (v := ?_) rfl (by kernel_rfl) (by kernel_rfl) (by kernel_rfl) (fun _ _ _ h => h) (Or.inl ⟨by rfl, ?_⟩) (by assumption) ?_
      rotate_left
      · (intro w hSw; (try dsimp only at hSw); go_simp; (try with_reducible rfl))
      (try simp only [Act.put, List.setIfInBounds_toArray, List.set_cons_zero, List.set_cons_succ])
      refine wpAnyH_take (i := 15) (oi := _) (v := ?_) rfl (by kernel_rfl) (by kernel_rfl) (by kernel_rfl) (fun _ _ _ h => h) (Or.inl ⟨by rfl, ?_⟩) (by assumption) ?_
      rotate_left
      · (intro w hSw; (try dsimp only at hSw); go_simp; (try with_reducible rfl))
      (try simp only [Act.put, List.setIfInBounds_toArray, List.set_cons_zero, List.set_cons_succ])
      refine wpAnyH_take (i := 16) (oi := _) (v := ?_) rfl (by kernel_rfl) (by kernel_rfl) (by kernel_rfl) (fun _ _ _ h => h) (Or.inl ⟨by rfl, ?_⟩) (by assumption) ?_
      rotate_left
      · (intro w hSw; (try dsimp only at hSw); go_simp; (try with_reducible rfl))
      (try simp only [Act.put, List.setIfInBounds_toArray, List.set_cons_zero, List.set_cons_succ])
      refine wpAnyH_take (i := 17) (oi := _) (v := ?_) rfl (by kernel_rfl) (by kernel_rfl) (by kernel_rfl) (fun _ _ _ h => h) (Or.inl ⟨by rfl, ?_⟩) (by assumption) ?_
      rotate_left
      · (intro w hSw; (try dsimp only at hSw); go_simp; (try with_reducible rfl))
      (try simp only [Act.put, List.setIfInBounds_toArray, List.set_cons_zero, List.set_cons_succ])
      refine wpAnyH_ready (rs := [12, 18]) (by kernel_rfl) (by simp) ?_
      refine AllReadyH.cons (o := ⟨some 67, _, _, _, _, _⟩) rfl (fun K hK => ?_) ?_
      · go_simp
        refine hK.out _ _ ?_ (fun hHeld => ?_)
        · try dsimp only
          refine hS2.out _ ?_
          repeat (first | assumption | exact Upon.refl _ _ | refine Upon.drew ?_ | refine Upon.alloc ?_ _ | refine Upon.setCell (p := ⟨g6, _, none⟩) ?_ (.inl (.inr rfl)) _)
        clear hK K
        (try simp only [Act.put, List.setIfInBounds_toArray, List.set_cons_zero, List.set_cons_succ])
        refine wpAnyH_ready (rs := [18]) (by kernel_rfl) (by simp) ?_
        refine AllReadyH.cons (o := ⟨some 73, _, _, _, _, _⟩) rfl (fun K hK => ?_) ?_
        · go_simp
          refine hK.out _ _ ?_ (fun hHeld => ?_)
          · try dsimp only
            refine hS2.out _ ?_
            repeat (first | assumption | exact Upon.refl _ _ | refine Upon.drew ?_ | refine Upon.alloc ?_ _ | refine Upon.setCell (p := ⟨g6, _, none⟩) ?_ (.inl (.inr rfl)) _)
          clear hK K
          (try simp only [Act.put, List.setIfInBounds_toArray, List.set_cons_zero, List.set_cons_succ])
          refine wpAnyH_ready (rs := [19]) (by kernel_rfl) (by simp) ?_
          refine AllReadyH.cons (o := ⟨some 74, _, _, _, _, _⟩) rfl (fun K hK => ?_) ?_
          · refine Rw.step_append typP (o := ⟨some 74, _, _, _, _, _⟩) (by rfl) _ _ (by rfl) (.slice pa pn pc) _ pts [(t, q)] All (by rfl) (by rfl) (hpm.out.new (by repeat (first | assumption | exact Upon.refl _ _ | refine Upon.drew ?_ | refine Upon.alloc ?_ _))) (by first | exact Rw.View.new (pview_one w6 t q) (by repeat (first | assumption | exact Upon.refl _ _ | refine Upon.drew ?_ | refine Upon.alloc ?_ _)) | exact Rw.View.new (pview_one w6.drew t q) (by repeat (first | assumption | exact Upon.refl _ _ | refine Upon.drew ?_ | refine Upon.alloc ?_ _))) (by rw [List.length_singleton]; omega) (by rw [List.length_singleton]; omega) ?_
            intro v' x hown hg hb
            have hux : Upon (fun b => (Value.slice pa pn pc).ownBlock = some b) w6 x := Upon.grown (by repeat (first | assumption | exact Upon.refl _ _ | refine Upon.drew ?_ | refine Upon.alloc ?_ _)) hg (fun k hk => .inl hk)
            have hux2 : Upon (fun b => (Value.slice pa pn pc).ownBlock = some b ∨ b = g6) w6 x := hux.mono fun _ _ h => .inl h
            obtain ⟨px, x1x, -, -, tfx⟩ := hS.out x hux
            obtain ⟨A8, c8, rfl, -, -⟩ := Rw.View.shape (show PMine x v' (pts ++ [(t, q)]) from hown).view
            refine hK.out _ _ ?_ (fun hHeld => ?_)
            · try dsimp only
              refine hS2.out _ ?_
              repeat (first | assumption | exact Upon.refl _ _ | refine Upon.drew ?_ | refine Upon.alloc ?_ _ | refine Upon.setCell (p := ⟨g6, _, none⟩) ?_ (.inl (.inr rfl)) _)
            clear hK K
            (try simp only [Act.put, List.setIfInBounds_toArray, List.set_cons_zero, List.set_cons_succ])
            refine wpAnyH_take (i := 20) (oi := _) (v := ?_) rfl (by kernel_rfl) (by kernel_rfl) (by kernel_rfl) (fun _ _ _ h => h) (Or.inl ⟨by rfl, ?_⟩) (by assumption) ?_
            rotate_left
            · (intro w hSw; (try dsimp only at hSw); go_simp; (try with_reducible rfl))
            (try simp only [Act.put, List.setIfInBounds_toArray, List.set_cons_zero, List.set_cons_succ])
            refine wpAnyH_take (i := 21) (oi := _) (v := ?_) rfl (by kernel_rfl) (by kernel_rfl) (by kernel_rfl) (fun _ _ _ h => h) (Or.inl ⟨by rfl, ?_⟩) (by assumption) ?_
            rotate_left
            · (intro w hSw; (try dsimp only at hSw); go_simp; (try with_reducible rfl))
            (try simp only [Act.put, List.setIfInBounds_toArray, List.set_cons_zero, List.set_cons_succ])
            refine wpAnyH_ready (rs := [22]) (by kernel_rfl) (by simp) ?_
            refine AllReadyH.cons (o := ⟨none, _, _, _, _, _⟩) rfl (fun K hK => ?_) ?_
            · go_simp
              refine hK.out _ _ ?_ (fun hHeld => ?_)
              · try dsimp only
                refine hS2.out _ ?_
                repeat (first | assumption | exact Upon.refl _ _ | refine Upon.drew ?_ | refine Upon.alloc ?_ _ | refine Upon.setCell (p := ⟨g6, _, none⟩) ?_ (.inl (.inr rfl)) _)
              clear hK K
              (try simp only [Act.put, List.setIfInBounds_toArray, List.set_cons_zero, List.set_cons_succ])
              refine wpAnyH_done (by kernel_rfl) ?_ _
              go_wp2_with fail
              go_meet
              exact ⟨_, _, _, _, rfl, Lib.hid (by repeat (first | assumption | exact Upon.refl _ _ | refine Upon.drew ?_ | refine Upon.alloc ?_ _)), Lib.hid hown, Lib.hid hg, Lib.hid hb⟩
            exact AllReadyH.nil
          exact AllReadyH.nil
        exact AllReadyH.nil
      refine AllReadyH.cons (o := ⟨some 73, _, _, _, _, _⟩) rfl (fun K hK => ?_) ?_
      · go_simp
        refine hK.out _ _ ?_ (fun hHeld => ?_)
        · try dsimp only
          refine hS2.out _ ?_
          repeat (first | assumption | exact Upon.refl _ _ | refine Upon.drew ?_ | refine Upon.alloc ?_ _ | refine Upon.setCell (p := ⟨g6, _, none⟩) ?_ (.inl (.inr rfl)) _)
        clear hK K
        (try simp only [Act.put, List.setIfInBounds_toArray, List.set_cons_zero, List.set_cons_succ])
        refine wpAnyH_ready (rs := [12]) (by kernel_rfl) (by simp) ?_
        refine AllReadyH.cons (o := ⟨some 67, _, _, _, _, _⟩) rfl (fun K hK => ?_) ?_
        · go_simp
          refine hK.out _ _ ?_ (fun hHeld => ?_)
          · try dsimp only
            refine hS2.out _ ?_
            repeat (first | assumption | exact Upon.refl _ _ | refine Upon.drew ?_ | refine Upon.alloc ?_ _ | refine Upon.setCell (p := ⟨g6, _, none⟩) ?_ (.inl (.inr rfl)) _)
          clear hK K
          (try simp only [Act.put, List.setIfInBounds_toArray, List.set_cons_zero, List.set_cons_succ])
          refine wpAnyH_ready (rs := [19]) (by kernel_rfl) (by simp) ?_
          refine AllReadyH.cons (o := ⟨some 74, _, _, _, _, _⟩) rfl (fun K hK => ?_) ?_
          · refine Rw.step_append typP (o := ⟨some 74, _, _, _, _, _⟩) (by rfl) _ _ (by rfl) (.slice pa pn pc) _ pts [(t, q)] All (by rfl) (by rfl) (hpm.out.new (by repeat (first | assumption | exact Upon.refl _ _ | refine Upon.drew ?_ | refine Upon.alloc ?_ _))) (by first | exact Rw.View.new (pview_one w6 t q) (by repeat (first | assumption | exact Upon.refl _ _ | refine Upon.drew ?_ | refine Upon.alloc ?_ _)) | exact Rw.View.new (pview_one w6.drew t q) (by repeat (first | assumption | exact Upon.refl _ _ | refine Upon.drew ?_ | refine Upon.alloc ?_ _))) (by rw [List.length_singleton]; omega) (by rw [List.length_singleton]; omega) ?_
            intro v' x hown hg hb
            have hux : Upon (fun b => (Value.slice pa pn pc).ownBlock = some b) w6 x := Upon.grown (by repeat (first | assumption | exact Upon.refl _ _ | refine Upon.drew ?_ | refine Upon.alloc ?_ _)) hg (fun k hk => .inl hk)
            have hux2 : Upon (fun b => (Value.slice pa pn pc).ownBlock = some b ∨ b = g6) w6 x := hux.mono fun _ _ h => .inl h
            obtain ⟨px, x1x, -, -, tfx⟩ := hS.out x hux
            obtain ⟨A8, c8, rfl, -, -⟩ := Rw.View.shape (show PMine x v' (pts ++ [(t, q)]) from hown).view
            refine hK.out _ _ ?_ (fun hHeld => ?_)
            · try dsimp only
              refine hS2.out _ ?_
              repeat (first | assumption | exact Upon.refl _ _ | refine Upon.drew ?_ | refine Upon.alloc ?_ _ | refine Upon.setCell (p := ⟨g6, _, none⟩) ?_ (.inl (.inr rfl)) _)
            clear hK K
            (try simp only [Act.put, List.setIfInBounds_toArray, List.set_cons_zero, List.set_cons_succ])
            refine wpAnyH_take (i := 20) (oi := _) (v := ?_) rfl (by kernel_rfl) (by kernel_rfl) (by kernel_rfl) (fun _ _ _ h => h) (Or.inl ⟨by rfl, ?_⟩) (by assumption) ?_
            rotate_left
            · (intro w hSw; (try dsimp only at hSw); go_simp; (try with_reducible rfl))
            (try simp only [Act.put, List.setIfInBounds_toArray, List.set_cons_zero, List.set_cons_succ])
            refine wpAnyH_take (i := 21) (oi := _) (v := ?_) rfl (by kernel_rfl) (by kernel_rfl) (by kernel_rfl) (fun _ _ _ h => h) (Or.inl ⟨by rfl, ?_⟩) (by assumption) ?_
            rotate_left
            · (intro w hSw; (try dsimp only at hSw); go_simp; (try with_reducible rfl))
            (try simp only [Act.put, List.setIfInBounds_toArray, List.set_cons_zero, List.set_cons_succ])
            refine wpAnyH_ready (rs := [22]) (by kernel_rfl) (by simp) ?_
            refine AllReadyH.cons (o := ⟨none, _, _, _, _, _⟩) rfl (fun K hK => ?_) ?_
            · go_simp
              refine hK.out _ _ ?_ (fun hHeld => ?_)
              · try dsimp only
                refine hS2.out _ ?_
                repeat (first | assumption | exact Upon.refl _ _ | refine Upon.drew ?_ | refine Upon.alloc ?_ _ | refine Upon.setCell (p := ⟨g6, _, none⟩) ?_ (.inl (.inr rfl)) _)
              clear hK K
              (try simp only [Act.put, List.setIfInBounds_toArray, List.set_cons_zero, List.set_cons_succ])
              refine wpAnyH_done (by kernel_rfl) ?_ _
              go_wp2_with fail
              go_meet
              exact ⟨_, _, _, _, rfl, Lib.hid (by repeat (first | assumption | exact Upon.refl _ _ | refine Upon.drew ?_ | refine Upon.alloc ?_ _)), Lib.hid hown, Lib.hid hg, Lib.hid hb⟩
            exact AllReadyH.nil
          exact AllReadyH.nil
        exact AllReadyH.nil
      exact AllReadyH.nil
    case rest =>
      obtain ⟨X, x, A8, c8, rfl, hX, hown, hg, hb⟩ := hcut
      have hux : Upon (fun b => (Value.slice pa pn pc).ownBlock = some b) w6 x := Upon.grown (hX.out.mono fun _ _ f => f.elim) hg.out (fun k hk => .inl hk)
      have hux2 : Upon (fun b => (Value.slice pa pn pc).ownBlock = some b ∨ b = g6) w6 x := hux.mono fun _ _ h => .inl h
      obtain ⟨-, x1x, -, -, tfx⟩ := hS.out x hux
      have hL : (pts ++ [(t, q)]).length = pts.length + 1 := by simp
      replace hown := hown.out
      replace hb := hb.out
      replace hg := hg.out
      rw [hL] at hown hb
      obtain ⟨A', rs', hfin, hA1, hA2, hup⟩ := hgr.out _ x hX.out ⟨A8, pts.length + 1, c8⟩ hown hg hb
      have x2x : x.cell? ⟨g6, i * 3 + 2, none⟩ = some (.int .i64 lst) := by rw [← x2, World.cell?, World.cell?, hux.block g6 (World.block_lt_of_cell? w6 _ x2) (fun e => (hne.out g6 e).2.1 rfl)]
      have tfx2 : x.frozen? ⟨g6, i * 3 + 2, none⟩ = false := by rw [← hgf2.out, World.frozen?, World.frozen?, hux.block g6 (World.block_lt_of_cell? w6 _ x2) (fun e => (hne.out g6 e).2.1 rfl)]
      have c7 : (x.setCell ⟨g6, i * 3 + 1, none⟩ (.slice A8 (pts.length + 1) c8)).cell? ⟨g6, i * 3 + 2, none⟩ = some (.int .i64 lst) := World.set_other (by omega) x2x
      have f7 : (x.setCell ⟨g6, i * 3 + 1, none⟩ (.slice A8 (pts.length + 1) c8)).frozen? ⟨g6, i * 3 + 2, none⟩ = false := (World.frozen?_setCell x _ _ _).trans tfx2
      obtain ⟨p7, s7, -⟩ := hS2.out (x.setCell ⟨g6, i * 3 + 1, none⟩ (.slice A8 (pts.length + 1) c8)) (Upon.setCell (p := ⟨g6, i * 3 + 1, none⟩) hux2 (.inl (.inr rfl)) _)
      have hA1' := fun b hb => hA1 b (eA1.out b hb)
      have hA2' : ∀ b, A' b → A b ∨ w.heap.size ≤ b := fun b hb => (hA2 b hb).elim (fun k => (eA2.out b k).imp id (fun k2 => Nat.le_trans hWsz.out k2)) (fun k => .inr (Nat.le_trans hup0.out.size k))
      have hup' := upon_comp hup0.out hup (fun b k => (eA2.out b k).imp id (fun k2 => Nat.le_trans hWsz.out k2))
      replace hA1 := hA1'
      replace hA2 := hA2'
      replace hup := hup'
      have eR' : ∀ b, R6 b → R b ∨ w.heap.size ≤ b := fun b k => (eR.out b k).imp id (fun k2 => Nat.le_trans hWsz.out k2)
      clear hA1' hA2' hup' eA1 eA2 eR hup0
      have eR := Lib.hid eR'
      clear eR'
      replace hfin := Lib.hid hfin
      replace hup := Lib.hid hup
      replace hA1 := Lib.hid hA1
      replace hA2 := Lib.hid hA2
      clear hown hg hb hux hux2 x1x tfx hL x2x tfx2 hgr hS hS2 hpm b0 x1 x2 s0 s1 s2 hgf x1a hF hC6
      generalize x.setCell ⟨g6, i * 3 + 1, none⟩ (.slice A8 (pts.length + 1) c8) = w7 at *
      go_wp2_with fail
      go_region
      all_goals
        go_wp2_with fail
        go_ret
        rw [← hadd2.out]
        first
        | exact ⟨rfl, ⟨A', R6, U, rs', hfin.out, hA1.out, hA2.out, eR.out⟩, hup.out⟩
        | exact ⟨rfl, ⟨A', R6, U, rs', hfin.out.new (upon_drewN _ _ 1), hA1.out, hA2.out, eR.out⟩, hup.out.drew⟩
end Hd
end Go.Proofs.YtfheehlfodoimaaGreat
