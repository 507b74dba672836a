/- Points in memory (layer 9): a row of points that is read; the document's Same. -/
import Derived.Test.YtadlkfdjdjaakaaDoorCkPure
import Derived.Test.YtadlkfdjdjaakaaDoorArgNums
import Derived.Test.YtadlkfdjdjaakaaDoorBitRow
import Derived.Deep.AppendLies
import Derived.BigQuiet
set_option maxRecDepth 100000
namespace Go.Proofs.YtadlkfdjdjaakaaDoor
open Go.RowKit Go.Sort
namespace Ck
open Bit Dsk Ob Dig
set_option linter.unusedVariables false

/-- v reads as the points l, out of a block of S. -/
def View (w : World) (S : Nat → Prop) (v : Value) (l : List Pt) : Prop :=
  ∃ A c, v = .slice A l.length c ∧ l.length ≤ c ∧ c ≤ maxLen ∧ (0 < l.length → ∃ b off, A = some ⟨b, off, none⟩ ∧ S b ∧ ∀ i (h : i < l.length), w.cell? ⟨b, off + i * 2, none⟩ = some (.int .i64 l[i].1) ∧ w.cell? ⟨b, off + i * 2 + 1, none⟩ = some (.int .u64 (l[i].2 : Int)))
abbrev All : Nat → Prop := fun _ => True
theorem View.upon {w w' : World} {S T : Nat → Prop} {v : Value} {l : List Pt} (h : View w S v l) (hu : Upon T w w') (hd : ∀ b, S b → ¬ T b) : View w' S v l :=
  let ⟨A, c, h1, h2, h3, h4⟩ := h
  ⟨A, c, h1, h2, h3, fun hp => let ⟨b, off, k1, k2, k3⟩ := h4 hp
    have hb := hu.block b (World.block_lt_of_cell? w _ (k3 0 hp).1) (hd b k2)
    ⟨b, off, k1, k2, fun i hi => ⟨by rw [← (k3 i hi).1, World.cell?, World.cell?, hb], by rw [← (k3 i hi).2, World.cell?, World.cell?, hb]⟩⟩⟩
theorem View.new {w w' : World} {S : Nat → Prop} {v : Value} {l : List Pt} (h : View w S v l) (hu : New0 w w') : View w' S v l := h.upon hu fun _ _ f => f
theorem View.mono {w : World} {S S' : Nat → Prop} {v : Value} {l : List Pt} (h : View w S v l) (hS : ∀ b, b < w.heap.size → S b → S' b) : View w S' v l :=
  let ⟨A, c, h1, h2, h3, h4⟩ := h
  ⟨A, c, h1, h2, h3, fun hp => let ⟨b, off, k1, k2, k3⟩ := h4 hp; ⟨b, off, k1, hS b (World.block_lt_of_cell? w _ (k3 0 hp).1) k2, k3⟩⟩
theorem View.all {w : World} {S : Nat → Prop} {v : Value} {l : List Pt} (h : View w S v l) : View w All v l := h.mono fun _ _ _ => trivial
theorem View.drew {w : World} {S : Nat → Prop} {n : Nat} {v : Value} {l : List Pt} (h : View w S v l) : View (w.drewN n) S v l := h.new (upon_drewN _ w n)
theorem View.shape {w : World} {S : Nat → Prop} {v : Value} {l : List Pt} (h : View w S v l) : ∃ A c, v = .slice A l.length c ∧ l.length ≤ c ∧ c ≤ maxLen := let ⟨A, c, h1, h2, h3, _⟩ := h; ⟨A, c, h1, h2, h3⟩
theorem ret_b {a b : Bool} (h : a = b) : Ending.returned (.bool a) = .returned (.bool b) := by rw [h]

set_option maxHeartbeats 3200000 in
theorem same_any (w : World) (S S' : Nat → Prop) (v1 v2 : Value) (l m : List Pt) (h1 : View w S v1 l) (h2 : View w S' v2 m) :
    Calls Tryd.prog 11 #[v1, v2] w fun e w' => e = .returned (.bool (decide (l = m))) ∧ ∃ n, w' = w.drewN n := by
  obtain ⟨A, c, rfl, hc1, hc2, hA⟩ := h1
  obtain ⟨A', c', rfl, hc1', hc2', hA'⟩ := h2
  have hl := Nat.le_trans hc1 hc2
  have hl' := Nat.le_trans hc1' hc2'
  clear hc1 hc2 hc1' hc2'
  unfold maxLen at hl hl'
  by_cases hlen : l.length = m.length
  · have hd : ((l.length : Int) != (m.length : Int)) = false := by rw [hlen]; simp
    replace hA := Lib.hid hA
    replace hA' := Lib.hid hA'
    have hlen2 := Lib.hid hlen
    clear hlen
    go_enter Tryd.func11, Tryd.ntmps11
    go_wp2_with fail
    go_loopw [5] (fun ov wr => ∃ j k : Nat, ov = .int .i64 (j : Int) ∧ j ≤ l.length ∧ Hid (∀ i (h1 : i < l.length) (h2 : i < m.length), i < j → l[i] = m[i]) ∧ wr = w.drewN k) (fun ov _ => l.length - (intOf ov).toNat)
    case atStart => exact ⟨0, 0, rfl, Nat.zero_le _, Lib.hid (fun i _ _ h => absurd h (Nat.not_lt_zero i)), rfl⟩
    case round =>
      obtain ⟨j, k, rfl, hj, hall, rfl⟩ := hrel
      by_cases hlt : j < l.length
      · have hlt' : j < m.length := by have := hlen2.out; omega
        obtain ⟨b, off, rfl, hbw, hcells⟩ := hA.out (by omega)
        obtain ⟨b', off', rfl, hbw', hcells'⟩ := hA'.out (by omega)
        obtain ⟨x0, x1⟩ := hcells j hlt
        obtain ⟨y0, y1⟩ := hcells' j hlt'
        clear hcells hcells' hA hA'
        obtain ⟨p, hp⟩ : ∃ p, l[j] = p := ⟨_, rfl⟩
        obtain ⟨q, hq⟩ : ∃ q, m[j] = q := ⟨_, rfl⟩
        rw [hp] at x0 x1
        rw [hq] at y0 y1
        replace hp := Lib.hid hp
        replace hq := Lib.hid hq
        obtain ⟨a1, a2⟩ := p
        obtain ⟨b1, b2⟩ := q
        by_cases e1 : a1 = b1
        · by_cases e2 : a2 = b2
          · subst e1 e2
            have hnx : Hid (∀ i (h1 : i < l.length) (h2 : i < m.length), i < j + 1 → l[i] = m[i]) := Lib.hid fun i g1 g2 g3 => by
              by_cases e : i = j
              · subst e; rw [hp.out, hq.out]
              · exact hall.out i g1 g2 (by omega)
            clear hall hp hq
            go_wp2_with fail
            go_quiet (fail)
            go_wp2_with fail
            go_roundw
            case rel => exact ⟨j + 1, k + nq, by go_num, hlt, hnx, rfl⟩
            case measure => simp [intOf]; omega
          · have hf1 : decide (a2 = b2) = false := decide_eq_false e2
            have hf2 : ((a2 : Int) == (b2 : Int)) = false := by rw [beq_eq_false_iff_ne]; omega
            have hne : Hid (decide (l = m) = false) := Lib.hid (decide_eq_false fun e => by
              subst e
              have h := hp.out.symm.trans hq.out
              injection h with _ h
              exact e2 h)
            subst e1
            clear hall hp hq
            go_wp2_with fail
            go_quiet (fail)
            go_wp2_with fail
            go_ret
            exact ⟨ret_b hne.out.symm, k + nq, by rw [World.drewN_drewN]⟩
        · have hf1 : decide (a1 = b1) = false := decide_eq_false e1
          have hf2 : (a1 == b1) = false := by rw [beq_eq_false_iff_ne]; exact e1
          have hne : Hid (decide (l = m) = false) := Lib.hid (decide_eq_false fun e => by
            subst e
            have h := hp.out.symm.trans hq.out
            injection h with h _
            exact e1 h)
          clear hall hp hq
          go_wp2_with fail
          go_quiet (fail)
          go_wp2_with fail
          go_ret
          exact ⟨ret_b hne.out.symm, k + nq, by rw [World.drewN_drewN]⟩
      · have he : Hid (decide (l = m) = true) := Lib.hid (decide_eq_true (List.ext_getElem hlen2.out fun i g1 g2 => hall.out i g1 g2 (by omega)))
        clear hall hA hA'
        go_wp2_with fail
        go_ret
        exact ⟨ret_b he.out.symm, k, rfl⟩
  · have hd : ((l.length : Int) != (m.length : Int)) = true := by rw [bne_iff_ne]; omega
    have hne : Hid (decide (l = m) = false) := Lib.hid (decide_eq_false fun e => hlen (by rw [e]))
    clear hA hA'
    go_enter Tryd.func11, Tryd.ntmps11
    go_wp2_with fail
    go_ret
    exact ⟨ret_b hne.out.symm, 0, rfl⟩

/-! ### rows of the call's own -/
def ptCells (l : List Pt) : List Value := l.flatMap fun p => [.int .i64 p.1, .int .u64 (p.2 : Int)]
theorem ptCells_cons (p : Pt) (l : List Pt) : ptCells (p :: l) = .int .i64 p.1 :: .int .u64 (p.2 : Int) :: ptCells l := by simp [ptCells]
theorem ptCells_app (a b : List Pt) : ptCells (a ++ b) = ptCells a ++ ptCells b := by simp [ptCells]
theorem ptCells_len : ∀ l : List Pt, (ptCells l).length = l.length * 2
  | [] => rfl
  | p :: l => by rw [ptCells_cons, List.length_cons, List.length_cons, ptCells_len l, List.length_cons]; omega
theorem ptCells_get : ∀ (l : List Pt) (i : Nat) (h : i < l.length), (ptCells l)[i * 2]? = some (.int .i64 l[i].1) ∧ (ptCells l)[i * 2 + 1]? = some (.int .u64 (l[i].2 : Int))
  | p :: l, 0, _ => by rw [ptCells_cons]; exact ⟨rfl, rfl⟩
  | p :: l, i + 1, h => by
    have := ptCells_get l i (by simpa using h)
    rw [ptCells_cons, show (i + 1) * 2 = i * 2 + 1 + 1 by omega]
    simpa using this
theorem ptCells_one (l : List Pt) : ∀ u ∈ ptCells l, u.oneCell' = true := fun u hu => by
  unfold ptCells at hu
  obtain ⟨p, _, hp⟩ := List.mem_flatMap.1 hu
  simp at hp
  rcases hp with rfl | rfl <;> rfl
/-- v owns the points l. -/
def OwnPts (w : World) (v : Value) (l : List Pt) : Prop := w.ownsRow 0 36 2 v l.length (ptCells l)
theorem OwnPts.nil (w : World) : OwnPts w (.slice none 0 0) [] := ⟨rfl, .inl ⟨rfl, rfl⟩⟩
theorem OwnPts.empty {w : World} {g : Nat} (h : w.heap[g]? = some (.cells #[] 36 (0, 0))) : OwnPts w (.slice (some ⟨g, 0, none⟩) 0 0) [] :=
  ⟨rfl, .inr ⟨g, 0, #[], rfl, Nat.zero_le _, h, Nat.le_refl _, Nat.zero_le _, rfl, rfl⟩⟩
theorem OwnPts.view {w : World} {v : Value} {l : List Pt} (h : OwnPts w v l) : View w (fun b => v.ownBlock = some b) v l := by
  have hcells := fun g => World.ownsRow.cells h (g := g)
  rcases h.2 with ⟨hv, h0⟩ | ⟨gb, cap, cur, hv, hb, hg, hnc, hcm, _⟩
  · exact ⟨none, 0, by rw [hv, h0], by omega, Nat.zero_le _, fun hp => by omega⟩
  · refine ⟨_, cap, hv, hnc, hcm, fun _ => ⟨gb, 0, rfl, by rw [hv]; rfl, fun i hi => ?_⟩⟩
    obtain ⟨e1, e2⟩ := ptCells_get l i hi
    have k1 := hcells gb (by rw [hv]; rfl) _ _ e1
    have k2 := hcells gb (by rw [hv]; rfl) _ _ e2
    rw [Arg.addr_plain] at k1 k2
    exact ⟨k1, k2⟩
theorem OwnPts.kept {w w' : World} {v : Value} {l : List Pt} (h : OwnPts w v l) (hk : ∀ b, v.ownBlock = some b → w'.heap[b]? = w.heap[b]?) : OwnPts w' v l := ownsRow_kept h hk
theorem OwnPts.lt {w : World} {v : Value} {l : List Pt} (h : OwnPts w v l) {b : Nat} (hb : v.ownBlock = some b) : b < w.heap.size := (World.ownsRow.lt h b hb).2
theorem OwnPts.new {w w' : World} {v : Value} {l : List Pt} (h : OwnPts w v l) (hu : New0 w w') : OwnPts w' v l := h.kept fun b hb => hu.block b (h.lt hb) fun f => f
theorem infoPt : (Tryd.prog.info? 36).map (fun i => (i.zero, i.size, i.bytes)) = some (some (.agg #[.int .i64 0, .int .u64 0]), 2, 16) := by kernel_rfl
theorem View.news {w : World} {S : Nat → Prop} {v : Value} {l : List Pt} (h : View w S v l) (hp : 0 < l.length) : ∃ ad c, v = .slice (some ad) l.length c ∧ ∀ j u, (ptCells l)[j]? = some u → w.cell? (ad.add j) = some u := by
  obtain ⟨A, c, rfl, h2, h3, h4⟩ := h
  obtain ⟨b, off, rfl, k2, k3⟩ := h4 hp
  refine ⟨⟨b, off, none⟩, c, rfl, fun j u hj => ?_⟩
  rw [Arg.addr_plain]
  have hjl : j < l.length * 2 := by rw [← ptCells_len]; exact (List.getElem?_eq_some_iff.1 hj).1
  obtain ⟨e1, e2⟩ := ptCells_get l (j / 2) (by omega)
  obtain ⟨x1, x2⟩ := k3 (j / 2) (by omega)
  by_cases hodd : j % 2 = 0
  · have e : j = j / 2 * 2 := by omega
    rw [← e] at e1 x1
    rw [x1, ← hj, e1]
  · have e : j = j / 2 * 2 + 1 := by omega
    rw [show off + j / 2 * 2 + 1 = off + (j / 2 * 2 + 1) by omega, ← e] at x2
    rw [← e] at e2
    rw [x2, ← hj, e2]
/-- Points are appended to points of one's own. -/
theorem run_append_pts {w : World} {v x : Value} {l m : List Pt} {S : Nat → Prop} (hown : OwnPts w v l) (hx : View w S x m) (hlen : (l.length + m.length) * 16 ≤ 140737488355328) (ty : TypeId) :
    ∃ v' w', (Builtin.append_ #[22, 22] ty #[v, x]).run Tryd.prog w = .ok v' w' ∧ OwnPts w' v' (l ++ m) ∧ w.grownBy w' v.ownBlock ∧ (v'.ownBlock = v.ownBlock ∨ v'.ownBlock = some w.heap.size) := by
  obtain ⟨i0, hi, hz0, hz1, hz2⟩ := info_parts infoPt
  by_cases hp : 0 < m.length
  · obtain ⟨ad, c, rfl, hnews⟩ := hx.news hp
    obtain ⟨g, cap, w', hr, h2, h3, h4, h5⟩ := run_append_lies (P := Tryd.prog) w 22 ty 0 36 i0 (.agg #[.int .i64 0, .int .u64 0]) 2 16 Tryd.underlying22 hi hz0 hz1 hz2 rfl (by decide) v l.length (ptCells l) hown ad m.length c (ptCells m) (ptCells_len m) hnews (ptCells_one m) hp (by unfold maxLen; omega) hlen (Nat.zero_le _) _ rfl
    refine ⟨_, w', hr, ?_, h3, ?_⟩
    · unfold OwnPts; rw [List.length_append, ptCells_app]; exact h2
    · rcases h4 with h4 | h4
      · exact .inl h4.symm
      · right; rw [h4]; rfl
  · have hm : m = [] := by cases m with | nil => rfl | cons a b => simp at hp
    subst hm
    obtain ⟨A, c, rfl, -, -, -⟩ := hx
    refine ⟨v, w, ?_, by rw [List.append_nil]; exact hown, World.grownBy.refl _ _, .inl rfl⟩
    rcases hown.2 with ⟨hv, h0⟩ | ⟨gb, cap, cur, hv, hb, hg, hnc, hcm, _⟩
    · subst hv
      cases A with
      | none => simp [Builtin.append_, run_underlying Tryd.underlying22, sizeOf, typeInfo, hi, Builtin.lenOf, Builtin.firstCells]
      | some a2 => simp [Builtin.append_, run_underlying Tryd.underlying22, sizeOf, typeInfo, hi, Builtin.lenOf, Builtin.firstCells, loadCells, loadCellsFrom]
    · subst hv
      cases A with
      | none => simp [Builtin.append_, run_underlying Tryd.underlying22, sizeOf, typeInfo, hi, Builtin.lenOf, Builtin.firstCells, loadCells, storeCells, hnc]
      | some a2 => simp [Builtin.append_, run_underlying Tryd.underlying22, sizeOf, typeInfo, hi, Builtin.lenOf, Builtin.firstCells, loadCells, loadCellsFrom, storeCells, hnc]
theorem wpList_append_pts {w : World} {ops : Array Oper} {rest : List Oper} {o : Oper} {a : Act} {Q : Exit → Act → World → Prop} (hgd : o.guard = none) (sl x : Operand)
    (ho : o.op = .call { callee := .builtin .append, args := #[sl, x], argTypes := #[22, 22] })
    (v xv : Value) (l m : List Pt) (S : Nat → Prop) (hs : a.eval sl = v) (hx : a.eval x = xv) (hown : OwnPts w v l) (hxv : View w S xv m) (hlen : (l.length + m.length) * 16 ≤ 140737488355328)
    (hK : ∀ v' w', OwnPts w' v' (l ++ m) → w.grownBy w' v.ownBlock → (v'.ownBlock = v.ownBlock ∨ v'.ownBlock = some w.heap.size) → wpList Tryd.prog ops Q rest (a.put o.dst v') w') : wpList Tryd.prog ops Q (o :: rest) a w := by
  refine wpList_plain hgd fun K hK' => ?_
  obtain ⟨v', w', hr, h2, h3, h4⟩ := run_append_pts hown hxv hlen o.type
  unfold Oper.wp execOp
  simp only [ho, resolve, invoke, builtin, Sem.run_bind, Sem.run_pure, Result.andThen_ok, List.map_toArray, List.map_cons, List.map_nil, hs, hx, hr]
  exact hK' _ _ (hK v' w' h2 h3 h4)
/-- One point, laid. -/
theorem view_one {w : World} {g : Nat} {x : Int} {y : Nat} (h : w.heap[g]? = some (.cells #[.int .i64 x, .int .u64 (y : Int)] 36 (0, 0))) : View w All (.slice (some ⟨g, 0, none⟩) 1 1) [(x, y)] :=
  ⟨_, 1, rfl, Nat.le_refl _, by unfold maxLen; decide, fun _ => ⟨g, 0, rfl, trivial, fun i hi => by
    have : i = 0 := by simpa using hi
    subst this
    exact ⟨by rw [Lib.cell_of_heap h]; rfl, by rw [Lib.cell_of_heap h]; rfl⟩⟩⟩
end Ck
end Go.Proofs.YtadlkfdjdjaakaaDoor
