/- The lists under pairs, as they are being made (layer 14). -/
import Derived.Test.YtklgdllllboipaaPoNew
set_option maxRecDepth 100000
namespace Go.Proofs.Ytklgdllllboipaa
open Go.RowKit Go.Sort
namespace Po
open Bit Dsk Ob Dig
set_option linter.unusedVariables false
/-- Has a row the pair? -/
def inR (row : List Lb.Pr) (q : Lb.Pr) : Bool := row.any fun x => decide (x = q)
theorem inR_yes {row : List Lb.Pr} {q : Lb.Pr} : inR row q = true ↔ q ∈ row := by
  unfold inR
  rw [List.any_eq_true]
  exact ⟨fun ⟨x, h1, h2⟩ => of_decide_eq_true h2 ▸ h1, fun h => ⟨q, h, decide_eq_true rfl⟩⟩
theorem inR_no {row : List Lb.Pr} {q : Lb.Pr} : inR row q = false ↔ ¬ q ∈ row := by rw [← inR_yes, Bool.not_eq_true]
/-- Has row k the pair? -/
def has (rs : List (List Lb.Pr)) (q : Lb.Pr) (k : Nat) : Bool := inR (rs.getD k []) q
theorem has_at {rs : List (List Lb.Pr)} {q : Lb.Pr} {k : Nat} (h : k < rs.length) : has rs q k = inR rs[k] q := by
  unfold has; rw [List.getD_eq_getElem?_getD, List.getElem?_eq_getElem h]; rfl
abbrev nilS : Value := .slice none 0 0
/-- The lists that a map's slices are, each the call's own, all younger than b, no two in one block. -/
structure Lst (w : World) (b : Nat) (f : Lb.Pr → Option Value) (L : Lb.Pr → List Int) : Prop where
  mine : ∀ q, IMine w ((f q).getD nilS) (L q)
  base : ∀ q g, ((f q).getD nilS).ownBlock = some g → b < g
  apart : ∀ q q' g, q ≠ q' → ((f q).getD nilS).ownBlock = some g → ((f q').getD nilS).ownBlock ≠ some g
theorem Lst.none (w : World) (b : Nat) : Lst w b (fun _ => none) (fun _ => []) := ⟨fun q => Rw.Mine.nil _ _ _, fun q g h => (by cases h), fun q q' g _ h => (by cases h)⟩
theorem Lst.new {w w' : World} {b : Nat} {f : Lb.Pr → Option Value} {L : Lb.Pr → List Int} (h : Lst w b f L) (hu : New0 w w') : Lst w' b f L := ⟨fun q => (h.mine q).new hu, h.base, h.apart⟩
theorem Lst.same {w : World} {b : Nat} {f : Lb.Pr → Option Value} {L L' : Lb.Pr → List Int} (h : Lst w b f L) (e : ∀ q, L q = L' q) : Lst w b f L' := ⟨fun q => e q ▸ h.mine q, h.base, h.apart⟩
theorem putF_here (f : Lb.Pr → Option Value) (p : Lb.Pr) (v : Value) : putF f p v p = some v := if_pos rfl
theorem putF_else {f : Lb.Pr → Option Value} {p q : Lb.Pr} {v : Value} (h : q ≠ p) : putF f p v q = f q := if_neg h
/-- One list grows, and is put. -/
theorem Lst.put {w w1 w2 : World} {b : Nat} {f : Lb.Pr → Option Value} {L L' : Lb.Pr → List Int} {p : Lb.Pr} {v' : Value} {m : List Int} (h : Lst w b f L) (hb : b < w.heap.size) (hown : IMine w1 v' m) (hg : w.grownBy w1 ((f p).getD nilS).ownBlock) (hbl : v'.ownBlock = ((f p).getD nilS).ownBlock ∨ v'.ownBlock = some w.heap.size)
    (hg2 : w1.grownBy w2 (some b)) (e1 : L' p = m) (e2 : ∀ q, q ≠ p → L' q = L q) : Lst w2 b (putF f p v') L' := by
  have hv' : ∀ g, v'.ownBlock = some g → b < g := fun g hk => by
    rcases hbl with hb1 | hb1
    · exact h.base p g (hb1.symm.trans hk)
    · rw [hb1] at hk; injection hk with hk; omega
  have hkeep : ∀ q, q ≠ p → ∀ g, ((f q).getD nilS).ownBlock = some g → w2.heap[g]? = w.heap[g]? := fun q hq g hk => by
    have hlt := (h.mine q).lt hk
    rw [hg2.block g (Nat.lt_of_lt_of_le hlt hg.size) (fun e => by have := Option.some.inj e; have := h.base q g hk; omega), hg.block g hlt (fun e => h.apart p q g (fun c => hq c.symm) e.symm hk)]
  refine ⟨fun q => ?_, fun q g hk => ?_, fun q q' g hne hk hk' => ?_⟩
  · by_cases hq : q = p
    · subst hq
      rw [putF_here, e1]
      exact hown.kept fun g hk => hg2.block g (hown.lt hk) (fun e => by have := Option.some.inj e; have := hv' g hk; omega)
    · rw [putF_else hq, e2 q hq]
      exact (h.mine q).kept fun g hk => hkeep q hq g hk
  · by_cases hq : q = p
    · subst hq; rw [putF_here] at hk; exact hv' g hk
    · rw [putF_else hq] at hk; exact h.base q g hk
  · have old : ∀ q, q ≠ p → ((f q).getD nilS).ownBlock = some g → v'.ownBlock ≠ some g := fun q hq k1 k2 => by
      rcases hbl with hb1 | hb1
      · exact h.apart q p g hq k1 (hb1.symm.trans k2)
      · rw [hb1] at k2; injection k2 with k2; have := (h.mine q).lt k1; omega
    by_cases hq : q = p
    · subst hq
      rw [putF_here] at hk
      rw [putF_else (fun c => hne c.symm)] at hk'
      exact old q' (fun c => hne c.symm) hk' hk
    · rw [putF_else hq] at hk
      by_cases hq' : q' = p
      · subst hq'
        rw [putF_here] at hk'
        exact old q hq hk hk'
      · rw [putF_else hq'] at hk'
        exact h.apart q q' g hne hk hk'

/-! ### which lists, round by round -/
/-- Behind j whole rows and i pairs of the next one. -/
def LL (rs : List (List Lb.Pr)) (row : List Lb.Pr) (j i : Nat) (q : Lb.Pr) : List Int := sel (has rs q) j ++ (if inR (row.take i) q = true then [(j : Int)] else [])
theorem LL_start (rs : List (List Lb.Pr)) (row : List Lb.Pr) (j : Nat) (q : Lb.Pr) : sel (has rs q) j = LL rs row j 0 q := by unfold LL; rw [if_neg (by rw [inR_yes]; simp), List.append_nil]
theorem LL_end {rs : List (List Lb.Pr)} {j : Nat} (hj : j < rs.length) (q : Lb.Pr) : LL rs rs[j] j rs[j].length q = sel (has rs q) (j + 1) := by
  unfold LL
  rw [List.take_length, sel, has_at hj]
theorem take_mem {row : List Lb.Pr} {i : Nat} (hi : i < row.length) (q : Lb.Pr) : q ∈ row.take (i + 1) ↔ q = row[i] ∨ q ∈ row.take i := by
  rw [List.take_add_one, List.getElem?_eq_getElem hi, List.mem_append]
  exact ⟨fun h => h.elim .inr (fun h => .inl (by simpa using h)), fun h => h.elim (fun h => .inr (by simp [h])) .inl⟩
theorem LL_other {rs : List (List Lb.Pr)} {row : List Lb.Pr} {j i : Nat} (hi : i < row.length) {q : Lb.Pr} (h : q ≠ row[i]) : LL rs row j (i + 1) q = LL rs row j i q := by
  unfold LL
  congr 1
  by_cases c : q ∈ row.take i
  · rw [if_pos (inR_yes.2 c), if_pos (inR_yes.2 ((take_mem hi q).2 (.inr c)))]
  · rw [if_neg (fun k => c (inR_yes.1 k)), if_neg (fun k => ((take_mem hi q).1 (inR_yes.1 k)).elim h c)]
theorem LL_had {rs : List (List Lb.Pr)} {row : List Lb.Pr} {j i : Nat} (hi : i < row.length) (h : row[i] ∈ row.take i) (q : Lb.Pr) : LL rs row j i q = LL rs row j (i + 1) q := by
  by_cases c : q = row[i]
  · unfold LL
    rw [c, if_pos (inR_yes.2 h), if_pos (inR_yes.2 ((take_mem hi _).2 (.inl rfl)))]
  · exact (LL_other hi c).symm
theorem LL_new {rs : List (List Lb.Pr)} {row : List Lb.Pr} {j i : Nat} (hi : i < row.length) (h : ¬ row[i] ∈ row.take i) : LL rs row j (i + 1) row[i] = LL rs row j i row[i] ++ [(j : Int)] := by
  unfold LL
  rw [if_neg (fun k => h (inR_yes.1 k)), if_pos (inR_yes.2 ((take_mem hi _).2 (.inl rfl))), List.append_nil]
theorem LL_len (rs : List (List Lb.Pr)) (row : List Lb.Pr) (j i : Nat) (q : Lb.Pr) : (LL rs row j i q).length ≤ j + 1 := by
  unfold LL
  have := sel_len (has rs q) j
  rw [List.length_append]
  split <;> simp <;> omega
/-- The last one is j just where the row had the pair already. -/
theorem LL_last_had {rs : List (List Lb.Pr)} {row : List Lb.Pr} {j i : Nat} {q : Lb.Pr} (h : q ∈ row.take i) : 0 < (LL rs row j i q).length ∧ ∀ k (hk : k < (LL rs row j i q).length), k + 1 = (LL rs row j i q).length → (LL rs row j i q)[k] = (j : Int) := by
  have e : LL rs row j i q = sel (has rs q) j ++ [(j : Int)] := by unfold LL; rw [if_pos (inR_yes.2 h)]
  rw [e]
  refine ⟨by simp, fun k hk h1 => ?_⟩
  have hk2 : k = (sel (has rs q) j).length := by simp at h1; omega
  subst hk2
  simp
theorem LL_last_not {rs : List (List Lb.Pr)} {row : List Lb.Pr} {j i : Nat} {q : Lb.Pr} (h : ¬ q ∈ row.take i) : ∀ k (hk : k < (LL rs row j i q).length), (LL rs row j i q)[k] ≠ (j : Int) := by
  have e : LL rs row j i q = sel (has rs q) j := by unfold LL; rw [if_neg (fun k => h (inR_yes.1 k)), List.append_nil]
  rw [e]
  intro k hk h1
  obtain ⟨i', h2, -, h3⟩ := mem_sel.1 (List.getElem_mem hk)
  omega

/-! ### two steps of a region that draws -/
theorem step_look {w : World} {ops : Array Oper} {o : Oper} {a : Act} {K : Act → World → Prop} {Q : Exit → Act → World → Prop} {E : Prop} (hgd : o.guard = none) (m x : Operand) (t : TypeId)
    (ho : o.op = Op.lookup t m x false) (mv key v : Value) (hm : a.eval m = mv) (hx : a.eval x = key) (hrun : (Instr.lookup t mv key false).run Try.prog w = .ok v w) (h : K (a.put o.dst v) w) :
    if Region.wanted o (yielded ops a.tmps) = true then Oper.wp Try.prog o a w K Q else E := by
  have hw : Region.wanted o (yielded ops a.tmps) = true := by simp [Region.wanted, hgd]
  rw [if_pos hw]
  unfold Oper.wp
  simp [execOp, ho, hm, hx, hrun, Result.andThen]
  exact h
theorem step_put {w : World} {ops : Array Oper} {o : Oper} {a : Act} {K : Act → World → Prop} {Q : Exit → Act → World → Prop} {E : Prop} (hgd : o.guard = none) (m x y : Operand) (t : TypeId)
    (ho : o.op = Op.mapUpdate t m x y) (mv key v : Value) (w' : World) (hm : a.eval m = mv) (hx : a.eval x = key) (hy : a.eval y = v) (hrun : (Instr.mapUpdate t mv key v).run Try.prog w = .ok () w') (h : K (a.put o.dst undef) w') :
    if Region.wanted o (yielded ops a.tmps) = true then Oper.wp Try.prog o a w K Q else E := by
  have hw : Region.wanted o (yielded ops a.tmps) = true := by simp [Region.wanted, hgd]
  rw [if_pos hw]
  unfold Oper.wp
  simp [execOp, ho, hm, hx, hy, hrun, Result.andThen]
  exact h
end Po
end Go.Proofs.Ytklgdllllboipaa
