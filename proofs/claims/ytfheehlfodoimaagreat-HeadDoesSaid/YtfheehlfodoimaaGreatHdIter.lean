/- The library's iterators over a map's values and over a slice, at pointers to series (layer 13): for every loop body. -/
import Derived.Test.YtfheehlfodoimaaGreatPHd5
import Derived.RangeFuncMany
import Derived.RangeFuncLeaves
import Derived.RangeFuncFrom
import Derived.RangeFuncBox
import Derived.RangeFuncNested
import Derived.RangeFuncCalls
import Derived.Sort.MapsRangeIn
import Derived.OwnWalkIn
import Derived.TacticsInMore
import Derived.LoopNIn
import Derived.LoopIn
set_option maxRecDepth 100000
namespace Go.Proofs.YtfheehlfodoimaaGreat
open Go.RowKit Go.Sort
namespace Hd
open Bit Dsk Ob Dig Nm
set_option linter.unusedVariables false
attribute [local go_sem] Oper.semAt_some
/-- A series, by its block. -/
def encQ (s : Nat) : Value := .pointer (some ⟨s, 0, none⟩)
theorem wpListIn_nextS {F : Fence} {n : Nat} (w : World) {ops : Array Oper} {rest : List Oper} {o : Oper} {a : Act} {Q : Exit → Act → World → Prop} (hg : o.guard = none) (it : Operand) (hop : o.op = Op.next it false)
    (b r : Nat) (N : Nms) (hN : ∀ p ∈ N, ∃ s : Nat, p.2 = (s : Int)) (left : Lit → Bool) (cnt : Nat) (hit : a.eval it = .pointer (some ⟨r, 0, none⟩)) (h : RanS w b r N left cnt)
    (hDone : (∀ kl, left kl = false) → wpListIn F n Tryz.prog ops Q rest (a.put o.dst (.tuple #[.bool false])) w)
    (hMore : ∀ (k : ByteArray) (s : Nat) (w' : World) (cnt' : Nat), lookN N k.data.toList = some (s : Int) → left (.string k.data.toList) = true → RanS w' b r N (fun z => left z && !z.sameKey (.string k.data.toList)) cnt' → cnt' < cnt →
      w.grownBy w' (some r) → (Instr.entry (.pointer (some ⟨r, 0, none⟩))).run Tryz.prog w' = .ok (.tuple #[.string k, .pointer (some ⟨s, 0, none⟩)]) w' → wpListIn F n Tryz.prog ops Q rest (a.put o.dst (.tuple #[.bool true, .string k, .pointer (some ⟨s, 0, none⟩)])) w') :
    wpListIn F n Tryz.prog ops Q (o :: rest) a w := by
  refine wpListIn_next_ranges w hg it hop 9 keyedS ptrE (Value.string) (fun c : Option Nat => .pointer (c.map fun b => ⟨b, 0, none⟩))
    (fun key kl hkey => Maps.keyOf_string_inv Tryz.underlying9 hkey) (fun v y hv => ?_) b r N.length (toD N) left cnt hit h (fun _ => hDone) ?_
  · unfold ptrE at hv
    split at hv
    · exact ⟨none, rfl⟩
    · exact ⟨some _, rfl⟩
    · cases hv
  · intro k c kl y w' cnt' hkey hl hv hat hrg hlt hgr hsz hen
    have hkl : kl = .string k.data.toList := by
      simp [keyOf, mapKey, Tryz.underlying9] at hkey
      exact hkey.2.symm
    subst hkl
    have h0 := hat (.lit (.int .i64 0))
    have h1 := hat (.lit (.int .i64 1))
    rw [toD_at] at h0 h1
    cases e : lookN N k.data.toList with
    | none =>
      rw [e] at h0 h1
      rw [← h0] at h1
      simp at h1
    | some i =>
      obtain ⟨s, hs⟩ := hN _ (mem_of_look e)
      simp only at hs
      subst hs
      rw [e] at h0
      simp only at h0
      have hc : Value.pointer (c.map fun b => ⟨b, 0, none⟩) = .pointer (some ⟨s, 0, none⟩) := ptrE_inv (ps := y.2) (by rw [hv, h0])
      rw [hc] at hen
      rw [hc]
      exact hMore k s w' cnt' e hl hrg hlt hgr hen
/-- What is asked of a map's names and its series. -/
structure Vals (N : Nms) (bs : List Nat) : Prop where
  nat : ∀ p ∈ N, ∃ s : Nat, p.2 = (s : Int)
  one : ∀ k k' (s : Int), lookN N k = some s → lookN N k' = some s → k = k'
  mem : ∀ s : Nat, s ∈ bs ↔ ∃ k, lookN N k = some (s : Int)
  nod : bs.Nodup
  len : N.length = bs.length
theorem HeadP.vals {w : World} {A R : Nat → Prop} {p b : Nat} {N : Nms} {bs : List Nat} {rs : List RR} {h : H} (hh : HeadP w A R p b N bs rs h) : Vals N bs := by
  refine ⟨hh.nats, fun k k' s h1 h2 => ?_, fun s => ?_, hh.nod, by rw [hh.nlen, hh.blen]⟩
  · obtain ⟨i, hi, hb, e1, e2⟩ := hh.look_inv h1
    obtain ⟨j, hj, hc, f1, f2⟩ := hh.look_inv h2
    have e : bs[i] = bs[j] := by omega
    have hij : i = j := by
      rcases Nat.lt_trichotomy i j with h3 | h3 | h3
      · exact absurd e (List.pairwise_iff_getElem.1 hh.nod i j hb hc h3)
      · exact h3
      · exact absurd e.symm (List.pairwise_iff_getElem.1 hh.nod j i hc hb h3)
    subst hij
    rw [e1, f1]
  · constructor
    · intro hs
      obtain ⟨i, hi, rfl⟩ := List.mem_iff_getElem.1 hs
      exact ⟨_, hh.look (by rw [← hh.blen]; exact hi)⟩
    · rintro ⟨k, hk⟩
      obtain ⟨i, hi, hb, e1, e2⟩ := hh.look_inv hk
      have : s = bs[i] := by omega
      rw [this]; exact List.getElem_mem hb
/-- Which have come. -/
structure Come (N : Nms) (left : Left) (xs : List Nat) : Prop where
  nod : xs.Nodup
  is : ∀ s : Nat, s ∈ xs ↔ ∃ k, lookN N k = some (s : Int) ∧ left (.string k) = false
theorem Come.start {N : Nms} : Come N (Maps.has (toD N)) [] := ⟨List.nodup_nil, fun s => ⟨fun h => (by cases h), fun ⟨k, h1, h2⟩ => by rw [toD_has, h1] at h2; cases h2⟩⟩
theorem Come.step {N : Nms} {bs : List Nat} (hv : Vals N bs) {left : Left} {xs : List Nat} (h : Come N left xs) {k : Str} {s : Nat} (hk : lookN N k = some (s : Int)) (hl : left (.string k) = true) : Come N (strike left k) (xs ++ [s]) := by
  have hns : s ∉ xs := fun hm => by
    obtain ⟨k', h1, h2⟩ := (h.is s).1 hm
    have := hv.one k k' _ hk h1
    subst this
    rw [hl] at h2; cases h2
  have hst : ∀ k', strike left k (.string k') = (left (.string k') && !(k' == k)) := fun k' => rfl
  refine ⟨by rw [List.nodup_append]; exact ⟨h.nod, List.pairwise_singleton _ _, fun a ha c hc => by rw [List.mem_singleton] at hc; subst hc; exact fun e => hns (e ▸ ha)⟩, fun t => ?_⟩
  rw [List.mem_append, List.mem_singleton, h.is]
  constructor
  · rintro (⟨k', h1, h2⟩ | rfl)
    · exact ⟨k', h1, by rw [hst, h2]; rfl⟩
    · exact ⟨k, hk, by rw [hst]; simp⟩
  · rintro ⟨k', h1, h2⟩
    rw [hst] at h2
    by_cases e : k' = k
    · subst e
      rw [hk] at h1
      injection h1 with h1
      exact .inr (by omega)
    · refine .inl ⟨k', h1, ?_⟩
      have : (k' == k) = false := by simpa using e
      rw [this] at h2
      simpa using h2
theorem Come.perm {N : Nms} {bs : List Nat} (hv : Vals N bs) {left : Left} {xs : List Nat} (h : Come N left xs) (hl : ∀ z, left z = false) : xs.Perm bs := by
  rw [List.perm_ext_iff_of_nodup h.nod hv.nod]
  intro s
  rw [h.is, hv.mem]
  exact ⟨fun ⟨k, h1, _⟩ => ⟨k, h1⟩, fun ⟨k, h1⟩ => ⟨k, h1, hl _⟩⟩
set_option maxHeartbeats 2000000 in
theorem vals1_in (n : Nat) (hn : 1 ≤ n) (l Bm b : Nat) (N : Nms) (bs : List Nat) (hv : Vals N bs) (J Jx : List Nat → World → Prop)
    (hY : ∀ pre x W, J pre W → pre.length < bs.length → YieldAt Fence.wide (n - 1) Tryz.prog l #[encQ x] W fun e W' =>
      (e = .returned (.bool true) ∧ J (pre ++ [x]) W' ∧ KeepsWalks W W') ∨ (e = .returned (.bool false) ∧ Jx (pre ++ [x]) W'))
    (W : World) (hJ : AbidesFrom W.heap.size J) (hm : W.cell? ⟨Bm, 0, none⟩ = some (.map (some b))) (hown : MapS W b N) (h0 : J [] W) :
    CallsIn Fence.wide n Tryz.prog 87 #[.func (.yield l) #[] #[], .pointer (some ⟨Bm, 0, none⟩)] W fun e W' => (∃ v, e = .returned v) ∧
      ((∃ xs, xs.Perm bs ∧ J xs W') ∨ (∃ pre, True ∧ Jx pre W')) := by
  refine callsIn_of_wp Tryz.func87 rfl trivial ?_ rfl
  simp only [Tryz.ntmps87, List.size_toArray, List.length_cons, List.length_nil, Nat.reduceAdd, Nat.reduceSub, Array.replicate_succ, Array.replicate_zero, List.push_toArray, List.append_toArray, List.nil_append, List.cons_append]
  gi_wp2_with (first
    | (gi_at_range; refine wpListIn_range_own _ rfl _ 48 rfl 9 82 keyedS Tryz.underlying48 ptrE b N.length (toD N) rfl hown ?_; intro w0 hrg0 hg0 hs0)
    | gi_in)
  go_frame
  gi_loopw [4] (fun _ wr => ∃ (left : Left) (cnt : Nat) (xs : List Nat), RanS wr b W.heap.size N left cnt ∧ xs.length + cnt ≤ bs.length ∧ Come N left xs ∧ J xs wr)
    (fun _ wr => wr.rangeLeft b W.heap.size)
  case atStart =>
    exact ⟨_, _, [], hrg0, by rw [toD_size, hv.len]; simp, Come.start, hJ [] W w0 none h0 hg0 (fun r e => by cases e)⟩
  case round =>
    obtain ⟨left, cnt, xs, hrg, hcs, hC, hJs⟩ := hrel
    gi_wp2_with (first
      | (gi_at_next; refine wpListIn_nextS _ rfl _ rfl b W.heap.size N hv.nat left cnt rfl hrg ?_ ?_)
      | gi_in)
    · intro hl0
      gi_wp2
      go_end0
      exact ⟨⟨_, rfl⟩, .inl ⟨_, hC.perm hv hl0, hJs⟩⟩
    · intro k s w2 cnt2 hlk hlx hrg2 hlt hg2 hen
      have hJ2 : J xs w2 := hJ _ wr w2 (some W.heap.size) hJs hg2 (fun r e => by cases e; exact ⟨Nat.le_refl _, hrg.iter_walk⟩)
      obtain ⟨fn, tmps, assign, body, hy, hR⟩ := hY xs s w2 hJ2 (by omega)
      have hC2 := hC.step hv hlk hlx
      unfold encQ at hy
      gi_wp2
      refine hR.mono ?_
      rintro e W3 (⟨rfl, hJ3, hk3⟩ | ⟨rfl, hJx3⟩)
      · gi_wp2
        have hrg3 : RanS W3 b W.heap.size N (strike left k.data.toList) cnt2 := hrg2.of_walks hk3
        go_roundw
        case rel => exact ⟨_, cnt2, xs ++ [s], hrg3, by simp; omega, hC2, hJ3⟩
        case measure => rw [hrg3.left_eq, hrg.left_eq]; exact hlt
      · gi_wp2
        refine bodyPost_ret (results_none rfl _ _ _) rfl ?_
        exact ⟨⟨_, rfl⟩, .inr ⟨_, trivial, hJx3⟩⟩
theorem vals_stops (n : Nat) (hn : 1 ≤ n) (Bm b : Nat) (N : Nms) (bs : List Nat) (hv : Vals N bs) (w : World) (hBm : Bm < w.heap.size) (hm : w.cell? ⟨Bm, 0, none⟩ = some (.map (some b))) (hown : MapS w b N) :
    SeqStopsK Fence.wide n Tryz.prog 87 #[.pointer (some ⟨Bm, 0, none⟩)] (fun s => #[encQ s]) KeepsWalks (fun xs => xs.Perm bs) (fun _ => True) bs.length w := fun l J Jx W hW hJ _ hY h0 =>
  vals1_in n hn l Bm b N bs hv J Jx hY W hJ ((hW.cell (p := ⟨Bm, 0, none⟩) hBm).trans hm) (hown.kept (hW.block b hown.lt)) h0
/-! ### a slice's -/
/-- The slice value reads as the series ss. -/
def layZ : Rw.Lay Nat := ⟨1, by decide, fun s => [encQ s], fun _ => rfl, fun s u hu => by rw [List.mem_singleton] at hu; subst hu; rfl⟩
set_option maxHeartbeats 2000000 in
theorem each1_in (n : Nat) (hn : 1 ≤ n) (l Bs n₀ b len cap : Nat) (zs : List Nat) (hz : zs.length = len) (hreach : len ≤ 1000000000) (hb : b < n₀) (J Jx : List Nat → World → Prop)
    (hY : ∀ pre x W, J pre W → pre.length < len → YieldAt Fence.wide (n - 1) Tryz.prog l #[encQ x] W fun e W' =>
      (e = .returned (.bool true) ∧ J (pre ++ [x]) W' ∧ Below n₀ W W') ∨ (e = .returned (.bool false) ∧ Jx (pre ++ [x]) W'))
    (W : World) (hBs : W.cell? ⟨Bs, 0, none⟩ = some (.slice (some ⟨b, 0, none⟩) len cap)) (hc : ∀ j (h : j < zs.length), W.cell? ⟨b, j, none⟩ = some (encQ zs[j])) (h0 : J [] W) :
    CallsIn Fence.wide n Tryz.prog 84 #[.func (.yield l) #[] #[], .pointer (some ⟨Bs, 0, none⟩)] W fun e W' => (∃ v, e = .returned v) ∧
      ((∃ ys, ys = zs ∧ J ys W') ∨ (∃ pre, pre <+: zs ∧ Jx pre W')) := by
  refine callsIn_of_wp Tryz.func84 rfl trivial ?_ rfl
  simp only [Tryz.ntmps84, List.size_toArray, List.length_cons, List.length_nil, Nat.reduceAdd, Nat.reduceSub, Array.replicate_succ, Array.replicate_zero, List.push_toArray, List.append_toArray, List.nil_append, List.cons_append]
  gi_wp2
  gi_loopw [7] (fun i wr => ∃ k : Nat, k ≤ len ∧ i = .int .i64 k ∧ J (zs.take k) wr ∧ Below n₀ W wr)
    (fun i _ => len - (intOf i).toNat)
  case atStart => exact ⟨0, Nat.zero_le _, rfl, by simpa using h0, Below.refl _ _⟩
  case round =>
    obtain ⟨k, hk, rfl, hJs, hnx⟩ := hrel
    by_cases hlt : k < len
    · have hcx : wr.cell? ⟨b, k, none⟩ = some (encQ (zs[k]'(by omega))) := (hnx.cell (p := ⟨b, k, none⟩) hb).trans (hc k (by omega))
      have htk : zs.take (k + 1) = zs.take k ++ [zs[k]'(by omega)] := List.take_succ_eq_append_getElem (by omega)
      obtain ⟨fn, tmps, assign, body, hy, hR⟩ := hY _ (zs[k]'(by omega)) wr hJs (by rw [List.length_take]; omega)
      rw [← htk] at hR
      generalize zs[k]'(by omega) = x at *
      unfold encQ at hy hcx
      clear hc htk
      gi_wp2
      refine hR.mono ?_
      rintro e W3 (⟨rfl, hJ3, hk3⟩ | ⟨rfl, hJx3⟩)
      · gi_wp2
        go_roundw
        case rel => exact ⟨k + 1, by omega, by simp, hJ3, hnx.trans hk3⟩
        case measure => simp [intOf]; omega
      · gi_wp2
        refine bodyPost_ret (results_none rfl _ _ _) rfl ?_
        exact ⟨⟨_, rfl⟩, .inr ⟨_, List.take_prefix _ _, hJx3⟩⟩
    · obtain rfl : k = len := by omega
      gi_wp2
      go_end0
      exact ⟨⟨_, rfl⟩, .inl ⟨_, by rw [← hz, List.take_length], hJs⟩⟩
set_option maxHeartbeats 1000000 in
theorem each1_nil_in (n : Nat) (l Bs : Nat) (J : List Nat → World → Prop) (W : World) (hBs : W.cell? ⟨Bs, 0, none⟩ = some (.slice none 0 0)) (h0 : J [] W) :
    CallsIn Fence.wide n Tryz.prog 84 #[.func (.yield l) #[] #[], .pointer (some ⟨Bs, 0, none⟩)] W fun e W' => (∃ v, e = .returned v) ∧ J [] W' := by
  refine callsIn_of_wp Tryz.func84 rfl trivial ?_ rfl
  simp only [Tryz.ntmps84, List.size_toArray, List.length_cons, List.length_nil, Nat.reduceAdd, Nat.reduceSub, Array.replicate_succ, Array.replicate_zero, List.push_toArray, List.append_toArray, List.nil_append, List.cons_append]
  gi_wp2
  gi_loopw [7] (fun i wr => i = .int .i64 0 ∧ J [] wr) (fun _ _ => 0)
  case atStart => exact ⟨rfl, h0⟩
  case round =>
    obtain ⟨rfl, hJs⟩ := hrel
    gi_wp2
    go_end0
    exact ⟨⟨_, rfl⟩, hJs⟩
/-- slices.Values of a row of series. -/
theorem each_stops (n : Nat) (hn : 1 ≤ n) (Bs n₀ : Nat) (sv : Value) (zs : List Nat) (hreach : zs.length ≤ 1000000000) (w : World) (hBs : Bs < w.heap.size) (hn₀ : n₀ ≤ w.heap.size)
    (hc : w.cell? ⟨Bs, 0, none⟩ = some sv) (hI : Rw.Mine layZ 82 w sv zs) (hlt : ∀ g, sv.ownBlock = some g → g < n₀) :
    SeqStopsK Fence.wide n Tryz.prog 84 #[.pointer (some ⟨Bs, 0, none⟩)] (fun s => #[encQ s]) (Below n₀) (fun ys => ys = zs) (fun pre => pre <+: zs) zs.length w := fun l J Jx W hW _ _ hY h0 => by
  have hc' := (hW.cell (p := ⟨Bs, 0, none⟩) hBs).trans hc
  rcases Rw.Mine.shape hI with ⟨rfl, rfl⟩ | ⟨g, c, rfl, h1, h2, h3⟩
  · exact (each1_nil_in n l Bs J W hc' h0).mono fun e W' ⟨he, hj⟩ => ⟨he, .inl ⟨_, rfl, hj⟩⟩
  · refine each1_in n hn l Bs n₀ g zs.length c zs rfl hreach (hlt g rfl) J Jx hY W hc' (fun j hj => ?_) h0
    have := Rw.Mine.cells hI hj (t := 0) rfl
    rw [show j * layZ.k + 0 = j by show j * 1 + 0 = j; omega] at this
    exact (hW.cell (p := ⟨g, j, none⟩) (by have := Rw.Mine.lt hI (b := g) rfl; exact this)).trans this
end Hd
end Go.Proofs.YtfheehlfodoimaaGreat
