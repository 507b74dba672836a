/- The document's own disk (layer 4): apply. -/
import Derived.Test.YtiadjjdmhpabnaaRefFour
import Derived.Deep.AppendLies
import Derived.Deep.RegionHeld3
namespace Go.Proofs.Ytiadjjdmhpabnaa
open Go.RowKit
namespace Dsk
open Go.Maps

/-! ### in plain words -/
theorem less_before : ∀ (a b : List UInt8), Op.bytesLess a b = bytesBefore a b
  | [], [] => rfl
  | _ :: _, [] => rfl
  | [], _ :: _ => rfl
  | a :: r, b :: s => by unfold Op.bytesLess bytesBefore; rw [less_before r s]
def chFrom : Chg → Str | .put _ _ => [] | .move a _ _ => a | .del a => a
def chTo : Chg → Str | .put k _ => k | .move _ b _ => b | .del _ => []
def chFile : Chg → Nat | .put _ i => i | .move _ _ i => i | .del _ => 0
def chReal : Chg → Prop | .put k _ => k ≠ [] | .move _ b _ => b ≠ [] | .del _ => True
def keepN (fr dn : Str) (N : Nms) : Nms := N.filter fun p => !(p.1 == fr) && !(p.1 == dn)
def posN (dn : Str) (M : Nms) : Nat := (M.takeWhile fun p => bytesBefore p.1 dn).length
def putAt (dn : Str) (i : Nat) (M : Nms) : Nms := M.take (posN dn M) ++ (dn, i) :: M.drop (posN dn M)
def applyN (fr dn : Str) (i : Nat) (N : Nms) : Nms := if dn = [] then keepN fr dn N else putAt dn i (keepN fr dn N)

theorem pos_is (dn : Str) : ∀ (M : Nms) (k : Nat), (∀ p ∈ M.take k, bytesBefore p.1 dn = true) → k ≤ M.length → (∀ p, M[k]? = some p → bytesBefore p.1 dn = false) → posN dn M = k
  | [], k, _, hk, _ => by simp at hk; subst hk; rfl
  | y :: r, 0, _, _, h => by
    have := h y rfl
    unfold posN
    rw [List.takeWhile_cons, if_neg (by rw [this]; decide)]
    rfl
  | y :: r, k + 1, h1, hk, h => by
    have ih := pos_is dn r k (fun p hp => h1 p (by rw [List.take_succ_cons]; exact List.mem_cons_of_mem _ hp)) (by simpa using hk) (fun p hp => h p (by simpa using hp))
    have hy := h1 y (by rw [List.take_succ_cons]; exact List.mem_cons_self)
    unfold posN at ih ⊢
    rw [List.takeWhile_cons, if_pos hy, List.length_cons, ih]
theorem putAt_ins (dn : Str) (i : Nat) : ∀ (M : Nms), (∀ p ∈ M, p.1 ≠ dn) → putAt dn i M = insN (dn, i) M
  | [], _ => rfl
  | y :: r, h => by
    have ih := putAt_ins dn i r fun p hp => h p (List.mem_cons_of_mem _ hp)
    have hy := h y List.mem_cons_self
    unfold insN putAt posN
    rw [List.takeWhile_cons]
    by_cases hb : bytesBefore y.1 dn = true
    · have hn : ¬ bytesBefore (dn, i).1 y.1 = true := fun h2 => by
        have := WideShapes.bytes_trans _ _ _ hb h2
        rw [WideAt.bytes_irrefl] at this; cases this
      rw [if_pos hb, if_neg hn, ← ih]
      rfl
    · have hc : bytesBefore (dn, i).1 y.1 = true := by
        rcases WideAt.bytes_total _ _ hy with h1 | h1
        · exact absurd h1 hb
        · exact h1
      rw [if_neg hb, if_pos hc]
      rfl
theorem applyN_is (N : Nms) (c : Chg) (hc : chReal c) (hN : ∀ p ∈ N, p.1 ≠ []) : applyN (chFrom c) (chTo c) (chFile c) N = appC N c := by
  have hk : ∀ (fr dn : Str), ∀ p ∈ keepN fr dn N, p.1 ≠ dn := fun fr dn p hp => by
    unfold keepN at hp; rw [List.mem_filter] at hp; have := hp.2; simp at this; exact this.2
  cases c with
  | put k i =>
    unfold applyN chFrom chTo chFile appC putN
    rw [if_neg hc, putAt_ins _ _ _ (hk _ _)]
    congr 1
    unfold keepN delN
    apply List.filter_congr
    intro p hp
    have := hN p hp
    simp [this]
  | move a b i =>
    unfold applyN chFrom chTo chFile appC putN
    rw [if_neg hc, putAt_ins _ _ _ (hk _ _)]
    congr 1
    unfold keepN delN
    rw [List.filter_filter]
    apply List.filter_congr
    intro p hp
    simp [Bool.and_comm]
  | del a =>
    unfold applyN chFrom chTo chFile appC
    rw [if_pos rfl]
    unfold keepN delN
    apply List.filter_congr
    intro p hp
    have := hN p hp
    simp [this]

theorem row_le {w : World} {b b' : Nat} {e : TypeId} {size n : Nat} {v : Value} {xs : List Value} (h : w.ownsRow b e size v n xs) (hb : b' ≤ b) : w.ownsRow b' e size v n xs := by
  refine ⟨h.1, ?_⟩
  rcases h.2 with h0 | ⟨g, cap, cur, hv, hg, h2⟩
  · exact .inl h0
  · exact .inr ⟨g, cap, cur, hv, Nat.le_trans hb hg, h2⟩

theorem infoE : (Try.prog.info? 68).map (fun i => (i.zero, i.size, i.bytes)) = some (some (.agg #[.string ByteArray.empty, .int .i64 0]), 2, 24) := by kernel_rfl

/-- What holds at the head of each round of the first loop. -/
def KeepUp (N : Nms) (fr dn : Str) (B : Nat) (w0 : World) (v i : Value) (wr : World) : Prop :=
  ∃ j : Nat, j ≤ N.length ∧ i = .int .i64 (j : Int) ∧ wr.ownsRow (B + 1) 68 2 v (keepN fr dn (N.take j)).length ((keepN fr dn (N.take j)).flatMap eC) ∧ Upon (fun _ => False) w0 wr

theorem keep_step {N : Nms} {fr dn : Str} {j : Nat} {p : Str × Nat} (hp : N[j]? = some p) : keepN fr dn (N.take (j + 1)) = keepN fr dn (N.take j) ++ if (p.1 == fr || p.1 == dn) then [] else [p] := by
  unfold keepN
  rw [List.take_add_one, hp, List.filter_append]
  congr 1
  cases h1 : (p.1 == fr) <;> cases h2 : (p.1 == dn) <;> simp [h1, h2, List.filter]
theorem keep_len (N : Nms) (fr dn : Str) (j : Nat) : (keepN fr dn (N.take j)).length ≤ N.length := by
  unfold keepN
  have h1 := List.length_filter_le (fun p : Str × Nat => !(p.1 == fr) && !(p.1 == dn)) (N.take j)
  have h2 := List.length_take_le' j N
  omega

theorem two_new (W : World) (a b : Value) (t : TypeId) (g : Nat) (hg : g = W.heap.size) : ∀ (j : Nat) (u : Value), [a, b][j]? = some u → (W.alloc (.cells #[a, b] t)).cell? ((⟨g, 0, none⟩ : Addr).add j) = some u := by
  subst hg
  intro j u hu
  rw [at_of_add, World.cell?_alloc_at _ _ _ _ rfl]
  match j, hu with
  | 0, hu => simpa using hu
  | 1, hu => simpa using hu
theorem one_two (d : ByteArray) (k : Int) : ∀ u ∈ [Value.string d, Value.int .i64 k], u.oneCell' = true := by
  intro u hu
  simp only [List.mem_cons, List.not_mem_nil, or_false] at hu
  rcases hu with rfl | rfl <;> rfl

/-! ### the pieces that are put together -/
theorem flat_len (M : Nms) : (M.flatMap eC).length = M.length * 2 := by
  induction M with
  | nil => rfl
  | cons x r ih => rw [List.flatMap_cons, List.length_append, ih, List.length_cons]; show 2 + r.length * 2 = _; omega
theorem flat_take (M : Nms) (k : Nat) : (M.take k).flatMap eC = (M.flatMap eC).take (k * 2) := by
  induction M generalizing k with
  | nil => simp
  | cons x r ih =>
    cases k with
    | zero => simp
    | succ k => rw [List.take_succ_cons, List.flatMap_cons, List.flatMap_cons, ih, show (k + 1) * 2 = k * 2 + 2 by omega]; rfl
theorem flat_drop (M : Nms) (k : Nat) : (M.drop k).flatMap eC = (M.flatMap eC).drop (k * 2) := by
  induction M generalizing k with
  | nil => simp
  | cons x r ih =>
    cases k with
    | zero => simp
    | succ k => rw [List.drop_succ_cons, List.flatMap_cons, ih, show (k + 1) * 2 = k * 2 + 2 by omega]; rfl
theorem one_flat (M : Nms) : ∀ u ∈ M.flatMap eC, u.oneCell' = true := by
  intro u hu
  obtain ⟨p, -, hp⟩ := List.mem_flatMap.1 hu
  unfold eC at hp
  simp only [List.mem_cons, List.not_mem_nil, or_false] at hp
  rcases hp with rfl | rfl <;> rfl
def MC (M : Nms) (g : Nat) (X : World) : Prop := ∀ j u, (M.flatMap eC)[j]? = some u → X.cell? ⟨g, j, none⟩ = some u
theorem mc_of {X : World} {b : Nat} {g c : Nat} {M : Nms} (h : X.ownsRow b 68 2 (.slice (some ⟨g, 0, none⟩) M.length c) M.length (M.flatMap eC)) : MC M g X := fun j u hu => by
  have := h.cells (g := g) rfl j u hu
  rwa [at_of_add] at this
theorem mc_upon {W X : World} {M : Nms} {g : Nat} (h : MC M g W) (hu : Upon (fun _ => False) W X) (hg : g < W.heap.size) : MC M g X := fun j u hj => (cell_upon hu hg).trans (h j u hj)
theorem news_take {X : World} {M : Nms} {g : Nat} (h : MC M g X) (k : Nat) : ∀ j u, ((M.take k).flatMap eC)[j]? = some u → X.cell? ((⟨g, 0, none⟩ : Addr).add j) = some u := fun j u hu => by
  rw [at_of_add]
  rw [flat_take] at hu
  have hj := (List.getElem?_eq_some_iff.1 hu).1
  rw [List.length_take] at hj
  rw [List.getElem?_take_of_lt (by omega)] at hu
  exact h j u hu
theorem news_drop {X : World} {M : Nms} {g : Nat} (h : MC M g X) (k : Nat) : ∀ j u, ((M.drop k).flatMap eC)[j]? = some u → X.cell? ((⟨g, k * 2, none⟩ : Addr).add j) = some u := fun j u hu => by
  have e : (⟨g, k * 2, none⟩ : Addr).add j = ⟨g, k * 2 + j, none⟩ := by unfold Addr.add; split <;> simp_all
  rw [e]
  rw [flat_drop, List.getElem?_drop] at hu
  exact h _ u hu
/-- append of nothing, at a step of a region that draws. -/
theorem step_zero {ops : Array Oper} {o : Oper} {a : Act} {K : Act → World → Prop} {Q : Exit → Act → World → Prop} {E : Prop} {w : World} (hgd : o.guard = none) (s x : Operand) (t : TypeId)
    (ho : o.op = .call { callee := .builtin .append, args := #[s, x], argTypes := #[t, t] }) (e : TypeId) (i : TypeInfo) (ht : Try.prog.underlying t = some (.slice e)) (hi : Try.prog.info? e = some i)
    (ad : Addr) (n c : Nat) (hs : a.eval s = .slice (some ad) n c) (hnc : n ≤ c) (ga : Option Addr) (c2 : Nat) (hx : a.eval x = .slice ga 0 c2)
    (h : K (a.put o.dst (.slice (some ad) n c)) w) :
    if Region.wanted o (yielded ops a.tmps) = true then Oper.wp Try.prog o a w K Q else E := by
  have hw : Region.wanted o (yielded ops a.tmps) = true := by simp [Region.wanted, hgd]
  have hr : (Builtin.append_ #[t, t] o.type #[.slice (some ad) n c, .slice ga 0 c2]).run Try.prog w = .ok (.slice (some ad) n c) w := by
    cases ga with
    | none => simp [Builtin.append_, run_underlying ht, sizeOf, typeInfo, hi, Builtin.lenOf, Builtin.firstCells, loadCells, storeCells, hnc]
    | some a2 => simp [Builtin.append_, run_underlying ht, sizeOf, typeInfo, hi, Builtin.lenOf, Builtin.firstCells, loadCells, loadCellsFrom, storeCells, hnc]
  rw [if_pos hw]
  unfold Oper.wp execOp
  simp only [ho, resolve, invoke, builtin, Sem.run_bind, Sem.run_pure, Result.andThen_ok, List.map_toArray, List.map_cons, List.map_nil, hs, hx, hr]
  exact h
theorem row_cap {w : World} {b n c size : Nat} {e : TypeId} {ad : Addr} {xs : List Value} (h : w.ownsRow b e size (.slice (some ad) n c) n xs) : n ≤ c := by
  rcases h.2 with ⟨hv, _⟩ | ⟨g, cap, cur, hv, _, _, hnc, _⟩
  · cases hv
  · injection hv with _ _ hc; omega

theorem put_row {X : World} {b n' : Nat} {v : Value} {xs' : List Value} {L : Nms} (h : X.ownsRow b 68 2 v n' xs') (hn : n' = L.length) (hx : xs' = L.flatMap eC) : X.ownsRow b 68 2 v L.length (L.flatMap eC) := by
  subst hn hx; exact h
theorem put_flat (M : Nms) (k : Nat) (dn : Str) (n : Nat) : (M.take k ++ (dn, n) :: M.drop k).flatMap eC = (M.take k).flatMap eC ++ [sv dn, .int .i64 (n : Int)] ++ (M.drop k).flatMap eC := by
  rw [List.flatMap_append, List.flatMap_cons, List.append_assoc]; rfl
theorem put_len (M : Nms) (k : Nat) (dn : Str) (n : Nat) (hk : k ≤ M.length) : (M.take k ++ (dn, n) :: M.drop k).length = k + 1 + (M.length - k) := by
  rw [List.length_append, List.length_cons, List.length_take, List.length_drop]; omega
theorem own_e {X : World} {b g : Nat} (hb : b ≤ g) (h : X.heap[g]? = some (.cells #[] 68 (0, 0))) : X.ownsRow b 68 2 (.slice (some ⟨g, 0, none⟩) 0 0) 0 [] :=
  ⟨rfl, .inr ⟨g, 0, #[], rfl, hb, h, Nat.le_refl _, Nat.zero_le _, rfl, rfl⟩⟩
theorem s_of {W X : World} {b : Nat} {x y : Value} (hu : Upon (fun _ => False) W X) (hb : b < W.heap.size) (h1 : W.cell? ⟨b, 1, none⟩ = some x) (h2 : W.cell? ⟨b, 2, none⟩ = some y) : X.cell? ⟨b, 1, none⟩ = some x ∧ X.cell? ⟨b, 2, none⟩ = some y :=
  ⟨(cell_upon hu hb).trans h1, (cell_upon hu hb).trans h2⟩

set_option maxRecDepth 100000 in
set_option maxHeartbeats 3200000 in
theorem apply_any (N : Nms) (fr dn : Str) (n : Nat) (v : Value) (w : World) (h : w.ownsRow 0 68 2 v N.length (N.flatMap eC)) (hn : N.length ≤ 1000) :
    Calls Try.prog 51 #[v, .agg #[sv fr, sv dn, .int .i64 (n : Int)]] w
      fun e w' => ∃ v', e = .returned v' ∧ w'.ownsRow w.heap.size 68 2 v' (applyN fr dn n N).length ((applyN fr dn n N).flatMap eC) ∧ Upon (fun _ => False) w w' := by
  obtain ⟨nb, nc, na, hnv, n1, n2, n3⟩ := e_cells h
  unfold maxLen at n2
  subst hnv
  obtain ⟨i0, hi, hz0, hz1, hz2⟩ := info_parts infoE
  obtain ⟨F, hF⟩ : ∃ F : ByteArray, F = ⟨fr.toArray⟩ := ⟨_, rfl⟩
  obtain ⟨T, hT⟩ : ∃ T : ByteArray, T = ⟨dn.toArray⟩ := ⟨_, rfl⟩
  have HF := Lib.hid (show F.toList = fr by rw [toList_is, hF])
  have HT := Lib.hid (show T.toList = dn by rw [toList_is, hT])
  have hnl : ∀ j p, N[j]? = some p → na = some ⟨nb, 0, none⟩ ∧ nb < w.heap.size ∧ w.cell? ⟨nb, j * 2, none⟩ = some (sv p.1) ∧ w.cell? ⟨nb, j * 2 + 1, none⟩ = some (.int .i64 (p.2 : Int)) := fun j p hp => by
    have hjl := (List.getElem?_eq_some_iff.1 hp).1
    obtain ⟨x1, x2, x3⟩ := n3 (by intro e; rw [e] at hjl; simp at hjl)
    exact ⟨x1, x2, x3 j p hp⟩
  have N3 := Lib.hid hnl
  unfold sv
  rw [← hF, ← hT]
  have HT2 := Lib.hid hT
  clear hF hT n3 hnl h
  have hw0 : Upon (fun _ => False) w (w.alloc (.cells #[.string F, .string T, .int .i64 (n : Int)] 85 (0, 0))) := (Upon.refl _ w).alloc _
  have HW0 := Lib.hid hw0
  have hbx := cell_new w (.cells #[.string F, .string T, .int .i64 (n : Int)] 85 (0, 0))
  have HBX := Lib.hid hbx
  have HNIL := Lib.hid (World.ownsRow_nil (w.alloc (.cells #[.string F, .string T, .int .i64 (n : Int)] 85 (0, 0))) (w.heap.size + 1) 68 2)
  have HSZ := Lib.hid (show (w.alloc (.cells #[.string F, .string T, .int .i64 (n : Int)] 85 (0, 0))).heap.size = w.heap.size + 1 by simp)
  clear hw0 hbx
  go_enter Try.func51, Try.ntmps51
  go_wp2
  generalize w.alloc (.cells #[.string F, .string T, .int .i64 (n : Int)] 85 (0, 0)) = w1 at *
  go_loopw [5, 6] (fun v i wr => KeepUp N fr dn w.heap.size w1 v i wr) (fun _ i _ => N.length - (intOf i).toNat)
  case atStart => exact ⟨0, Nat.zero_le _, rfl, by simpa [keepN] using HNIL.out, Upon.refl _ _⟩
  case round =>
    obtain ⟨j, hj, rfl, hrow, hup⟩ := hrel
    have HR := Lib.hid hrow
    have HU := Lib.hid hup
    have hb1 : wr.heap[w.heap.size]? = some (.cells #[.string F, .string T, .int .i64 (n : Int)] 85 (0, 0)) := (hup.block _ (by rw [HSZ.out]; omega) (fun h => h)).trans HBX.out
    have b0 : wr.cell? ⟨w.heap.size, 0, none⟩ = some (.string F) := by rw [Lib.cell_of_heap hb1]; rfl
    have b1 : wr.cell? ⟨w.heap.size, 1, none⟩ = some (.string T) := by rw [Lib.cell_of_heap hb1]; rfl
    have HB1 := Lib.hid hb1
    clear hrow hup hb1
    by_cases hlt : j < N.length
    · obtain ⟨p, hp⟩ : ∃ p, N[j]? = some p := ⟨_, List.getElem?_eq_getElem hlt⟩
      obtain ⟨rfl, x2, x3, x4⟩ := N3.out j p hp
      have hst := keep_step (fr := fr) (dn := dn) hp
      have hkl := keep_len N fr dn j
      have u1 : w1.cell? ⟨nb, j * 2, none⟩ = some (sv p.1) := (HW0.out.block nb x2 (fun h => h) |> fun e => World.cell?_of_block e).trans x3
      have u2 : w1.cell? ⟨nb, j * 2 + 1, none⟩ = some (.int .i64 (p.2 : Int)) := (HW0.out.block nb x2 (fun h => h) |> fun e => World.cell?_of_block e).trans x4
      have x5 : nb < w1.heap.size := by rw [HSZ.out]; omega
      have v1 : wr.cell? ⟨nb, j * 2, none⟩ = some (sv p.1) := (cell_upon HU.out x5).trans u1
      have v2 : wr.cell? ⟨nb, j * 2 + 1, none⟩ = some (.int .i64 (p.2 : Int)) := (cell_upon HU.out x5).trans u2
      obtain ⟨X, hX⟩ : ∃ X : ByteArray, X = ⟨p.1.toArray⟩ := ⟨_, rfl⟩
      have hXl : X.toList = p.1 := by rw [toList_is, hX]
      unfold sv at v1
      rw [← hX] at v1
      clear x3 x4 u1 u2
      by_cases hf : p.1 = fr
      · have q1 : (X.toList == F.toList) = true := by rw [hXl, HF.out, hf]; simp
        have q2 : (X.toList != F.toList) = false := by simp [hXl, HF.out, hf]
        have HST := Lib.hid (show keepN fr dn (N.take (j + 1)) = keepN fr dn (N.take j) by rw [hst]; simp [hf])
        clear hst hX hXl hf hp
        go_wp2_with fail
        go_quiet (fail)
        go_wp2
        refine ⟨⟨j + 1, by omega, by push_cast; rfl, ?_, HU.out.trans (quiet_upon _ _)⟩, ?_⟩
        · rw [HST.out]; exact ownsRow_kept HR.out fun _ _ => rfl
        · simp only [intOf]; omega
      · by_cases ht : p.1 = dn
        · have q1 : (X.toList == F.toList) = false := by rw [hXl, HF.out]; simpa using hf
          have q2 : (X.toList != F.toList) = true := by rw [bne, q1]; rfl
          have q3 : (X.toList == T.toList) = true := by rw [hXl, HT.out, ht]; simp
          have q4 : (X.toList != T.toList) = false := by rw [bne, q3]; rfl
          have HST := Lib.hid (show keepN fr dn (N.take (j + 1)) = keepN fr dn (N.take j) by rw [hst]; simp [ht])
          clear hst hX hXl hf ht hp
          go_wp2_with fail
          go_quiet (fail)
          go_wp2
          refine ⟨⟨j + 1, by omega, by push_cast; rfl, ?_, HU.out.trans (quiet_upon _ _)⟩, ?_⟩
          · rw [HST.out]; exact ownsRow_kept HR.out fun _ _ => rfl
          · simp only [intOf]; omega
        · have q1 : (X.toList == F.toList) = false := by rw [hXl, HF.out]; simpa using hf
          have q2 : (X.toList != F.toList) = true := by rw [bne, q1]; rfl
          have q3 : (X.toList == T.toList) = false := by rw [hXl, HT.out]; simpa using ht
          have q4 : (X.toList != T.toList) = true := by rw [bne, q3]; rfl
          have HST := Lib.hid (show keepN fr dn (N.take (j + 1)) = keepN fr dn (N.take j) ++ [p] by rw [hst]; simp [ht, hf])
          have HXV := Lib.hid (show eC p = [.string X, .int .i64 (p.2 : Int)] by rw [hX]; rfl)
          have H1 := Lib.hid (one_two X (p.2 : Int))
          have HRD := Lib.hid (fun k => (show (wr.drewN k).ownsRow (w.heap.size + 1) 68 2 u5 (keepN fr dn (N.take j)).length ((keepN fr dn (N.take j)).flatMap eC) from ownsRow_kept HR.out fun _ _ => rfl).alloc (.cells #[.string X, .int .i64 (p.2 : Int)] 68))
          have H2 := Lib.hid (fun k => show w.heap.size + 1 ≤ ((wr.drewN k).alloc (Obj.cells #[.string X, .int .i64 (p.2 : Int)] 68)).heap.size by have := HU.out.size; have := HSZ.out; simp; omega)
          have hl1 : (keepN fr dn (N.take j)).length ≤ 1000 := Nat.le_trans hkl hn
          clear hst hX hXl hf ht hp hkl
          go_wp2_with fail
          go_quiet (fail)
          go_wp2_with (at_builtin; go_loud (refine wpList_append_own _ rfl _ _ 39 rfl (w.heap.size + 1) 68 i0 (.agg #[.string ByteArray.empty, .int .i64 0]) 2 24 Try.underlying39 hi hz0 hz1 hz2 rfl (by decide) _ _ _ rfl (HRD.out nq) ⟨wr.heap.size, 0, none⟩ 1 1 [.string X, .int .i64 (p.2 : Int)] rfl rfl (two_new _ _ _ _ _ rfl) H1.out (by unfold maxLen; omega) (by omega) (H2.out nq) ?_))
          intro v' w3 hrow3 hg3 _
          have hup3 := ((HU.out.trans (quiet_upon wr nq)).alloc (Obj.cells #[.string X, .int .i64 (p.2 : Int)] 68)).grown hg3 (fun k hk => .inr (Nat.le_trans (by rw [HSZ.out]; exact Nat.le_refl _) (HR.out.lt k hk).1))
          have HX := Lib.hid (show KeepUp N fr dn w.heap.size w1 v' (.int .i64 ((j : Int) + 1)) w3 from ⟨j + 1, by omega, by push_cast; rfl, by
            rw [HST.out, List.length_append, List.flatMap_append]
            simpa [HXV.out] using hrow3, hup3⟩)
          clear hrow3 hg3 hup3
          go_wp2
          refine ⟨HX.out, ?_⟩
          simp only [intOf]; omega
    · have he : j = N.length := by omega
      subst he
      have hfull : keepN fr dn (N.take N.length) = keepN fr dn N := by rw [List.take_length]
      rw [hfull] at HR
      have hml : (keepN fr dn N).length ≤ 1000 := by have := keep_len N fr dn N.length; rw [hfull] at this; omega
      clear hfull
      have b2 : wr.cell? ⟨w.heap.size, 2, none⟩ = some (.int .i64 (n : Int)) := by rw [Lib.cell_of_heap HB1.out]; rfl
      have HUW := Lib.hid (show Upon (fun _ => False) w wr from HW0.out.trans HU.out)
      have hBl : w.heap.size < wr.heap.size := by have := HU.out.size; have := HSZ.out; omega
      obtain ⟨M, hM⟩ : ∃ M, M = keepN fr dn N := ⟨_, rfl⟩
      rw [← hM] at HR hml
      by_cases hd : dn = []
      · have HA := Lib.hid (show applyN fr dn n N = M by unfold applyN; rw [if_pos hd, hM])
        obtain rfl : T = ByteArray.empty := by rw [HT2.out, hd]; rfl
        have HP := Lib.hid (row_le HR.out (show w.heap.size ≤ w.heap.size + 1 by omega))
        clear hd hM
        go_wp2
        go_ret
        refine ⟨_, rfl, ?_, HUW.out⟩
        rw [HA.out]
        exact HP.out
      · have HA := Lib.hid (show applyN fr dn n N = putAt dn n M by unfold applyN; rw [if_neg hd, hM])
        have e1 : ¬ T.toList = [] := by rw [HT.out]; exact hd
        have e0 : T.toList.isEmpty = false := by
          cases hh : T.toList with
          | nil => exact absurd hh e1
          | cons a r => rfl
        obtain ⟨gb, gc, ga, rfl, g1, g2, g3⟩ := e_cells HR.out
        unfold maxLen at g2
        have G3 := Lib.hid g3
        clear hd hM g3 hlt hj n1 n2 N3 HNIL
        go_upto_block 2 with fail
        go_cut [7] from 43 to 58 (fun i w2 => ∃ k q : Nat, k ≤ M.length ∧ i = .int .i64 (k : Int) ∧ posN dn M = k ∧ w2 = wr.drewN q)
        case first =>
          go_wp2_with fail
          go_loopw [7] (fun i w2 => ∃ k q : Nat, k ≤ M.length ∧ i = .int .i64 (k : Int) ∧ (∀ p ∈ M.take k, bytesBefore p.1 dn = true) ∧ w2 = wr.drewN q) (fun i _ => M.length - (intOf i).toNat)
          case atStart => exact ⟨0, 0, Nat.zero_le _, rfl, by simp, rfl⟩
          case round =>
            obtain ⟨k, q, hk, rfl, hall, rfl⟩ := hrel
            have HALL := Lib.hid hall
            clear hall
            by_cases hkl : k < M.length
            · obtain ⟨p, hp⟩ : ∃ p, M[k]? = some p := ⟨_, List.getElem?_eq_getElem hkl⟩
              obtain ⟨rfl, y1, y2⟩ := G3.out (by intro e; rw [e] at hkl; simp at hkl)
              have y3 := (y2 k p hp).1
              obtain ⟨X, hX⟩ : ∃ X : ByteArray, X = ⟨p.1.toArray⟩ := ⟨_, rfl⟩
              have hXl : X.toList = p.1 := by rw [toList_is, hX]
              unfold sv at y3
              rw [← hX] at y3
              have HXL := Lib.hid hXl
              have HP := Lib.hid hp
              clear y2 hX hXl hp
              by_cases hb : bytesBefore p.1 dn = true
              · have q1 : Op.bytesLess X.toList T.toList = true := by rw [less_before, HXL.out, HT.out]; exact hb
                have HB := Lib.hid hb
                clear hb
                go_wp2_with fail
                go_quiet (fail)
                go_wp2
                refine ⟨⟨k + 1, q + nq, by omega, by push_cast; rfl, ?_, rfl⟩, ?_⟩
                · intro p' hp'
                  rw [List.take_add_one, HP.out] at hp'
                  rcases List.mem_append.1 hp' with h | h
                  · exact HALL.out p' h
                  · have : p' = p := by simpa using h
                    rw [this]; exact HB.out
                · simp only [intOf]; omega
              · have q1 : Op.bytesLess X.toList T.toList = false := by rw [less_before, HXL.out, HT.out]; simpa using hb
                have HPOS := Lib.hid (pos_is dn M k HALL.out hk (fun p' hp' => by rw [HP.out] at hp'; obtain rfl : p = p' := Option.some.inj hp'; simpa using hb))
                clear hb
                go_wp2_with fail
                go_quiet (fail)
                go_wp2
                go_meet
                exact ⟨k, q + nq, hk, rfl, HPOS.out, by simp⟩
            · have he : k = M.length := by omega
              have HPOS := Lib.hid (pos_is dn M k HALL.out hk (fun p' hp' => by have := (List.getElem?_eq_some_iff.1 hp').1; omega))
              subst he
              go_wp2_with fail
              go_quiet (fail)
              go_wp2
              go_meet
              exact ⟨_, q + nq, Nat.le_refl _, rfl, HPOS.out, by simp⟩
        case rest =>
          obtain ⟨k, q, hk, rfl, hpos, rfl⟩ := hcut
          have HP := Lib.hid (show putAt dn n M = M.take k ++ (dn, n) :: M.drop k by unfold putAt; rw [hpos])
          have HUq := Lib.hid (HUW.out.trans (quiet_upon wr q))
          have HBq : Hid ((wr.drewN q).heap[w.heap.size]? = _) := Lib.hid HB1.out
          have HRq := Lib.hid (show (wr.drewN q).ownsRow (w.heap.size + 1) 68 2 (.slice ga M.length gc) M.length (M.flatMap eC) from ownsRow_kept HR.out fun _ _ => rfl)
          clear hpos HUW HB1 HR HU HBX HSZ HW0 b0 b1 b2 hBl G3
          generalize wr.drewN q = W at *
          have b1 : W.cell? ⟨w.heap.size, 1, none⟩ = some (.string T) := by rw [Lib.cell_of_heap HBq.out]; rfl
          have b2 : W.cell? ⟨w.heap.size, 2, none⟩ = some (.int .i64 (n : Int)) := by rw [Lib.cell_of_heap HBq.out]; rfl
          have hBl := lt_of_block HBq.out
          by_cases h0 : k = 0
          · subst h0
            by_cases hM0 : M = []
            · subst hM0
              have O3 := Lib.hid (one_two T (n : Int))
              have hga : (ga = none ∧ gc = 0) ∨ ∃ g, ga = some ⟨g, 0, none⟩ := by
                rcases HRq.out.2 with ⟨hv, _⟩ | ⟨g, cap, cur, hv, _⟩
                · left; injection hv with h1 h2 h3; exact ⟨h1, h3⟩
                · right; injection hv with h1 h2 h3; exact ⟨g, h1⟩
              have hcases : (ga = none ∧ gc = 0) ∨ (∃ g, ga = some ⟨g, 0, none⟩ ∧ gc = 0) ∨ (∃ g, ga = some ⟨g, 0, none⟩ ∧ ¬ gc = 0) := by
                rcases hga with h | ⟨g, h⟩
                · exact .inl h
                · by_cases h0 : gc = 0
                  · exact .inr (.inl ⟨g, h, h0⟩)
                  · exact .inr (.inr ⟨g, h, h0⟩)
              clear hga
              rcases hcases with ⟨rfl, rfl⟩ | ⟨g, rfl, rfl⟩ | ⟨g, rfl, hgc⟩
              · have e63a := Lib.hid (own_e (b := w.heap.size) (X := (W.alloc (.cells #[] 68 (0, 0))).drew) (g := W.heap.size) (by omega) (cell_new W _))
                have e63b := Lib.hid (own_e (b := w.heap.size) (X := ((W.alloc (.cells #[] 68 (0, 0))).drew.alloc (.cells #[.string T, .int .i64 (n : Int)] 68 (0, 0))).drew) (g := W.heap.size) (by omega) ((Below.heap_alloc (W.alloc (.cells #[] 68 (0, 0))).drew _ W.heap.size (by simp)).trans (cell_new W _)))
                have e63c := Lib.hid (own_e (b := w.heap.size) (X := ((W.alloc (.cells #[.string T, .int .i64 (n : Int)] 68 (0, 0))).drew.alloc (.cells #[] 68 (0, 0))).drew) (g := W.heap.size + 1) (by omega) (by have := cell_new (W.alloc (.cells #[.string T, .int .i64 (n : Int)] 68 (0, 0))).drew (.cells #[] 68 (0, 0)); rw [show (W.alloc (.cells #[.string T, .int .i64 (n : Int)] 68 (0, 0))).drew.heap.size = W.heap.size + 1 by simp] at this; exact this))
                have e63d : Hid (∀ (j : Nat) (u : Value), [Value.string T, Value.int .i64 (n : Int)][j]? = some u → ((W.alloc (.cells #[] 68 (0, 0))).drew.alloc (.cells #[.string T, .int .i64 (n : Int)] 68 (0, 0))).drew.cell? ⟨W.heap.size + 1, j, none⟩ = some u) := Lib.hid (fun j u hu => by
                  have := two_new (W.alloc (.cells #[] 68 (0, 0))).drew (.string T) (.int .i64 (n : Int)) 68 (W.heap.size + 1) (by simp) j u hu
                  rw [at_of_add] at this; exact this)
                have e63e : Hid (∀ (j : Nat) (u : Value), [Value.string T, Value.int .i64 (n : Int)][j]? = some u → ((W.alloc (.cells #[.string T, .int .i64 (n : Int)] 68 (0, 0))).drew.alloc (.cells #[] 68 (0, 0))).drew.cell? ⟨W.heap.size, j, none⟩ = some u) := Lib.hid (fun j u hu => by
                  have := two_new W (.string T) (.int .i64 (n : Int)) 68 W.heap.size rfl j u hu
                  rw [at_of_add] at this
                  exact (World.cell?_of_block (Below.heap_alloc (W.alloc (.cells #[.string T, .int .i64 (n : Int)] 68 (0, 0))).drew (.cells #[] 68 (0, 0)) W.heap.size (by simp))).trans this)
                go_wp2_with fail
                go_region_held3 (fun w' => w'.cell? ⟨w.heap.size, 1, none⟩ = some (.string T) ∧ w'.cell? ⟨w.heap.size, 2, none⟩ = some (.int .i64 (n : Int)))
                  ((refine s_of ?_ hBl b1 b2; repeat (first | assumption | exact Upon.refl _ _ | refine Upon.drew ?_ | refine Upon.alloc ?_ _)))
                  (first
                  | (refine step_zero (o := ⟨some 63, _, _, _, _, _⟩) (by rfl) _ _ _ (by rfl) 68 i0 Try.underlying39 hi _ 0 0 (by rfl) (by omega) _ _ (by rfl) ?_)
                  | (refine step_append_lies (o := ⟨some 70, _, _, _, _, _⟩) _ (by rfl) _ _ _ (by rfl) w.heap.size 68 i0 (.agg #[.string ByteArray.empty, .int .i64 0]) 2 24 Try.underlying39 hi hz0 hz1 hz2 rfl (by omega) _ 0 [] (by rfl) (by exact ownsRow_kept e63b.out (fun _ _ => rfl)) ⟨W.heap.size + 1, 0, none⟩ 1 1 [.string T, .int .i64 (n : Int)] (by rfl) rfl (fun j u hu => by rw [at_of_add]; exact (World.cell?_of_block rfl).trans (e63d.out j u hu)) O3.out (by omega) (by unfold maxLen; omega) (by omega) (by simp; omega) _ rfl ?_
                     intro g2 cap2 x2 hown2 hgrow2 hat2 hlt2
                     change World.grownBy _ x2 (some (W.heap.size)) at hgrow2
                     change some (W.heap.size) = some g2 ∨ _ at hat2
                     have hup2 : Upon (fun _ => False) W x2 := Upon.grown (by repeat (first | assumption | exact Upon.refl _ _ | refine Upon.drew ?_ | refine Upon.alloc ?_ _)) hgrow2 (fun k hk => .inr (by have := Option.some.inj hk; omega))
                     have hg2 : W.heap.size ≤ g2 := by (rcases hat2 with h | h; (have := Option.some.inj h; omega); ((try simp at h); omega))
                     have hc2 := row_cap hown2
                     clear hgrow2 hat2)
                  | (refine step_append_lies (o := ⟨some 70, _, _, _, _, _⟩) _ (by rfl) _ _ _ (by rfl) w.heap.size 68 i0 (.agg #[.string ByteArray.empty, .int .i64 0]) 2 24 Try.underlying39 hi hz0 hz1 hz2 rfl (by omega) _ 0 [] (by rfl) (by exact ownsRow_kept e63c.out (fun _ _ => rfl)) ⟨W.heap.size, 0, none⟩ 1 1 [.string T, .int .i64 (n : Int)] (by rfl) rfl (fun j u hu => by rw [at_of_add]; exact (World.cell?_of_block rfl).trans (e63e.out j u hu)) O3.out (by omega) (by unfold maxLen; omega) (by omega) (by simp; omega) _ rfl ?_
                     intro g2 cap2 x2 hown2 hgrow2 hat2 hlt2
                     change World.grownBy _ x2 (some (W.heap.size + 1)) at hgrow2
                     change some (W.heap.size + 1) = some g2 ∨ _ at hat2
                     have hup2 : Upon (fun _ => False) W x2 := Upon.grown (by repeat (first | assumption | exact Upon.refl _ _ | refine Upon.drew ?_ | refine Upon.alloc ?_ _)) hgrow2 (fun k hk => .inr (by have := Option.some.inj hk; omega))
                     have hg2 : W.heap.size ≤ g2 := by (rcases hat2 with h | h; (have := Option.some.inj h; omega); ((try simp at h); omega))
                     have hc2 := row_cap hown2
                     clear hgrow2 hat2)
                  | (refine step_zero (o := ⟨some 74, _, _, _, _, _⟩) (by rfl) _ _ _ (by rfl) 68 i0 Try.underlying39 hi _ (0 + 1) cap2 (by rfl) (row_cap hown2) _ _ (by rfl) ?_)
                  | fail)
                all_goals
                  have hx1 := put_row (L := applyN fr dn n N) hown2 (by rw [HA.out, HP.out, put_len _ _ _ _ hk]; try simp; try omega) (by rw [HA.out, HP.out, put_flat]; simp [HT2.out, sv])
                  have HX1 := Lib.hid hx1
                  try simp only [Nat.zero_add] at hx1
                  have HX2 := Lib.hid hx1
                  have HU3 := Lib.hid (HUq.out.trans hup2)
                  clear hx1 hown2 hup2
                  go_wp2_with fail
                  go_ret
                  first
                  | exact ⟨_, rfl, HX1.out, HU3.out⟩
                  | exact ⟨_, rfl, HX2.out, HU3.out⟩
                  | exact ⟨_, rfl, ownsRow_kept HX1.out (fun _ _ => rfl), HU3.out.drew⟩
                  | exact ⟨_, rfl, ownsRow_kept HX2.out (fun _ _ => rfl), HU3.out.drew⟩
              · have e63a := Lib.hid (own_e (b := w.heap.size) (X := (W.alloc (.cells #[] 68 (0, 0))).drew) (g := W.heap.size) (by omega) (cell_new W _))
                have e63b := Lib.hid (own_e (b := w.heap.size) (X := ((W.alloc (.cells #[] 68 (0, 0))).drew.alloc (.cells #[.string T, .int .i64 (n : Int)] 68 (0, 0))).drew) (g := W.heap.size) (by omega) ((Below.heap_alloc (W.alloc (.cells #[] 68 (0, 0))).drew _ W.heap.size (by simp)).trans (cell_new W _)))
                have e63c := Lib.hid (own_e (b := w.heap.size) (X := ((W.alloc (.cells #[.string T, .int .i64 (n : Int)] 68 (0, 0))).drew.alloc (.cells #[] 68 (0, 0))).drew) (g := W.heap.size + 1) (by omega) (by have := cell_new (W.alloc (.cells #[.string T, .int .i64 (n : Int)] 68 (0, 0))).drew (.cells #[] 68 (0, 0)); rw [show (W.alloc (.cells #[.string T, .int .i64 (n : Int)] 68 (0, 0))).drew.heap.size = W.heap.size + 1 by simp] at this; exact this))
                have e63d : Hid (∀ (j : Nat) (u : Value), [Value.string T, Value.int .i64 (n : Int)][j]? = some u → ((W.alloc (.cells #[] 68 (0, 0))).drew.alloc (.cells #[.string T, .int .i64 (n : Int)] 68 (0, 0))).drew.cell? ⟨W.heap.size + 1, j, none⟩ = some u) := Lib.hid (fun j u hu => by
                  have := two_new (W.alloc (.cells #[] 68 (0, 0))).drew (.string T) (.int .i64 (n : Int)) 68 (W.heap.size + 1) (by simp) j u hu
                  rw [at_of_add] at this; exact this)
                have e63e : Hid (∀ (j : Nat) (u : Value), [Value.string T, Value.int .i64 (n : Int)][j]? = some u → ((W.alloc (.cells #[.string T, .int .i64 (n : Int)] 68 (0, 0))).drew.alloc (.cells #[] 68 (0, 0))).drew.cell? ⟨W.heap.size, j, none⟩ = some u) := Lib.hid (fun j u hu => by
                  have := two_new W (.string T) (.int .i64 (n : Int)) 68 W.heap.size rfl j u hu
                  rw [at_of_add] at this
                  exact (World.cell?_of_block (Below.heap_alloc (W.alloc (.cells #[.string T, .int .i64 (n : Int)] 68 (0, 0))).drew (.cells #[] 68 (0, 0)) W.heap.size (by simp))).trans this)
                go_wp2_with fail
                go_region_held3 (fun w' => w'.cell? ⟨w.heap.size, 1, none⟩ = some (.string T) ∧ w'.cell? ⟨w.heap.size, 2, none⟩ = some (.int .i64 (n : Int)))
                  ((refine s_of ?_ hBl b1 b2; repeat (first | assumption | exact Upon.refl _ _ | refine Upon.drew ?_ | refine Upon.alloc ?_ _)))
                  (first
                  | (refine step_zero (o := ⟨some 63, _, _, _, _, _⟩) (by rfl) _ _ _ (by rfl) 68 i0 Try.underlying39 hi _ 0 0 (by rfl) (by omega) _ _ (by rfl) ?_)
                  | (refine step_append_lies (o := ⟨some 70, _, _, _, _, _⟩) _ (by rfl) _ _ _ (by rfl) w.heap.size 68 i0 (.agg #[.string ByteArray.empty, .int .i64 0]) 2 24 Try.underlying39 hi hz0 hz1 hz2 rfl (by omega) _ 0 [] (by rfl) (by exact ownsRow_kept e63b.out (fun _ _ => rfl)) ⟨W.heap.size + 1, 0, none⟩ 1 1 [.string T, .int .i64 (n : Int)] (by rfl) rfl (fun j u hu => by rw [at_of_add]; exact (World.cell?_of_block rfl).trans (e63d.out j u hu)) O3.out (by omega) (by unfold maxLen; omega) (by omega) (by simp; omega) _ rfl ?_
                     intro g2 cap2 x2 hown2 hgrow2 hat2 hlt2
                     change World.grownBy _ x2 (some (W.heap.size)) at hgrow2
                     change some (W.heap.size) = some g2 ∨ _ at hat2
                     have hup2 : Upon (fun _ => False) W x2 := Upon.grown (by repeat (first | assumption | exact Upon.refl _ _ | refine Upon.drew ?_ | refine Upon.alloc ?_ _)) hgrow2 (fun k hk => .inr (by have := Option.some.inj hk; omega))
                     have hg2 : W.heap.size ≤ g2 := by (rcases hat2 with h | h; (have := Option.some.inj h; omega); ((try simp at h); omega))
                     have hc2 := row_cap hown2
                     clear hgrow2 hat2)
                  | (refine step_append_lies (o := ⟨some 70, _, _, _, _, _⟩) _ (by rfl) _ _ _ (by rfl) w.heap.size 68 i0 (.agg #[.string ByteArray.empty, .int .i64 0]) 2 24 Try.underlying39 hi hz0 hz1 hz2 rfl (by omega) _ 0 [] (by rfl) (by exact ownsRow_kept e63c.out (fun _ _ => rfl)) ⟨W.heap.size, 0, none⟩ 1 1 [.string T, .int .i64 (n : Int)] (by rfl) rfl (fun j u hu => by rw [at_of_add]; exact (World.cell?_of_block rfl).trans (e63e.out j u hu)) O3.out (by omega) (by unfold maxLen; omega) (by omega) (by simp; omega) _ rfl ?_
                     intro g2 cap2 x2 hown2 hgrow2 hat2 hlt2
                     change World.grownBy _ x2 (some (W.heap.size + 1)) at hgrow2
                     change some (W.heap.size + 1) = some g2 ∨ _ at hat2
                     have hup2 : Upon (fun _ => False) W x2 := Upon.grown (by repeat (first | assumption | exact Upon.refl _ _ | refine Upon.drew ?_ | refine Upon.alloc ?_ _)) hgrow2 (fun k hk => .inr (by have := Option.some.inj hk; omega))
                     have hg2 : W.heap.size ≤ g2 := by (rcases hat2 with h | h; (have := Option.some.inj h; omega); ((try simp at h); omega))
                     have hc2 := row_cap hown2
                     clear hgrow2 hat2)
                  | (refine step_zero (o := ⟨some 74, _, _, _, _, _⟩) (by rfl) _ _ _ (by rfl) 68 i0 Try.underlying39 hi _ (0 + 1) cap2 (by rfl) (row_cap hown2) _ _ (by rfl) ?_)
                  | fail)
                all_goals
                  have hx1 := put_row (L := applyN fr dn n N) hown2 (by rw [HA.out, HP.out, put_len _ _ _ _ hk]; try simp; try omega) (by rw [HA.out, HP.out, put_flat]; simp [HT2.out, sv])
                  have HX1 := Lib.hid hx1
                  try simp only [Nat.zero_add] at hx1
                  have HX2 := Lib.hid hx1
                  have HU3 := Lib.hid (HUq.out.trans hup2)
                  clear hx1 hown2 hup2
                  go_wp2_with fail
                  go_ret
                  first
                  | exact ⟨_, rfl, HX1.out, HU3.out⟩
                  | exact ⟨_, rfl, HX2.out, HU3.out⟩
                  | exact ⟨_, rfl, ownsRow_kept HX1.out (fun _ _ => rfl), HU3.out.drew⟩
                  | exact ⟨_, rfl, ownsRow_kept HX2.out (fun _ _ => rfl), HU3.out.drew⟩
              · have e63a := Lib.hid (own_e (b := w.heap.size) (X := (W.alloc (.cells #[] 68 (0, 0))).drew) (g := W.heap.size) (by omega) (cell_new W _))
                have e63b := Lib.hid (own_e (b := w.heap.size) (X := ((W.alloc (.cells #[] 68 (0, 0))).drew.alloc (.cells #[.string T, .int .i64 (n : Int)] 68 (0, 0))).drew) (g := W.heap.size) (by omega) ((Below.heap_alloc (W.alloc (.cells #[] 68 (0, 0))).drew _ W.heap.size (by simp)).trans (cell_new W _)))
                have e63c := Lib.hid (own_e (b := w.heap.size) (X := ((W.alloc (.cells #[.string T, .int .i64 (n : Int)] 68 (0, 0))).drew.alloc (.cells #[] 68 (0, 0))).drew) (g := W.heap.size + 1) (by omega) (by have := cell_new (W.alloc (.cells #[.string T, .int .i64 (n : Int)] 68 (0, 0))).drew (.cells #[] 68 (0, 0)); rw [show (W.alloc (.cells #[.string T, .int .i64 (n : Int)] 68 (0, 0))).drew.heap.size = W.heap.size + 1 by simp] at this; exact this))
                have e63d : Hid (∀ (j : Nat) (u : Value), [Value.string T, Value.int .i64 (n : Int)][j]? = some u → ((W.alloc (.cells #[] 68 (0, 0))).drew.alloc (.cells #[.string T, .int .i64 (n : Int)] 68 (0, 0))).drew.cell? ⟨W.heap.size + 1, j, none⟩ = some u) := Lib.hid (fun j u hu => by
                  have := two_new (W.alloc (.cells #[] 68 (0, 0))).drew (.string T) (.int .i64 (n : Int)) 68 (W.heap.size + 1) (by simp) j u hu
                  rw [at_of_add] at this; exact this)
                have e63e : Hid (∀ (j : Nat) (u : Value), [Value.string T, Value.int .i64 (n : Int)][j]? = some u → ((W.alloc (.cells #[.string T, .int .i64 (n : Int)] 68 (0, 0))).drew.alloc (.cells #[] 68 (0, 0))).drew.cell? ⟨W.heap.size, j, none⟩ = some u) := Lib.hid (fun j u hu => by
                  have := two_new W (.string T) (.int .i64 (n : Int)) 68 W.heap.size rfl j u hu
                  rw [at_of_add] at this
                  exact (World.cell?_of_block (Below.heap_alloc (W.alloc (.cells #[.string T, .int .i64 (n : Int)] 68 (0, 0))).drew (.cells #[] 68 (0, 0)) W.heap.size (by simp))).trans this)
                go_wp2_with fail
                go_region_held3 (fun w' => w'.cell? ⟨w.heap.size, 1, none⟩ = some (.string T) ∧ w'.cell? ⟨w.heap.size, 2, none⟩ = some (.int .i64 (n : Int)))
                  ((refine s_of ?_ hBl b1 b2; repeat (first | assumption | exact Upon.refl _ _ | refine Upon.drew ?_ | refine Upon.alloc ?_ _)))
                  (first
                  | (refine step_zero (o := ⟨some 63, _, _, _, _, _⟩) (by rfl) _ _ _ (by rfl) 68 i0 Try.underlying39 hi _ 0 0 (by rfl) (by omega) _ _ (by rfl) ?_)
                  | (refine step_append_lies (o := ⟨some 70, _, _, _, _, _⟩) _ (by rfl) _ _ _ (by rfl) w.heap.size 68 i0 (.agg #[.string ByteArray.empty, .int .i64 0]) 2 24 Try.underlying39 hi hz0 hz1 hz2 rfl (by omega) _ 0 [] (by rfl) (by exact ownsRow_kept e63b.out (fun _ _ => rfl)) ⟨W.heap.size + 1, 0, none⟩ 1 1 [.string T, .int .i64 (n : Int)] (by rfl) rfl (fun j u hu => by rw [at_of_add]; exact (World.cell?_of_block rfl).trans (e63d.out j u hu)) O3.out (by omega) (by unfold maxLen; omega) (by omega) (by simp; omega) _ rfl ?_
                     intro g2 cap2 x2 hown2 hgrow2 hat2 hlt2
                     change World.grownBy _ x2 (some (W.heap.size)) at hgrow2
                     change some (W.heap.size) = some g2 ∨ _ at hat2
                     have hup2 : Upon (fun _ => False) W x2 := Upon.grown (by repeat (first | assumption | exact Upon.refl _ _ | refine Upon.drew ?_ | refine Upon.alloc ?_ _)) hgrow2 (fun k hk => .inr (by have := Option.some.inj hk; omega))
                     have hg2 : W.heap.size ≤ g2 := by (rcases hat2 with h | h; (have := Option.some.inj h; omega); ((try simp at h); omega))
                     have hc2 := row_cap hown2
                     clear hgrow2 hat2)
                  | (refine step_append_lies (o := ⟨some 70, _, _, _, _, _⟩) _ (by rfl) _ _ _ (by rfl) w.heap.size 68 i0 (.agg #[.string ByteArray.empty, .int .i64 0]) 2 24 Try.underlying39 hi hz0 hz1 hz2 rfl (by omega) _ 0 [] (by rfl) (by exact ownsRow_kept e63c.out (fun _ _ => rfl)) ⟨W.heap.size, 0, none⟩ 1 1 [.string T, .int .i64 (n : Int)] (by rfl) rfl (fun j u hu => by rw [at_of_add]; exact (World.cell?_of_block rfl).trans (e63e.out j u hu)) O3.out (by omega) (by unfold maxLen; omega) (by omega) (by simp; omega) _ rfl ?_
                     intro g2 cap2 x2 hown2 hgrow2 hat2 hlt2
                     change World.grownBy _ x2 (some (W.heap.size + 1)) at hgrow2
                     change some (W.heap.size + 1) = some g2 ∨ _ at hat2
                     have hup2 : Upon (fun _ => False) W x2 := Upon.grown (by repeat (first | assumption | exact Upon.refl _ _ | refine Upon.drew ?_ | refine Upon.alloc ?_ _)) hgrow2 (fun k hk => .inr (by have := Option.some.inj hk; omega))
                     have hg2 : W.heap.size ≤ g2 := by (rcases hat2 with h | h; (have := Option.some.inj h; omega); ((try simp at h); omega))
                     have hc2 := row_cap hown2
                     clear hgrow2 hat2)
                  | (refine step_zero (o := ⟨some 74, _, _, _, _, _⟩) (by rfl) _ _ _ (by rfl) 68 i0 Try.underlying39 hi _ (0 + 1) cap2 (by rfl) (row_cap hown2) _ _ (by rfl) ?_)
                  | fail)
                all_goals
                  have hx1 := put_row (L := applyN fr dn n N) hown2 (by rw [HA.out, HP.out, put_len _ _ _ _ hk]; try simp; try omega) (by rw [HA.out, HP.out, put_flat]; simp [HT2.out, sv])
                  have HX1 := Lib.hid hx1
                  try simp only [Nat.zero_add] at hx1
                  have HX2 := Lib.hid hx1
                  have HU3 := Lib.hid (HUq.out.trans hup2)
                  clear hx1 hown2 hup2
                  go_wp2_with fail
                  go_ret
                  first
                  | exact ⟨_, rfl, HX1.out, HU3.out⟩
                  | exact ⟨_, rfl, HX2.out, HU3.out⟩
                  | exact ⟨_, rfl, ownsRow_kept HX1.out (fun _ _ => rfl), HU3.out.drew⟩
                  | exact ⟨_, rfl, ownsRow_kept HX2.out (fun _ _ => rfl), HU3.out.drew⟩
            · have hMl : 0 < M.length := List.length_pos_iff.2 hM0
              obtain ⟨g, cap, hsl, hbg, hgl⟩ := HRq.out.form hMl
              obtain ⟨rfl, -, rfl⟩ : ga = some ⟨g, 0, none⟩ ∧ M.length = M.length ∧ gc = cap := by simpa using hsl
              have i3 : ¬ gc = 0 := by omega
              clear hsl
              have HMC := Lib.hid (mc_of HRq.out)
              have L2 := Lib.hid (flat_len M)
              have O2 := Lib.hid (one_flat M)
              have O3 := Lib.hid (one_two T (n : Int))
              have e63a := Lib.hid (own_e (b := w.heap.size) (X := (W.alloc (.cells #[] 68 (0, 0))).drew) (g := W.heap.size) (by omega) (cell_new W _))
              have e63b := Lib.hid (own_e (b := w.heap.size) (X := ((W.alloc (.cells #[] 68 (0, 0))).drew.alloc (.cells #[.string T, .int .i64 (n : Int)] 68 (0, 0))).drew) (g := W.heap.size) (by omega) ((Below.heap_alloc (W.alloc (.cells #[] 68 (0, 0))).drew _ W.heap.size (by simp)).trans (cell_new W _)))
              have e63c := Lib.hid (own_e (b := w.heap.size) (X := ((W.alloc (.cells #[.string T, .int .i64 (n : Int)] 68 (0, 0))).drew.alloc (.cells #[] 68 (0, 0))).drew) (g := W.heap.size + 1) (by omega) (by have := cell_new (W.alloc (.cells #[.string T, .int .i64 (n : Int)] 68 (0, 0))).drew (.cells #[] 68 (0, 0)); rw [show (W.alloc (.cells #[.string T, .int .i64 (n : Int)] 68 (0, 0))).drew.heap.size = W.heap.size + 1 by simp] at this; exact this))
              have e63d : Hid (∀ (j : Nat) (u : Value), [Value.string T, Value.int .i64 (n : Int)][j]? = some u → ((W.alloc (.cells #[] 68 (0, 0))).drew.alloc (.cells #[.string T, .int .i64 (n : Int)] 68 (0, 0))).drew.cell? ⟨W.heap.size + 1, j, none⟩ = some u) := Lib.hid (fun j u hu => by
                have := two_new (W.alloc (.cells #[] 68 (0, 0))).drew (.string T) (.int .i64 (n : Int)) 68 (W.heap.size + 1) (by simp) j u hu
                rw [at_of_add] at this; exact this)
              have e63e : Hid (∀ (j : Nat) (u : Value), [Value.string T, Value.int .i64 (n : Int)][j]? = some u → ((W.alloc (.cells #[.string T, .int .i64 (n : Int)] 68 (0, 0))).drew.alloc (.cells #[] 68 (0, 0))).drew.cell? ⟨W.heap.size, j, none⟩ = some u) := Lib.hid (fun j u hu => by
                have := two_new W (.string T) (.int .i64 (n : Int)) 68 W.heap.size rfl j u hu
                rw [at_of_add] at this
                exact (World.cell?_of_block (Below.heap_alloc (W.alloc (.cells #[.string T, .int .i64 (n : Int)] 68 (0, 0))).drew (.cells #[] 68 (0, 0)) W.heap.size (by simp))).trans this)
              go_wp2_with fail
              go_region_held3 (fun w' => w'.cell? ⟨w.heap.size, 1, none⟩ = some (.string T) ∧ w'.cell? ⟨w.heap.size, 2, none⟩ = some (.int .i64 (n : Int)))
                ((refine s_of ?_ hBl b1 b2; repeat (first | assumption | exact Upon.refl _ _ | refine Upon.drew ?_ | refine Upon.alloc ?_ _)))
                (first
                | (refine step_zero (o := ⟨some 63, _, _, _, _, _⟩) (by rfl) _ _ _ (by rfl) 68 i0 Try.underlying39 hi _ 0 0 (by rfl) (by omega) _ _ (by rfl) ?_)
                | (refine step_append_lies (o := ⟨some 70, _, _, _, _, _⟩) _ (by rfl) _ _ _ (by rfl) w.heap.size 68 i0 (.agg #[.string ByteArray.empty, .int .i64 0]) 2 24 Try.underlying39 hi hz0 hz1 hz2 rfl (by omega) _ 0 [] (by rfl) (by exact ownsRow_kept e63b.out (fun _ _ => rfl)) ⟨W.heap.size + 1, 0, none⟩ 1 1 [.string T, .int .i64 (n : Int)] (by rfl) rfl (fun j u hu => by rw [at_of_add]; exact (World.cell?_of_block rfl).trans (e63d.out j u hu)) O3.out (by omega) (by unfold maxLen; omega) (by omega) (by simp; omega) _ rfl ?_
                   intro g2 cap2 x2 hown2 hgrow2 hat2 hlt2
                   change World.grownBy _ x2 (some (W.heap.size)) at hgrow2
                   change some (W.heap.size) = some g2 ∨ _ at hat2
                   have hup2 : Upon (fun _ => False) W x2 := Upon.grown (by repeat (first | assumption | exact Upon.refl _ _ | refine Upon.drew ?_ | refine Upon.alloc ?_ _)) hgrow2 (fun k hk => .inr (by have := Option.some.inj hk; omega))
                   have hg2 : W.heap.size ≤ g2 := by (rcases hat2 with h | h; (have := Option.some.inj h; omega); ((try simp at h); omega))
                   have hc2 := row_cap hown2
                   clear hgrow2 hat2)
                | (refine step_append_lies (o := ⟨some 70, _, _, _, _, _⟩) _ (by rfl) _ _ _ (by rfl) w.heap.size 68 i0 (.agg #[.string ByteArray.empty, .int .i64 0]) 2 24 Try.underlying39 hi hz0 hz1 hz2 rfl (by omega) _ 0 [] (by rfl) (by exact ownsRow_kept e63c.out (fun _ _ => rfl)) ⟨W.heap.size, 0, none⟩ 1 1 [.string T, .int .i64 (n : Int)] (by rfl) rfl (fun j u hu => by rw [at_of_add]; exact (World.cell?_of_block rfl).trans (e63e.out j u hu)) O3.out (by omega) (by unfold maxLen; omega) (by omega) (by simp; omega) _ rfl ?_
                   intro g2 cap2 x2 hown2 hgrow2 hat2 hlt2
                   change World.grownBy _ x2 (some (W.heap.size + 1)) at hgrow2
                   change some (W.heap.size + 1) = some g2 ∨ _ at hat2
                   have hup2 : Upon (fun _ => False) W x2 := Upon.grown (by repeat (first | assumption | exact Upon.refl _ _ | refine Upon.drew ?_ | refine Upon.alloc ?_ _)) hgrow2 (fun k hk => .inr (by have := Option.some.inj hk; omega))
                   have hg2 : W.heap.size ≤ g2 := by (rcases hat2 with h | h; (have := Option.some.inj h; omega); ((try simp at h); omega))
                   have hc2 := row_cap hown2
                   clear hgrow2 hat2)
                | (refine step_append_lies (o := ⟨some 74, _, _, _, _, _⟩) _ (by rfl) _ _ _ (by rfl) w.heap.size 68 i0 (.agg #[.string ByteArray.empty, .int .i64 0]) 2 24 Try.underlying39 hi hz0 hz1 hz2 rfl (by omega) _ (0 + 1) ([] ++ [.string T, .int .i64 (n : Int)]) (by rfl) (by first | exact hown2 | exact ownsRow_kept hown2 (fun _ _ => rfl)) ⟨g, 0, none⟩ M.length gc (M.flatMap eC) (by rfl) L2.out (fun j u hu => by rw [at_of_add]; exact mc_upon HMC.out (by repeat (first | assumption | exact Upon.refl _ _ | refine Upon.drew ?_ | refine Upon.alloc ?_ _)) hgl j u hu) O2.out (by omega) (by unfold maxLen; omega) (by omega) (by have := hup2.size; simp; omega) _ rfl ?_
                   intro g3 cap3 x3 hown3 hgrow3 hat3 hlt3
                   change World.grownBy _ x3 (some g2) at hgrow3
                   have hup3 : Upon (fun _ => False) W x3 := Upon.grown (by repeat (first | assumption | exact Upon.refl _ _ | refine Upon.drew ?_ | refine Upon.alloc ?_ _)) hgrow3 (fun k hk => .inr (by have := Option.some.inj hk; omega))
                   clear hgrow3 hat3)
                | fail)
              all_goals
                have hx1 := put_row (L := applyN fr dn n N) hown3 (by rw [HA.out, HP.out, put_len _ _ _ _ hk]; try omega) (by rw [HA.out, HP.out, put_flat]; simp [HT2.out, sv])
                have HX1 := Lib.hid hx1
                try simp only [Nat.zero_add] at hx1
                have HX2 := Lib.hid hx1
                have HU3 := Lib.hid (HUq.out.trans hup3)
                clear hx1 hown2 hown3 hup2 hup3
                go_wp2_with fail
                go_ret
                first
                | exact ⟨_, rfl, HX1.out, HU3.out⟩
                | exact ⟨_, rfl, HX2.out, HU3.out⟩
          · by_cases hkm : k = M.length
            · subst hkm
              obtain ⟨g, cap, hsl, hbg, hgl⟩ := HRq.out.form (by omega)
              obtain ⟨rfl, -, rfl⟩ : ga = some ⟨g, 0, none⟩ ∧ M.length = M.length ∧ gc = cap := by simpa using hsl
              have i0' : (0 : Int) ≤ (M.length : Int) := by omega
              have i1 : (M.length : Int) ≤ (gc : Int) := by omega
              clear hsl
              by_cases i3 : gc = M.length
              · have HMC := Lib.hid (mc_of HRq.out)
                have L1 := Lib.hid (show ((M.take M.length).flatMap eC).length = M.length * 2 by rw [List.take_length]; exact flat_len M)
                have O1 := Lib.hid (one_flat (M.take M.length))
                have O3 := Lib.hid (one_two T (n : Int))
                have e63a := Lib.hid (own_e (b := w.heap.size) (X := (W.alloc (.cells #[] 68 (0, 0))).drew) (g := W.heap.size) (by omega) (cell_new W _))
                have e63b := Lib.hid (own_e (b := w.heap.size) (X := ((W.alloc (.cells #[] 68 (0, 0))).drew.alloc (.cells #[.string T, .int .i64 (n : Int)] 68 (0, 0))).drew) (g := W.heap.size) (by omega) ((Below.heap_alloc (W.alloc (.cells #[] 68 (0, 0))).drew _ W.heap.size (by simp)).trans (cell_new W _)))
                have e63c := Lib.hid (own_e (b := w.heap.size) (X := ((W.alloc (.cells #[.string T, .int .i64 (n : Int)] 68 (0, 0))).drew.alloc (.cells #[] 68 (0, 0))).drew) (g := W.heap.size + 1) (by omega) (by have := cell_new (W.alloc (.cells #[.string T, .int .i64 (n : Int)] 68 (0, 0))).drew (.cells #[] 68 (0, 0)); rw [show (W.alloc (.cells #[.string T, .int .i64 (n : Int)] 68 (0, 0))).drew.heap.size = W.heap.size + 1 by simp] at this; exact this))
                have e63d : Hid (∀ (j : Nat) (u : Value), [Value.string T, Value.int .i64 (n : Int)][j]? = some u → ((W.alloc (.cells #[] 68 (0, 0))).drew.alloc (.cells #[.string T, .int .i64 (n : Int)] 68 (0, 0))).drew.cell? ⟨W.heap.size + 1, j, none⟩ = some u) := Lib.hid (fun j u hu => by
                  have := two_new (W.alloc (.cells #[] 68 (0, 0))).drew (.string T) (.int .i64 (n : Int)) 68 (W.heap.size + 1) (by simp) j u hu
                  rw [at_of_add] at this; exact this)
                have e63e : Hid (∀ (j : Nat) (u : Value), [Value.string T, Value.int .i64 (n : Int)][j]? = some u → ((W.alloc (.cells #[.string T, .int .i64 (n : Int)] 68 (0, 0))).drew.alloc (.cells #[] 68 (0, 0))).drew.cell? ⟨W.heap.size, j, none⟩ = some u) := Lib.hid (fun j u hu => by
                  have := two_new W (.string T) (.int .i64 (n : Int)) 68 W.heap.size rfl j u hu
                  rw [at_of_add] at this
                  exact (World.cell?_of_block (Below.heap_alloc (W.alloc (.cells #[.string T, .int .i64 (n : Int)] 68 (0, 0))).drew (.cells #[] 68 (0, 0)) W.heap.size (by simp))).trans this)
                go_wp2_with fail
                go_region_held3 (fun w' => w'.cell? ⟨w.heap.size, 1, none⟩ = some (.string T) ∧ w'.cell? ⟨w.heap.size, 2, none⟩ = some (.int .i64 (n : Int)))
                  ((refine s_of ?_ hBl b1 b2; repeat (first | assumption | exact Upon.refl _ _ | refine Upon.drew ?_ | refine Upon.alloc ?_ _)))
                  (first
                  | (refine step_append_lies (o := ⟨some 63, _, _, _, _, _⟩) _ (by rfl) _ _ _ (by rfl) w.heap.size 68 i0 (.agg #[.string ByteArray.empty, .int .i64 0]) 2 24 Try.underlying39 hi hz0 hz1 hz2 rfl (by omega) _ 0 [] (by rfl) e63a.out ⟨g, 0, none⟩ M.length _ ((M.take M.length).flatMap eC) (by rfl) L1.out (news_take (mc_upon HMC.out (by repeat (first | assumption | exact Upon.refl _ _ | refine Upon.drew ?_ | refine Upon.alloc ?_ _)) hgl) M.length) O1.out (by omega) (by unfold maxLen; omega) (by omega) (by simp; omega) _ rfl ?_
                     intro g1 cap1 x1 hown1 hgrow1 hat1 hlt1
                     have hown1' := hown1
                     simp only [Nat.zero_add, List.nil_append] at hown1'
                     have hup1 : Upon (fun _ => False) W x1 := Upon.grown (by repeat (first | assumption | exact Upon.refl _ _ | refine Upon.drew ?_ | refine Upon.alloc ?_ _)) hgrow1 (fun k hk => .inr (by simp [Value.ownBlock] at hk; omega))
                     have hg1 : W.heap.size ≤ g1 := by (rcases hat1 with h | h; (simp [Value.ownBlock] at h; omega); ((try simp at h); omega))
                     clear hgrow1 hat1)
                  | (refine step_append_lies (o := ⟨some 63, _, _, _, _, _⟩) _ (by rfl) _ _ _ (by rfl) w.heap.size 68 i0 (.agg #[.string ByteArray.empty, .int .i64 0]) 2 24 Try.underlying39 hi hz0 hz1 hz2 rfl (by omega) _ 0 [] (by rfl) e63b.out ⟨g, 0, none⟩ M.length _ ((M.take M.length).flatMap eC) (by rfl) L1.out (news_take (mc_upon HMC.out (by repeat (first | assumption | exact Upon.refl _ _ | refine Upon.drew ?_ | refine Upon.alloc ?_ _)) hgl) M.length) O1.out (by omega) (by unfold maxLen; omega) (by omega) (by simp; omega) _ rfl ?_
                     intro g1 cap1 x1 hown1 hgrow1 hat1 hlt1
                     have hown1' := hown1
                     simp only [Nat.zero_add, List.nil_append] at hown1'
                     have hup1 : Upon (fun _ => False) W x1 := Upon.grown (by repeat (first | assumption | exact Upon.refl _ _ | refine Upon.drew ?_ | refine Upon.alloc ?_ _)) hgrow1 (fun k hk => .inr (by simp [Value.ownBlock] at hk; omega))
                     have hg1 : W.heap.size ≤ g1 := by (rcases hat1 with h | h; (simp [Value.ownBlock] at h; omega); ((try simp at h); omega))
                     have hone1 : ∀ (j : Nat) (u : Value), [Value.string T, Value.int .i64 (n : Int)][j]? = some u → x1.cell? ((⟨W.heap.size + 1, 0, none⟩ : Addr).add j) = some u := fun j u hu => (by rw [at_of_add, hgrow1.cell_far _ (by simp) (by simp [Value.ownBlock])]; exact e63d.out j u hu)
                     clear hgrow1 hat1)
                  | (refine step_append_lies (o := ⟨some 63, _, _, _, _, _⟩) _ (by rfl) _ _ _ (by rfl) w.heap.size 68 i0 (.agg #[.string ByteArray.empty, .int .i64 0]) 2 24 Try.underlying39 hi hz0 hz1 hz2 rfl (by omega) _ 0 [] (by rfl) e63c.out ⟨g, 0, none⟩ M.length _ ((M.take M.length).flatMap eC) (by rfl) L1.out (news_take (mc_upon HMC.out (by repeat (first | assumption | exact Upon.refl _ _ | refine Upon.drew ?_ | refine Upon.alloc ?_ _)) hgl) M.length) O1.out (by omega) (by unfold maxLen; omega) (by omega) (by simp; omega) _ rfl ?_
                     intro g1 cap1 x1 hown1 hgrow1 hat1 hlt1
                     have hown1' := hown1
                     simp only [Nat.zero_add, List.nil_append] at hown1'
                     have hup1 : Upon (fun _ => False) W x1 := Upon.grown (by repeat (first | assumption | exact Upon.refl _ _ | refine Upon.drew ?_ | refine Upon.alloc ?_ _)) hgrow1 (fun k hk => .inr (by simp [Value.ownBlock] at hk; omega))
                     have hg1 : W.heap.size ≤ g1 := by (rcases hat1 with h | h; (simp [Value.ownBlock] at h; omega); ((try simp at h); omega))
                     have hone1 : ∀ (j : Nat) (u : Value), [Value.string T, Value.int .i64 (n : Int)][j]? = some u → x1.cell? ((⟨W.heap.size, 0, none⟩ : Addr).add j) = some u := fun j u hu => (by rw [at_of_add, hgrow1.cell_far _ (by simp; omega) (by simp [Value.ownBlock])]; exact e63e.out j u hu)
                     clear hgrow1 hat1)
                  | (refine step_append_lies (o := ⟨some 70, _, _, _, _, _⟩) _ (by rfl) _ _ _ (by rfl) w.heap.size 68 i0 (.agg #[.string ByteArray.empty, .int .i64 0]) 2 24 Try.underlying39 hi hz0 hz1 hz2 rfl (by omega) _ M.length ((M.take M.length).flatMap eC) (by rfl) (by first | exact hown1'.alloc _ | exact ownsRow_kept (hown1'.alloc _) (fun _ _ => rfl)) _ 1 1 [.string T, .int .i64 (n : Int)] (by rfl) rfl (by first | exact hone1 | exact two_new _ _ _ _ _ rfl) O3.out (by omega) (by unfold maxLen; omega) (by omega) (by have := hup1.size; simp; omega) _ rfl ?_
                     intro g2 cap2 x2 hown2 hgrow2 hat2 hlt2
                     change World.grownBy _ x2 (some g1) at hgrow2
                     change some g1 = some g2 ∨ _ at hat2
                     have hup2 : Upon (fun _ => False) W x2 := Upon.grown (by repeat (first | assumption | exact Upon.refl _ _ | refine Upon.drew ?_ | refine Upon.alloc ?_ _)) hgrow2 (fun k hk => .inr (by have := Option.some.inj hk; omega))
                     have hg2 : W.heap.size ≤ g2 := by (have := hup1.size; rcases hat2 with h | h; (have := Option.some.inj h; omega); ((try simp at h); omega))
                     clear hgrow2 hat2)
                  | (refine step_append_lies (o := ⟨some 70, _, _, _, _, _⟩) _ (by rfl) _ _ _ (by rfl) w.heap.size 68 i0 (.agg #[.string ByteArray.empty, .int .i64 0]) 2 24 Try.underlying39 hi hz0 hz1 hz2 rfl (by omega) _ (0 + M.length) ([] ++ (M.take M.length).flatMap eC) (by rfl) (by first | exact hown1 | exact hown1.alloc _ | exact ownsRow_kept hown1 (fun _ _ => rfl) | exact ownsRow_kept (hown1.alloc _) (fun _ _ => rfl)) _ 1 1 [.string T, .int .i64 (n : Int)] (by rfl) rfl (by first | exact hone1 | exact two_new _ _ _ _ _ rfl) O3.out (by omega) (by unfold maxLen; omega) (by omega) (by have := hup1.size; simp; omega) _ rfl ?_
                     intro g2 cap2 x2 hown2 hgrow2 hat2 hlt2
                     change World.grownBy _ x2 (some g1) at hgrow2
                     change some g1 = some g2 ∨ _ at hat2
                     have hup2 : Upon (fun _ => False) W x2 := Upon.grown (by repeat (first | assumption | exact Upon.refl _ _ | refine Upon.drew ?_ | refine Upon.alloc ?_ _)) hgrow2 (fun k hk => .inr (by have := Option.some.inj hk; omega))
                     have hg2 : W.heap.size ≤ g2 := by (have := hup1.size; rcases hat2 with h | h; (have := Option.some.inj h; omega); ((try simp at h); omega))
                     clear hgrow2 hat2)
                  | (refine step_zero (o := ⟨some 74, _, _, _, _, _⟩) (by rfl) _ _ _ (by rfl) 68 i0 Try.underlying39 hi _ (M.length + 1) cap2 (by rfl) (row_cap hown2) _ _ (by rfl) ?_)
                  | (refine step_zero (o := ⟨some 74, _, _, _, _, _⟩) (by rfl) _ _ _ (by rfl) 68 i0 Try.underlying39 hi _ (0 + M.length + 1) cap2 (by rfl) (row_cap hown2) _ _ (by rfl) ?_)
                  | fail)
                all_goals
                  have hx1 := put_row (L := applyN fr dn n N) hown2 (by rw [HA.out, HP.out, put_len _ _ _ _ hk]; try simp; try omega) (by rw [HA.out, HP.out, put_flat]; simp [HT2.out, sv])
                  have HX1 := Lib.hid hx1
                  try simp only [Nat.zero_add] at hx1
                  have HX2 := Lib.hid hx1
                  have HU3 := Lib.hid (HUq.out.trans hup2)
                  clear hx1 hown2 hup2
                  go_wp2_with fail
                  go_ret
                  first
                  | exact ⟨_, rfl, HX1.out, HU3.out⟩
                  | exact ⟨_, rfl, HX2.out, HU3.out⟩
                  | exact ⟨_, rfl, ownsRow_kept HX1.out (fun _ _ => rfl), HU3.out.drew⟩
                  | exact ⟨_, rfl, ownsRow_kept HX2.out (fun _ _ => rfl), HU3.out.drew⟩
              · have HMC := Lib.hid (mc_of HRq.out)
                have L1 := Lib.hid (show ((M.take M.length).flatMap eC).length = M.length * 2 by rw [List.take_length]; exact flat_len M)
                have O1 := Lib.hid (one_flat (M.take M.length))
                have O3 := Lib.hid (one_two T (n : Int))
                have e63a := Lib.hid (own_e (b := w.heap.size) (X := (W.alloc (.cells #[] 68 (0, 0))).drew) (g := W.heap.size) (by omega) (cell_new W _))
                have e63b := Lib.hid (own_e (b := w.heap.size) (X := ((W.alloc (.cells #[] 68 (0, 0))).drew.alloc (.cells #[.string T, .int .i64 (n : Int)] 68 (0, 0))).drew) (g := W.heap.size) (by omega) ((Below.heap_alloc (W.alloc (.cells #[] 68 (0, 0))).drew _ W.heap.size (by simp)).trans (cell_new W _)))
                have e63c := Lib.hid (own_e (b := w.heap.size) (X := ((W.alloc (.cells #[.string T, .int .i64 (n : Int)] 68 (0, 0))).drew.alloc (.cells #[] 68 (0, 0))).drew) (g := W.heap.size + 1) (by omega) (by have := cell_new (W.alloc (.cells #[.string T, .int .i64 (n : Int)] 68 (0, 0))).drew (.cells #[] 68 (0, 0)); rw [show (W.alloc (.cells #[.string T, .int .i64 (n : Int)] 68 (0, 0))).drew.heap.size = W.heap.size + 1 by simp] at this; exact this))
                have e63d : Hid (∀ (j : Nat) (u : Value), [Value.string T, Value.int .i64 (n : Int)][j]? = some u → ((W.alloc (.cells #[] 68 (0, 0))).drew.alloc (.cells #[.string T, .int .i64 (n : Int)] 68 (0, 0))).drew.cell? ⟨W.heap.size + 1, j, none⟩ = some u) := Lib.hid (fun j u hu => by
                  have := two_new (W.alloc (.cells #[] 68 (0, 0))).drew (.string T) (.int .i64 (n : Int)) 68 (W.heap.size + 1) (by simp) j u hu
                  rw [at_of_add] at this; exact this)
                have e63e : Hid (∀ (j : Nat) (u : Value), [Value.string T, Value.int .i64 (n : Int)][j]? = some u → ((W.alloc (.cells #[.string T, .int .i64 (n : Int)] 68 (0, 0))).drew.alloc (.cells #[] 68 (0, 0))).drew.cell? ⟨W.heap.size, j, none⟩ = some u) := Lib.hid (fun j u hu => by
                  have := two_new W (.string T) (.int .i64 (n : Int)) 68 W.heap.size rfl j u hu
                  rw [at_of_add] at this
                  exact (World.cell?_of_block (Below.heap_alloc (W.alloc (.cells #[.string T, .int .i64 (n : Int)] 68 (0, 0))).drew (.cells #[] 68 (0, 0)) W.heap.size (by simp))).trans this)
                go_wp2_with fail
                go_region_held3 (fun w' => w'.cell? ⟨w.heap.size, 1, none⟩ = some (.string T) ∧ w'.cell? ⟨w.heap.size, 2, none⟩ = some (.int .i64 (n : Int)))
                  ((refine s_of ?_ hBl b1 b2; repeat (first | assumption | exact Upon.refl _ _ | refine Upon.drew ?_ | refine Upon.alloc ?_ _)))
                  (first
                  | (refine step_append_lies (o := ⟨some 63, _, _, _, _, _⟩) _ (by rfl) _ _ _ (by rfl) w.heap.size 68 i0 (.agg #[.string ByteArray.empty, .int .i64 0]) 2 24 Try.underlying39 hi hz0 hz1 hz2 rfl (by omega) _ 0 [] (by rfl) e63a.out ⟨g, 0, none⟩ M.length _ ((M.take M.length).flatMap eC) (by rfl) L1.out (news_take (mc_upon HMC.out (by repeat (first | assumption | exact Upon.refl _ _ | refine Upon.drew ?_ | refine Upon.alloc ?_ _)) hgl) M.length) O1.out (by omega) (by unfold maxLen; omega) (by omega) (by simp; omega) _ rfl ?_
                     intro g1 cap1 x1 hown1 hgrow1 hat1 hlt1
                     have hown1' := hown1
                     simp only [Nat.zero_add, List.nil_append] at hown1'
                     have hup1 : Upon (fun _ => False) W x1 := Upon.grown (by repeat (first | assumption | exact Upon.refl _ _ | refine Upon.drew ?_ | refine Upon.alloc ?_ _)) hgrow1 (fun k hk => .inr (by simp [Value.ownBlock] at hk; omega))
                     have hg1 : W.heap.size ≤ g1 := by (rcases hat1 with h | h; (simp [Value.ownBlock] at h; omega); ((try simp at h); omega))
                     clear hgrow1 hat1)
                  | (refine step_append_lies (o := ⟨some 63, _, _, _, _, _⟩) _ (by rfl) _ _ _ (by rfl) w.heap.size 68 i0 (.agg #[.string ByteArray.empty, .int .i64 0]) 2 24 Try.underlying39 hi hz0 hz1 hz2 rfl (by omega) _ 0 [] (by rfl) e63b.out ⟨g, 0, none⟩ M.length _ ((M.take M.length).flatMap eC) (by rfl) L1.out (news_take (mc_upon HMC.out (by repeat (first | assumption | exact Upon.refl _ _ | refine Upon.drew ?_ | refine Upon.alloc ?_ _)) hgl) M.length) O1.out (by omega) (by unfold maxLen; omega) (by omega) (by simp; omega) _ rfl ?_
                     intro g1 cap1 x1 hown1 hgrow1 hat1 hlt1
                     have hown1' := hown1
                     simp only [Nat.zero_add, List.nil_append] at hown1'
                     have hup1 : Upon (fun _ => False) W x1 := Upon.grown (by repeat (first | assumption | exact Upon.refl _ _ | refine Upon.drew ?_ | refine Upon.alloc ?_ _)) hgrow1 (fun k hk => .inr (by simp [Value.ownBlock] at hk; omega))
                     have hg1 : W.heap.size ≤ g1 := by (rcases hat1 with h | h; (simp [Value.ownBlock] at h; omega); ((try simp at h); omega))
                     have hone1 : ∀ (j : Nat) (u : Value), [Value.string T, Value.int .i64 (n : Int)][j]? = some u → x1.cell? ((⟨W.heap.size + 1, 0, none⟩ : Addr).add j) = some u := fun j u hu => (by rw [at_of_add, hgrow1.cell_far _ (by simp) (by simp [Value.ownBlock])]; exact e63d.out j u hu)
                     clear hgrow1 hat1)
                  | (refine step_append_lies (o := ⟨some 63, _, _, _, _, _⟩) _ (by rfl) _ _ _ (by rfl) w.heap.size 68 i0 (.agg #[.string ByteArray.empty, .int .i64 0]) 2 24 Try.underlying39 hi hz0 hz1 hz2 rfl (by omega) _ 0 [] (by rfl) e63c.out ⟨g, 0, none⟩ M.length _ ((M.take M.length).flatMap eC) (by rfl) L1.out (news_take (mc_upon HMC.out (by repeat (first | assumption | exact Upon.refl _ _ | refine Upon.drew ?_ | refine Upon.alloc ?_ _)) hgl) M.length) O1.out (by omega) (by unfold maxLen; omega) (by omega) (by simp; omega) _ rfl ?_
                     intro g1 cap1 x1 hown1 hgrow1 hat1 hlt1
                     have hown1' := hown1
                     simp only [Nat.zero_add, List.nil_append] at hown1'
                     have hup1 : Upon (fun _ => False) W x1 := Upon.grown (by repeat (first | assumption | exact Upon.refl _ _ | refine Upon.drew ?_ | refine Upon.alloc ?_ _)) hgrow1 (fun k hk => .inr (by simp [Value.ownBlock] at hk; omega))
                     have hg1 : W.heap.size ≤ g1 := by (rcases hat1 with h | h; (simp [Value.ownBlock] at h; omega); ((try simp at h); omega))
                     have hone1 : ∀ (j : Nat) (u : Value), [Value.string T, Value.int .i64 (n : Int)][j]? = some u → x1.cell? ((⟨W.heap.size, 0, none⟩ : Addr).add j) = some u := fun j u hu => (by rw [at_of_add, hgrow1.cell_far _ (by simp; omega) (by simp [Value.ownBlock])]; exact e63e.out j u hu)
                     clear hgrow1 hat1)
                  | (refine step_append_lies (o := ⟨some 70, _, _, _, _, _⟩) _ (by rfl) _ _ _ (by rfl) w.heap.size 68 i0 (.agg #[.string ByteArray.empty, .int .i64 0]) 2 24 Try.underlying39 hi hz0 hz1 hz2 rfl (by omega) _ M.length ((M.take M.length).flatMap eC) (by rfl) (by first | exact hown1'.alloc _ | exact ownsRow_kept (hown1'.alloc _) (fun _ _ => rfl)) _ 1 1 [.string T, .int .i64 (n : Int)] (by rfl) rfl (by first | exact hone1 | exact two_new _ _ _ _ _ rfl) O3.out (by omega) (by unfold maxLen; omega) (by omega) (by have := hup1.size; simp; omega) _ rfl ?_
                     intro g2 cap2 x2 hown2 hgrow2 hat2 hlt2
                     change World.grownBy _ x2 (some g1) at hgrow2
                     change some g1 = some g2 ∨ _ at hat2
                     have hup2 : Upon (fun _ => False) W x2 := Upon.grown (by repeat (first | assumption | exact Upon.refl _ _ | refine Upon.drew ?_ | refine Upon.alloc ?_ _)) hgrow2 (fun k hk => .inr (by have := Option.some.inj hk; omega))
                     have hg2 : W.heap.size ≤ g2 := by (have := hup1.size; rcases hat2 with h | h; (have := Option.some.inj h; omega); ((try simp at h); omega))
                     clear hgrow2 hat2)
                  | (refine step_append_lies (o := ⟨some 70, _, _, _, _, _⟩) _ (by rfl) _ _ _ (by rfl) w.heap.size 68 i0 (.agg #[.string ByteArray.empty, .int .i64 0]) 2 24 Try.underlying39 hi hz0 hz1 hz2 rfl (by omega) _ (0 + M.length) ([] ++ (M.take M.length).flatMap eC) (by rfl) (by first | exact hown1 | exact hown1.alloc _ | exact ownsRow_kept hown1 (fun _ _ => rfl) | exact ownsRow_kept (hown1.alloc _) (fun _ _ => rfl)) _ 1 1 [.string T, .int .i64 (n : Int)] (by rfl) rfl (by first | exact hone1 | exact two_new _ _ _ _ _ rfl) O3.out (by omega) (by unfold maxLen; omega) (by omega) (by have := hup1.size; simp; omega) _ rfl ?_
                     intro g2 cap2 x2 hown2 hgrow2 hat2 hlt2
                     change World.grownBy _ x2 (some g1) at hgrow2
                     change some g1 = some g2 ∨ _ at hat2
                     have hup2 : Upon (fun _ => False) W x2 := Upon.grown (by repeat (first | assumption | exact Upon.refl _ _ | refine Upon.drew ?_ | refine Upon.alloc ?_ _)) hgrow2 (fun k hk => .inr (by have := Option.some.inj hk; omega))
                     have hg2 : W.heap.size ≤ g2 := by (have := hup1.size; rcases hat2 with h | h; (have := Option.some.inj h; omega); ((try simp at h); omega))
                     clear hgrow2 hat2)
                  | (refine step_zero (o := ⟨some 74, _, _, _, _, _⟩) (by rfl) _ _ _ (by rfl) 68 i0 Try.underlying39 hi _ (M.length + 1) cap2 (by rfl) (row_cap hown2) _ _ (by rfl) ?_)
                  | (refine step_zero (o := ⟨some 74, _, _, _, _, _⟩) (by rfl) _ _ _ (by rfl) 68 i0 Try.underlying39 hi _ (0 + M.length + 1) cap2 (by rfl) (row_cap hown2) _ _ (by rfl) ?_)
                  | fail)
                all_goals
                  have hx1 := put_row (L := applyN fr dn n N) hown2 (by rw [HA.out, HP.out, put_len _ _ _ _ hk]; try simp; try omega) (by rw [HA.out, HP.out, put_flat]; simp [HT2.out, sv])
                  have HX1 := Lib.hid hx1
                  try simp only [Nat.zero_add] at hx1
                  have HX2 := Lib.hid hx1
                  have HU3 := Lib.hid (HUq.out.trans hup2)
                  clear hx1 hown2 hup2
                  go_wp2_with fail
                  go_ret
                  first
                  | exact ⟨_, rfl, HX1.out, HU3.out⟩
                  | exact ⟨_, rfl, HX2.out, HU3.out⟩
                  | exact ⟨_, rfl, ownsRow_kept HX1.out (fun _ _ => rfl), HU3.out.drew⟩
                  | exact ⟨_, rfl, ownsRow_kept HX2.out (fun _ _ => rfl), HU3.out.drew⟩
            · obtain ⟨g, cap, hsl, hbg, hgl⟩ := HRq.out.form (by omega)
              obtain ⟨rfl, -, rfl⟩ : ga = some ⟨g, 0, none⟩ ∧ M.length = M.length ∧ gc = cap := by simpa using hsl
              have hcl : k < M.length := by omega
              have hcg : k < gc := by omega
              clear hsl
              have i0' : (0 : Int) ≤ (k : Int) := by omega
              have i1 : (k : Int) ≤ (gc : Int) := by omega
              have i2 : k ≤ gc := by omega
              have i3 : ¬ gc = k := by omega
              have i4 : (k : Int) ≤ (M.length : Int) := by omega
              have HMC := Lib.hid (mc_of HRq.out)
              have hek : (M.take k).length = k := by simp; omega
              have hed : (M.drop k).length = M.length - k := by simp
              have L1 := Lib.hid (show ((M.take k).flatMap eC).length = k * 2 by rw [flat_len, hek])
              have L2 := Lib.hid (show ((M.drop k).flatMap eC).length = (M.length - k) * 2 by rw [flat_len, hed])
              have O1 := Lib.hid (one_flat (M.take k))
              have O2 := Lib.hid (one_flat (M.drop k))
              have O3 := Lib.hid (one_two T (n : Int))
              have e63a := Lib.hid (own_e (b := w.heap.size) (X := (W.alloc (.cells #[] 68 (0, 0))).drew) (g := W.heap.size) (by omega) (cell_new W _))
              have e63b := Lib.hid (own_e (b := w.heap.size) (X := ((W.alloc (.cells #[] 68 (0, 0))).drew.alloc (.cells #[.string T, .int .i64 (n : Int)] 68 (0, 0))).drew) (g := W.heap.size) (by omega) ((Below.heap_alloc (W.alloc (.cells #[] 68 (0, 0))).drew _ W.heap.size (by simp)).trans (cell_new W _)))
              have e63c := Lib.hid (own_e (b := w.heap.size) (X := ((W.alloc (.cells #[.string T, .int .i64 (n : Int)] 68 (0, 0))).drew.alloc (.cells #[] 68 (0, 0))).drew) (g := W.heap.size + 1) (by omega) (by have := cell_new (W.alloc (.cells #[.string T, .int .i64 (n : Int)] 68 (0, 0))).drew (.cells #[] 68 (0, 0)); rw [show (W.alloc (.cells #[.string T, .int .i64 (n : Int)] 68 (0, 0))).drew.heap.size = W.heap.size + 1 by simp] at this; exact this))
              have e63d : Hid (∀ (j : Nat) (u : Value), [Value.string T, Value.int .i64 (n : Int)][j]? = some u → ((W.alloc (.cells #[] 68 (0, 0))).drew.alloc (.cells #[.string T, .int .i64 (n : Int)] 68 (0, 0))).drew.cell? ⟨W.heap.size + 1, j, none⟩ = some u) := Lib.hid (fun j u hu => by
                have := two_new (W.alloc (.cells #[] 68 (0, 0))).drew (.string T) (.int .i64 (n : Int)) 68 (W.heap.size + 1) (by simp) j u hu
                rw [at_of_add] at this; exact this)
              have e63e : Hid (∀ (j : Nat) (u : Value), [Value.string T, Value.int .i64 (n : Int)][j]? = some u → ((W.alloc (.cells #[.string T, .int .i64 (n : Int)] 68 (0, 0))).drew.alloc (.cells #[] 68 (0, 0))).drew.cell? ⟨W.heap.size, j, none⟩ = some u) := Lib.hid (fun j u hu => by
                have := two_new W (.string T) (.int .i64 (n : Int)) 68 W.heap.size rfl j u hu
                rw [at_of_add] at this
                exact (World.cell?_of_block (Below.heap_alloc (W.alloc (.cells #[.string T, .int .i64 (n : Int)] 68 (0, 0))).drew (.cells #[] 68 (0, 0)) W.heap.size (by simp))).trans this)
              clear hek hed
              go_wp2_with fail
              go_region_held3 (fun w' => w'.cell? ⟨w.heap.size, 1, none⟩ = some (.string T) ∧ w'.cell? ⟨w.heap.size, 2, none⟩ = some (.int .i64 (n : Int)))
                ((refine s_of ?_ hBl b1 b2; repeat (first | assumption | exact Upon.refl _ _ | refine Upon.drew ?_ | refine Upon.alloc ?_ _)))
                (first
                | (refine step_append_lies (o := ⟨some 63, _, _, _, _, _⟩) _ (by rfl) _ _ _ (by rfl) w.heap.size 68 i0 (.agg #[.string ByteArray.empty, .int .i64 0]) 2 24 Try.underlying39 hi hz0 hz1 hz2 rfl (by omega) _ 0 [] (by rfl) e63a.out ⟨g, 0, none⟩ k gc ((M.take k).flatMap eC) (by rfl) L1.out (news_take (mc_upon HMC.out (by repeat (first | assumption | exact Upon.refl _ _ | refine Upon.drew ?_ | refine Upon.alloc ?_ _)) hgl) k) O1.out (by omega) (by unfold maxLen; omega) (by omega) (by simp; omega) _ rfl ?_
                   intro g1 cap1 x1 hown1 hgrow1 hat1 hlt1
                   have hown1' := hown1
                   simp only [Nat.zero_add, List.nil_append] at hown1'
                   have hup1 : Upon (fun _ => False) W x1 := Upon.grown (by repeat (first | assumption | exact Upon.refl _ _ | refine Upon.drew ?_ | refine Upon.alloc ?_ _)) hgrow1 (fun k hk => .inr (by simp [Value.ownBlock] at hk; omega))
                   have hg1 : W.heap.size ≤ g1 := by (rcases hat1 with h | h; (simp [Value.ownBlock] at h; omega); ((try simp at h); omega))
                   clear hgrow1 hat1)
                | (refine step_append_lies (o := ⟨some 63, _, _, _, _, _⟩) _ (by rfl) _ _ _ (by rfl) w.heap.size 68 i0 (.agg #[.string ByteArray.empty, .int .i64 0]) 2 24 Try.underlying39 hi hz0 hz1 hz2 rfl (by omega) _ 0 [] (by rfl) e63b.out ⟨g, 0, none⟩ k gc ((M.take k).flatMap eC) (by rfl) L1.out (news_take (mc_upon HMC.out (by repeat (first | assumption | exact Upon.refl _ _ | refine Upon.drew ?_ | refine Upon.alloc ?_ _)) hgl) k) O1.out (by omega) (by unfold maxLen; omega) (by omega) (by simp; omega) _ rfl ?_
                   intro g1 cap1 x1 hown1 hgrow1 hat1 hlt1
                   have hown1' := hown1
                   simp only [Nat.zero_add, List.nil_append] at hown1'
                   have hup1 : Upon (fun _ => False) W x1 := Upon.grown (by repeat (first | assumption | exact Upon.refl _ _ | refine Upon.drew ?_ | refine Upon.alloc ?_ _)) hgrow1 (fun k hk => .inr (by simp [Value.ownBlock] at hk; omega))
                   have hg1 : W.heap.size ≤ g1 := by (rcases hat1 with h | h; (simp [Value.ownBlock] at h; omega); ((try simp at h); omega))
                   have hone1 : ∀ (j : Nat) (u : Value), [Value.string T, Value.int .i64 (n : Int)][j]? = some u → x1.cell? ((⟨W.heap.size + 1, 0, none⟩ : Addr).add j) = some u := fun j u hu => (by rw [at_of_add, hgrow1.cell_far _ (by simp) (by simp [Value.ownBlock])]; exact e63d.out j u hu)
                   clear hgrow1 hat1)
                | (refine step_append_lies (o := ⟨some 63, _, _, _, _, _⟩) _ (by rfl) _ _ _ (by rfl) w.heap.size 68 i0 (.agg #[.string ByteArray.empty, .int .i64 0]) 2 24 Try.underlying39 hi hz0 hz1 hz2 rfl (by omega) _ 0 [] (by rfl) e63c.out ⟨g, 0, none⟩ k gc ((M.take k).flatMap eC) (by rfl) L1.out (news_take (mc_upon HMC.out (by repeat (first | assumption | exact Upon.refl _ _ | refine Upon.drew ?_ | refine Upon.alloc ?_ _)) hgl) k) O1.out (by omega) (by unfold maxLen; omega) (by omega) (by simp; omega) _ rfl ?_
                   intro g1 cap1 x1 hown1 hgrow1 hat1 hlt1
                   have hown1' := hown1
                   simp only [Nat.zero_add, List.nil_append] at hown1'
                   have hup1 : Upon (fun _ => False) W x1 := Upon.grown (by repeat (first | assumption | exact Upon.refl _ _ | refine Upon.drew ?_ | refine Upon.alloc ?_ _)) hgrow1 (fun k hk => .inr (by simp [Value.ownBlock] at hk; omega))
                   have hg1 : W.heap.size ≤ g1 := by (rcases hat1 with h | h; (simp [Value.ownBlock] at h; omega); ((try simp at h); omega))
                   have hone1 : ∀ (j : Nat) (u : Value), [Value.string T, Value.int .i64 (n : Int)][j]? = some u → x1.cell? ((⟨W.heap.size, 0, none⟩ : Addr).add j) = some u := fun j u hu => (by rw [at_of_add, hgrow1.cell_far _ (by simp; omega) (by simp [Value.ownBlock])]; exact e63e.out j u hu)
                   clear hgrow1 hat1)
                | (refine step_append_lies (o := ⟨some 74, _, _, _, _, _⟩) _ (by rfl) _ _ _ (by rfl) w.heap.size 68 i0 (.agg #[.string ByteArray.empty, .int .i64 0]) 2 24 Try.underlying39 hi hz0 hz1 hz2 rfl (by omega) _ (k + 1) ((M.take k).flatMap eC ++ [.string T, .int .i64 (n : Int)]) (by rfl) (by first | exact hown2 | exact ownsRow_kept hown2 (fun _ _ => rfl)) ⟨g, k * 2, none⟩ (M.length - k) (gc - k) ((M.drop k).flatMap eC) (by rfl) L2.out (news_drop (mc_upon HMC.out (by repeat (first | assumption | exact Upon.refl _ _ | refine Upon.drew ?_ | refine Upon.alloc ?_ _)) hgl) k) O2.out (by omega) (by unfold maxLen; omega) (by omega) (by have := hup2.size; simp; omega) _ rfl ?_
                   intro g3 cap3 x3 hown3 hgrow3 hat3 hlt3
                   change World.grownBy _ x3 (some g2) at hgrow3
                   have hup3 : Upon (fun _ => False) W x3 := Upon.grown (by repeat (first | assumption | exact Upon.refl _ _ | refine Upon.drew ?_ | refine Upon.alloc ?_ _)) hgrow3 (fun k hk => .inr (by have := Option.some.inj hk; omega))
                   clear hgrow3 hat3)
                | (refine step_append_lies (o := ⟨some 74, _, _, _, _, _⟩) _ (by rfl) _ _ _ (by rfl) w.heap.size 68 i0 (.agg #[.string ByteArray.empty, .int .i64 0]) 2 24 Try.underlying39 hi hz0 hz1 hz2 rfl (by omega) _ (0 + k + 1) ([] ++ (M.take k).flatMap eC ++ [.string T, .int .i64 (n : Int)]) (by rfl) (by first | exact hown2 | exact ownsRow_kept hown2 (fun _ _ => rfl)) ⟨g, k * 2, none⟩ (M.length - k) (gc - k) ((M.drop k).flatMap eC) (by rfl) L2.out (news_drop (mc_upon HMC.out (by repeat (first | assumption | exact Upon.refl _ _ | refine Upon.drew ?_ | refine Upon.alloc ?_ _)) hgl) k) O2.out (by omega) (by unfold maxLen; omega) (by omega) (by have := hup2.size; simp; omega) _ rfl ?_
                   intro g3 cap3 x3 hown3 hgrow3 hat3 hlt3
                   change World.grownBy _ x3 (some g2) at hgrow3
                   have hup3 : Upon (fun _ => False) W x3 := Upon.grown (by repeat (first | assumption | exact Upon.refl _ _ | refine Upon.drew ?_ | refine Upon.alloc ?_ _)) hgrow3 (fun k hk => .inr (by have := Option.some.inj hk; omega))
                   clear hgrow3 hat3)
                | (refine step_append_lies (o := ⟨some 70, _, _, _, _, _⟩) _ (by rfl) _ _ _ (by rfl) w.heap.size 68 i0 (.agg #[.string ByteArray.empty, .int .i64 0]) 2 24 Try.underlying39 hi hz0 hz1 hz2 rfl (by omega) _ k ((M.take k).flatMap eC) (by rfl) (by first | exact hown1'.alloc _ | exact ownsRow_kept (hown1'.alloc _) (fun _ _ => rfl)) _ 1 1 [.string T, .int .i64 (n : Int)] (by rfl) rfl (by first | exact hone1 | exact two_new _ _ _ _ _ rfl) O3.out (by omega) (by unfold maxLen; omega) (by omega) (by have := hup1.size; simp; omega) _ rfl ?_
                   intro g2 cap2 x2 hown2 hgrow2 hat2 hlt2
                   change World.grownBy _ x2 (some g1) at hgrow2
                   change some g1 = some g2 ∨ _ at hat2
                   have hup2 : Upon (fun _ => False) W x2 := Upon.grown (by repeat (first | assumption | exact Upon.refl _ _ | refine Upon.drew ?_ | refine Upon.alloc ?_ _)) hgrow2 (fun k hk => .inr (by have := Option.some.inj hk; omega))
                   have hg2 : W.heap.size ≤ g2 := by (have := hup1.size; rcases hat2 with h | h; (have := Option.some.inj h; omega); ((try simp at h); omega))
                   clear hgrow2 hat2)
                | (refine step_append_lies (o := ⟨some 70, _, _, _, _, _⟩) _ (by rfl) _ _ _ (by rfl) w.heap.size 68 i0 (.agg #[.string ByteArray.empty, .int .i64 0]) 2 24 Try.underlying39 hi hz0 hz1 hz2 rfl (by omega) _ (0 + k) ([] ++ (M.take k).flatMap eC) (by rfl) (by first | exact hown1 | exact hown1.alloc _ | exact ownsRow_kept hown1 (fun _ _ => rfl) | exact ownsRow_kept (hown1.alloc _) (fun _ _ => rfl)) _ 1 1 [.string T, .int .i64 (n : Int)] (by rfl) rfl (by first | exact hone1 | exact two_new _ _ _ _ _ rfl) O3.out (by omega) (by unfold maxLen; omega) (by omega) (by have := hup1.size; simp; omega) _ rfl ?_
                   intro g2 cap2 x2 hown2 hgrow2 hat2 hlt2
                   change World.grownBy _ x2 (some g1) at hgrow2
                   change some g1 = some g2 ∨ _ at hat2
                   have hup2 : Upon (fun _ => False) W x2 := Upon.grown (by repeat (first | assumption | exact Upon.refl _ _ | refine Upon.drew ?_ | refine Upon.alloc ?_ _)) hgrow2 (fun k hk => .inr (by have := Option.some.inj hk; omega))
                   have hg2 : W.heap.size ≤ g2 := by (have := hup1.size; rcases hat2 with h | h; (have := Option.some.inj h; omega); ((try simp at h); omega))
                   clear hgrow2 hat2)
                | fail)
              all_goals
                have hx1 := put_row (L := applyN fr dn n N) hown3 (by rw [HA.out, HP.out, put_len _ _ _ _ hk]; try omega) (by rw [HA.out, HP.out, put_flat]; simp only [List.nil_append, HT2.out, sv])
                have HX1 := Lib.hid hx1
                try simp only [Nat.zero_add] at hx1
                have HX2 := Lib.hid hx1
                have HU3 := Lib.hid (HUq.out.trans hup3)
                clear hx1 hown1 hown1' hown2 hown3 hup1 hup2 hup3
                go_wp2_with fail
                go_ret
                first
                | exact ⟨_, rfl, HX1.out, HU3.out⟩
                | exact ⟨_, rfl, HX2.out, HU3.out⟩
end Dsk
end Go.Proofs.Ytiadjjdmhpabnaa
