/- The document's own coder of patterns (layer 7): Get. -/
import Derived.Test.YtiimdinefkbhlaaDoorXorRef3
import Derived.Lib.QuietBelow
namespace Go.Proofs.YtiimdinefkbhlaaDoor
open Go.RowKit Go.Sort
namespace Xr
open Bit Dsk Ob
set_option linter.unusedVariables false

/-- append of nothing. -/
theorem wpList_append_none {ops : Array Oper} {rest : List Oper} {o : Oper} {a : Act} {Q : Exit → Act → World → Prop} {w : World} (hgd : o.guard = none) (s x : Operand) (t : TypeId)
    (ho : o.op = .call { callee := .builtin .append, args := #[s, x], argTypes := #[t, t] }) (e : TypeId) (i : TypeInfo) (ht : Tryd.prog.underlying t = some (.slice e)) (hi : Tryd.prog.info? e = some i)
    (ad : Addr) (n c : Nat) (hs : a.eval s = .slice (some ad) n c) (hnc : n ≤ c) (ga : Option Addr) (c2 : Nat) (hx : a.eval x = .slice ga 0 c2)
    (h : wpList Tryd.prog ops Q rest (a.put o.dst (.slice (some ad) n c)) w) : wpList Tryd.prog ops Q (o :: rest) a w := by
  refine wpList_plain hgd fun K hK => ?_
  have hr : (Builtin.append_ #[t, t] o.type #[.slice (some ad) n c, .slice ga 0 c2]).run Tryd.prog w = .ok (.slice (some ad) n c) w := by
    cases ga with
    | none => simp [Builtin.append_, run_underlying ht, sizeOf, typeInfo, hi, Builtin.lenOf, Builtin.firstCells, loadCells, storeCells, hnc]
    | some a2 => simp [Builtin.append_, run_underlying ht, sizeOf, typeInfo, hi, Builtin.lenOf, Builtin.firstCells, loadCells, loadCellsFrom, storeCells, hnc]
  unfold Oper.wp execOp
  simp only [ho, resolve, invoke, builtin, Sem.run_bind, Sem.run_pure, Result.andThen_ok, List.map_toArray, List.map_cons, List.map_nil, hs, hx, hr]
  exact hK _ _ h
theorem own_b {X : World} {g : Nat} (h : X.heap[g]? = some (.cells #[] 4 (0, 0))) : X.ownsRow 0 4 1 (.slice (some ⟨g, 0, none⟩) 0 0) 0 [] :=
  ⟨rfl, .inr ⟨g, 0, #[], rfl, Nat.zero_le _, h, Nat.le_refl _, Nat.zero_le _, rfl, rfl⟩⟩
/-- A row of bits of the call's own. -/
def IsRow (v : Value) (K : List Bool) : Ob.Rel := fun w S => w.ownsRow 0 4 1 v K.length (boolCells K) ∧ ∀ x, S x ↔ v.ownBlock = some x
theorem objRow (v : Value) (K : List Bool) : Thing (IsRow v K) := ⟨fun w w' S h hk _ => ⟨ownsRow_kept h.1 fun b hb => hk b ((h.2 b).2 hb), h.2⟩, fun w S h x hx => (h.1.lt x ((h.2 x).1 hx)).2⟩
theorem rowCells {w : World} {v : Value} {K : List Bool} (h : w.ownsRow 0 4 1 v K.length (boolCells K)) : ∃ g c A, v = .slice A K.length c ∧ K.length ≤ c ∧ c ≤ maxLen ∧ (0 < K.length → A = some ⟨g, 0, none⟩) ∧ ∀ i (h : i < K.length), w.cell? ⟨g, i, none⟩ = some (.bool K[i]) := by
  have hcells := fun g => World.ownsRow.cells h (g := g)
  rcases h.2 with ⟨hv, h0⟩ | ⟨gb, cap, cur, hv, hb, hg, hnc, hcm, _⟩
  · exact ⟨0, 0, none, by rw [hv, h0], by omega, Nat.zero_le _, fun hn => by omega, fun i hi => by omega⟩
  · refine ⟨gb, cap, _, hv, hnc, hcm, fun _ => rfl, fun i hi => ?_⟩
    have := hcells gb (by rw [hv]; rfl) i (.bool K[i]) (by simp [boolCells, hi])
    have e : (⟨gb, 0, none⟩ : Addr).add i = ⟨gb, i, none⟩ := by unfold Addr.add; split <;> simp_all
    rwa [e] at this
theorem perm4 {A B C D : Ob.Rel} {w : World} {S : Nat → Prop} (h : Tens (Tens (Tens A B) C) D w S) : Tens (Tens A D) (Tens B C) w S :=
  Tens.cossa (Tens.mapR (fun _ k => Tens.swap (Tens.cossa k)) (Tens.assoc (Tens.assoc h)))
/-- A step that may drop blocks. -/
structure Fall (I : Ob.Rel) (S : Nat → Prop) (w w' : World) : Prop where
  obj : ∃ S', I w' S' ∧ ∀ b, S' b → S b ∨ w.heap.size ≤ b
  upon : Upon S w w'
theorem Fall.of {I J : Ob.Rel} {S : Nat → Prop} {w w' : World} (h : ObjStep I S w w') (k : ∀ S', I w' S' → ∃ S'', J w' S'' ∧ ∀ b, S'' b → S' b) : Fall J S w w' := by
  obtain ⟨⟨S', h1, h2, h3⟩, hu⟩ := h
  obtain ⟨S'', k1, k2⟩ := k S' h1
  exact ⟨⟨S'', k1, fun b hb => h3 b (k2 b hb)⟩, hu⟩
theorem Fall.step {I : Ob.Rel} {S : Nat → Prop} {w w' : World} (h : ObjStep I S w w') : Fall I S w w' := Fall.of h fun S' h => ⟨S', h, fun _ h => h⟩
theorem Fall.own {I : Ob.Rel} {w0 w : World} (h : Own I w0 w) : ∃ S, I w S ∧ ∀ (J : Ob.Rel) (w' : World), Fall J S w w' → Own J w0 w' := by
  obtain ⟨⟨S, h1, h2⟩, hb⟩ := h
  refine ⟨S, h1, fun J w' ⟨⟨S', k1, k3⟩, ku⟩ => ⟨⟨S', k1, fun b hS => ?_⟩, ?_⟩⟩
  · rcases k3 b hS with h | h
    · exact h2 b h
    · exact Nat.le_trans hb.size h
  · exact hb.trans (ku.below hb.size h2)
theorem Fall.left {I J : Ob.Rel} (hJ : Thing J) {w : World} {S : Nat → Prop} (h : Tens I J w S) : ∃ A, I w A ∧ ∀ (I' : Ob.Rel) (w' : World), Fall I' A w w' → Fall (Tens I' J) S w w' := by
  obtain ⟨A, B, h1, h2, h3, h4⟩ := h
  refine ⟨A, h1, fun I' w' ⟨⟨A', k1, k3⟩, ku⟩ => ⟨⟨fun b => A' b ∨ B b, ⟨A', B, k1, ?_, ?_, fun b => Iff.rfl⟩, ?_⟩, ?_⟩⟩
  · exact hJ.kept w w' B h2 (fun b hb => ku.block b (hJ.lt w B h2 b hb) (fun ha => h3 b ha hb)) ku.size
  · intro b ha hb
    rcases k3 b ha with h | h
    · exact h3 b h hb
    · have := hJ.lt w B h2 b hb; omega
  · intro b hb
    rcases hb with hb | hb
    · exact (k3 b hb).imp (fun h => (h4 b).2 (.inl h)) id
    · exact .inl ((h4 b).2 (.inr hb))
  · exact ku.mono fun b _ hb => (h4 b).2 (.inl hb)
theorem Fall.right {I J : Ob.Rel} (hI : Thing I) {w : World} {S : Nat → Prop} (h : Tens I J w S) : ∃ B, J w B ∧ ∀ (J' : Ob.Rel) (w' : World), Fall J' B w w' → Fall (Tens I J') S w w' := by
  obtain ⟨B, h1, h2⟩ := Fall.left hI h.swap
  refine ⟨B, h1, fun J' w' k => ?_⟩
  obtain ⟨⟨S', a, b⟩, c⟩ := h2 J' w' k
  exact ⟨⟨S', a.swap, b⟩, c⟩
theorem fall_four {A B C D : Ob.Rel} {S : Nat → Prop} {w w' : World} (h : ObjStep (Tens (Tens A B) (Tens C D)) S w w') : Fall (Tens A C) S w w' :=
  Fall.of h fun S' ⟨X, Y, ⟨a, b, ha, _, d1, i1⟩, ⟨c, d, hc, _, d2, i2⟩, d3, i3⟩ =>
    ⟨fun x => a x ∨ c x, ⟨a, c, ha, hc, fun x h1 h2 => d3 x ((i1 x).2 (.inl h1)) ((i2 x).2 (.inl h2)), fun x => Iff.rfl⟩, fun x h => (i3 x).2 (h.imp (fun h => (i1 x).2 (.inl h)) fun h => (i2 x).2 (.inl h))⟩
theorem viewShape {w : World} {S : Nat → Prop} {v : Value} {K : List Bool} (h : ViewAt w S v K) : ∃ A c, v = .slice A K.length c := by
  rcases h with ⟨e, e2⟩ | ⟨g, off, cap, e, _⟩
  · exact ⟨none, 0, by rw [e, e2]; rfl⟩
  · exact ⟨_, cap, e⟩
theorem newRow {w : World} {T : TypeId} : (w.alloc (.cells #[.slice none 0 0] T (0, 0))).heap[w.heap.size]? = some (.cells #[.slice none 0 0] T (0, 0)) := cell_new w _
theorem newRW (w : World) : IsRW (w.alloc (.cells #[.slice none 0 0] 34 (0, 0))) (fun x => x = w.heap.size) w.heap.size [] :=
  ⟨.slice none 0 0, { cell := newRow, row := ⟨rfl, .inl ⟨rfl, rfl⟩⟩, s_q := rfl, s_v := fun b hb => (by cases hb), lt := fun b hb => (by rw [hb]; exact (Array.getElem?_eq_some_iff.1 (newRow (w := w) (T := 34))).1) }⟩
theorem guess_le {c : Cd} {K : List Bool} {v n : Nat} (hg : guess c K = some (v, n)) : n ≤ K.length := by
  unfold guess at hg
  split at hg
  · split at hg
    · simp at hg; omega
    · simp at hg
  · split at hg
    · simp at hg
    · simp at hg; simp; omega
    · simp at hg
    · split at hg
      · rename_i hh; simp at hg; simp; omega
      · simp at hg
    · split at hg
      · rename_i hh; simp at hg hh; simp; omega
      · simp at hg
/-- What Get leaves. -/
def Gt (q : Nat) (c : Cd) (p : Nat) (K : List Bool) (S : Nat → Prop) (w : World) (o : Option (Nat × Nat)) (e : Ending) (w' : World) : Prop :=
  match o with
  | some (v, n) => e = .returned (.tuple #[.int .u64 (v : Int), .bool true]) ∧ Fall (CR q (putC c v) p (K.drop n)) S w w'
  | none => e = .returned (.tuple #[.int .u64 0, .bool false]) ∧ ∃ c' K', Fall (CR q c' p K') S w w'
theorem infoBl : (Tryd.prog.info? 4).map (fun i => (i.zero, i.size, i.bytes)) = some (some (.bool false), 1, 1) := by kernel_rfl

set_option maxRecDepth 100000 in
set_option maxHeartbeats 6400000 in
theorem refGetP_any (S : Nat → Prop) (q p : Nat) (c : Cd) (K : List Bool) (w : World) (h : CR q c p K w S) (hok : c.Ok) (hK : K.length ≤ 1000000) :
    Calls Tryd.prog 18 #[.pointer (some ⟨q, 0, none⟩), .pointer (some ⟨p, 0, none⟩)] w (Gt q c p K S w (getR c K)) := by
  obtain ⟨i0, hi, hz0, hz1, hz2⟩ := info_parts infoBl
  obtain ⟨A, B, hC, hRR, hdis, hiff⟩ := h
  obtain ⟨rv, hr⟩ := hRR
  have k0 : w.cell? ⟨p, 0, none⟩ = some rv := by rw [Lib.cell_of_heap hr.cell]; rfl
  have hpl : p < w.heap.size := hr.lt p hr.s_q
  have k0' : (w.alloc (.cells #[] 4 (0, 0))).cell? ⟨p, 0, none⟩ = some rv := (World.cell?_alloc_lt w _ ⟨p, 0, none⟩ hpl).trans k0
  have hview := hr.view
  have H : CR q c p K w S := ⟨A, B, hC, ⟨rv, hr⟩, hdis, hiff⟩
  replace H := Lib.hid H
  have hnew := cell_new w (.cells #[] 4 (0, 0))
  -- the copy
  have hcopy : Hid (∀ (ops : Array Oper) (rest : List Oper) (o : Oper) (a : Act) (Q : Exit → Act → World → Prop) (s x : Operand), o.guard = none → o.op = .call { callee := .builtin .append, args := #[s, x], argTypes := #[32, 32] } → a.eval s = .slice (some ⟨w.heap.size, 0, none⟩) 0 0 → a.eval x = rv →
      (∀ v' w', w'.ownsRow 0 4 1 v' K.length (boolCells K) → (∀ b, v'.ownBlock = some b → w.heap.size ≤ b) → Upon (fun _ => False) w w' → wpList Tryd.prog ops Q rest (a.put o.dst v') w') → wpList Tryd.prog ops Q (o :: rest) a (w.alloc (.cells #[] 4 (0, 0)))) := Lib.hid (by
    intro ops rest o a Q s x hgd ho hs hx hK'
    by_cases h0 : K = []
    · subst h0
      have hx2 : ∃ ga c2, a.eval x = .slice ga 0 c2 := by
        rcases hview with ⟨e, _⟩ | ⟨g, off, cap, e, _⟩
        · exact ⟨none, 0, hx.trans e⟩
        · exact ⟨_, cap, hx.trans e⟩
      obtain ⟨ga, c2, hx2⟩ := hx2
      exact wpList_append_none hgd s x 32 ho 4 i0 Tryd.underlying32 hi _ 0 0 hs (Nat.le_refl _) ga c2 hx2 (hK' _ _ (own_b hnew) (fun b hb => by cases hb; exact Nat.le_refl _) ((Upon.refl _ w).alloc _))
    · rcases hview with ⟨_, e⟩ | ⟨g, off, cap, e, h1, h2, h3, h4⟩
      · exact absurd e h0
      · have hKp : 0 < K.length := Nat.pos_of_ne_zero fun e => h0 (List.length_eq_zero_iff.1 e)
        refine wpList_append_lies _ hgd s x 32 ho 0 4 i0 (.bool false) 1 1 Tryd.underlying32 hi hz0 hz1 hz2 rfl (by decide) _ 0 [] hs (own_b hnew) ⟨g, off, none⟩ K.length cap (boolCells K) (hx.trans e) (by simp) ?_ ?_ hKp (by unfold maxLen; omega) (by omega) (Nat.zero_le _) _ rfl ?_
        · intro j u hu
          have hj : j < K.length := by have := (List.getElem?_eq_some_iff.1 hu).1; simpa using this
          have hu2 : u = .bool K[j] := by simp [boolCells, hj] at hu; exact hu.symm
          have ea : (⟨g, off, none⟩ : Addr).add j = ⟨g, off + j, none⟩ := by unfold Addr.add; split <;> simp_all
          rw [ea, hu2]
          exact (World.cell?_alloc_lt w _ ⟨g, off + j, none⟩ (hr.lt g h3)).trans (h4 j hj)
        · intro u hu
          obtain ⟨b, _, rfl⟩ := List.mem_map.1 hu
          rfl
        · intro g2 cap2 w2 hown hgrow hat hlt
          rw [Nat.zero_add, List.nil_append] at hown
          rw [Nat.zero_add]
          refine hK' _ _ hown (fun b hb => ?_) (((Upon.refl _ w).alloc _).grown hgrow fun k hk => .inr (by have : w.heap.size = k := Option.some.inj hk; omega))
          have e2 : g2 = b := Option.some.inj hb
          rcases hat with e | e
          · have : w.heap.size = g2 := Option.some.inj e
            omega
          · rw [e] at e2; simp at e2; omega)
  clear hview hr hC hdis hiff k0 hnew hi hz0 hz1 hz2
  go_enter Tryd.func18, Tryd.ntmps18
  go_wp2_with (at_builtin; refine hcopy.out _ _ _ _ _ _ _ rfl rfl rfl rfl ?_)
  intro v' w1 hrow hvb hup
  clear hcopy k0'
  have H1 : ObjStep (Tens (CR q c p K) (IsRow v' K)) S w w1 := Tens.new (thingCR q c p K) H.out (T := fun x => v'.ownBlock = some x) ⟨hrow, fun x => Iff.rfl⟩ hvb hup
  obtain ⟨ag, ac, aA, rfl, a1, a2, a3, -⟩ := rowCells hrow
  unfold maxLen at a2
  replace H1 := Lib.hid H1
  clear hrow hvb hup
  cases hg : guess c K with
  | none =>
    have er : Hid (getR c K = none) := Lib.hid (by unfold getR; rw [hg])
    have HG : Hid (Calls Tryd.prog 26 #[.pointer (some ⟨q, 0, none⟩), .pointer (some ⟨p, 0, none⟩)] w1 fun e w' => (∃ x : Int, e = .returned (.tuple #[.int .u64 x, .bool false])) ∧ ObjStep (Tens (fun w S => ∃ K', CR q c p K' w S) (IsRow (.slice aA K.length ac) K)) S w w') := Lib.hid
      (callL (Q := fun e => ∃ x : Int, e = .returned (.tuple #[.int .u64 x, .bool false])) (objRow _ _) H1.out fun T hT => (guess_any T q p c K w1 hT hok).mono fun e w' hgs => by
        unfold Gs at hgs
        rw [hg] at hgs
        obtain ⟨h1, K', h2⟩ := hgs
        exact ⟨h1, h2.mono fun _ h => ⟨K', h⟩⟩)
    clear hg H1
    go_wp2_with fail
    refine HG.out.mono ?_
    rintro e w2 ⟨⟨x, rfl⟩, h2⟩
    have h3 : Hid (∃ c' K', Fall (CR q c' p K') S w w2) := Lib.hid (by
      obtain ⟨⟨S', ⟨A', B', ⟨K', h1⟩, h7, h4, h5⟩, h2, h6⟩, hu⟩ := h2
      exact ⟨c, K', ⟨A', h1, fun b hb => h6 b ((h5 b).2 (.inl hb))⟩, hu⟩)
    clear HG h2
    go_wp2_with fail
    go_ret2
    rw [er.out]
    exact ⟨rfl, h3.out⟩
  | some x =>
    obtain ⟨v, n⟩ := x
    have hv : v < 18446744073709551616 := guess_lt hok hg
    have hn := guess_le hg
    have HG : Hid (Calls Tryd.prog 26 #[.pointer (some ⟨q, 0, none⟩), .pointer (some ⟨p, 0, none⟩)] w1 fun e w' => e = .returned (.tuple #[.int .u64 (v : Int), .bool true]) ∧ ObjStep (Tens (CR q c p (K.drop n)) (IsRow (.slice aA K.length ac) K)) S w w') := Lib.hid
      (callL (Q := fun e => e = .returned (.tuple #[.int .u64 (v : Int), .bool true])) (objRow _ _) H1.out fun T hT => (guess_any T q p c K w1 hT hok).mono fun e w' hgs => by
        unfold Gs at hgs
        rw [hg] at hgs
        exact hgs)
    have er : Hid (getR c K = if putB c v = K.take n then some (v, n) else none) := Lib.hid (by unfold getR; rw [hg])
    clear hg H1
    replace hn := Lib.hid hn
    go_wp2_with fail
    refine HG.out.mono ?_
    rintro e w2 ⟨rfl, h2⟩
    have h3 : Hid (ObjStep (Tens (CW q c w2.heap.size []) (Tens (fun w S => IsRR w S p (K.drop n)) (IsRow (.slice aA K.length ac) K))) S w (w2.alloc (.cells #[.slice none 0 0] 34 (0, 0)))) := Lib.hid (by
      obtain ⟨T, h4, go⟩ := h2.get
      refine go _ _ ((Tens.new (Tens.ob (thingCR q c p _) (objRow _ _)) h4 (newRW w2) (fun b hb => by rw [hb]; exact Nat.le_refl _) ((Upon.refl _ w2).alloc _)).mono fun _ => perm4))
    have HP := Lib.hid (callL (Q := fun e => e = .returned (.tuple #[])) (Tens.ob (objRR _ _) (objRow _ _)) h3.out fun T hT => refPut_any T q w2.heap.size c [] v _ hT hok (by simp) hv)
    clear HG h2 h3
    go_wp2_with fail
    refine HP.out.mono ?_
    rintro e w4 ⟨rfl, h4⟩
    clear HP
    rw [List.nil_append] at h4
    generalize w2.heap.size = p2 at *
    obtain ⟨M, hM⟩ : ∃ M, M = putB c v := ⟨_, rfl⟩
    have hMl : M.length ≤ 77 := by rw [hM]; exact putB_len v
    rw [← hM] at h4 er
    clear hM
    have hthing : Thing (Tens (CW q (putC c v) p2 M) (Tens (fun w S => IsRR w S p (K.drop n)) (IsRow (.slice aA K.length ac) K))) := Tens.ob (thingCW _ _ _ _) (Tens.ob (objRR _ _) (objRow _ _))
    have hfall : Hid (∀ w5, Upon (fun _ => False) w4 w5 → Fall (CR q (putC c v) p (K.drop n)) S w w5) := Lib.hid fun w5 k => fall_four (h4.upon0 hthing k)
    obtain ⟨T4, X, Y, ⟨-, B4, -, ⟨wv, hw⟩, -⟩, ⟨C4, D4, ⟨rv2, hr2⟩, ⟨hrow, -⟩, -⟩, -⟩ := seeW h4
    have kw : w4.cell? ⟨p2, 0, none⟩ = some wv := by rw [Lib.cell_of_heap hw.cell]; rfl
    have kr : w4.cell? ⟨p, 0, none⟩ = some rv2 := by rw [Lib.cell_of_heap hr2.cell]; rfl
    obtain ⟨rA, rc, rfl⟩ := viewShape hr2.view
    obtain ⟨wg, wc, wA, rfl, b1, b2, b3, b4⟩ := rowCells hw.row
    obtain ⟨g5, c5, A5, e5, m1, m2, m3, m4⟩ := rowCells hrow
    injection e5 with e5a e5b e5c
    subst e5a e5c
    unfold maxLen at b2
    have hdl : (K.drop n).length + n = K.length := by rw [List.length_drop]; have := hn.out; omega
    generalize (K.drop n).length = dl at *
    have B3 := Lib.hid b3
    have B4 := Lib.hid b4
    have M3 := Lib.hid m3
    have M4 := Lib.hid m4
    have s1 : IntKind.i64.wrap ((K.length : Int) - (dl : Int)) = (n : Int) := by rw [IntKind.wrap_i64]; omega
    have s2 : ((K.length : Int) - (dl : Int)) = (n : Int) := by omega
    clear hw hr2 hrow h4 hthing b3 b4 m3 m4 a3 hdl m2
    by_cases hMn : M.length = n
    · subst hMn
      go_wp2_with fail
      go_quiet (fail)
      go_wp2_with fail
      go_loopw [10] (fun i wr => ∃ j k : Nat, j ≤ M.length ∧ i = .int .i64 (j : Int) ∧ M.take j = K.take j ∧ wr = w4.drewN k) (fun i _ => M.length - (intOf i).toNat)
      case atStart => exact ⟨0, nq, Nat.zero_le _, rfl, rfl, rfl⟩
      case round =>
        obtain ⟨j, k, hj, rfl, hpre, rfl⟩ := hrel
        replace hpre := Lib.hid hpre
        by_cases hlt : j < M.length
        · have hlk : j < K.length := Nat.lt_of_lt_of_le hlt hn.out
          obtain rfl := B3.out (by omega)
          obtain rfl := M3.out (by omega)
          have y1 := B4.out j hlt
          have y2 := M4.out j hlk
          have hnx := Lib.hid (fun h : M[j] = K[j] => show M.take (j + 1) = K.take (j + 1) by rw [List.take_succ_eq_append_getElem hlt, List.take_succ_eq_append_getElem hlk, hpre.out, h])
          have hne := Lib.hid (fun h : M[j] ≠ K[j] => show M ≠ K.take M.length from fun e => h (by
            have := congrArg (fun l => l[j]?) e
            simp only [List.getElem?_take, hlt, if_true, List.getElem?_eq_getElem hlt, List.getElem?_eq_getElem hlk] at this
            exact Option.some.inj this))
          generalize M[j] = u1 at *
          generalize K[j] = u2 at *
          cases u1 <;> cases u2
          · go_wp2_with fail
            go_quiet (fail)
            go_wp2
            refine ⟨⟨j + 1, k + nq, by omega, by push_cast; rfl, hnx.out (by first | rfl | trivial), rfl⟩, ?_⟩
            simp only [intOf]; omega
          · go_wp2_with fail
            go_quiet (fail)
            go_wp2
            go_ret2
            rw [er.out, if_neg (hne.out (by decide))]
            exact ⟨rfl, _, _, hfall.out _ ((upon_drewN _ w4 k).trans (upon_drewN _ _ nq))⟩
          · go_wp2_with fail
            go_quiet (fail)
            go_wp2
            go_ret2
            rw [er.out, if_neg (hne.out (by decide))]
            exact ⟨rfl, _, _, hfall.out _ ((upon_drewN _ w4 k).trans (upon_drewN _ _ nq))⟩
          · go_wp2_with fail
            go_quiet (fail)
            go_wp2
            refine ⟨⟨j + 1, k + nq, by omega, by push_cast; rfl, hnx.out (by first | rfl | trivial), rfl⟩, ?_⟩
            simp only [intOf]; omega
        · have : j = M.length := by omega
          subst this
          go_wp2_with fail
          go_ret2
          rw [er.out, if_pos (by have := hpre.out; rwa [List.take_length] at this)]
          exact ⟨rfl, hfall.out _ (upon_drewN _ _ _)⟩
    · have d1 : decide ((M.length : Int) = (n : Int)) = false := by simp; omega
      go_wp2_with fail
      go_quiet (fail)
      go_wp2_with fail
      go_ret2
      rw [er.out, if_neg (by intro e; apply hMn; rw [e, List.length_take]; have := hn.out; omega)]
      exact ⟨rfl, _, _, hfall.out _ (upon_drewN _ _ _)⟩
end Xr
end Go.Proofs.YtiimdinefkbhlaaDoor
