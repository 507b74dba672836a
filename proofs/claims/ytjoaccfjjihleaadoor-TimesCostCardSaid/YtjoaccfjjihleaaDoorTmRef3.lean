/- The document's own coder of times (layer 8): Get. -/
import Derived.Test.YtjoaccfjjihleaaDoorTmRef2
namespace Go.Proofs.YtjoaccfjjihleaaDoor
open Go.RowKit Go.Sort
namespace Tm
open Bit Dsk Ob
set_option linter.unusedVariables false

/-! ### coder and reader -/
abbrev CR (q : Nat) (c : Cd) (p : Nat) (K : List Bool) : Ob.Rel := Tens (IsRC q c) (R1 p K)
theorem thingCR (q : Nat) (c : Cd) (p : Nat) (K : List Bool) : Thing (CR q c p K) := Tens.ob (objRC q c) (objRR p K)
theorem crCells {J : Ob.Rel} {S : Nat → Prop} {w0 w : World} {q p : Nat} {c : Cd} {K : List Bool} (H : ObjStep (Tens (CR q c p K) J) S w0 w) :
    w.cell? ⟨q, 0, none⟩ = some (.bool c.begun) ∧ w.cell? ⟨q, 1, none⟩ = some (.int .i64 c.t) ∧ w.cell? ⟨q, 2, none⟩ = some (.int .i64 c.d) := by
  obtain ⟨A, h⟩ := seeL H
  obtain ⟨_, _, h1, _⟩ := h
  obtain ⟨h0, h1, h2, -⟩ := rc3 h1.1
  exact ⟨h0, h1, h2⟩
/-- A copy of the bits that are left. -/
theorem copy_view {w : World} {B : Nat → Prop} {rv : Value} {K : List Bool} (hview : ViewAt w B rv K) (hlt : ∀ b, B b → b < w.heap.size) (hK : K.length ≤ 1000000) :
    ∀ (ops : Array Oper) (rest : List Oper) (o : Oper) (a : Act) (Q : Exit → Act → World → Prop) (s x : Operand), o.guard = none → o.op = .call { callee := .builtin .append, args := #[s, x], argTypes := #[31, 31] } → a.eval s = .slice (some ⟨w.heap.size, 0, none⟩) 0 0 → a.eval x = rv →
      (∀ v' w', w'.ownsRow 0 4 1 v' K.length (boolCells K) → (∀ b, v'.ownBlock = some b → w.heap.size ≤ b) → Upon (fun _ => False) w w' → wpList Tryd.prog ops Q rest (a.put o.dst v') w') → wpList Tryd.prog ops Q (o :: rest) a (w.alloc (.cells #[] 4 (0, 0))) := by
  obtain ⟨i0, hi, hz0, hz1, hz2⟩ := info_parts infoBl
  have hnew := cell_new w (.cells #[] 4 (0, 0))
  intro ops rest o a Q s x hgd ho hs hx hK'
  by_cases h0 : K = []
  · subst h0
    have hx2 : ∃ ga c2, a.eval x = .slice ga 0 c2 := by
      rcases hview with ⟨e, _⟩ | ⟨g, off, cap, e, _⟩
      · exact ⟨none, 0, hx.trans e⟩
      · exact ⟨_, cap, hx.trans e⟩
    obtain ⟨ga, c2, hx2⟩ := hx2
    exact wpList_append_none hgd s x 31 ho 4 i0 Tryd.underlying31 hi _ 0 0 hs (Nat.le_refl _) ga c2 hx2 (hK' _ _ (own_b hnew) (fun b hb => by cases hb; exact Nat.le_refl _) ((Upon.refl _ w).alloc _))
  · rcases hview with ⟨_, e⟩ | ⟨g, off, cap, e, h1, h2, h3, h4⟩
    · exact absurd e h0
    · have hKp : 0 < K.length := Nat.pos_of_ne_zero fun e => h0 (List.length_eq_zero_iff.1 e)
      refine wpList_append_lies _ hgd s x 31 ho 0 4 i0 (.bool false) 1 1 Tryd.underlying31 hi hz0 hz1 hz2 rfl (by decide) _ 0 [] hs (own_b hnew) ⟨g, off, none⟩ K.length cap (boolCells K) (hx.trans e) (by simp) ?_ ?_ hKp (by unfold maxLen; omega) (by omega) (Nat.zero_le _) _ rfl ?_
      · intro j u hu
        have hj : j < K.length := by have := (List.getElem?_eq_some_iff.1 hu).1; simpa using this
        have hu2 : u = .bool K[j] := by simp [boolCells, hj] at hu; exact hu.symm
        have ea : (⟨g, off, none⟩ : Addr).add j = ⟨g, off + j, none⟩ := by unfold Addr.add; split <;> simp_all
        rw [ea, hu2]
        exact (World.cell?_alloc_lt w _ ⟨g, off + j, none⟩ (hlt g h3)).trans (h4 j hj)
      · intro u hu
        obtain ⟨b, _, rfl⟩ := List.mem_map.1 hu
        rfl
      · intro g2 cap2 w2 hown hgrow hat hlt
        rw [Nat.zero_add, List.nil_append] at hown
        rw [Nat.zero_add]
        refine hK' _ _ hown (fun b hb => ?_) (((Upon.refl _ w).alloc _).grown hgrow fun k hk => .inr (by have : w.heap.size = k := Option.some.inj hk; omega))
        have e2 : g2 = b := Option.some.inj hb
        rcases hat with e | e
        · have : w.heap.size = g2 := Option.some.inj e
          omega
        · rw [e] at e2; simp at e2; omega
/-- What Get leaves. -/
def Gt (q : Nat) (c : Cd) (p : Nat) (K : List Bool) (S : Nat → Prop) (w : World) (o : Option (Int × Nat)) (e : Ending) (w' : World) : Prop :=
  match o with
  | some (v, n) => e = .returned (.tuple #[.int .i64 v, .bool true]) ∧ Fall (CR q (putC c v) p (K.drop n)) S w w'
  | none => e = .returned (.tuple #[.int .i64 0, .bool false]) ∧ ∃ c' K', Fall (CR q c' p K') S w w'
/-- Get64 beside a row. -/
theorem cjGet {J : Ob.Rel} (hJ : Thing J) {S : Nat → Prop} {w0 w : World} {q p : Nat} {c : Cd} {K K' : List Bool} {x : Nat} (H : ObjStep (Tens (CR q c p K) J) S w0 w) (m : Nat) (hm : m ≤ 64) (hle : m ≤ K.length) (hx : numOf (K.take m) = x) (e : K.drop m = K') :
    Calls Tryd.prog 27 #[.pointer (some ⟨p, 0, none⟩), .int .i64 (m : Int)] w fun e w' => e = .returned (.tuple #[.int .u64 (x : Int), .bool true]) ∧ ObjStep (Tens (CR q c p K') J) S w0 w' := by
  subst e; subst hx
  exact callL (Q := fun e => e = .returned (.tuple #[.int .u64 (numOf (K.take m) : Int), .bool true])) hJ H fun T hT => callR (Q := fun e => e = .returned (.tuple #[.int .u64 (numOf (K.take m) : Int), .bool true])) (objRC q c) (ObjStep.refl hT) fun A h => refGet_ok A p K m w h hm hle
theorem cjNo {J : Ob.Rel} {S : Nat → Prop} {w0 w : World} {q p : Nat} {c : Cd} {K : List Bool} (H : ObjStep (Tens (CR q c p K) J) S w0 w) (m : Nat) (hle : K.length < m) :
    Calls Tryd.prog 27 #[.pointer (some ⟨p, 0, none⟩), .int .i64 (m : Int)] w fun e w' => e = .returned (.tuple #[.int .u64 0, .bool false]) ∧ ObjStep (Tens (CR q c p K) J) S w0 w' := by
  obtain ⟨A, h⟩ := seeL H
  obtain ⟨_, B, _, h2, _⟩ := h
  refine (refGet_no B p K m w h2 (by omega)).mono ?_
  rintro e w' ⟨he, rfl⟩
  exact ⟨he, H⟩
theorem cjChange {J : Ob.Rel} (hJ : Thing J) {S : Nat → Prop} {w0 w : World} {q p k : Nat} {c : Cd} {K R : List Bool} (H : ObjStep (Tens (CR q c p K) J) S w0 w) (hl : lead1 4 K = some (k, R)) (hs : sz k ≤ R.length) :
    Calls Tryd.prog 28 #[.pointer (some ⟨p, 0, none⟩)] w fun e w' => e = .returned (.tuple #[.int .i64 (num k (R.take (sz k))), .bool true]) ∧ ObjStep (Tens (CR q c p (R.drop (sz k))) J) S w0 w' :=
  callL (Q := fun e => e = .returned (.tuple #[.int .i64 (num k (R.take (sz k))), .bool true])) hJ H fun T hT => callR (Q := fun e => e = .returned (.tuple #[.int .i64 (num k (R.take (sz k))), .bool true])) (objRC q c) (ObjStep.refl hT) fun A h => by
    have := change_any A p K w h
    rw [hl] at this
    refine this.mono fun e w' hc => ?_
    unfold Cg at hc
    simp only at hc
    rw [if_pos hs] at hc
    exact hc
theorem cjChangeNo {J : Ob.Rel} (hJ : Thing J) {S : Nat → Prop} {w0 w : World} {q p : Nat} {c : Cd} {K : List Bool} (H : ObjStep (Tens (CR q c p K) J) S w0 w) (hno : lead1 4 K = none ∨ ∃ k R, lead1 4 K = some (k, R) ∧ ¬ sz k ≤ R.length) :
    Calls Tryd.prog 28 #[.pointer (some ⟨p, 0, none⟩)] w fun e w' => (∃ x : Int, e = .returned (.tuple #[.int .i64 x, .bool false])) ∧ ObjStep (Tens (Tens (IsRC q c) (fun w S => ∃ K', R1 p K' w S)) J) S w0 w' :=
  callL (Q := fun e => ∃ x : Int, e = .returned (.tuple #[.int .i64 x, .bool false])) hJ H fun T hT => callR (Q := fun e => ∃ x : Int, e = .returned (.tuple #[.int .i64 x, .bool false])) (objRC q c) (ObjStep.refl hT) fun A h => by
    have := change_any A p K w h
    refine this.mono fun e w' hc => ?_
    have hc2 : (∃ x : Int, e = .returned (.tuple #[.int .i64 x, .bool false])) ∧ ∃ K', ObjStep (R1 p K') A w w' := by
      rcases hno with hl | ⟨k, R, hl, hs⟩
      · rw [hl] at hc; exact hc
      · rw [hl] at hc
        unfold Cg at hc
        simp only at hc
        rw [if_neg hs] at hc
        exact hc
    obtain ⟨h1, K', h2⟩ := hc2
    exact ⟨h1, h2.mono fun _ h => ⟨K', h⟩⟩
theorem fall_no {J : Ob.Rel} {S : Nat → Prop} {w w' : World} {q p : Nat} {c : Cd} (h : ObjStep (Tens (Tens (IsRC q c) (fun w S => ∃ K', R1 p K' w S)) J) S w w') : ∃ c' K', Fall (CR q c' p K') S w w' := by
  obtain ⟨⟨S', ⟨A', B', ⟨A2, B2, h1, ⟨K', h2⟩, h3, h4⟩, h7, h5, h6⟩, h8, h9⟩, hu⟩ := h
  exact ⟨c, K', ⟨A', ⟨A2, B2, h1, h2, h3, h4⟩, fun b hb => h9 b ((h6 b).2 (.inl hb))⟩, hu⟩
theorem toNo {J : Ob.Rel} {S : Nat → Prop} {w w' : World} {q p : Nat} {c : Cd} {K : List Bool} (h : ObjStep (Tens (CR q c p K) J) S w w') : ObjStep (Tens (Tens (IsRC q c) (fun w S => ∃ K', R1 p K' w S)) J) S w w' :=
  h.mono fun _ h => Tens.mapL (fun _ k => Tens.mapR (fun _ j => ⟨K, j⟩) k) h
theorem Gt.yes {q : Nat} {c : Cd} {p : Nat} {K : List Bool} {S : Nat → Prop} {w w' : World} {o : Option (Int × Nat)} {e : Ending} {v : Int} {n : Nat} (ho : o = some (v, n)) (he : e = .returned (.tuple #[.int .i64 v, .bool true])) (h : Fall (CR q (putC c v) p (K.drop n)) S w w') : Gt q c p K S w o e w' := by
  subst ho; exact ⟨he, h⟩
theorem Gt.no {q : Nat} {c : Cd} {p : Nat} {K : List Bool} {S : Nat → Prop} {w w' : World} {o : Option (Int × Nat)} {e : Ending} (ho : o = none) (he : e = .returned (.tuple #[.int .i64 0, .bool false])) (h : ∃ c' K', Fall (CR q c' p K') S w w') : Gt q c p K S w o e w' := by
  subst ho; exact ⟨he, h⟩
set_option maxRecDepth 100000 in
set_option maxHeartbeats 6400000 in
theorem refGetP_any (S : Nat → Prop) (q p : Nat) (c : Cd) (K : List Bool) (w : World) (h : CR q c p K w S) (hok : c.Ok) (hK : K.length ≤ 1000000) :
    Calls Tryd.prog 18 #[.pointer (some ⟨q, 0, none⟩), .pointer (some ⟨p, 0, none⟩)] w (Gt q c p K S w (getR c K)) := by
  obtain ⟨A, B, hC, hRR, hdis, hiff⟩ := h
  obtain ⟨rv, hr⟩ := hRR
  have k0 : w.cell? ⟨p, 0, none⟩ = some rv := by rw [Lib.cell_of_heap hr.cell]; rfl
  have hpl : p < w.heap.size := hr.lt p hr.s_q
  have k0' : (w.alloc (.cells #[] 4 (0, 0))).cell? ⟨p, 0, none⟩ = some rv := (World.cell?_alloc_lt w _ ⟨p, 0, none⟩ hpl).trans k0
  have hcopy := Lib.hid (copy_view hr.view hr.lt hK)
  have H : CR q c p K w S := ⟨A, B, hC, ⟨rv, hr⟩, hdis, hiff⟩
  replace H := Lib.hid H
  obtain ⟨o, ho⟩ : ∃ o, getR c K = o := ⟨_, rfl⟩
  rw [ho]
  clear hr hC hdis hiff k0
  go_enter Tryd.func18, Tryd.ntmps18
  go_wp2_with (at_builtin; refine hcopy.out _ _ _ _ _ _ _ rfl rfl rfl rfl ?_)
  intro v' w1 hrow hvb hup
  clear hcopy k0'
  have H1 : ObjStep (Tens (CR q c p K) (IsRow v' K)) S w w1 := Tens.new (thingCR q c p K) H.out (T := fun x => v'.ownBlock = some x) ⟨hrow, fun x => Iff.rfl⟩ hvb hup
  obtain ⟨ag, ac, aA, rfl, a1, a2, a3, -⟩ := rowCells hrow
  unfold maxLen at a2
  obtain ⟨k0, k1, k2⟩ := crCells H1
  clear hrow hvb hup H
  replace ho := Lib.hid ho
  by_cases hb : c.begun = false
  · rw [hb] at k0
    by_cases hl : 64 ≤ K.length
    · have hg : guess c K = some (wr (numOf (K.take 64) : Int), 64) := by unfold guess; rw [if_pos hb, if_pos hl]
      have er : Hid (o = if putB c (wr (numOf (K.take 64) : Int)) = K.take 64 then some (wr (numOf (K.take 64) : Int), 64) else none) := Lib.hid (by rw [← ho.out]; unfold getR; rw [hg])
      have hn : Hid (64 ≤ K.length) := Lib.hid hl
      obtain ⟨X, hX⟩ : ∃ X, numOf (K.take 64) = X := ⟨_, rfl⟩
      have HG := Lib.hid (cjGet (objRow _ _) H1 64 (by omega) hl hX rfl)
      have i1 : IntKind.i64.wrap (X : Int) = wr (X : Int) := i64_wr _
      rw [hX] at er
      clear H1 hg hl hX ho
      obtain ⟨v, hv⟩ : ∃ v, wr (X : Int) = v := ⟨_, rfl⟩
      rw [hv] at i1 er
      clear hv
      obtain ⟨n, hnn⟩ : ∃ n, n = 64 := ⟨_, rfl⟩
      rw [← hnn] at er hn
      rw [show (K.drop 64) = K.drop n by rw [hnn]] at HG
      clear hnn
      go_wp2_with fail
      refine HG.out.mono ?_
      rintro e w2 ⟨rfl, h2⟩
      clear HG
      go_wp2_with fail
      have h3 : Hid (ObjStep (Tens (CW q c w2.heap.size []) (Tens (fun w S => IsRR w S p (K.drop n)) (IsRow (.slice aA K.length ac) K))) S w (w2.alloc (.cells #[.slice none 0 0] 33 (0, 0)))) := Lib.hid (by
        obtain ⟨T, h4, go⟩ := h2.get
        refine go _ _ ((Tens.new (Tens.ob (thingCR q c p _) (objRow _ _)) h4 (newRW w2) (fun b hb => by rw [hb]; exact Nat.le_refl _) ((Upon.refl _ w2).alloc _)).mono fun _ => perm4))
      have HP := Lib.hid (callL (Q := fun e => e = .returned (.tuple #[])) (Tens.ob (objRR _ _) (objRow _ _)) h3.out fun T hT => refPut_any T q w2.heap.size c [] v _ hT (by simp))
      clear h2 h3
      go_wp2_with fail
      refine HP.out.mono ?_
      rintro e w4 ⟨rfl, h4⟩
      clear HP
      rw [List.nil_append] at h4
      generalize w2.heap.size = p2 at *
      obtain ⟨M, hM⟩ : ∃ M, M = putB c v := ⟨_, rfl⟩
      have hMl : M.length ≤ 68 := by rw [hM]; exact putB_len v
      rw [← hM] at h4 er
      clear hM
      have hthing : Thing (Tens (CW q (putC c v) p2 M) (Tens (fun w S => IsRR w S p (K.drop n)) (IsRow (.slice aA K.length ac) K))) := Tens.ob (thingCW _ _ _ _) (Tens.ob (objRR _ _) (objRow _ _))
      have hfall : Hid (∀ w5, Upon (fun _ => False) w4 w5 → Fall (CR q (putC c v) p (K.drop n)) S w w5) := Lib.hid fun w5 k => fall_four (h4.upon0 hthing k)
      obtain ⟨T4, X, Y, ⟨-, B4, -, ⟨wv, hw⟩, -⟩, ⟨C4, D4, ⟨rv2, hr2⟩, ⟨hrow, -⟩, -⟩, -⟩ := seeW h4
      have kw : w4.cell? ⟨p2, 0, none⟩ = some wv := by rw [Lib.cell_of_heap hw.cell]; rfl
      have kr : w4.cell? ⟨p, 0, none⟩ = some rv2 := by rw [Lib.cell_of_heap hr2.cell]; rfl
      obtain ⟨rA, rc, rfl⟩ := viewShape hr2.view
      obtain ⟨wg, wc, wA, rfl, b1, b2, b3, b4⟩ := rowCells hw.row
      obtain ⟨g5, c5, A5, e5, m1, m2, m3, m4⟩ := rowCells hrow
      injection e5 with e5a e5b e5c
      subst e5a e5c
      unfold maxLen at b2
      have hdl : (K.drop n).length + n = K.length := by rw [List.length_drop]; have := hn.out; omega
      generalize (K.drop n).length = dl at *
      have B3 := Lib.hid b3
      have B4 := Lib.hid b4
      have M3 := Lib.hid m3
      have M4 := Lib.hid m4
      have s1 : IntKind.i64.wrap ((K.length : Int) - (dl : Int)) = (n : Int) := by rw [IntKind.wrap_i64]; omega
      have s2 : ((K.length : Int) - (dl : Int)) = (n : Int) := by omega
      clear hw hr2 hrow h4 hthing b3 b4 m3 m4 a3 hdl m2
      by_cases hMn : M.length = n
      · subst hMn
        go_wp2_with fail
        go_quiet (fail)
        go_wp2_with fail
        go_loopw [13] (fun i wr => ∃ j k : Nat, j ≤ M.length ∧ i = .int .i64 (j : Int) ∧ M.take j = K.take j ∧ wr = w4.drewN k) (fun i _ => M.length - (intOf i).toNat)
        case atStart => exact ⟨0, nq, Nat.zero_le _, rfl, rfl, rfl⟩
        case round =>
          obtain ⟨j, k, hj, rfl, hpre, rfl⟩ := hrel
          replace hpre := Lib.hid hpre
          by_cases hlt : j < M.length
          · have hlk : j < K.length := Nat.lt_of_lt_of_le hlt hn.out
            obtain rfl := B3.out (by omega)
            obtain rfl := M3.out (by omega)
            have y1 := B4.out j hlt
            have y2 := M4.out j hlk
            have hnx := Lib.hid (fun h : M[j] = K[j] => show M.take (j + 1) = K.take (j + 1) by rw [List.take_succ_eq_append_getElem hlt, List.take_succ_eq_append_getElem hlk, hpre.out, h])
            have hne := Lib.hid (fun h : M[j] ≠ K[j] => show M ≠ K.take M.length from fun e => h (by
              have := congrArg (fun l => l[j]?) e
              simp only [List.getElem?_take, hlt, if_true, List.getElem?_eq_getElem hlt, List.getElem?_eq_getElem hlk] at this
              exact Option.some.inj this))
            generalize M[j] = u1 at *
            generalize K[j] = u2 at *
            cases u1 <;> cases u2
            · go_wp2_with fail
              go_quiet (fail)
              go_wp2
              refine ⟨⟨j + 1, k + nq, by omega, by push_cast; rfl, hnx.out (by first | rfl | trivial), rfl⟩, ?_⟩
              simp only [intOf]; omega
            · go_wp2_with fail
              go_quiet (fail)
              go_wp2
              go_ret2
              exact Gt.no (er.out.trans (if_neg (hne.out (by decide)))) rfl ⟨_, _, hfall.out _ ((upon_drewN _ w4 k).trans (upon_drewN _ _ nq))⟩
            · go_wp2_with fail
              go_quiet (fail)
              go_wp2
              go_ret2
              exact Gt.no (er.out.trans (if_neg (hne.out (by decide)))) rfl ⟨_, _, hfall.out _ ((upon_drewN _ w4 k).trans (upon_drewN _ _ nq))⟩
            · go_wp2_with fail
              go_quiet (fail)
              go_wp2
              refine ⟨⟨j + 1, k + nq, by omega, by push_cast; rfl, hnx.out (by first | rfl | trivial), rfl⟩, ?_⟩
              simp only [intOf]; omega
          · have : j = M.length := by omega
            subst this
            go_wp2_with fail
            go_ret2
            exact Gt.yes (er.out.trans (if_pos (by have := hpre.out; rwa [List.take_length] at this))) rfl (hfall.out _ (upon_drewN _ _ _))
      · have d1 : decide ((M.length : Int) = (n : Int)) = false := by simp; omega
        go_wp2_with fail
        go_quiet (fail)
        go_wp2_with fail
        go_ret2
        exact Gt.no (er.out.trans (if_neg (by intro e; apply hMn; rw [e, List.length_take]; have := hn.out; omega))) rfl ⟨_, _, hfall.out _ (upon_drewN _ _ _)⟩
    · have hk : Hid (o = none) := Lib.hid (by rw [← ho.out]; unfold getR guess; rw [if_pos hb, if_neg hl])
      have HG := Lib.hid (cjNo H1 64 (by omega))
      clear H1 ho
      go_wp2_with fail
      refine HG.out.mono ?_
      rintro e w2 ⟨rfl, h2⟩
      replace h2 := Lib.hid (fall_no (toNo h2))
      clear HG
      go_wp2_with fail
      go_ret2
      exact Gt.no hk.out rfl h2.out
  · have hb' : c.begun = true := by simpa using hb
    rw [hb'] at k0
    by_cases hyes : ∃ k R, lead1 4 K = some (k, R) ∧ sz k ≤ R.length
    · obtain ⟨k, R, hl, hs⟩ := hyes
      have hg : guess c K = some (tim c (num k (R.take (sz k))), (hd k).length + sz k) := by unfold guess; rw [if_neg hb, hl]; simp only; rw [if_pos hs]
      have hle := guess_le hg
      have hKd : R.drop (sz k) = K.drop ((hd k).length + sz k) := by
        rw [(lead1_is hl).2, List.drop_append]
        simp
      have er : Hid (o = if putB c (tim c (num k (R.take (sz k)))) = K.take ((hd k).length + sz k) then some (tim c (num k (R.take (sz k))), (hd k).length + sz k) else none) := Lib.hid (by rw [← ho.out]; unfold getR; rw [hg])
      have HG := Lib.hid (cjChange (objRow _ _) H1 hl hs)
      rw [hKd] at HG
      generalize num k (R.take (sz k)) = x at *
      generalize (hd k).length + sz k = n at *
      have hn : Hid (n ≤ K.length) := Lib.hid hle
      have i1 : IntKind.i64.wrap (c.t + c.d) = wr (c.t + c.d) := i64_wr _
      have i2 : IntKind.i64.wrap (wr (c.t + c.d) + x) = tim c x := i64_wr _
      generalize wr (c.t + c.d) = td at *
      generalize tim c x = v at *
      clear H1 hg hl hs hKd ho hle hb hb' k1 k2
      go_wp2_with fail
      refine HG.out.mono ?_
      rintro e w2' ⟨rfl, h2'⟩
      obtain ⟨-, k1, k2⟩ := crCells h2'
      have h2n := Lib.hid (fun k => h2'.upon0 (Tens.ob (thingCR q c p _) (objRow _ _)) (upon_drewN _ w2' k))
      clear HG h2'
      go_wp2_with fail
      go_quiet (fail)
      have h2 := h2n.out nq
      clear h2n k1 k2 i1 i2
      generalize w2'.drewN nq = w2 at *
      go_wp2_with fail
      have h3 : Hid (ObjStep (Tens (CW q c w2.heap.size []) (Tens (fun w S => IsRR w S p (K.drop n)) (IsRow (.slice aA K.length ac) K))) S w (w2.alloc (.cells #[.slice none 0 0] 33 (0, 0)))) := Lib.hid (by
        obtain ⟨T, h4, go⟩ := h2.get
        refine go _ _ ((Tens.new (Tens.ob (thingCR q c p _) (objRow _ _)) h4 (newRW w2) (fun b hb => by rw [hb]; exact Nat.le_refl _) ((Upon.refl _ w2).alloc _)).mono fun _ => perm4))
      have HP := Lib.hid (callL (Q := fun e => e = .returned (.tuple #[])) (Tens.ob (objRR _ _) (objRow _ _)) h3.out fun T hT => refPut_any T q w2.heap.size c [] v _ hT (by simp))
      clear h2 h3
      go_wp2_with fail
      refine HP.out.mono ?_
      rintro e w4 ⟨rfl, h4⟩
      clear HP
      rw [List.nil_append] at h4
      generalize w2.heap.size = p2 at *
      obtain ⟨M, hM⟩ : ∃ M, M = putB c v := ⟨_, rfl⟩
      have hMl : M.length ≤ 68 := by rw [hM]; exact putB_len v
      rw [← hM] at h4 er
      clear hM
      have hthing : Thing (Tens (CW q (putC c v) p2 M) (Tens (fun w S => IsRR w S p (K.drop n)) (IsRow (.slice aA K.length ac) K))) := Tens.ob (thingCW _ _ _ _) (Tens.ob (objRR _ _) (objRow _ _))
      have hfall : Hid (∀ w5, Upon (fun _ => False) w4 w5 → Fall (CR q (putC c v) p (K.drop n)) S w w5) := Lib.hid fun w5 k => fall_four (h4.upon0 hthing k)
      obtain ⟨T4, X, Y, ⟨-, B4, -, ⟨wv, hw⟩, -⟩, ⟨C4, D4, ⟨rv2, hr2⟩, ⟨hrow, -⟩, -⟩, -⟩ := seeW h4
      have kw : w4.cell? ⟨p2, 0, none⟩ = some wv := by rw [Lib.cell_of_heap hw.cell]; rfl
      have kr : w4.cell? ⟨p, 0, none⟩ = some rv2 := by rw [Lib.cell_of_heap hr2.cell]; rfl
      obtain ⟨rA, rc, rfl⟩ := viewShape hr2.view
      obtain ⟨wg, wc, wA, rfl, b1, b2, b3, b4⟩ := rowCells hw.row
      obtain ⟨g5, c5, A5, e5, m1, m2, m3, m4⟩ := rowCells hrow
      injection e5 with e5a e5b e5c
      subst e5a e5c
      unfold maxLen at b2
      have hdl : (K.drop n).length + n = K.length := by rw [List.length_drop]; have := hn.out; omega
      generalize (K.drop n).length = dl at *
      have B3 := Lib.hid b3
      have B4 := Lib.hid b4
      have M3 := Lib.hid m3
      have M4 := Lib.hid m4
      have s1 : IntKind.i64.wrap ((K.length : Int) - (dl : Int)) = (n : Int) := by rw [IntKind.wrap_i64]; omega
      have s2 : ((K.length : Int) - (dl : Int)) = (n : Int) := by omega
      clear hw hr2 hrow h4 hthing b3 b4 m3 m4 a3 hdl m2
      by_cases hMn : M.length = n
      · subst hMn
        go_wp2_with fail
        go_quiet (fail)
        go_wp2_with fail
        go_loopw [13] (fun i wr => ∃ j k : Nat, j ≤ M.length ∧ i = .int .i64 (j : Int) ∧ M.take j = K.take j ∧ wr = w4.drewN k) (fun i _ => M.length - (intOf i).toNat)
        case atStart => exact ⟨0, nq, Nat.zero_le _, rfl, rfl, rfl⟩
        case round =>
          obtain ⟨j, k, hj, rfl, hpre, rfl⟩ := hrel
          replace hpre := Lib.hid hpre
          by_cases hlt : j < M.length
          · have hlk : j < K.length := Nat.lt_of_lt_of_le hlt hn.out
            obtain rfl := B3.out (by omega)
            obtain rfl := M3.out (by omega)
            have y1 := B4.out j hlt
            have y2 := M4.out j hlk
            have hnx := Lib.hid (fun h : M[j] = K[j] => show M.take (j + 1) = K.take (j + 1) by rw [List.take_succ_eq_append_getElem hlt, List.take_succ_eq_append_getElem hlk, hpre.out, h])
            have hne := Lib.hid (fun h : M[j] ≠ K[j] => show M ≠ K.take M.length from fun e => h (by
              have := congrArg (fun l => l[j]?) e
              simp only [List.getElem?_take, hlt, if_true, List.getElem?_eq_getElem hlt, List.getElem?_eq_getElem hlk] at this
              exact Option.some.inj this))
            generalize M[j] = u1 at *
            generalize K[j] = u2 at *
            cases u1 <;> cases u2
            · go_wp2_with fail
              go_quiet (fail)
              go_wp2
              refine ⟨⟨j + 1, k + nq, by omega, by push_cast; rfl, hnx.out (by first | rfl | trivial), rfl⟩, ?_⟩
              simp only [intOf]; omega
            · go_wp2_with fail
              go_quiet (fail)
              go_wp2
              go_ret2
              exact Gt.no (er.out.trans (if_neg (hne.out (by decide)))) rfl ⟨_, _, hfall.out _ ((upon_drewN _ w4 k).trans (upon_drewN _ _ nq))⟩
            · go_wp2_with fail
              go_quiet (fail)
              go_wp2
              go_ret2
              exact Gt.no (er.out.trans (if_neg (hne.out (by decide)))) rfl ⟨_, _, hfall.out _ ((upon_drewN _ w4 k).trans (upon_drewN _ _ nq))⟩
            · go_wp2_with fail
              go_quiet (fail)
              go_wp2
              refine ⟨⟨j + 1, k + nq, by omega, by push_cast; rfl, hnx.out (by first | rfl | trivial), rfl⟩, ?_⟩
              simp only [intOf]; omega
          · have : j = M.length := by omega
            subst this
            go_wp2_with fail
            go_ret2
            exact Gt.yes (er.out.trans (if_pos (by have := hpre.out; rwa [List.take_length] at this))) rfl (hfall.out _ (upon_drewN _ _ _))
      · have d1 : decide ((M.length : Int) = (n : Int)) = false := by simp; omega
        go_wp2_with fail
        go_quiet (fail)
        go_wp2_with fail
        go_ret2
        exact Gt.no (er.out.trans (if_neg (by intro e; apply hMn; rw [e, List.length_take]; have := hn.out; omega))) rfl ⟨_, _, hfall.out _ (upon_drewN _ _ _)⟩
    · have hk : Hid (o = none) := Lib.hid (by
        rw [← ho.out]; unfold getR guess; rw [if_neg hb]
        cases hl : lead1 4 K with
        | none => rfl
        | some y =>
          obtain ⟨k, R⟩ := y
          simp only
          rw [if_neg (fun h => hyes ⟨k, R, hl, h⟩)])
      have HG := Lib.hid (cjChangeNo (objRow _ _) H1 (by
        cases hl : lead1 4 K with
        | none => exact .inl rfl
        | some y => obtain ⟨k, R⟩ := y; exact .inr ⟨k, R, rfl, fun h => hyes ⟨k, R, hl, h⟩⟩))
      clear H1 ho
      go_wp2_with fail
      refine HG.out.mono ?_
      rintro e w2 ⟨⟨x, rfl⟩, h2⟩
      replace h2 := Lib.hid (fall_no h2)
      clear HG
      go_wp2_with fail
      go_ret2
      exact Gt.no hk.out rfl h2.out
end Tm
end Go.Proofs.YtjoaccfjjihleaaDoor
