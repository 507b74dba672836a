/- The program's head (layer 13): Query. -/
import Derived.Test.YtfheehlfodoimaaGreatHdAcc
import Derived.Test.YtfheehlfodoimaaGreatInRound
import Derived.Test.YtfheehlfodoimaaGreatPMt2
set_option maxRecDepth 100000
namespace Go.Proofs.YtfheehlfodoimaaGreat
open Go.RowKit Go.Sort
namespace Hd
open Bit Dsk Ob Dig Go.Proofs.YtfheehlfodoimaaGreat.Nm
set_option linter.unusedVariables false
set_option linter.unusedSimpArgs false
attribute [local go_sem] Oper.semAt_some
/-- What is told of the series pre. -/
def told (h : H) (ms : List Mt.M) (a c : Int) (pre : List (Fin h.length)) : List Ser := pre.flatMap fun i => ask1 ms a c h[i]
theorem told_add (h : H) (ms : List Mt.M) (a c : Int) (pre : List (Fin h.length)) (i : Fin h.length) : told h ms a c (pre ++ [i]) = told h ms a c pre ++ ask1 ms a c h[i] := by simp [told]
theorem told_len (h : H) (ms : List Mt.M) (a c : Int) : ∀ pre : List (Fin h.length), (told h ms a c pre).length ≤ pre.length
  | [] => by simp [told]
  | i :: pre => by
    have h1 := told_len h ms a c pre
    have h2 : (ask1 ms a c h[i]).length ≤ 1 := by unfold ask1; split <;> simp
    unfold told at h1 ⊢
    rw [List.flatMap_cons, List.length_append, List.length_cons]
    omega
theorem told_all (h : H) (ms : List Mt.M) (a c : Int) : told h ms a c (List.finRange h.length) = query h ms a c := by
  unfold told query
  have e : h = (List.finRange h.length).map fun i => h[i] := by
    apply List.ext_getElem
    · simp
    · intro i h1 h2; simp
  conv => rhs; rw [e]
  rw [List.flatMap_map]
theorem keepsO {T : Nat → Prop} {w w' : World} (hu : Upon T w w') (hT : ∀ k, T k → ∃ cs ty, w.heap[k]? = some (.cells cs ty (0, 0))) : KeepsOthers w w' :=
  ⟨hu.size, fun k o hk ho => by
    by_cases h : T k
    · obtain ⟨cs, ty, e⟩ := hT k h
      rw [e] at hk; cases hk; cases ho
    · exact (hu.block k (Array.getElem?_eq_some_iff.1 hk).1 h).trans hk⟩
theorem boxes4 (w : World) (a b c d : Go.Obj) : New0 w ((((w.alloc a).alloc b).alloc c).alloc d) ∧ ((((w.alloc a).alloc b).alloc c).alloc d).heap[w.heap.size]? = some a ∧ ((((w.alloc a).alloc b).alloc c).alloc d).heap[w.heap.size + 1]? = some b ∧
    ((((w.alloc a).alloc b).alloc c).alloc d).heap[w.heap.size + 1 + 1]? = some c ∧ ((((w.alloc a).alloc b).alloc c).alloc d).heap[w.heap.size + 1 + 1 + 1]? = some d := by
  have u1 := (Upon.refl (fun _ => False) w).alloc a
  have u2 := (Upon.refl (fun _ => False) (w.alloc a)).alloc b
  have u3 := (Upon.refl (fun _ => False) ((w.alloc a).alloc b)).alloc c
  have u4 := (Upon.refl (fun _ => False) (((w.alloc a).alloc b).alloc c)).alloc d
  have e1 := cell_new w a
  have e2 := cell_new (w.alloc a) b
  have e3 := cell_new ((w.alloc a).alloc b) c
  have e4 := cell_new (((w.alloc a).alloc b).alloc c) d
  simp only [World.size_alloc] at e2 e3 e4
  have k : ∀ {w w' : World} {i : Nat} {o : Go.Obj}, New0 w w' → w.heap[i]? = some o → w'.heap[i]? = some o := fun hu h => (hu.block _ (Array.getElem?_eq_some_iff.1 h).1 fun f => f).trans h
  exact ⟨((u1.trans u2).trans u3).trans u4, k ((u2.trans u3).trans u4) e1, k (u3.trans u4) e2, k u4 e3, e4⟩
section
variable {A R : Nat → Prop} {p b : Nat} {N : Nms} {bs : List Nat} {rs : List RR} {h : H}
set_option maxHeartbeats 12800000 in
theorem hquery_any (w : World) (hh : HeadP w A R p b N bs rs h) (hs : Srt h) (hsane : Sane h) (T : Nat → Prop) (v : Value) (ms : List Mt.M) (hv : Mt.View w T v ms) (hb : Mt.Bnd ms) (frm til : Int) :
    Calls Tryz.prog 32 #[.pointer (some ⟨p, 0, none⟩), v, .int .i64 frm, .int .i64 til] w fun e w' => ∃ u, e = .returned u ∧ QView w' (Lb.Nw w) u (query h ms frm til) ∧ New0 w w' := by
  obtain ⟨Av, cv, rfl, -, -⟩ := Rw.View.shape hv
  obtain ⟨W1, hW1⟩ : ∃ W1, (((w.alloc (.cells #[.slice Av ms.length cv] 32 (0, 0))).alloc (.cells #[.int .i64 frm] 2 (0, 0))).alloc (.cells #[.int .i64 til] 2 (0, 0))).alloc (.cells #[.slice none 0 0] 69 (0, 0)) = W1 := ⟨_, rfl⟩
  have hbx := boxes4 w (.cells #[.slice Av ms.length cv] 32 (0, 0)) (.cells #[.int .i64 frm] 2 (0, 0)) (.cells #[.int .i64 til] 2 (0, 0)) (.cells #[.slice none 0 0] 69 (0, 0))
  rw [hW1] at hbx
  obtain ⟨hu1, x0, x1, x2, x3⟩ := hbx
  have HO := Lib.hid ((callsIn_wide (n := 9)).2 (inOrder_any W1 (hh.new hu1) hs hsane.len))
  replace hu1 := Lib.hid hu1
  replace x0 := Lib.hid x0
  replace x1 := Lib.hid x1
  replace x2 := Lib.hid x2
  replace x3 := Lib.hid x3
  replace hh := Lib.hid hh
  replace hv := Lib.hid hv
  replace hsane := Lib.hid hsane
  replace hW1 := Lib.hid hW1
  replace hb := Lib.hid hb
  refine (callsIn_wide (n := 10)).1 ?_
  refine callsIn_of_wp_marks Tryz.func32 rfl trivial ?_ rfl
  simp only [Tryz.ntmps32, List.size_toArray, List.length_cons, List.length_nil, Nat.reduceAdd, Nat.reduceSub, Array.replicate_succ, Array.replicate_zero, List.push_toArray, List.append_toArray, List.nil_append, List.cons_append]
  gi_wp2
  rw [hW1.out]
  refine ⟨trivial, HO.out.mono ?_⟩
  rintro e w2 ⟨Bs, u0, rfl, hBs, hcB, hrow, hu2⟩
  gi_wp2
  have hx : Hid (∀ k c, k < W1.heap.size → W1.heap[k]? = c → w2.heap[k]? = c) := Lib.hid (fun k c hk hc => (hu2.block k hk fun f => f).trans hc)
  have hA0 : Hid (Acc (w.heap.size + 1 + 1 + 1) w2 w2 (.slice none 0 0) [] []) := Lib.hid (Acc.start (hx.out _ _ (Array.getElem?_eq_some_iff.1 x3.out).1 x3.out))
  have hhl := (hh.out).blen
  have hfr : (List.finRange h.length).length = h.length := by simp
  have hfm : (List.finRange h.length).map (fun i => bs[i.1]'(by rw [hhl]; exact i.2)) = bs := by
    apply List.ext_getElem
    · simp [hhl]
    · intro j h1 h2; simp
  have hn2 := Lib.hid (hu1.out.trans hu2)
  refine wpIn_rangeFunc_ownF rfl (by omega) (gf := 84) (lb := #[.pointer (some ⟨Bs, 0, none⟩)]) rfl trivial (enters_of Tryz.func84 (by kernel_rfl) rfl)
    (each_stopsF (α := Fin h.length) (fun i => bs[i.1]'(by rw [hhl]; exact i.2)) 9 (by omega) Bs u0.v (List.finRange h.length) (by rw [hfr]; exact hsane.out.len) w2 hBs hcB (by rw [hfm]; exact hrow)) KeepV.t
    (fun W l o o' hl _ _ _ g hg => World.putObj_heap_other (fun e => by have := Rw.Mine.lt hrow hg; omega)) (Below.refl _ _) (fun _ => rfl)
    (fun pre W => ∃ u qs, Acc (w.heap.size + 1 + 1 + 1) w2 W u qs (told h ms frm til pre))
    (fun _ _ _ => False)
    (fun s W W' row ⟨u, qs, ha⟩ hg hr => ⟨u, qs, ha.grown hg hr⟩)
    (fun _ _ _ _ _ hs _ _ => hs)
    ⟨_, _, hA0.out⟩
    (fun i => { tmps := #[.pointer (some ⟨p, 0, none⟩), .slice Av ms.length cv, .int .i64 frm, .int .i64 til, undef, .pointer (some ⟨w.heap.size, 0, none⟩), .pointer (some ⟨w.heap.size + 1, 0, none⟩), .pointer (some ⟨w.heap.size + 1 + 1, 0, none⟩), .slice none 0 0, .pointer (some ⟨w.heap.size + 1 + 1 + 1, 0, none⟩), encQ (bs[i.1]'(by rw [hhl]; exact i.2)), undef, .pointer (some ⟨p, 0, none⟩), .func (.func 84) #[] #[.pointer (some ⟨Bs, 0, none⟩)], encQ (bs[i.1]'(by rw [hhl]; exact i.2)), undef, undef, undef, undef, undef, undef, undef, undef, undef, undef, undef, undef, undef, undef, undef, undef, undef, undef, undef, undef, undef, undef, undef, undef, undef, undef], defers := [] }) ?assign ?body ?done ?stop
  case assign =>
    intro l x W K hK
    gi_wp2
    exact hK
  case body =>
    rintro l pre i W ⟨u, qs, hA⟩ hlt
    have hOV := hA.old
    have hup := hA.upon
    have hws := hn2.out.size
    have hhW : HeadP W A R p b N bs rs h := (hh.out.new hn2.out).upon hup (fun x hx e => by have := hh.out.lt x (.inl hx); omega) (fun x hx e => by have := hh.out.lt x (.inr hx); omega)
    obtain ⟨hb', hr, hblk, hlv, hpm⟩ := hhW.at i.2
    have hsA : bs[i.1] < w.heap.size := hh.out.lt _ (.inl (hh.out.sA _ (List.getElem_mem hb')))
    have hRlt : ∀ x, R x → x < w.heap.size := fun x hx => hh.out.lt x (.inr hx)
    have hPlt : ∀ x, rs[i.1].pts.v.ownBlock = some x → x < w.heap.size := fun x hx => hh.out.lt x (.inl (hh.out.rows.own _ hr x hx))
    have hrise := hh.out.inv.rise _ (List.getElem_mem i.2)
    have hvW : Mt.View W (fun k => T k ∧ k < w.heap.size) (.slice Av ms.length cv) ms := Rw.View.upon ((Rw.View.mono hv.out fun k hk h1 => ⟨h1, hk⟩ : Mt.View w (fun k => T k ∧ k < w.heap.size) (.slice Av ms.length cv) ms) |> fun k => Rw.View.new k hn2.out) hup (fun k hk e => by have := hk.2; omega)
    have hbxW : ∀ k c, k < w.heap.size + 1 + 1 + 1 → W1.heap[k]? = some c → W.heap[k]? = some c := fun k c hk hc => (hup.block k (by omega) (by omega)).trans (hx.out k _ (Array.getElem?_eq_some_iff.1 hc).1 hc)
    have y0 := hbxW _ _ (by omega) x0.out
    have y1 := hbxW _ _ (by omega) x1.out
    have y2 := hbxW _ _ (by omega) x2.out
    have hadd := told_add h ms frm til pre i
    have hlen := told_len h ms frm til pre
    have hhl1 := hsane.out.len
    have hpl := hsane.out.pts _ (List.getElem_mem i.2)
    have hll := (hh.out).okAt i.2
    have hll2 : h[i.1].lab.length ≤ 8 := hll.few
    rw [hfr] at hlt
    have hql := hA.len
    unfold encQ
    obtain ⟨s, hse⟩ : ∃ s, bs[i.1] = s := ⟨_, rfl⟩
    obtain ⟨⟨⟨la, ln, lc⟩, ⟨pa, pn, pc⟩, lq⟩, hrr⟩ : ∃ x, rs[i.1] = x := ⟨_, rfl⟩
    have hri : (h[i] : Row) = h[i.1] := rfl
    rw [hri] at hadd
    obtain ⟨⟨rl, rp, rt⟩, hrow2⟩ : ∃ x, h[i.1] = x := ⟨_, rfl⟩
    simp only [hse, hrr, hrow2] at hblk hlv hpm hsA hPlt hrise hpl hll2 hadd
    simp only [hse]
    have hpn : pn = rp.length := by obtain ⟨A2, c2, e2, -, -⟩ := Rw.View.shape hpm.view; injection e2
    have hln : ln = rl.length := by obtain ⟨A2, c2, e2, -, -⟩ := Rw.View.shape hlv; injection e2
    subst hpn hln
    have hbase := hA.base
    have hCC : Hid (∀ W', Upon (fun k => u.ownBlock = some k) W W' → W'.cell? ⟨w.heap.size, 0, none⟩ = some (.slice Av ms.length cv) ∧ W'.cell? ⟨w.heap.size + 1, 0, none⟩ = some (.int .i64 frm) ∧ W'.cell? ⟨w.heap.size + 1 + 1, 0, none⟩ = some (.int .i64 til) ∧
        W'.cell? ⟨s, 0, none⟩ = some (.slice la rl.length lc) ∧ W'.cell? ⟨w.heap.size + 1 + 1 + 1, 0, none⟩ = some u ∧ W'.frozen? ⟨w.heap.size + 1 + 1 + 1, 0, none⟩ = false) := Lib.hid (fun W' hu => by
      have k : ∀ j, j < w2.heap.size → j < W.heap.size → W'.heap[j]? = W.heap[j]? := fun j hj hj2 => hu.block j hj2 (fun e => by have := hbase j e; omega)
      have q := hup.size
      have b0 : Go.Boxed W' w.heap.size 32 (.slice Av ms.length cv) := (k _ (by omega) (by omega)).trans y0
      have b1 : Go.Boxed W' (w.heap.size + 1) 2 (.int .i64 frm) := (k _ (by omega) (by omega)).trans y1
      have b2 : Go.Boxed W' (w.heap.size + 1 + 1) 2 (.int .i64 til) := (k _ (by omega) (by omega)).trans y2
      have b3 : Go.Boxed W' (w.heap.size + 1 + 1 + 1) 69 u := (k _ (by omega) (by omega)).trans hA.box
      exact ⟨b0.cell, b1.cell, b2.cell, (cell_keep (k s (by omega) (by omega))).trans hblk.cells.1, b3.cell, b3.frozen⟩)
    have hC0 : Hid (∀ W', New0 W W' → W'.cell? ⟨w.heap.size, 0, none⟩ = some (.slice Av ms.length cv) ∧ W'.cell? ⟨w.heap.size + 1, 0, none⟩ = some (.int .i64 frm) ∧ W'.cell? ⟨w.heap.size + 1 + 1, 0, none⟩ = some (.int .i64 til) ∧
        W'.cell? ⟨s, 0, none⟩ = some (.slice la rl.length lc) ∧ W'.cell? ⟨w.heap.size + 1 + 1 + 1, 0, none⟩ = some u ∧ W'.frozen? ⟨w.heap.size + 1 + 1 + 1, 0, none⟩ = false) := Lib.hid (fun W' hu => hCC.out W' (hu.mono fun _ _ f => f.elim))
    have HI := Lib.hid (fun W' (hu : New0 W W') => Mt.is_any W' _ R _ _ ms rl (Rw.View.new hvW hu) hb.out (Rw.View.new hlv hu))
    have HB := Lib.hid (fun W' (hu : New0 W W') => (callsIn_wide (n := 7)).2 (between_any W' s pa pc rp frm til (PtsAt.new ⟨hblk.cells.2.1, hpm⟩ hu) hrise hpl))
    have HL := Lib.hid (fun W' (hu : New0 W W') => clonePr_any W' R (.slice la rl.length lc) rl (Rw.View.new hlv hu) (by omega))
    have hrlt : ∀ g, u0.v.ownBlock = some g → g < w2.heap.size ∧ g ≠ w.heap.size + 1 + 1 + 1 := fun g hg => ⟨Rw.Mine.lt hrow hg, fun e => by
      obtain ⟨cs, hc⟩ := Rw.Mine.typ hrow hg
      rw [e, hA0.out.box] at hc
      injection hc with hc
      injection hc with _ hc
      exact absurd hc (by decide)⟩
    have hrlt := Lib.hid hrlt
    have hqn : Hid (qs.length ≤ 1000000000) := Lib.hid (by omega)
    have hsame : Hid (∀ W', New0 W W' → ask1 ms frm til ⟨rl, rp, rt⟩ = [] → KeepsOthers W W' ∧ KeepV u0.v W W' ∧ ∃ u qs, Acc (w.heap.size + 1 + 1 + 1) w2 W' u qs (told h ms frm til (pre ++ [i]))) := Lib.hid (fun W' hu e => by
      refine ⟨keepsO hu (fun k f => f.elim), fun g hg => hu.block g ?_ (fun f => f), u, qs, ?_⟩
      · have := (hrlt.out g hg).1
        have := hup.size
        omega
      · rw [hadd, e, List.append_nil]
        exact hA.new hu)
    have hmore : Hid (∀ m, ask1 ms frm til ⟨rl, rp, rt⟩ = [(rl, m)] → ∀ (X x : World) (a : RQ) (u' : Value), New0 W X → Lb.Mine X a.1.v rl → PMine X a.2.v m → (∀ k, (a.1.v.ownBlock = some k ∨ a.2.v.ownBlock = some k) → W.heap.size ≤ k) → Rw.Mine layQ 93 x u' (qs ++ [a]) → X.grownBy x u.ownBlock → (u'.ownBlock = u.ownBlock ∨ u'.ownBlock = some X.heap.size) →
        KeepsOthers W (x.setCell ⟨w.heap.size + 1 + 1 + 1, 0, none⟩ u') ∧ KeepV u0.v W (x.setCell ⟨w.heap.size + 1 + 1 + 1, 0, none⟩ u') ∧ ∃ u qs, Acc (w.heap.size + 1 + 1 + 1) w2 (x.setCell ⟨w.heap.size + 1 + 1 + 1, 0, none⟩ u') u qs (told h ms frm til (pre ++ [i]))) := Lib.hid (fun m e X x a u' hX h1 h2 h3 h4 h5 h6 => by
      have q1 := hup.size
      have q2 := hX.size
      have hn := (hA.new hX).app (a := a) (b := (rl, m)) h1 h2 (fun k hk => by
        have := h3 k hk
        refine ⟨by omega, fun e2 => ?_⟩
        have := Rw.Mine.lt hA.row e2
        omega) h4 h5 h6
      have hux : Upon (fun k => k = w.heap.size + 1 + 1 + 1 ∨ u.ownBlock = some k) W x := (hX.mono fun _ _ f => f.elim : Upon (fun k => k = w.heap.size + 1 + 1 + 1 ∨ u.ownBlock = some k) W X).grown h5 (fun k hk => .inl (.inr hk))
      have huy : Upon (fun k => k = w.heap.size + 1 + 1 + 1 ∨ u.ownBlock = some k) W (x.setCell ⟨w.heap.size + 1 + 1 + 1, 0, none⟩ u') := Upon.setCell (p := ⟨w.heap.size + 1 + 1 + 1, 0, none⟩) hux (.inl (.inl rfl)) u'
      refine ⟨keepsO huy fun k hk => ?_, fun g hg => huy.block g ?_ ?_, u', qs ++ [a], ?_⟩
      · rcases hk with rfl | hk
        · exact ⟨_, _, hA.box⟩
        · obtain ⟨cs, hc⟩ := Rw.Mine.typ hA.row hk
          exact ⟨_, _, hc⟩
      · have := (hrlt.out g hg).1; omega
      · rintro (e2 | e2)
        · exact (hrlt.out g hg).2 e2
        · have := hbase g e2
          have := (hrlt.out g hg).1; omega
      · rw [hadd, e]
        exact hn.put)
    have hS0 := (hC0.out _ ((Upon.refl _ W).drew))
    have hrowA := Lib.hid hA.row
    have hslt : Hid (∀ W' x, New0 W W' → W'.grownBy x u.ownBlock → Upon (fun k => u.ownBlock = some k) W x) := Lib.hid (fun W' x hu hg => (hu.mono fun _ _ f => f.elim : Upon (fun k => u.ownBlock = some k) W W').grown hg (fun k hk => .inl hk))
    obtain ⟨uA, uc, rfl, -, -⟩ := Rw.View.shape hrowA.out.view
    clear hadd hlen hlt hA hup hhW hblk hlv hpm hvW hbxW y0 y1 y2 hrise hPlt hRlt hbase hql hrr hse hri
    gi_wp2
    refine InR.region_S 6 (S := fun w' => w'.cell? ⟨w.heap.size, 0, none⟩ = some (.slice Av ms.length cv) ∧ w'.cell? ⟨s, 0, none⟩ = some (.slice la rl.length lc)) (by kernel_rfl) (by kernel_rfl) ⟨hS0.1, hS0.2.2.2.1⟩ (fun hHeld => ?_)
    refine HeldS.wpAnyS_take (i := 0) [5] (oi := _) (v := ?_) rfl (by kernel_rfl) (by kernel_rfl) (by kernel_rfl) (by kernel_rfl) (by kernel_rfl) (fun _ _ _ h => by cases h.1) (Or.inl ⟨by rfl, ?_⟩) (by assumption) ?_
    rotate_left
    · (intro w hSw; (try dsimp only at hSw); go_simp; (try with_reducible rfl))
    (try simp only [Act.put, List.setIfInBounds_toArray, List.set_cons_zero, List.set_cons_succ])
    refine HeldS.wpAnyS_take (i := 1) [5, 4, 3, 2] (oi := _) (v := ?_) rfl (by kernel_rfl) (by kernel_rfl) (by kernel_rfl) (by kernel_rfl) (by kernel_rfl) (fun _ _ _ h => by cases h.1) (Or.inl ⟨by rfl, ?_⟩) (by assumption) ?_
    rotate_left
    · (intro w hSw; (try dsimp only at hSw); go_simp; (try with_reducible rfl))
    (try simp only [Act.put, List.setIfInBounds_toArray, List.set_cons_zero, List.set_cons_succ])
    refine HeldS.wpAnyS_take (i := 2) [5, 4, 3] (oi := _) (v := ?_) rfl (by kernel_rfl) (by kernel_rfl) (by kernel_rfl) (by kernel_rfl) (by kernel_rfl) (fun _ _ _ h => by cases h.1) (Or.inl ⟨by rfl, ?_⟩) (by assumption) ?_
    rotate_left
    · (intro w hSw; (try dsimp only at hSw); go_simp; (try with_reducible rfl))
    (try simp only [Act.put, List.setIfInBounds_toArray, List.set_cons_zero, List.set_cons_succ])
    refine HeldS.wpAnyS_take (i := 3) [5, 4] (oi := _) (v := ?_) rfl (by kernel_rfl) (by kernel_rfl) (by kernel_rfl) (by kernel_rfl) (by kernel_rfl) (fun _ _ _ h => by cases h.1) (Or.inl ⟨by rfl, ?_⟩) (by assumption) ?_
    rotate_left
    · (intro w hSw; (try dsimp only at hSw); go_simp; (try with_reducible rfl))
    (try simp only [Act.put, List.setIfInBounds_toArray, List.set_cons_zero, List.set_cons_succ])
    refine HeldS.wpAnyS_take (i := 4) [5] (oi := _) (v := ?_) rfl (by kernel_rfl) (by kernel_rfl) (by kernel_rfl) (by kernel_rfl) (by kernel_rfl) (fun _ _ _ h => by cases h.1) (Or.inl ⟨by rfl, ?_⟩) (by assumption) ?_
    rotate_left
    · (intro w hSw; (try dsimp only at hSw); go_simp; (try with_reducible rfl))
    (try simp only [Act.put, List.setIfInBounds_toArray, List.set_cons_zero, List.set_cons_succ])
    refine HeldS.wpAnyS_ready (rs := [5]) (by kernel_rfl) (by simp) ?_
    refine HeldS.AllS.cons (o := ⟨some 20, _, _, _, _, _⟩) rfl (fun K hK => ?_) HeldS.AllS.nil
    go_simp
    go_at_call 43
    refine (HI.out _ (by repeat (first | assumption | exact Upon.refl _ _ | refine Upon.drew ?_ | refine Upon.alloc ?_ _))).mono ?_
    rintro e w5 ⟨rfl, hu5⟩
    have hn5 : New0 W w5 := ((Upon.refl _ W).drew).trans hu5
    go_simp
    refine hK.out _ _ ⟨(hC0.out _ hn5).1, (hC0.out _ hn5).2.2.2.1⟩ (fun hHeld => ?_)
    clear hK K
    (try simp only [Act.put, List.setIfInBounds_toArray, List.set_cons_zero, List.set_cons_succ])
    refine HeldS.wpAnyS_ready (rs := [6]) (by kernel_rfl) (by simp) ?_
    refine HeldS.AllS.last (s := 6) (o := ⟨some 21, _, _, _, _, _⟩) rfl (fun K hK => ?_) HeldS.AllS.nil
    go_simp
    refine hK.out _ _ ?_
    clear hK K
    (try simp only [Act.put, List.setIfInBounds_toArray, List.set_cons_zero, List.set_cons_succ])
    refine HeldS.wpAnyS_done (by kernel_rfl) ?_ _
    refine ⟨rfl, ?_⟩
    obtain ⟨q, hq⟩ : ∃ q, Mt.is ms rl = q := ⟨_, rfl⟩
    rw [hq]
    cases q with
    | false =>
      have hend := hsame.out w5 hn5 (by unfold ask1; rw [if_neg (by simp [hq])])
      clear hsame hmore
      gi_wp2
      exact hend
    | true =>
      obtain ⟨-, z1, z2, -, -, -⟩ := hC0.out _ hn5
      gi_wp2
      refine ⟨trivial, CallsIn.inRound l ((HB.out w5 hn5).mono ?_)⟩
      rintro e w6 ⟨⟨ma, mn, mc⟩, rfl, hmv, hu6⟩
      have hn6 := hn5.trans hu6
      obtain ⟨m, hm⟩ : ∃ m, within rp frm til = m := ⟨_, rfl⟩
      rw [hm] at hmv
      have hmn : mn = m.length := by obtain ⟨A2, c2, e2, -, -⟩ := Rw.View.shape hmv; injection e2
      subst hmn
      have hml : m.length ≤ rp.length := by rw [← hm]; exact List.length_filter_le _ _
      by_cases hme : m.length = 0
      · have hend := hsame.out w6 hn6 (by unfold ask1; simp only [hm]; rw [if_neg (by rw [List.eq_nil_of_length_eq_zero hme]; simp)])
        rw [hme]
        clear hsame hmore
        gi_wp2
        exact hend
      · have hmd : decide (0 < (m.length : Int)) = true := decide_eq_true (by omega)
        have hask : Hid (ask1 ms frm til ⟨rl, rp, rt⟩ = [(rl, m)]) := Lib.hid (by unfold ask1; simp only [hm]; rw [if_pos ⟨fun e => by rw [e] at hme; simp at hme, hq⟩])
        have hS6 := hC0.out _ (hn6.drew)
        have HM := Lib.hid (fun W' (hu : New0 w6 W') => clonePt_any W' All (.slice ma m.length mc) m (Rw.View.new hmv hu) (by omega))
        clear hmv hsame HI HB
        gi_wp2
        refine InR.region_S 11 (S := fun w' => w'.cell? ⟨s, 0, none⟩ = some (.slice la rl.length lc) ∧ w'.cell? ⟨w.heap.size + 1 + 1 + 1, 0, none⟩ = some (.slice uA qs.length uc) ∧ w'.frozen? ⟨w.heap.size + 1 + 1 + 1, 0, none⟩ = false) (by kernel_rfl) (by kernel_rfl) hS6.2.2.2 (fun hHeld => ?_)
        refine HeldS.wpAnyS_take (i := 0) [10] (oi := _) (v := ?_) rfl (by kernel_rfl) (by kernel_rfl) (by kernel_rfl) (by kernel_rfl) (by kernel_rfl) (fun _ _ _ h => by cases h.1) (Or.inl ⟨by rfl, ?_⟩) (by assumption) ?_
        rotate_left
        · (intro w hSw; (try dsimp only at hSw); go_simp; (try with_reducible rfl))
        (try simp only [Act.put, List.setIfInBounds_toArray, List.set_cons_zero, List.set_cons_succ])
        refine HeldS.wpAnyS_take (i := 1) [10, 9, 8, 5, 4, 3, 2] (oi := _) (v := ?_) rfl (by kernel_rfl) (by kernel_rfl) (by kernel_rfl) (by kernel_rfl) (by kernel_rfl) (fun _ _ _ h => by cases h.1) (Or.inl ⟨by rfl, ?_⟩) (by assumption) ?_
        rotate_left
        · (intro w hSw; (try dsimp only at hSw); go_simp; (try with_reducible rfl))
        (try simp only [Act.put, List.setIfInBounds_toArray, List.set_cons_zero, List.set_cons_succ])
        refine HeldS.wpAnyS_take (i := 2) [10, 9, 8, 5, 4, 3] (oi := _) (v := ?_) rfl (by kernel_rfl) (by kernel_rfl) (by kernel_rfl) (by kernel_rfl) (by kernel_rfl) (fun _ _ _ h => by cases h.1) (Or.inl ⟨by rfl, ?_⟩) (by assumption) ?_
        rotate_left
        · (intro w hSw; (try dsimp only at hSw); go_simp; (try with_reducible rfl))
        (try simp only [Act.put, List.setIfInBounds_toArray, List.set_cons_zero, List.set_cons_succ])
        refine HeldS.wpAnyS_take (i := 3) [10, 9, 8, 5, 4] (oi := _) (v := ?_) rfl (by kernel_rfl) (by kernel_rfl) (by kernel_rfl) (by kernel_rfl) (by kernel_rfl) (fun _ _ _ h => by cases h.1) (Or.inl ⟨by rfl, ?_⟩) (by assumption) ?_
        rotate_left
        · (intro w hSw; (try dsimp only at hSw); go_simp; (try with_reducible rfl))
        (try simp only [Act.put, List.setIfInBounds_toArray, List.set_cons_zero, List.set_cons_succ])
        refine HeldS.wpAnyS_take (i := 4) [10, 9, 8, 5] (oi := _) (v := ?_) rfl (by kernel_rfl) (by kernel_rfl) (by kernel_rfl) (by kernel_rfl) (by kernel_rfl) (fun _ _ _ h => by cases h.1) (Or.inl ⟨by rfl, ?_⟩) (by assumption) ?_
        rotate_left
        · (intro w hSw; (try dsimp only at hSw); go_simp; (try with_reducible rfl))
        (try simp only [Act.put, List.setIfInBounds_toArray, List.set_cons_zero, List.set_cons_succ])
        refine HeldS.wpAnyS_take (i := 6) [10, 9, 8, 7] (oi := _) (v := ?_) rfl (by kernel_rfl) (by kernel_rfl) (by kernel_rfl) (by kernel_rfl) (by kernel_rfl) (fun _ _ _ h => by cases h.1) (Or.inl ⟨by rfl, ?_⟩) (by assumption) ?_
        rotate_left
        · (intro w hSw; (try dsimp only at hSw); go_simp; (try with_reducible rfl))
        (try simp only [Act.put, List.setIfInBounds_toArray, List.set_cons_zero, List.set_cons_succ])
        refine HeldS.wpAnyS_ready (rs := [5]) (by kernel_rfl) (by simp) ?_
        refine HeldS.AllS.cons (o := ⟨some 34, _, _, _, _, _⟩) rfl (fun K hK => ?_) HeldS.AllS.nil
        go_simp
        go_at_call 50
        refine (HL.out _ (hn6.drew)).mono ?_
        rintro e w7 ⟨⟨A7, n7, c7⟩, rfl, hm7, hb7, hu7⟩
        have hs7 := hu7.size
        have hu7' : New0 w6 w7 := ((Upon.refl _ w6).drew).trans hu7
        have hn7 : New0 W w7 := hn6.trans hu7'
        go_simp
        refine hK.out _ _ (hC0.out _ hn7).2.2.2 (fun hHeld => ?_)
        clear hK K
        (try simp only [Act.put, List.setIfInBounds_toArray, List.set_cons_zero, List.set_cons_succ])
        refine HeldS.wpAnyS_ready (rs := [7]) (by kernel_rfl) (by simp) ?_
        refine HeldS.AllS.cons (o := ⟨some 36, _, _, _, _, _⟩) rfl (fun K hK => ?_) HeldS.AllS.nil
        go_simp
        go_at_call 51
        refine (HM.out _ hu7').mono ?_
        rintro e w8 ⟨⟨A8, n8, c8⟩, rfl, hm8, hb8, hu8⟩
        have hn8 : New0 W w8 := hn7.trans hu8
        have hm7' := hm7.new hu8
        go_simp
        refine hK.out _ _ (hC0.out _ hn8).2.2.2 (fun hHeld => ?_)
        clear hK K
        (try simp only [Act.put, List.setIfInBounds_toArray, List.set_cons_zero, List.set_cons_succ])
        refine HeldS.wpAnyS_take (i := 8) [10, 9] (oi := _) (v := ?_) rfl (by kernel_rfl) (by kernel_rfl) (by kernel_rfl) (by kernel_rfl) (by kernel_rfl) (fun _ _ _ h => by cases h.1) (Or.inl ⟨by rfl, ?_⟩) (by assumption) ?_
        rotate_left
        · (intro w hSw; (try dsimp only at hSw); go_simp; (try with_reducible rfl))
        (try simp only [Act.put, List.setIfInBounds_toArray, List.set_cons_zero, List.set_cons_succ])
        have u9 := (Upon.refl (fun _ => False) w8).alloc (.cells #[.slice A7 n7 c7, .slice A8 n8 c8] 93 (0, 0))
        have hn9 := hn8.trans u9
        have hm79 := hm7'.new u9
        have hm89 := hm8.new u9
        have hX9 := Lib.hid (qview_one w8 ⟨A7, n7, c7⟩ ⟨A8, n8, c8⟩)
        refine HeldS.wpAnyS_ready (rs := [9]) (by kernel_rfl) (by simp) ?_
        refine HeldS.AllS.cons (o := ⟨some 38, _, _, _, _, _⟩) rfl (fun K hK => ?_) HeldS.AllS.nil
        go_simp
        refine hK.out _ _ (hC0.out _ hn9).2.2.2 (fun hHeld => ?_)
        clear hK K
        (try simp only [Act.put, List.setIfInBounds_toArray, List.set_cons_zero, List.set_cons_succ])
        refine HeldS.wpAnyS_ready (rs := [10]) (by kernel_rfl) (by simp) ?_
        refine HeldS.AllS.cons (o := ⟨some 39, _, _, _, _, _⟩) rfl (fun K hK => ?_) HeldS.AllS.nil
        refine Rw.step_append typQ (o := ⟨some 39, _, _, _, _, _⟩) (by rfl) _ _ (by rfl) (.slice uA qs.length uc) _ qs [((⟨A7, n7, c7⟩, ⟨A8, n8, c8⟩) : RQ)] All (by rfl) (by rfl) (hrowA.out.new hn9) hX9.out (by rw [List.length_singleton]; have := hqn.out; omega) (by rw [List.length_singleton]; have := hqn.out; omega) ?_
        intro v' x hown hg hbl
        have hSx := hCC.out x (hslt.out _ x hn9 hg)
        have hsh := Rw.View.shape (Rw.Mine.view hown)
        refine hK.out _ _ hSx.2.2.2 (fun hHeld => ?_)
        clear hK K
        (try simp only [Act.put, List.setIfInBounds_toArray, List.set_cons_zero, List.set_cons_succ])
        refine HeldS.wpAnyS_ready (rs := [11]) (by kernel_rfl) (by simp) ?_
        refine HeldS.AllS.last (s := 11) (o := ⟨none, _, _, _, _, _⟩) rfl (fun K hK => ?_) HeldS.AllS.nil
        obtain ⟨-, px1, pf1⟩ := hHeld
        have hend := Lib.hid (hmore.out m hask.out _ x (⟨A7, n7, c7⟩, ⟨A8, n8, c8⟩) v' hn9 hm79 hm89 (fun k hk => by
          have q1 := hn6.size
          have q2 := hn7.size
          rcases hk with hk | hk
          · exact Nat.le_trans q1 (hb7 k hk)
          · exact Nat.le_trans q2 (hb8 k hk)) hown hg hbl)
        obtain ⟨vA, vc, rfl, -, -⟩ := hsh
        clear hmore hown hg hbl
        go_simp
        refine hK.out _ _ ?_
        clear hK K
        (try simp only [Act.put, List.setIfInBounds_toArray, List.set_cons_zero, List.set_cons_succ])
        refine HeldS.wpAnyS_done (by kernel_rfl) ?_ _
        refine ⟨rfl, ?_⟩
        gi_wp2
        have hend := hend.out
        rw [List.length_append, List.length_singleton] at hend
        exact hend
  case done =>
    rintro D ys W hD hys ⟨u, qs, hA⟩ hK
    have hbx : Go.Boxed W (w.heap.size + 1 + 1 + 1) 69 u := hA.box
    have hc := hbx.cell
    gi_wp2
    refine ⟨by simp, .inl ⟨_, _, rfl, run_takeDeferred hK, ?_⟩⟩
    rw [hys, told_all] at hA
    have hA2 := fun o' => hA.grown (grownBy_putObj' W D o') (fun r e => by cases e; exact ⟨hD, _, hK, rfl⟩)
    have hws := hn2.out.size
    refine ⟨_, results_tmp rfl _ _ _, u, rfl, ?_, ?_⟩
    · exact Rw.DView.mono (hA2 _).view fun k _ hk => Nat.le_trans hws hk
    · exact Upon.trans' hn2.out (hA2 _).upon (fun k hk e => by have := hk; omega)
  case stop =>
    rintro D c pre W _ _ h _
    exact h.elim
end
end Hd
end Go.Proofs.YtfheehlfodoimaaGreat
