/- Layer 13: the law HeadWhole. -/
import Derived.Test.YtfheehlfodoimaaGreatHdLaw3
import Derived.Test.YtfheehlfodoimaaGreatPHeld
set_option maxRecDepth 100000
namespace Go.Proofs.YtfheehlfodoimaaGreat
open Go.RowKit Go.Sort
namespace Hd
open Bit Dsk Ob Dig
set_option linter.unusedVariables false
set_option linter.unusedSimpArgs false

theorem room_nextC {g : H} {r : Rc.R} {j c : Nat} (hg : SaneN (1000 * (c - j)) g) (hj : j < c) (hr : Small r) : SaneN r.smp.length g ∧ SaneN (1000 * (c - (j + 1))) (app g r) := by
  have h1 := hr.2.1
  exact ⟨hg.less (by omega), SaneN.app (hg.less (by omega)) hr.lab⟩
/-- A head behind some records. -/
noncomputable def apps (g : H) (l : List Rc.R) : H := l.foldl app g
theorem apps_step {g : H} {l : List Rc.R} {j : Nat} (h : j < l.length) : apps g (l.take (j + 1)) = app (apps g (l.take j)) l[j] := by
  unfold apps
  rw [List.take_succ_eq_append_getElem h, List.foldl_append]; rfl
theorem pts_ok {k : Nat} {g : H} (hh : SaneN k g) : points g ≤ 1000000000000000000 := by
  have h1 := points_le hh
  have h2 := hh.len
  have h3 : g.length * 1000000000 ≤ 1000000000 * 1000000000 := Nat.mul_le_mul_right _ (by omega)
  omega
/-- What belongs to a record beside its row of samples. -/
def RestO (rs : List Rc.RS) (l : List Rc.Smp) (m : Rw.Sl) (ms : List Mt.M) : Ob.Rel := fun w S => rs.length = l.length ∧ (∀ i (h1 : i < rs.length) (h2 : i < l.length), Rc.innS.rel w S rs[i] l[i]) ∧ Mt.View w S m.v ms ∧ ∀ x, S x → x < w.heap.size
theorem thingRest (rs : List Rc.RS) (l : List Rc.Smp) (m : Rw.Sl) (ms : List Mt.M) : Thing (RestO rs l m ms) := ⟨fun w w' S h hk hs => ⟨h.1, fun i h1 h2 => ⟨(h.2.1 i h1 h2).1, (h.2.1 i h1 h2).2.1, row_keep hk (h.2.1 i h1 h2).2.2⟩, row_keep hk h.2.2.1, fun x hx => Nat.lt_of_lt_of_le (h.2.2.2 x hx) hs⟩, fun w S h x hx => h.2.2.2 x hx⟩
abbrev XO (u : Value) (rs : List Rc.RS) (l : List Rc.Smp) (m : Rw.Sl) (ms : List Mt.M) : Ob.Rel := Tens (Rw.RowO Rc.layS 42 u rs) (RestO rs l m ms)
theorem thingX (u : Value) (rs : List Rc.RS) (l : List Rc.Smp) (m : Rw.Sl) (ms : List Mt.M) : Thing (XO u rs l m ms) := Tens.ob (Rw.thingRow _ _ _ _) (thingRest _ _ _ _)
theorem x_view {u : Value} {rs : List Rc.RS} {l : List Rc.Smp} {m : Rw.Sl} {ms : List Mt.M} {k a b : Int} {w : World} {S : Nat → Prop} (h : XO u rs l m ms w S) : Rc.RView w S (.agg #[.int .i64 k, u, m.v, .int .i64 a, .int .i64 b]) ⟨k, l, ms, a, b⟩ := by
  obtain ⟨A, B, k1, k2, -, k4⟩ := h
  obtain ⟨A', c', rfl, -, -⟩ := Rw.View.shape (Rw.Mine.view k1.1)
  exact ⟨⟨A', rs.length, c'⟩, m, rfl, ⟨rs, (Rw.Mine.view k1.1).mono fun b _ hb => (k4 b).2 (.inl (k1.2.1 b hb)), k2.1, fun i h1 h2 => Rc.innS.mono (k2.2.1 i h1 h2) fun x _ hx => (k4 x).2 (.inr hx)⟩, Rw.View.mono k2.2.2.1 fun x _ hx => (k4 x).2 (.inr hx)⟩
theorem rest_add {rs : List Rc.RS} {l : List Rc.Smp} {m : Rw.Sl} {ms : List Mt.M} {w : World} {S : Nat → Prop} (h : RestO rs l m ms w S) {k : Nat} (h1 : k < rs.length) (h2 : k < l.length) : RestO (rs ++ [rs[k]]) (l ++ [l[k]]) m ms w S := by
  refine ⟨by simp [h.1], fun i k1 k2 => ?_, h.2.2.1, h.2.2.2⟩
  have hl := h.1
  by_cases hi : i < rs.length
  · rw [List.getElem_append_left hi, List.getElem_append_left (by omega)]
    exact h.2.1 i hi (by omega)
  · have e1 : i = rs.length := by simp at k1; omega
    subst e1
    rw [List.getElem_append_right (Nat.le_refl _)]
    simp only [hl]
    rw [List.getElem_append_right (Nat.le_refl _)]
    simp only [Nat.sub_self, List.getElem_cons_zero]
    exact h.2.1 k h1 h2
theorem xMade {I : Ob.Rel} (hI : Thing I) {w0 w w' : World} {u : Value} {r : Rc.R} (H : Ob.Own I w0 w) (ho : Rc.OwnN w w' u r) (hu : New0 w w') : ∃ (A : Option Addr) (c : Nat) (rs : List Rc.RS) (ma : Option Addr) (mc : Nat), u = .agg #[.int .i64 r.kind, .slice A r.smp.length c, .slice ma r.ms.length mc, .int .i64 r.frm, .int .i64 r.til] ∧ Ob.Own (Tens I (XO (.slice A r.smp.length c) rs r.smp ⟨ma, r.ms.length, mc⟩ r.ms)) w0 w' := by
  obtain ⟨A, c, rs, m, T, h1, h2, h3, h4, h5, h6, h7⟩ := ho
  rw [h4] at h1 h2 h3
  obtain ⟨ma, mn, mc⟩ := m
  obtain ⟨_, _, em, -, -⟩ := Rw.View.shape h6
  injection em with em1 em2 em3
  subst em2
  refine ⟨A, c, rs, ma, mc, h1, Ob.Own.new hI H (T := fun x => (Value.slice A r.smp.length c).ownBlock = some x ∨ T x) ⟨fun x => (Value.slice A r.smp.length c).ownBlock = some x, T, ⟨h2, fun x hx => hx, fun x hx => Rw.Mine.lt h2 hx⟩, ⟨h4, h5, h6, fun x hx => (h7 x hx).2⟩, fun b hb => (h3 b hb).2, fun b => Iff.rfl⟩ (fun x hx => ?_) hu⟩
  rcases hx with hx | hx
  · exact (h3 x hx).1
  · exact (h7 x hx).1
theorem boxMade5 {I : Ob.Rel} (hI : Thing I) {w0 w : World} (H : Ob.Own I w0 w) (a b c d e : Value) : Ob.Own (Tens I (Rc.BoxO w.heap.size ⟨a, b, c, d, e⟩)) w0 (w.alloc (.cells #[a, b, c, d, e] 34 (0, 0))) := Rc.boxMade hI H ⟨a, b, c, d, e⟩
/-- Apply, of a record that is an object. -/
theorem pappX {X J : Ob.Rel} (hX : Thing X) (hJ : Thing J) {p : Nat} {g : H} {u : Value} {r : Rc.R} {w0 w : World} (h : Ob.Own (Tens (IsPH p g) (Tens X J)) w0 w) (hv : ∀ S, X w S → Rc.RView w S u r) (hs : Srt g) (hb : Rc.Bnd r) (hsane : SaneN r.smp.length g) (hsl : ∀ x ∈ r.smp, x.1.length ≤ 1000000000) :
    Calls Tryz.prog 9 #[.pointer (some ⟨p, 0, none⟩), u] w fun e w' => e = .returned (.int .i64 (tr g r : Int)) ∧ Ob.Own (Tens (IsPH p (app g r)) (Tens X J)) w0 w' := by
  obtain ⟨⟨S, ⟨A, B, h1, ⟨C, D, h2, h3, h4, h5⟩, h6, h7⟩, h8⟩, hbel⟩ := h
  have hCA : ∀ b, C b → ¬ A b := fun b hb hA => h6 b hA ((h5 b).2 (.inl hb))
  have hJ2 : Thing (Tens X J) := Tens.ob hX hJ
  have hB : Tens X J w B := ⟨C, D, h2, h3, h4, h5⟩
  refine (papp_any w h1 hs C u r (hv C h2) hCA hb hsane hsl).mono ?_
  rintro e w' ⟨he, ⟨A', k1, k2, k3⟩, ku⟩
  refine ⟨he, ⟨fun b => A' b ∨ B b, ⟨A', B, k1, hJ2.kept w w' B hB (fun b hb => ku.block b (hJ2.lt w B hB b hb) (fun hA => h6 b hA hb)) ku.size, fun b hb hB2 => ?_, fun b => Iff.rfl⟩, fun b hb => ?_⟩, hbel.trans (ku.below hbel.size fun b hb => h8 b ((h7 b).2 (.inl hb)))⟩
  · rcases k3 b hb with h | h
    · exact h6 b h hB2
    · have := hJ2.lt w B hB b hB2; omega
  · rcases hb with hb | hb
    · rcases k3 b hb with h | h
      · exact h8 b ((h7 b).2 (.inl h))
      · exact Nat.le_trans hbel.size h
    · exact h8 b ((h7 b).2 (.inr hb))
theorem whole_old {g : H} (hs : Srt g) {r : Rc.R} (hc : Rc.Commit r) (ht : tr g r = 0) {k : Nat} (hk : k < r.smp.length) (h32 : r.smp.length < 32) : tr g ⟨r.kind, r.smp ++ [r.smp[k]], r.ms, r.frm, r.til⟩ = 14 := by
  obtain ⟨-, gf, hp, -⟩ := tr_zero ht
  have hco : Rc.Commit ⟨r.kind, r.smp ++ [r.smp[k]], r.ms, r.frm, r.til⟩ := ⟨hc.kind, hc.ms, hc.frm, hc.til, by simp, by simp; omega, fun x hx => by
    rcases List.mem_append.1 hx with hx | hx
    · exact hc.ok x hx
    · rw [List.mem_singleton.1 hx]; exact hc.ok _ (List.getElem_mem hk)⟩
  have hchk := Rc.chk_zero.2 (.inl hco)
  have hp2 : puts g (r.smp ++ [r.smp[k]]) = none := puts_twice hs hp (List.getElem_mem hk)
  rw [tr, if_neg (by simp [hchk]), hp2]
theorem kk_is (x : Int) {n : Nat} (h1 : 1 ≤ n) (h2 : n < 32) : ∃ k : Nat, k < n ∧ wrap64 ((IntKind.u64.wrap x).tmod (n : Int)) = (k : Int) := by
  have ha : 0 ≤ IntKind.u64.wrap x := by rw [IntKind.wrap_u64]; omega
  obtain ⟨a, hae⟩ : ∃ a, IntKind.u64.wrap x = a := ⟨_, rfl⟩
  rw [hae] at ha ⊢
  rw [Int.tmod_eq_emod_of_nonneg ha]
  have hq1 := Int.emod_nonneg a (show (n : Int) ≠ 0 by omega)
  have hq2 := Int.emod_lt_of_pos a (show (0 : Int) < (n : Int) by omega)
  obtain ⟨q, hq⟩ : ∃ q, a % (n : Int) = q := ⟨_, rfl⟩
  rw [hq] at hq1 hq2 ⊢
  exact ⟨q.toNat, by omega, by unfold wrap64; omega⟩
theorem xOut {P R0 L B : Ob.Rel} {w0 w : World} (H : Ob.Own (Tens P (Tens (Tens R0 L) B)) w0 w) : Ob.Own (Tens (Tens P (Tens L B)) R0) w0 w :=
  H.mono fun S h => Tens.cossa (Tens.mapR (fun A h => Tens.swap (Tens.assoc h)) h)
theorem xIn {P R0 L L' B : Ob.Rel} {w0 w : World} (H : Ob.Own (Tens (Tens P (Tens L B)) R0) w0 w) (k : ∀ S, L w S → L' w S) : Ob.Own (Tens P (Tens (Tens R0 L') B)) w0 w :=
  H.mono fun S h => Tens.mapR (fun A h => Tens.cossa (Tens.mapR (fun A h => Tens.mapL (fun A h => k A h) h) (Tens.swap h))) (Tens.assoc h)
theorem boxStore {P X : Ob.Rel} (hP : Thing P) (hX : Thing X) {g : Nat} {v v' : Rc.Fv} {w0 w : World} (H : Ob.Own (Tens P (Tens X (Rc.BoxO g v))) w0 w) {i : Nat} {x : Value} (hn : Rc.Five 34 g v' (w.setCell ⟨g, i, none⟩ x)) : Ob.Own (Tens P (Tens X (Rc.BoxO g v'))) w0 (w.setCell ⟨g, i, none⟩ x) := by
  obtain ⟨A1, h1, go1⟩ := H.right hP
  obtain ⟨A2, h2, go2⟩ := Tens.right hX h1
  exact go1 _ _ (go2 _ _ (Rc.boxStep h2 hn))
end Hd
end Go.Proofs.YtfheehlfodoimaaGreat
