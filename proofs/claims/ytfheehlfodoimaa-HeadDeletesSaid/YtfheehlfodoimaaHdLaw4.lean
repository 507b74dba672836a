/- Layer 13: the law HeadWhole. -/
import Derived.Test.YtfheehlfodoimaaHdLaw3
import Derived.Test.YtfheehlfodoimaaPHeld
set_option maxRecDepth 100000
namespace Go.Proofs.Ytfheehlfodoimaa
open Go.RowKit Go.Sort
namespace Hd
open Bit Dsk Ob Dig
set_option linter.unusedVariables false
set_option linter.unusedSimpArgs false

theorem room_nextC {g : H} {r : Rc.R} {j c : Nat} (hg : SaneN (1000 * (c - j)) g) (hj : j < c) (hr : Small r) : SaneN r.smp.length g ∧ SaneN (1000 * (c - (j + 1))) (app g r) := by
  have h1 := hr.2.1
  exact ⟨hg.less (by omega), SaneN.app (hg.less (by omega)) hr.lab⟩
/-- A head behind some records. -/
noncomputable def apps (g : H) (l : List Rc.R) : H := l.foldl app g
theorem apps_step {g : H} {l : List Rc.R} {j : Nat} (h : j < l.length) : apps g (l.take (j + 1)) = app (apps g (l.take j)) l[j] := by
  unfold apps
  rw [List.take_succ_eq_append_getElem h, List.foldl_append]; rfl
theorem pts_ok {k : Nat} {g : H} (hh : SaneN k g) : points g ≤ 1000000000000000000 := by
  have h1 := points_le hh
  have h2 := hh.len
  have h3 : g.length * 1000000000 ≤ 1000000000 * 1000000000 := Nat.mul_le_mul_right _ (by omega)
  omega
/-- What belongs to a record beside its row of samples. -/
def RestO (rs : List Rc.RS) (l : List Rc.Smp) (m : Rw.Sl) (ms : List Mt.M) : Ob.Rel := fun w S => rs.length = l.length ∧ (∀ i (h1 : i < rs.length) (h2 : i < l.length), Rc.innS.rel w S rs[i] l[i]) ∧ Mt.View w S m.v ms ∧ ∀ x, S x → x < w.heap.size
theorem thingRest (rs : List Rc.RS) (l : List Rc.Smp) (m : Rw.Sl) (ms : List Mt.M) : Thing (RestO rs l m ms) := ⟨fun w w' S h hk hs => ⟨h.1, fun i h1 h2 => ⟨(h.2.1 i h1 h2).1, (h.2.1 i h1 h2).2.1, row_keep hk (h.2.1 i h1 h2).2.2⟩, row_keep hk h.2.2.1, fun x hx => Nat.lt_of_lt_of_le (h.2.2.2 x hx) hs⟩, fun w S h x hx => h.2.2.2 x hx⟩
abbrev XO (u : Value) (rs : List Rc.RS) (l : List Rc.Smp) (m : Rw.Sl) (ms : List Mt.M) : Ob.Rel := Tens (Rw.RowO Rc.layS 52 u rs) (RestO rs l m ms)
theorem thingX (u : Value) (rs : List Rc.RS) (l : List Rc.Smp) (m : Rw.Sl) (ms : List Mt.M) : Thing (XO u rs l m ms) := Tens.ob (Rw.thingRow _ _ _ _) (thingRest _ _ _ _)
theorem x_view {u : Value} {rs : List Rc.RS} {l : List Rc.Smp} {m : Rw.Sl} {ms : List Mt.M} {k a b : Int} {w : World} {S : Nat → Prop} (h : XO u rs l m ms w S) : Rc.RView w S (.agg #[.int .i64 k, u, m.v, .int .i64 a, .int .i64 b]) ⟨k, l, ms, a, b⟩ := by
  obtain ⟨A, B, k1, k2, -, k4⟩ := h
  obtain ⟨A', c', rfl, -, -⟩ := Rw.View.shape (Rw.Mine.view k1.1)
  exact ⟨⟨A', rs.length, c'⟩, m, rfl, ⟨rs, (Rw.Mine.view k1.1).mono fun b _ hb => (k4 b).2 (.inl (k1.2.1 b hb)), k2.1, fun i h1 h2 => Rc.innS.mono (k2.2.1 i h1 h2) fun x _ hx => (k4 x).2 (.inr hx)⟩, Rw.View.mono k2.2.2.1 fun x _ hx => (k4 x).2 (.inr hx)⟩
theorem rest_add {rs : List Rc.RS} {l : List Rc.Smp} {m : Rw.Sl} {ms : List Mt.M} {w : World} {S : Nat → Prop} (h : RestO rs l m ms w S) {k : Nat} (h1 : k < rs.length) (h2 : k < l.length) : RestO (rs ++ [rs[k]]) (l ++ [l[k]]) m ms w S := by
  refine ⟨by simp [h.1], fun i k1 k2 => ?_, h.2.2.1, h.2.2.2⟩
  have hl := h.1
  by_cases hi : i < rs.length
  · rw [List.getElem_append_left hi, List.getElem_append_left (by omega)]
    exact h.2.1 i hi (by omega)
  · have e1 : i = rs.length := by simp at k1; omega
    subst e1
    rw [List.getElem_append_right (Nat.le_refl _)]
    simp only [hl]
    rw [List.getElem_append_right (Nat.le_refl _)]
    simp only [Nat.sub_self, List.getElem_cons_zero]
    exact h.2.1 k h1 h2
theorem xMade {I : Ob.Rel} (hI : Thing I) {w0 w w' : World} {u : Value} {r : Rc.R} (H : Ob.Own I w0 w) (ho : Rc.OwnN w w' u r) (hu : New0 w w') : ∃ (A : Option Addr) (c : Nat) (rs : List Rc.RS) (ma : Option Addr) (mc : Nat), u = .agg #[.int .i64 r.kind, .slice A r.smp.length c, .slice ma r.ms.length mc, .int .i64 r.frm, .int .i64 r.til] ∧ Ob.Own (Tens I (XO (.slice A r.smp.length c) rs r.smp ⟨ma, r.ms.length, mc⟩ r.ms)) w0 w' := by
  obtain ⟨A, c, rs, m, T, h1, h2, h3, h4, h5, h6, h7⟩ := ho
  rw [h4] at h1 h2 h3
  obtain ⟨ma, mn, mc⟩ := m
  obtain ⟨_, _, em, -, -⟩ := Rw.View.shape h6
  injection em with em1 em2 em3
  subst em2
  refine ⟨A, c, rs, ma, mc, h1, Ob.Own.new hI H (T := fun x => (Value.slice A r.smp.length c).ownBlock = some x ∨ T x) ⟨fun x => (Value.slice A r.smp.length c).ownBlock = some x, T, ⟨h2, fun x hx => hx, fun x hx => Rw.Mine.lt h2 hx⟩, ⟨h4, h5, h6, fun x hx => (h7 x hx).2⟩, fun b hb => (h3 b hb).2, fun b => Iff.rfl⟩ (fun x hx => ?_) hu⟩
  rcases hx with hx | hx
  · exact (h3 x hx).1
  · exact (h7 x hx).1
theorem boxMade5 {I : Ob.Rel} (hI : Thing I) {w0 w : World} (H : Ob.Own I w0 w) (a b c d e : Value) : Ob.Own (Tens I (Rc.BoxO w.heap.size ⟨a, b, c, d, e⟩)) w0 (w.alloc (.cells #[a, b, c, d, e] 34 (0, 0))) := Rc.boxMade hI H ⟨a, b, c, d, e⟩
/-- Apply, of a record that is an object. -/
theorem pappX {X J : Ob.Rel} (hX : Thing X) (hJ : Thing J) {p : Nat} {g : H} {u : Value} {r : Rc.R} {w0 w : World} (h : Ob.Own (Tens (IsPH p g) (Tens X J)) w0 w) (hv : ∀ S, X w S → Rc.RView w S u r) (hs : Srt g) (hb : Rc.Bnd r) (hsane : SaneN r.smp.length g) (hsl : ∀ x ∈ r.smp, x.1.length ≤ 1000000000) :
    Calls Try.prog 11 #[.pointer (some ⟨p, 0, none⟩), u] w fun e w' => e = .returned (.int .i64 (tr g r : Int)) ∧ Ob.Own (Tens (IsPH p (app g r)) (Tens X J)) w0 w' := by
  obtain ⟨⟨S, ⟨A, B, h1, ⟨C, D, h2, h3, h4, h5⟩, h6, h7⟩, h8⟩, hbel⟩ := h
  have hCA : ∀ b, C b → ¬ A b := fun b hb hA => h6 b hA ((h5 b).2 (.inl hb))
  have hJ2 : Thing (Tens X J) := Tens.ob hX hJ
  have hB : Tens X J w B := ⟨C, D, h2, h3, h4, h5⟩
  refine (papp_any w h1 hs C u r (hv C h2) hCA hb hsane hsl).mono ?_
  rintro e w' ⟨he, ⟨A', k1, k2, k3⟩, ku⟩
  refine ⟨he, ⟨fun b => A' b ∨ B b, ⟨A', B, k1, hJ2.kept w w' B hB (fun b hb => ku.block b (hJ2.lt w B hB b hb) (fun hA => h6 b hA hb)) ku.size, fun b hb hB2 => ?_, fun b => Iff.rfl⟩, fun b hb => ?_⟩, hbel.trans (ku.below hbel.size fun b hb => h8 b ((h7 b).2 (.inl hb)))⟩
  · rcases k3 b hb with h | h
    · exact h6 b h hB2
    · have := hJ2.lt w B hB b hB2; omega
  · rcases hb with hb | hb
    · rcases k3 b hb with h | h
      · exact h8 b ((h7 b).2 (.inl h))
      · exact Nat.le_trans hbel.size h
    · exact h8 b ((h7 b).2 (.inr hb))
theorem whole_old {g : H} (hs : Srt g) {r : Rc.R} (hc : Rc.Commit r) (ht : tr g r = 0) {k : Nat} (hk : k < r.smp.length) (h32 : r.smp.length < 32) : tr g ⟨r.kind, r.smp ++ [r.smp[k]], r.ms, r.frm, r.til⟩ = 14 := by
  obtain ⟨-, gf, hp, -⟩ := tr_zero ht
  have hco : Rc.Commit ⟨r.kind, r.smp ++ [r.smp[k]], r.ms, r.frm, r.til⟩ := ⟨hc.kind, hc.ms, hc.frm, hc.til, by simp, by simp; omega, fun x hx => by
    rcases List.mem_append.1 hx with hx | hx
    · exact hc.ok x hx
    · rw [List.mem_singleton.1 hx]; exact hc.ok _ (List.getElem_mem hk)⟩
  have hchk := Rc.chk_zero.2 (.inl hco)
  have hp2 : puts g (r.smp ++ [r.smp[k]]) = none := puts_twice hs hp (List.getElem_mem hk)
  rw [tr, if_neg (by simp [hchk]), hp2]
theorem kk_is (x : Int) {n : Nat} (h1 : 1 ≤ n) (h2 : n < 32) : ∃ k : Nat, k < n ∧ wrap64 ((IntKind.u64.wrap x).tmod (n : Int)) = (k : Int) := by
  have ha : 0 ≤ IntKind.u64.wrap x := by rw [IntKind.wrap_u64]; omega
  obtain ⟨a, hae⟩ : ∃ a, IntKind.u64.wrap x = a := ⟨_, rfl⟩
  rw [hae] at ha ⊢
  rw [Int.tmod_eq_emod_of_nonneg ha]
  have hq1 := Int.emod_nonneg a (show (n : Int) ≠ 0 by omega)
  have hq2 := Int.emod_lt_of_pos a (show (0 : Int) < (n : Int) by omega)
  obtain ⟨q, hq⟩ : ∃ q, a % (n : Int) = q := ⟨_, rfl⟩
  rw [hq] at hq1 hq2 ⊢
  exact ⟨q.toNat, by omega, by unfold wrap64; omega⟩
theorem xOut {P R0 L B : Ob.Rel} {w0 w : World} (H : Ob.Own (Tens P (Tens (Tens R0 L) B)) w0 w) : Ob.Own (Tens (Tens P (Tens L B)) R0) w0 w :=
  H.mono fun S h => Tens.cossa (Tens.mapR (fun A h => Tens.swap (Tens.assoc h)) h)
theorem xIn {P R0 L L' B : Ob.Rel} {w0 w : World} (H : Ob.Own (Tens (Tens P (Tens L B)) R0) w0 w) (k : ∀ S, L w S → L' w S) : Ob.Own (Tens P (Tens (Tens R0 L') B)) w0 w :=
  H.mono fun S h => Tens.mapR (fun A h => Tens.cossa (Tens.mapR (fun A h => Tens.mapL (fun A h => k A h) h) (Tens.swap h))) (Tens.assoc h)
theorem boxStore {P X : Ob.Rel} (hP : Thing P) (hX : Thing X) {g : Nat} {v v' : Rc.Fv} {w0 w : World} (H : Ob.Own (Tens P (Tens X (Rc.BoxO g v))) w0 w) {i : Nat} {x : Value} (hn : Rc.Five 34 g v' (w.setCell ⟨g, i, none⟩ x)) : Ob.Own (Tens P (Tens X (Rc.BoxO g v'))) w0 (w.setCell ⟨g, i, none⟩ x) := by
  obtain ⟨A1, h1, go1⟩ := H.right hP
  obtain ⟨A2, h2, go2⟩ := Tens.right hX h1
  exact go1 _ _ (go2 _ _ (Rc.boxStep h2 hn))
set_option maxHeartbeats 25600000 in
theorem whole_true (w : World) (v rv : Value) (at0 : Int) (o : IsRecs v w) (orr : Rc.IsRec rv w) : Calls Try.prog 6 #[v, rv, .int .i64 at0] w fun e w' => e = .returned (.bool true) ∧ Below w.heap.size w w' := by
  obtain ⟨l, hv, hb, hl⟩ := o
  obtain ⟨A, c, rfl, -, -⟩ := Rw.DView.shape hv
  obtain ⟨r, hrv, hrb, hrl1, hrl2⟩ := orr
  obtain ⟨Ar, cr, Ar', cr', rfl, hrs, hrm⟩ := Rc.RView.shape hrv
  have hll : l.length ≤ 9223372036854775807 := by omega
  obtain ⟨wx, hwx⟩ : ∃ wx, w.alloc (.cells #[.int .i64 r.kind, .slice Ar r.smp.length cr, .slice Ar' r.ms.length cr', .int .i64 r.frm, .int .i64 r.til] 34 (0, 0)) = wx := ⟨_, rfl⟩
  have ux := (Upon.refl (fun _ => False) w).alloc (.cells #[.int .i64 r.kind, .slice Ar r.smp.length cr, .slice Ar' r.ms.length cr', .int .i64 r.frm, .int .i64 r.til] 34 (0, 0))
  have hbx := Rc.box5 w r.kind (.slice Ar r.smp.length cr) (.slice Ar' r.ms.length cr') r.frm r.til
  rw [hwx] at ux hbx
  have HG := Lib.hid (fun w1 (hu : New0 wx w1) => great_any w1 _ l (Rw.DView.new hv (ux.trans hu)) hb hl)
  have HGr := Lib.hid (fun w1 (hu : New0 wx w1) => Rc.great_any w1 _ r (hrv.new (ux.trans hu)) hrb hrl1 hrl2)
  have HOr := Lib.hid (fun w1 (hu : New0 wx w1) => Rc.own_most w1 _ r (hrv.new (ux.trans hu)) hrb hrl1 hrl2)
  have hR := Lib.hid (fun w1 (hu : New0 wx w1) i (hi : i < l.length) => RsView.at (Rw.DView.new hv (ux.trans hu)) hi)
  have hX := Lib.hid (fun w1 (hu : New0 wx w1) => hbx.new hu)
  have hfin := Lib.hid (fun w1 (hu : New0 wx w1) => upBel (ux.trans hu))
  replace hb := Lib.hid hb
  replace hrb := Lib.hid hrb
  replace hwx := Lib.hid hwx
  clear hv hrv hrs hrm ux hbx
  go_enter Try.func6, Try.ntmps6
  go_wp2_with fail
  rw [hwx.out]
  refine (works_any wx).mono ?_
  rintro e w1 ⟨rfl, hu1⟩
  have HG1 := Lib.hid (HG.out _ hu1)
  replace hu1 := Lib.hid hu1
  clear HG hwx
  go_wp2_with fail
  refine HG1.out.mono ?_
  rintro e w2 ⟨bg, rfl, hu2, hsm⟩
  have hu2' := hu1.out.trans hu2
  obtain ⟨k0, k1, k2, k3, k4⟩ := hX.out _ hu2'
  have HG2 := Lib.hid (HGr.out _ hu2')
  replace hu2' := Lib.hid hu2'
  clear HG1 hu1 hu2 HGr
  cases bg with
  | true =>
    clear hsm HG2
    go_wp2_with fail
    go_ret
    exact ⟨rfl, hfin.out _ hu2'.out⟩
  | false =>
    replace hsm := Lib.hid (hsm rfl).2
    go_wp2_with fail
    refine HG2.out.mono ?_
    rintro e w3 ⟨bg2, rfl, hu3, hsr⟩
    have hu3' := hu2'.out.trans hu3
    clear k0 k1 k2 k3 k4
    obtain ⟨k0, k1, k2, k3, k4⟩ := hX.out _ hu3'
    replace hu3' := Lib.hid hu3'
    clear HG2 hu3 hu2'
    cases bg2 with
    | true =>
      clear hsr
      go_wp2_with fail
      go_ret
      exact ⟨rfl, hfin.out _ hu3'.out⟩
    | false =>
      replace hsr : Hid (Small r) := Lib.hid (hsr rfl)
      by_cases hk : r.kind = 1
      case neg =>
        have dk : (r.kind != 1) = true := by rw [bne_iff_ne]; exact hk
        go_wp2_with fail
        go_ret
        exact ⟨rfl, hfin.out _ hu3'.out⟩
      have dk : (r.kind != 1) = false := by rw [hk]; rfl
      replace hk := Lib.hid hk
      go_wp2_with fail
      refine (pnew_any w3).mono ?_
      rintro e w4 ⟨p, S4, rfl, hp, hS4, hu4⟩
      have h4 := Lib.hid (phStart Mt.thingNo (noStart hu3'.out) hp hS4 hu4)
      clear hp hS4 hu4 hu3' k0 k1 k2 k3 k4 dk
      go_wp2_with fail
      go_loopw [8] (fun ov wr => ∃ (j : Nat) (g : H), ov = .int .i64 (j : Int) ∧ j ≤ l.length ∧ j ≤ 30 ∧ Hid (g = apps [] (l.take j)) ∧ Hid (Srt g) ∧ Hid (SaneN (1000 * (100 - j)) g) ∧ Hid (Ob.Own (Tens (IsPH p g) (Mt.NoO)) wx wr)) (fun ov _ => l.length - (intOf ov).toNat)
      case atStart => exact ⟨0, [], rfl, Nat.zero_le _, Nat.zero_le _, Lib.hid rfl, Lib.hid srt_nil, Lib.hid (SaneN.nil (by decide)), h4⟩
      case round =>
        obtain ⟨j, g, rfl, hj, hj5, hge, hs, hsn, ho⟩ := hrel
        by_cases hgo : j < l.length ∧ j < 30
        · obtain ⟨hlt, hltK⟩ := hgo
          have d1 : decide ((j : Int) < (l.length : Int)) = true := decide_eq_true (by omega)
          have d2 : decide ((j : Int) < 30) = true := decide_eq_true (by omega)
          obtain ⟨b0, off, A1, c1, A2, c2, rfl, -, x0, x1, x2, x3, x4, hrv, -⟩ := hR.out _ (newOf ho.out.bel) j hlt
          obtain ⟨hb1, hb2, hb3⟩ := hb.out _ (List.getElem_mem hlt)
          have hsj := hsm.out _ (List.getElem_mem hlt)
          have HO := Lib.hid (Rc.own_any wr _ _ hrv hb1 hb2 hb3)
          obtain ⟨hn1, hn2⟩ := room_nextC hsn.out (show j < 100 by omega) hsj
          have hs2' := Lib.hid (hs.out.app l[j])
          have hge' : Hid (app g l[j] = apps [] (l.take (j + 1))) := Lib.hid (by rw [hge.out, apps_step hlt])
          have HA := Lib.hid (fun u w' (k1 : Rc.RView w' (Lb.Nw wr) u l[j]) (k2 : New0 wr w') => pappNew Mt.thingNo ho.out k1 k2 hs.out hb1 hn1 hsj.lab)
          have hn2' := Lib.hid hn2
          obtain ⟨z, hz⟩ : ∃ z : Nat, tr g l[j] = z := ⟨_, rfl⟩
          rw [hz] at HA
          obtain ⟨g2, hg2⟩ : ∃ g2, app g l[j] = g2 := ⟨_, rfl⟩
          rw [hg2] at HA hn2' hs2' hge'
          obtain ⟨rj, hrj⟩ : ∃ rj, l[j] = rj := ⟨_, rfl⟩
          rw [hrj] at x0 x1 x2 x3 x4 HO HA
          clear hrv hb1 hb2 hb3 hsj hn1 hn2 hz hg2 hrj hs hsn ho hge
          go_wp2_with fail
          refine HO.out.mono ?_
          rintro e w5 ⟨u, rfl, hv5, hu5⟩
          obtain ⟨A5, c5, A5', c5', rfl, -, -⟩ := Rc.RView.shape hv5
          have HA5 := Lib.hid (HA.out _ _ hv5 hu5)
          clear HO HA hv5 hu5 x0 x1 x2 x3 x4
          go_wp2_with fail
          refine HA5.out.mono ?_
          rintro e w6 ⟨rfl, h6⟩
          replace h6 := Lib.hid h6
          clear HA5
          go_wp2_with fail
          go_roundw
          case rel => exact ⟨j + 1, g2, by go_num, hlt, hltK, hge', hs2', hn2', h6⟩
          case measure => simp [intOf]; omega
        · have hje : Hid (j = min l.length 30) := Lib.hid (by omega)
          have hcase : (j < l.length ∧ ¬ j < 30) ∨ ¬ j < l.length := by
            by_cases h1 : j < l.length
            · exact .inl ⟨h1, fun h2 => hgo ⟨h1, h2⟩⟩
            · exact .inr h1
          clear hgo
          rcases hcase with ⟨hlt, h5⟩ | hlt
          case' inl =>
            have d1 : decide ((j : Int) < (l.length : Int)) = true := decide_eq_true (by omega)
            have d2 : decide ((j : Int) < 30) = false := decide_eq_false (by omega)
          case' inr =>
            have d1 : decide ((j : Int) < (l.length : Int)) = false := decide_eq_false (by omega)
          all_goals
            clear h4
            have hsg : SaneN 70000 g := hsn.out.less (by omega)
            have hHC := Lib.hid (fun w1 S (k : IsPH p g w1 S) => pcounts_any w1 k hs.out hsg.sane (Nat.le_trans (pts_ok hsg) (by decide)))
            obtain ⟨Sp, hSp⟩ := ho.out.seeL
            have HC1 := Lib.hid (hHC.out _ _ hSp)
            have hsg' := Lib.hid hsg
            clear hSp hsg hsn hge
            go_wp2_with fail
            refine HC1.out.mono ?_
            rintro e w5 ⟨rfl, hu5⟩
            have h5 := Lib.hid ((ho.out.dropr).upon0 (thingPH _ _) hu5)
            obtain ⟨k0, k1, k2, k3, k4⟩ := hX.out _ (newOf h5.out.bel)
            have HO5 := Lib.hid (HOr.out _ (newOf h5.out.bel))
            clear HC1 hu5 ho
            go_wp2_with fail
            refine HO5.out.mono ?_
            rintro e w6 ⟨u6, rfl, -, hu6, hon⟩
            obtain ⟨A6, c6, rs, ma, mc, rfl, h6⟩ := xMade (thingPH _ _) h5.out hon hu6
            have h7 := (boxMade5 (Tens.ob (thingPH p g) (thingX _ _ _ _ _)) h6 (.int .i64 r.kind) (.slice A6 r.smp.length c6) (.slice ma r.ms.length mc) (.int .i64 r.frm) (.int .i64 r.til)).assoc
            clear k0 k1 k2 k3 k4
            obtain ⟨k0, k1, k2, k3, k4⟩ := hX.out _ (newOf h7.bel)
            have hF := cell_new w6 (.cells #[.int .i64 r.kind, .slice A6 r.smp.length c6, .slice ma r.ms.length mc, .int .i64 r.frm, .int .i64 r.til] 34 (0, 0))
            have g1 : (w6.alloc (.cells #[.int .i64 r.kind, .slice A6 r.smp.length c6, .slice ma r.ms.length mc, .int .i64 r.frm, .int .i64 r.til] 34 (0, 0))).cell? ⟨w6.heap.size, 1, none⟩ = some (.slice A6 r.smp.length c6) := by rw [Lib.cell_of_heap hF]; rfl
            obtain ⟨w7, hw7⟩ : ∃ w7, w6.alloc (.cells #[.int .i64 r.kind, .slice A6 r.smp.length c6, .slice ma r.ms.length mc, .int .i64 r.frm, .int .i64 r.til] 34 (0, 0)) = w7 := ⟨_, rfl⟩
            have HO7 := Lib.hid (HOr.out _ (newOf h7.bel))
            rw [hw7] at h7 HO7
            replace h7 := Lib.hid h7
            replace hw7 := Lib.hid hw7
            clear HO5 h5 hu6 hon h6 hF
            by_cases hn1 : r.smp.length < 1
            · have e1 : decide ((r.smp.length : Int) < 1) = true := decide_eq_true (by omega)
              go_wp2_with fail
              go_ret
              exact ⟨rfl, hfin.out _ (by rw [hw7.out]; exact newOf h7.out.bel)⟩
            have e1 : decide ((r.smp.length : Int) < 1) = false := decide_eq_false (by omega)
            by_cases hn32 : 32 ≤ r.smp.length
            · have e2 : decide ((32 : Int) ≤ (r.smp.length : Int)) = true := decide_eq_true (by omega)
              go_wp2_with fail
              go_ret
              exact ⟨rfl, hfin.out _ (by rw [hw7.out]; exact newOf h7.out.bel)⟩
            have e2 : decide ((32 : Int) ≤ (r.smp.length : Int)) = false := decide_eq_false (by omega)
            go_wp2_with fail
            rw [hw7.out]
            refine HO7.out.mono ?_
            rintro e w8 ⟨u8, rfl, hv8, hu8, -⟩
            obtain ⟨A8, c8, A8', c8', rfl, -, -⟩ := Rc.RView.shape hv8
            have h8 := Lib.hid (h7.out.upon0 (Tens.ob (thingPH _ _) (Tens.ob (thingX _ _ _ _ _) (Rc.thingBox _ _))) hu8)
            obtain ⟨S8, hS8⟩ := h8.out.seeL
            have hsmp1 : SaneN r.smp.length g := hsg'.out.less (by omega)
            have HT8 := Lib.hid (ptry_any w8 hS8 hs.out _ _ r hv8 hrb.out hsmp1 hsr.out.lab)
            obtain ⟨z, hz⟩ : ∃ z : Nat, tr g r = z := ⟨_, rfl⟩
            rw [hz] at HT8
            replace hz := Lib.hid hz
            clear HO7 hv8 hu8 h7 hS8 k0 k1 k2 k3 k4 g1 e1 e2
            go_wp2_with fail
            refine HT8.out.mono ?_
            rintro e w9 ⟨rfl, hu9⟩
            have h9 := Lib.hid (h8.out.upon0 (Tens.ob (thingPH _ _) (Tens.ob (thingX _ _ _ _ _) (Rc.thingBox _ _))) hu9)
            clear HT8 h8 hu9
            by_cases hz0 : z = 0
            case neg =>
              have dz : ((z : Int) != 0) = true := by rw [bne_iff_ne]; omega
              go_wp2_with fail
              go_ret
              exact ⟨rfl, hfin.out _ (newOf h9.out.bel)⟩
            subst hz0
            obtain ⟨S9, hS9⟩ := h9.out.dropl.seeR
            obtain ⟨g0, g1, g2, g3, g4⟩ := hS9.1.cells
            simp only at g0 g1 g2 g3 g4
            have gf := hS9.1.frozen 1
            obtain ⟨k, hkn, hkk⟩ := kk_is at0 (n := r.smp.length) (by omega) (by omega)
            have hpm := xOut h9.out
            have hmi := Rw.rowSee hpm
            have hlr : rs.length = r.smp.length := by
              obtain ⟨SL, hSL⟩ := hpm.dropr.dropl.seeL
              exact hSL.1
            obtain ⟨gb, rfl⟩ : ∃ gb, A6 = some ⟨gb, 0, none⟩ := by
              rcases Rw.Mine.shape hmi with ⟨-, h0⟩ | ⟨gb, cc, e, -, -, -⟩
              · rw [h0] at hlr; simp at hlr; omega
              · injection e with e1 e2 e3
                exact ⟨gb, e1⟩
            have hkr : k < rs.length := by omega
            have y0 := Rw.Mine.cells hmi hkr (t := 0) rfl
            have y1 := Rw.Mine.cells hmi hkr (t := 1) rfl
            have y2 := Rw.Mine.cells hmi hkr (t := 2) rfl
            obtain ⟨xk, hxk⟩ : ∃ xk, rs[k] = xk := ⟨_, rfl⟩
            rw [hxk] at y0 y1 y2
            obtain ⟨⟨xa, xn, xc⟩, xt, xv⟩ := xk
            replace y0 : w9.cell? ⟨gb, k * 3, none⟩ = some (.slice xa xn xc) := y0
            replace y1 : w9.cell? ⟨gb, k * 3 + 1, none⟩ = some (.int .i64 xt) := y1
            replace y2 : w9.cell? ⟨gb, k * 3 + 2, none⟩ = some (.int .u64 (xv : Int)) := y2
            have hS15 : Hid (∀ w', New0 w9 w' → w'.cell? ⟨w6.heap.size, 1, none⟩ = some (.slice (some ⟨gb, 0, none⟩) r.smp.length c6) ∧ w'.cell? ⟨gb, k * 3, none⟩ = some (.slice xa xn xc) ∧ w'.cell? ⟨gb, k * 3 + 1, none⟩ = some (.int .i64 xt) ∧ w'.cell? ⟨gb, k * 3 + 2, none⟩ = some (.int .u64 (xv : Int))) := Lib.hid (fun w' hu => ⟨Lb.New0.cells hu g1, Lb.New0.cells hu y0, Lb.New0.cells hu y1, Lb.New0.cells hu y2⟩)
            have hcalm : Hid (∀ w', New0 w9 w' → Ob.Own (Tens (Tens (IsPH p g) (Tens (RestO rs r.smp ⟨ma, r.ms.length, mc⟩ r.ms) (Rc.BoxO w6.heap.size ⟨.int .i64 r.kind, .slice (some ⟨gb, 0, none⟩) r.smp.length c6, .slice ma r.ms.length mc, .int .i64 r.frm, .int .i64 r.til⟩))) (Rw.RowO Rc.layS 52 (.slice (some ⟨gb, 0, none⟩) r.smp.length c6) rs)) wx w') := Lib.hid (fun w' hu => hpm.upon0 (Tens.ob (Tens.ob (thingPH _ _) (Tens.ob (thingRest _ _ _ _) (Rc.thingBox _ _))) (Rw.thingRow _ _ _ _)) hu)
            have hX2 := Lib.hid (fun w' => Rc.view_smp w' (⟨xa, xn, xc⟩ : Rw.Sl) xt xv)
            have hlr' := Lib.hid hlr
            have hxk' := Lib.hid hxk
            have hr32 : rs.length ≤ 32 := by omega
            have hn32' : r.smp.length ≤ 32 := by omega
            clear hpm hmi hlr hxk h9 hS9 g0 g2 g3 g4 gf y0 y1 y2
            go_wp2_with fail
            clear g1
            refine HeldL.wp_region_L [8, 9, 10] (S := fun w' => w'.cell? ⟨w6.heap.size, 1, none⟩ = some (.slice (some ⟨gb, 0, none⟩) r.smp.length c6) ∧ w'.cell? ⟨gb, k * 3, none⟩ = some (.slice xa xn xc) ∧ w'.cell? ⟨gb, k * 3 + 1, none⟩ = some (.int .i64 xt) ∧ w'.cell? ⟨gb, k * 3 + 2, none⟩ = some (.int .u64 (xv : Int))) (by kernel_rfl) (hS15.out _ ((Upon.refl _ w9).drew)) (fun hHeld => ?_)
            refine HeldL.wpAnyL_take (i := 0) (fun s => if s = 8 then [1] else []) (oi := _) (v := ?_) rfl (by kernel_rfl) (by kernel_rfl) (by kernel_rfl) (by kernel_rfl) (by kernel_rfl) (fun _ _ _ h => h) (Or.inl ⟨by rfl, ?_⟩) (by assumption) ?_
            rotate_left
            · (intro w hSw; (try dsimp only at hSw); go_simp; (try with_reducible rfl))
            (try simp only [Act.put, List.setIfInBounds_toArray, List.set_cons_zero, List.set_cons_succ])
            refine HeldL.wpAnyL_take (i := 1) (fun s => if s = 8 then [] else []) (oi := _) (v := ?_) rfl (by kernel_rfl) (by kernel_rfl) (by kernel_rfl) (by kernel_rfl) (by kernel_rfl) (fun _ _ _ h => h) (Or.inl ⟨by rfl, ?_⟩) (by assumption) ?_
            rotate_left
            · (intro w hSw; (try dsimp only at hSw); go_simp; (try with_reducible rfl))
            (try simp only [Act.put, List.setIfInBounds_toArray, List.set_cons_zero, List.set_cons_succ])
            refine HeldL.wpAnyL_take (i := 2) (fun s => if s = 8 then [7, 6, 5, 3] else []) (oi := _) (v := ?_) rfl (by kernel_rfl) (by kernel_rfl) (by kernel_rfl) (by kernel_rfl) (by kernel_rfl) (fun _ _ _ h => h) (Or.inl ⟨by rfl, ?_⟩) (by assumption) ?_
            rotate_left
            · (intro w hSw; (try dsimp only at hSw); go_simp; (try with_reducible rfl))
            (try simp only [Act.put, List.setIfInBounds_toArray, List.set_cons_zero, List.set_cons_succ])
            refine HeldL.wpAnyL_take (i := 3) (fun s => if s = 8 then [7, 6, 5] else []) (oi := _) (v := ?_) rfl (by kernel_rfl) (by kernel_rfl) (by kernel_rfl) (by kernel_rfl) (by kernel_rfl) (fun _ _ _ h => h) (Or.inl ⟨by rfl, ?_⟩) (by assumption) ?_
            rotate_left
            · (intro w hSw; (try dsimp only at hSw); go_simp; (try with_reducible rfl))
            (try simp only [Act.put, List.setIfInBounds_toArray, List.set_cons_zero, List.set_cons_succ])
            refine HeldL.wpAnyL_take (i := 4) (fun s => if s = 8 then [7, 6, 5] else []) (oi := _) (v := ?_) rfl (by kernel_rfl) (by kernel_rfl) (by kernel_rfl) (by kernel_rfl) (by kernel_rfl) (fun _ _ _ h => h) (Or.inl ⟨by rfl, ?_⟩) (by assumption) ?_
            rotate_left
            · (intro w hSw; (try dsimp only at hSw); go_simp; (try with_reducible rfl))
            (try simp only [Act.put, List.setIfInBounds_toArray, List.set_cons_zero, List.set_cons_succ])
            refine HeldL.wpAnyL_take (i := 5) (fun s => if s = 8 then [7, 6] else []) (oi := _) (v := ?_) rfl (by kernel_rfl) (by kernel_rfl) (by kernel_rfl) (by kernel_rfl) (by kernel_rfl) (fun _ _ _ h => h) (Or.inl ⟨by rfl, ?_⟩) (by assumption) ?_
            rotate_left
            · (intro w hSw; (try dsimp only at hSw); go_simp; (try with_reducible rfl))
            (try simp only [Act.put, List.setIfInBounds_toArray, List.set_cons_zero, List.set_cons_succ])
            refine HeldL.wpAnyL_take (i := 6) (fun s => if s = 8 then [7] else []) (oi := _) (v := ?_) rfl (by kernel_rfl) (by kernel_rfl) (by kernel_rfl) (by kernel_rfl) (by kernel_rfl) (fun _ _ _ h => h) (Or.inl ⟨by rfl, ?_⟩) (by assumption) ?_
            rotate_left
            · (intro w hSw; (try dsimp only at hSw); go_simp; (try with_reducible rfl))
            (try simp only [Act.put, List.setIfInBounds_toArray, List.set_cons_zero, List.set_cons_succ])
            refine HeldL.wpAnyL_ready (rs := [7]) (by kernel_rfl) (by simp) ?_
            refine HeldL.AllL.cons (o := ⟨some 89, _, _, _, _, _⟩) rfl (fun K hK => ?_) HeldL.AllL.nil
            go_simp
            refine hK.out _ _ (hS15.out _ (((Upon.refl _ w9).drew).alloc _)) (fun hHeld => ?_)
            clear hK K
            (try simp only [Act.put, List.setIfInBounds_toArray, List.set_cons_zero, List.set_cons_succ])
            refine HeldL.wpAnyL_ready (rs := [8]) (by kernel_rfl) (by simp) ?_
            refine HeldL.AllL.last (s := 8) (by decide) (o := ⟨some 90, _, _, _, _, _⟩) rfl (fun K hK => ?_) HeldL.AllL.nil
            refine Rw.step_append Rc.typS (o := ⟨some 90, _, _, _, _, _⟩) (by rfl) _ _ (by rfl) (.slice (some ⟨gb, 0, none⟩) r.smp.length c6) _ rs [((⟨xa, xn, xc⟩ : Rw.Sl), xt, xv)] Rw.All (by rfl) (by rfl) (Rw.rowSee (hcalm.out _ (by repeat (first | assumption | exact Upon.refl _ _ | refine Upon.drew ?_ | refine Upon.alloc ?_ _)))) (hX2.out _) (by rw [List.length_singleton]; omega) (by rw [List.length_singleton]; omega) ?_
            intro v3 x1 hm1 hg1 hb1
            have h10 := Rw.rowAppend (Tens.ob (thingPH _ _) (Tens.ob (thingRest _ _ _ _) (Rc.thingBox _ _))) (hcalm.out _ (by repeat (first | assumption | exact Upon.refl _ _ | refine Upon.drew ?_ | refine Upon.alloc ?_ _))) hm1 hg1 hb1
            have h11 := xIn h10 (fun S hS => (by have := rest_add hS hkr hkn; rw [hxk'.out] at this; exact this : RestO (rs ++ [((⟨xa, xn, xc⟩ : Rw.Sl), xt, xv)]) (r.smp ++ [r.smp[k]]) ⟨ma, r.ms.length, mc⟩ r.ms x1 S))
            obtain ⟨A3, c3, hu3, -, -⟩ := Rw.View.shape (show Rw.Mine Rc.layS 52 x1 v3 _ from hm1).view
            subst hu3
            obtain ⟨n3, hn3⟩ : ∃ n3, (rs ++ [((⟨xa, xn, xc⟩ : Rw.Sl), xt, xv)]).length = n3 := ⟨_, rfl⟩
            rw [hn3] at h11
            obtain ⟨SB, hSB⟩ := h11.dropl.seeR
            obtain ⟨-, g1, -, -, -⟩ := hSB.1.cells
            simp only at g1
            have gf := hSB.1.frozen 1
            have h12 := boxStore (thingPH _ _) (thingX _ _ _ _ _) h11 (hSB.1.set1 (.slice A3 n3 c3))
            obtain ⟨SC, hSC⟩ := h12.dropl.seeR
            obtain ⟨q0, q1, q2, q3, q4⟩ := hSC.1.cells
            simp only at q0 q1 q2 q3 q4
            rw [hn3]
            replace h12 := Lib.hid h12
            refine hK.out _ _ ?_
            clear hK K h10 h11 hm1 hg1 hb1 hSB hSC hcalm hX2 hS15 hHeld
            (try simp only [Act.put, List.setIfInBounds_toArray, List.set_cons_zero, List.set_cons_succ])
            refine HeldL.wpAnyL_ready (rs := [9]) (by kernel_rfl) (by simp) ?_
            refine HeldL.AllL.last (s := 9) (by decide) (o := ⟨some 91, _, _, _, _, _⟩) rfl (fun K hK => ?_) HeldL.AllL.nil
            go_simp
            refine hK.out _ _ ?_
            clear hK K
            (try simp only [Act.put, List.setIfInBounds_toArray, List.set_cons_zero, List.set_cons_succ])
            refine HeldL.wpAnyL_ready (rs := [10]) (by kernel_rfl) (by simp) ?_
            refine HeldL.AllL.last (s := 10) (by decide) (o := ⟨none, _, _, _, _, _⟩) rfl (fun K hK => ?_) HeldL.AllL.nil
            go_simp
            refine hK.out _ _ ?_
            clear hK K g1 gf
            (try simp only [Act.put, List.setIfInBounds_toArray, List.set_cons_zero, List.set_cons_succ])
            refine HeldL.wpAnyL_done (by kernel_rfl) ?_ _
            have hco : Rc.Commit r := by
              rcases Rc.chk_zero.1 (tr_zero hz.out).1 with h | h
              · exact h
              · have := h.kind; rw [hk.out] at this; cases this
            have hlab := hsr.out.lab
            have h14r := whole_old hs.out hco hz.out hkn (by omega)
            have hbr : Rc.Bnd ⟨r.kind, r.smp ++ [r.smp[k]], r.ms, r.frm, r.til⟩ := ⟨hrb.out.kind, fun x hx => (List.mem_append.1 hx).elim (hrb.out.smp x) (fun h => by rw [List.mem_singleton.1 h]; exact hrb.out.smp _ (List.getElem_mem hkn)), hrb.out.ms, hrb.out.frm, hrb.out.til⟩
            have HA := pappX (thingX _ _ _ _ _) (Rc.thingBox _ _) h12.out (r := ⟨r.kind, r.smp ++ [r.smp[k]], r.ms, r.frm, r.til⟩) (fun S hS => x_view hS) hs.out hbr (hsg'.out.less (by simp; omega)) (fun x hx => (List.mem_append.1 hx).elim (hlab x) (fun h => by rw [List.mem_singleton.1 h]; exact hlab _ (List.getElem_mem hkn)))
            rw [h14r, app_no (by rw [h14r]; decide)] at HA
            replace HA := Lib.hid HA
            replace hco := Lib.hid hco
            clear h14r hbr hlab h12
            go_wp2_with fail
            refine HA.out.mono ?_
            rintro e w13 ⟨rfl, h13⟩
            obtain ⟨S13, hS13⟩ := h13.seeL
            have HC13 := Lib.hid (hHC.out _ _ hS13)
            replace h13 := Lib.hid h13
            clear HA hS13 q0 q1 q2 q3 q4
            go_wp2_with fail
            refine HC13.out.mono ?_
            rintro e w14 ⟨rfl, hu14⟩
            have h14 := Lib.hid (h13.out.upon0 (Tens.ob (thingPH _ _) (Tens.ob (thingX _ _ _ _ _) (Rc.thingBox _ _))) hu14)
            obtain ⟨k0, k1, k2, k3, k4⟩ := hX.out _ (newOf h14.out.bel)
            have HO14 := Lib.hid (HOr.out _ (newOf h14.out.bel))
            clear HC13 h13 hu14
            go_wp2_with fail
            refine HO14.out.mono ?_
            rintro e w15 ⟨u15, rfl, hv15, hu15, -⟩
            obtain ⟨A15, c15, A15', c15', rfl, -, -⟩ := Rc.RView.shape hv15
            have hsm2 : SaneN r.smp.length g := hsg'.out.less (by omega)
            have HA15 := pappNew (Tens.ob (thingX _ _ _ _ _) (Rc.thingBox _ _)) h14.out hv15 hu15 hs.out hrb.out hsm2 hsr.out.lab
            rw [hz.out] at HA15
            replace HA15 := Lib.hid HA15
            clear HO14 hv15 hu15 h14 k0 k1 k2 k3 k4
            go_wp2_with fail
            refine HA15.out.mono ?_
            rintro e w16 ⟨rfl, h16⟩
            have hsan16 : SaneN 0 (app g r) := SaneN.app (hsg'.out.less (by omega)) hsr.out.lab
            have hpt16 : points (app g r) = points g + r.smp.length := by
              obtain ⟨-, gff, hpf, -⟩ := tr_zero hz.out
              rw [app_com hz.out (by rw [hk.out]; decide) hpf]
              exact points_puts hpf
            obtain ⟨S16, hS16⟩ := h16.seeL
            have hpg := pts_ok hsg'.out
            have HC16 := pcounts_any w16 hS16 (hs.out.app r) hsan16.sane (by rw [hpt16]; omega)
            rw [hpt16] at HC16
            have hsum : wrap64 ((points g : Int) + (r.smp.length : Int)) = ((points g + r.smp.length : Nat) : Int) := by unfold wrap64; omega
            replace HC16 := Lib.hid HC16
            replace h16 := Lib.hid h16
            clear HA15 hS16 hsan16 hpt16 hpg
            go_wp2_with fail
            refine HC16.out.mono ?_
            rintro e w17 ⟨rfl, hu17⟩
            have hn17 := Lib.hid ((newOf h16.out.bel).trans hu17)
            obtain ⟨k0, k1, k2, k3, k4⟩ := hX.out _ hn17.out
            clear HC16 h16 hu17
            go_wp2_with fail
            go_ret
            exact ⟨rfl, hfin.out _ hn17.out⟩
end Hd
end Go.Proofs.Ytfheehlfodoimaa
