/- The program's getPoints (layer 9). -/
import Derived.Test.YtadlkfdjdjaakaaDoorCkEnc
import Derived.Test.YtadlkfdjdjaakaaDoorCkLen
import Derived.OwnWalk
set_option maxRecDepth 100000
namespace Go.Proofs.YtadlkfdjdjaakaaDoor
open Go.RowKit Go.Sort
namespace Ck
open Bit Dsk Ob Dig
set_option linter.unusedVariables false

/-- What getPoints leaves. -/
def GP (w : World) (n m : Nat) (R : List UInt8) (e : Ending) (w' : World) : Prop :=
  ∃ (v : Value) (l : List Pt) (x : Nat), e = .returned (.tuple #[v, .int .i64 (x : Int)]) ∧ ((x = 0 ∧ Whole n m R l) ∨ (x ≠ 0 ∧ x < 100 ∧ l = [] ∧ ∀ l', ¬ Whole n m R l')) ∧ View w' All v l ∧ New0 w w'
theorem GP.no {w w' : World} {n m x : Nat} {R : List UInt8} {y : Int} (hy : y = (x : Int)) (hx : x ≠ 0) (h100 : x < 100) (h : ∀ l', ¬ Whole n m R l') (hu : New0 w w') : GP w n m R (.returned (.tuple #[.slice none 0 0, .int .i64 y])) w' := by
  subst hy
  exact ⟨_, [], x, rfl, .inr ⟨hx, h100, rfl, h⟩, ⟨none, 0, rfl, Nat.le_refl _, Nat.zero_le _, fun h => absurd h (by simp)⟩, hu⟩
theorem rkBeside {I : Ob.Rel} (hI : Thing I) {s : ByteArray} {m : Nat} (hm : m ≤ 8 * s.size) {w0 w w' : World} {e : Ending} (H : Own I w0 w) (h : RMade s (ends s (m : Int)) w e w') : ∃ p, e = .returned (.pointer (some ⟨p, 0, none⟩)) ∧ Own (Tens I (fun w S => IsRK w S p (bitsAt s.data.toList 0 m))) w0 w' := by
  rw [ends_in hm] at h
  obtain ⟨S, p, he, h2, h3, h4⟩ := h
  exact ⟨p, he, Own.new hI H ⟨s, 0, m, h2, by rw [Nat.sub_zero]⟩ h3 h4⟩
theorem pgStart {w0 w : World} {qt qv p : Nat} {K : List Bool} (H : Own (Tens (Tens (Tm.IsCd qt Tm.newC) (Xr.IsCd qv Xr.newC)) (fun w S => IsRK w S p K)) w0 w) : Own (PG qt qv p c0 K) w0 w :=
  H.mono fun _ h => Tens.assoc (Tens.mapL (fun _ k => Tens.swap k) h)
theorem rowMade {I : Ob.Rel} (hI : Thing I) {w0 w w' : World} {n : Nat} (H : Own I w0 w) (hrow : w'.ownsRow 0 36 2 (.slice (some ⟨w.heap.size, 0, none⟩) 0 n) 0 []) (hg : w.grownBy w' none) : Own (Tens I (RowO (.slice (some ⟨w.heap.size, 0, none⟩) 0 n) [])) w0 w' :=
  Own.new hI H (T := fun x => x = w.heap.size) ⟨hrow, fun x hx => (by simpa [Value.ownBlock, eq_comm] using hx), fun x hx => by rw [hx]; exact (World.ownsRow.lt hrow _ rfl).2⟩ (fun x hx => by rw [hx]; exact Nat.le_refl _) (Upon.grown (Upon.refl _ w) hg fun k hk => (by cases hk))
theorem rowAppend {I : Ob.Rel} (hI : Thing I) {w0 w w' : World} {v v' : Value} {l m : List Pt} (H : Own (Tens I (RowO v l)) w0 w) (hown : OwnPts w' v' m) (hg : w.grownBy w' v.ownBlock) (hb : v'.ownBlock = v.ownBlock ∨ v'.ownBlock = some w.heap.size) : Own (Tens I (RowO v' m)) w0 w' := by
  obtain ⟨A, h, go⟩ := H.right hI
  exact go _ _ (h.append hown hg hb)
/-- Beside the coders: the box of the coder, the row so far. -/
abbrev GJ (g qt qv : Nat) (v : Value) (l : List Pt) : Ob.Rel := Tens (Box2 g (ptr qt) (ptr qv) 42) (RowO v l)
theorem thingGJ (g qt qv : Nat) (v : Value) (l : List Pt) : Thing (GJ g qt qv v l) := Tens.ob (thingBox2 _ _ _ _) (thingRowO _ _)
theorem Gt_none {J : Ob.Rel} {w0 : World} {qt qv p : Nat} {c : C2} {K : List Bool} {e : Ending} {w' : World} (h : Gt J w0 qt qv p c K e w') (hr : rd1 c K = none) : e = .returned (.tuple #[.agg #[.int .i64 0, .int .u64 0], .bool false]) ∧ Own J w0 w' := by
  unfold Gt at h; rw [hr] at h; exact h
theorem Gt_some {J : Ob.Rel} {w0 : World} {qt qv p : Nat} {c : C2} {K R : List Bool} {t : Int} {x : Nat} {e : Ending} {w' : World} (h : Gt J w0 qt qv p c K e w') (hr : rd1 c K = some ((t, x), R)) : e = .returned (.tuple #[ptv t x, .bool true]) ∧ Own (PGJ qt qv p (stp c (t, x)) R J) w0 w' := by
  unfold Gt at h; rw [hr] at h; exact h
theorem Half.nx {i : Nat} {K0 K : List Bool} {l : List Pt} {t : Int} (h : Half i K0 l K) (hn : isNx l t = true) : ∀ k, i = k + 1 → T l k < t := fun k hk => by
  have hl := h.len
  unfold isNx at hn
  rw [decide_eq_false (by omega), Bool.false_or, decide_eq_true_iff, show l.length - 1 = k by omega] at hn
  exact hn
theorem Half.nx_not {i : Nat} {K0 K : List Bool} {l : List Pt} {t : Int} (h : Half i K0 l K) (hn : isNx l t = false) : ∃ k, i = k + 1 ∧ t ≤ T l k := by
  have hl := h.len
  unfold isNx at hn
  rw [Bool.or_eq_false_iff, decide_eq_false_iff_not, decide_eq_false_iff_not] at hn
  exact ⟨i - 1, by omega, by rw [show i - 1 = l.length - 1 by omega]; omega⟩
set_option maxHeartbeats 6400000 in
theorem points_gp (w : World) (s : ByteArray) (m n : Nat) (hs : s.size ≤ 140737488355328) (hm : m ≤ 8 * s.size) (hm2 : s.size ≤ (m + 7) / 8) (hn1 : 1 ≤ n) (hn : n ≤ 64) (hT : Tab w) :
    Calls Tryd.prog 29 #[.string s, .int .i64 (m : Int), .int .i64 (n : Int)] w (GP w n m s.data.toList) := by
  replace hT := Lib.hid hT
  have hF := Lib.hid (fun w => filled_any w s m hs hm hm2)
  have hslen : s.data.toList.length = s.size := by rw [Array.length_toList]; rfl
  have hle : Hid (m ≤ 8 * s.data.toList.length) := Lib.hid (by rw [hslen]; exact hm)
  have hfew : Hid (s.data.toList.length ≤ (m + 7) / 8) := Lib.hid (by rw [hslen]; exact hm2)
  have HR := Lib.hid (fun w => newReader_any s (m : Int) hs (by omega) w)
  obtain ⟨i0, hi, hz0, hz1, hz2⟩ := info_parts infoPt
  replace hm := Lib.hid hm
  clear hslen hm2
  go_enter Tryd.func29, Tryd.ntmps29
  go_wp2_with fail
  refine (mk_any w hT.out).mono ?_
  rintro e w1 ⟨qt, qv, rfl, h1⟩
  replace h1 := Lib.hid h1
  go_wp2_with fail
  refine (HR.out w1).mono ?_
  intro x w2 hx
  obtain ⟨p, rfl, h2⟩ := rkBeside (thingNew qt qv) hm.out h1.out hx
  have h3 := Lib.hid (box2Made (thingPG _ _ _ _ _) (pgStart h2) (ptr qt) (ptr qv) 42)
  clear hx h1 h2 HR
  go_wp2_with (refine wpList_make_own _ rfl _ _ _ rfl 0 36 i0 _ 2 Tryd.underlying22 hi hz0 hz1 _ _ _ n rfl rfl rfl ?mk1 ?mk2 (Nat.zero_le _) ?_)
  case mk1 => rw [hz2]; omega
  case mk2 => unfold maxLen; omega
  intro w4 hrow hg4
  have hu0 := (show ((w2.alloc (.cells #[ptr qt, ptr qv] 42 (0, 0))).heap.size = w2.heap.size + 1) by simp)
  rw [← hu0] at hrow
  have h4 := Lib.hid (rowMade (Tens.ob (thingPG _ _ _ _ _) (thingBox2 _ _ _ _)) h3.out hrow hg4).assoc
  rw [hu0] at h4
  clear h3 hrow hg4 hu0 hi hz0 hz1 hz2
  go_wp2_with fail
  go_loopw [10, 20] (fun u ov wr => ∃ (i : Nat) (l : List Pt) (K : List Bool), ov = .int .i64 (i : Int) ∧ i ≤ n ∧ Hid (Half i (bitsAt s.data.toList 0 m) l K) ∧ Hid (Own (PGJ qt qv p (stps c0 l) K (GJ w2.heap.size qt qv u l)) w wr)) (fun _ ov _ => n - (intOf ov).toNat)
  case atStart => exact ⟨0, [], _, rfl, Nat.zero_le _, Lib.hid (Half.start _), h4⟩
  case round =>
    obtain ⟨i, l, K, rfl, hii, hh, ho⟩ := hrel
    clear h4
    by_cases hlt : i < n
    · have c0' := (box2Cells ho.out.dropl.dropr).c0
      have c1' := (box2Cells ho.out.dropl.dropr).c1
      obtain ⟨A8, c8, hu8, hc8, -⟩ := (rowSee ho.out.dropl.dropl).view.shape
      subst hu8
      have HP := Lib.hid (get_any (thingGJ _ _ _ _ _) hT.out ho.out hh.out.ok)
      clear ho
      cases hr : rd1 (stps c0 l) K with
      | none =>
        have hD := Lib.hid (hh.out.stop hlt hr)
        replace hr := Lib.hid hr
        clear hh
        go_wp2_with fail
        refine HP.out.mono ?_
        intro e w7 he
        obtain ⟨rfl, h7⟩ := Gt_none he hr.out
        have hu7 := Lib.hid (new0_of_bel h7.bel)
        clear HP he h7 c0' c1'
        go_wp2_with fail
        go_ret2
        exact GP.no (x := 3) rfl (by decide) (by decide) hD.out (hu7.out.trans ((Upon.refl _ w7).alloc _))
      | some z =>
        obtain ⟨⟨t, x⟩, R⟩ := z
        have h1 := Lib.hid hr
        clear hr
        go_wp2_with fail
        refine HP.out.mono ?_
        intro e w7 he
        obtain ⟨rfl, h7⟩ := Gt_some he h1.out
        clear HP he c0' c1'
        have hst : stp (stps c0 l) (t, x) = stps c0 (l ++ [(t, x)]) := (stps_snoc _ _ _).symm
        rw [hst] at h7
        have h8 := Lib.hid (box2Made (Tens.ob (thingPG _ _ _ _ _) (thingGJ _ _ _ _ _)) h7 (.int .i64 t) (.int .u64 (x : Int)) 36)
        clear h7 hst
        have q0 := (box2Cells h8.out.dropl).c0
        have q1 := (box2Cells h8.out.dropl).c1
        have hvw := (rowSee h8.out.dropr.dropl.dropl).view
        cases hnb : isNx l t with
        | false =>
          obtain ⟨k', rfl, hle2⟩ := hh.out.nx_not hnb
          have hD := Lib.hid (hh.out.fall hlt h1.out hle2)
          have HN := Lib.hid (hnb ▸ next_any _ _ _ l t x hvw)
          have hend := Lib.hid (new0_of_bel h8.out.bel)
          clear hvw h8 hh h1 hnb hle2
          go_wp2_with fail
          refine HN.out.mono ?_
          rintro e w9 ⟨rfl, hu9⟩
          have hend9 := Lib.hid (hend.out.trans hu9)
          clear HN hend hu9 q0 q1
          go_wp2_with fail
          go_ret2
          exact GP.no (x := 9) rfl (by decide) (by decide) hD.out hend9.out
        | true =>
          have hnx := Lib.hid (hh.out.next h1.out (hh.out.nx hnb))
          have HN := Lib.hid (hnb ▸ next_any _ _ _ l t x hvw)
          have hll : l.length ≤ 64 := by have := hh.out.len; omega
          have hI := Lib.hid (fun w' hu => Own.upon0 (Tens.ob (Tens.ob (thingPG _ _ _ _ _) (thingGJ _ _ _ _ _)) (thingBox2 _ _ _ _)) h8.out (w' := w') hu)
          clear hvw h8 hh h1 hnb
          go_wp2_with fail
          refine HN.out.mono ?_
          rintro e w9 ⟨rfl, hu9⟩
          have h9 := Lib.hid (hI.out _ hu9)
          clear HN hI hu9 q0 q1
          have q0 := (box2Cells h9.out.dropl).c0
          have q1 := (box2Cells h9.out.dropl).c1
          have hal : New0 w9 (w9.alloc (.cells #[.int .i64 t, .int .u64 (x : Int)] 36 (0, 0))) := (Upon.refl _ w9).alloc _
          have hA := Lib.hid (Own.upon0 (Tens.ob (thingPG _ _ _ _ _) (thingGJ _ _ _ _ _)) h9.out.dropr hal).cossa
          have hown := Lib.hid (rowSee hA.out.dropl)
          clear h9 hal
          go_wp2_with (at_builtin; refine wpList_append_pts rfl _ _ rfl _ _ l [(t, x)] All rfl rfl hown.out (view_one (y := x) (cell_new w9 _)) (by rw [List.length_singleton]; omega) ?_)
          intro u' w10 hown' hgr hb
          have h10 := Lib.hid (rowAppend (Tens.ob (thingPG _ _ _ _ _) (thingBox2 _ _ _ _)) hA.out hown' hgr (hb.imp id fun h => h.trans (by simp))).assoc
          clear hown' hgr hb hA hown q0 q1
          go_wp2_with fail
          go_roundw
          case rel => exact ⟨i + 1, _, _, by go_num, hlt, hnx, h10⟩
          case measure => simp [intOf]; omega
    · obtain rfl : i = n := by omega
      have hend := Lib.hid (new0_of_bel ho.out.bel)
      have hrow := Lib.hid (rowSee ho.out.dropl.dropl).view.all
      have HL := Lib.hid (pgLeft ho.out)
      clear ho
      by_cases hK : K = []
      · subst hK
        have hwh := Lib.hid (fun hf => hh.out.whole hle.out hfew.out hf)
        have hno := Lib.hid (fun (hf : ¬ Filled s.data.toList m) (l' : List Pt) (h' : Whole i m s.data.toList l') => hf h'.fill)
        clear hh
        go_wp2_with fail
        refine HL.out.mono ?_
        rintro e w7 ⟨rfl, nq, rfl⟩
        clear HL
        go_wp2_with fail
        refine (hF.out _).mono ?_
        rintro e w8 ⟨bb, rfl, hbb, hu8⟩
        have hend8 := Lib.hid (hend.out.trans ((upon_drewN _ wr nq).trans hu8))
        have hrow8 := Lib.hid ((hrow.out.drew (n := nq)).new hu8)
        clear hF hrow hend hu8
        cases bb with
        | true =>
          have hD := Lib.hid (hwh.out (hbb.1 rfl))
          clear hwh hno hbb
          go_wp2_with fail
          go_ret2
          exact ⟨_, l, 0, rfl, .inl ⟨rfl, hD.out⟩, hrow8.out, hend8.out⟩
        | false =>
          have hD := Lib.hid (hno.out (fun hf => by have := hbb.2 hf; cases this))
          clear hwh hno hbb
          go_wp2_with fail
          go_ret2
          exact GP.no (x := 3) rfl (by decide) (by decide) hD.out hend8.out
      · have hD := Lib.hid (hh.out.left hK)
        have hKl : 0 < K.length := List.length_pos_iff.2 hK
        have dK : decide (0 < K.length) = true := decide_eq_true hKl
        clear hh hK
        go_wp2_with fail
        refine HL.out.mono ?_
        rintro e w7 ⟨rfl, nq, rfl⟩
        have hend8 := Lib.hid (hend.out.trans (upon_drewN _ wr nq))
        clear HL hend
        go_wp2_with fail
        go_ret2
        exact GP.no (x := 3) rfl (by decide) (by decide) hD.out hend8.out
end Ck
end Go.Proofs.YtadlkfdjdjaakaaDoor
