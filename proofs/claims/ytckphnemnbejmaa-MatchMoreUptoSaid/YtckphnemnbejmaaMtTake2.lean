/- The document's own matchers (layer 11): Take, Get. -/
import Derived.Test.YtckphnemnbejmaaMtTake
set_option maxRecDepth 100000
namespace Go.Proofs.Ytckphnemnbejmaa
open Go.RowKit Go.Sort
namespace Mt
open Bit Dsk Ob Dig Lb
set_option linter.unusedVariables false

set_option maxHeartbeats 12800000 in
theorem take_any {R : Ob.Rel} (hR : Thing R) {p : Nat} {s : ByteArray} {w0 w : World} (hs : s.size ≤ 140737488355328) (h : Own (Tens (InO p s 0) R) w0 w) :
    Calls Try.prog 30 #[.pointer (some ⟨p, 0, none⟩)] w fun e w' => ∃ (u : Value) (l : List M) (r : ByteArray) (x : Nat), e = .returned u ∧ TkE s.data.toList x l r.data.toList ∧ r.size ≤ 140737488355328 ∧ Bnd l ∧ Own (Tens (InO p r x) (Tens R (Rw.RowO layM 37 u l))) w0 w' := by
  obtain ⟨n, k, x, hg⟩ : ∃ n k x, gotN s.data.toList = (n, k, x) := ⟨_, _, _, rfl⟩
  have hn64 : n < 18446744073709551616 := by
    have := (gotN_lt s.data.toList).1
    rw [hg] at this
    exact this
  obtain ⟨b, hbd⟩ : ∃ b, decide (n ≤ 8) = b := ⟨_, rfl⟩
  have hst0 := Lib.hid (Mt.St.start (b := b) hg (by rw [← hbd, decide_eq_true_eq]))
  have hbd' : decide ((n : Int) ≤ 8) = b := by rw [← hbd]; exact decide_eq_decide.2 (by omega)
  have HN := Lib.hid (ioNum hR h (by omega) hg)
  obtain ⟨t, ht⟩ : ∃ t, s.extract k s.size = t := ⟨_, rfl⟩
  have hts : t.size ≤ 140737488355328 := by rw [← ht]; exact Nat.le_trans (ext_size _ _ _) hs
  rw [← drop_list, ht] at hst0
  rw [ht] at HN
  obtain ⟨sl, hsl⟩ : ∃ sl, s.data.toList = sl := ⟨_, rfl⟩
  rw [hsl] at hst0 ⊢
  have hJ := Lib.hid (fun v (l : List M) => Tens.ob hR (Rw.thingRow layM 37 v l))
  replace hR := Lib.hid hR
  clear hg ht hsl h
  go_enter Try.func30, Try.ntmps30
  go_wp2_with fail
  refine HN.out.mono ?_
  rintro e w2 ⟨rfl, h2⟩
  have HM := Lib.hid (ioMust hR.out h2 b 8)
  clear HN h2
  go_wp2_with fail
  refine HM.out.mono ?_
  rintro e w3 ⟨rfl, h3⟩
  obtain ⟨e0, he0⟩ : ∃ e0, mustE b x 8 = e0 := ⟨_, rfl⟩
  rw [he0] at hst0 h3
  have hI := Lib.hid (Rw.rowNone layM 37 (Tens.ob (thingIn _ _ _) hR.out) h3).assoc
  clear HM h3 he0 hbd hbd'
  go_wp2_with fail
  go_loopw [4, 5] (fun u ov wr => ∃ (j e : Nat) (l : List M) (r : ByteArray), ov = .int .u64 (j : Int) ∧ j ≤ n ∧ r.size ≤ 140737488355328 ∧ Hid (Bnd l) ∧ Hid (Mt.St sl n e j l r.data.toList) ∧ Hid (Own (Tens (InO p r e) (Tens R (Rw.RowO layM 37 u l))) w0 wr)) (fun _ ov _ => n - (intOf ov).toNat)
  case atStart => exact ⟨0, e0, [], t, rfl, Nat.zero_le _, hts, Lib.hid (fun p hp => by simp at hp), hst0, hI⟩
  case round =>
    obtain ⟨j, e, l, r, rfl, hj, hr, hsm, hst, ho⟩ := hrel
    clear hst0 hI
    obtain ⟨c0, c1, f0, f1⟩ := ioBox ho.out
    by_cases he : e = 0
    · subst he
      obtain ⟨hlj, -, hn8⟩ := hst.out.few
      replace hlj := Lib.hid hlj
      by_cases hlt : j < n
      · obtain ⟨kn, kk, x1, hg⟩ : ∃ kn kk x1, gotN r.data.toList = (kn, kk, x1) := ⟨_, _, _, rfl⟩
        have hk64 : kn < 18446744073709551616 := by
          have := (gotN_lt r.data.toList).1
          rw [hg] at this
          exact this
        have HN := Lib.hid (ioNum (hJ.out _ _) ho.out (by omega) hg)
        obtain ⟨r1, hr1⟩ : ∃ r1, r.extract kk r.size = r1 := ⟨_, rfl⟩
        rw [hr1] at HN
        have hr1s : r1.size ≤ 140737488355328 := by rw [← hr1]; exact Nat.le_trans (ext_size _ _ _) hr
        have hr1l : r.data.toList.drop kk = r1.data.toList := by rw [← hr1, drop_list]
        have hll : l.length ≤ 8 := by have := hlj.out; omega
        obtain ⟨b1, hb1⟩ : ∃ b1, decide (kn ≤ 4) = b1 := ⟨_, rfl⟩
        have hb1' : decide ((kn : Int) ≤ 4) = b1 := by rw [← hb1]; exact decide_eq_decide.2 (by omega)
        have HMf := Lib.hid (fun w (h : Own (Tens (InO p r1 x1) (Tens R (Rw.RowO layM 37 u4 l))) w0 w) => ioMust (hJ.out _ _) h b1 5)
        obtain ⟨e1, he1⟩ : ∃ e1, mustE b1 x1 5 = e1 := ⟨_, rfl⟩
        rw [he1] at HMf
        by_cases he10 : e1 = 0
        · have hx1 : x1 = 0 := by
            by_cases c : x1 = 0
            · exact c
            · simp [mustE, c] at he1; omega
          have hbt : b1 = true := by
            subst hx1
            cases b1 with
            | true => rfl
            | false => simp [mustE] at he1; omega
          have hk4 : kn ≤ 4 := by rw [hbt] at hb1; exact of_decide_eq_true hb1
          subst hx1
          subst hbt
          rw [he10] at HMf
          clear he1 he10
          obtain ⟨na, ka, x2, hga⟩ : ∃ na ka x2, gotT r1.data.toList 32 = (na, ka, x2) := ⟨_, _, _, rfl⟩
          have hta := txt_is hga
          have HTf := Lib.hid (fun w (h : Own (Tens (InO p r1 0) (Tens R (Rw.RowO layM 37 u4 l))) w0 w) => ioText (hJ.out _ _) h (by omega) (by decide) hga)
          obtain ⟨a, ha⟩ : ∃ a, r1.extract ka (ka + na) = a := ⟨_, rfl⟩
          obtain ⟨r2, hr2⟩ : ∃ r2, r1.extract (ka + na) r1.size = r2 := ⟨_, rfl⟩
          rw [ha, hr2] at hta HTf
          have has : a.size ≤ 9223372036854775807 := by rw [← ha]; exact Nat.le_trans (ext_size _ _ _) (by omega)
          have hr2s : r2.size ≤ 140737488355328 := by rw [← hr2]; exact Nat.le_trans (ext_size _ _ _) hr1s
          have hcv : IntKind.i64.wrap (kn : Int) = (kn : Int) := by rw [IntKind.wrap_i64]; omega
          by_cases hx2 : x2 = 0
          · subst hx2
            obtain ⟨nb, kb, x3, hgb⟩ : ∃ nb kb x3, gotT r2.data.toList 64 = (nb, kb, x3) := ⟨_, _, _, rfl⟩
            have htb := txt_is hgb
            have HTf2 := Lib.hid (fun w (h : Own (Tens (InO p r2 0) (Tens R (Rw.RowO layM 37 u4 l))) w0 w) => ioText (hJ.out _ _) h (by omega) (by decide) hgb)
            obtain ⟨b, hb⟩ : ∃ b, r2.extract kb (kb + nb) = b := ⟨_, rfl⟩
            obtain ⟨r3, hr3⟩ : ∃ r3, r2.extract (kb + nb) r2.size = r3 := ⟨_, rfl⟩
            rw [hb, hr3] at htb HTf2
            have hbs : b.size ≤ 9223372036854775807 := by rw [← hb]; exact Nat.le_trans (ext_size _ _ _) (by omega)
            have hr3s : r3.size ≤ 140737488355328 := by rw [← hr3]; exact Nat.le_trans (ext_size _ _ _) hr2s
            have hst' : Hid (Mt.St sl n x3 (j + 1) (l ++ [((kn : Int), a, b)]) r3.data.toList) := Lib.hid (by
              by_cases hx3 : x3 = 0
              · subst hx3; exact hst.out.step hlt (one_ok hg (by omega) (by rw [hr1l]; exact hta) htb)
              · exact hst.out.bad hlt (one_value hg (by omega) (by rw [hr1l]; exact hta) htb hx3) hx3)
            have hsm' : Hid (Bnd (l ++ [((kn : Int), a, b)])) := Lib.hid (hsm.out.snoc ⟨by simp only; omega, by simp only; omega, has, hbs⟩)
            clear hst hsm hta htb hga hgb hg ha hb hr1 hr2 hr3 hr1l has hbs ho
            go_wp2_with fail
            refine HN.out.mono ?_
            rintro e w6 ⟨rfl, h6⟩
            have HM := Lib.hid (HMf.out _ h6)
            clear HN HMf h6 c0 c1 f0 f1
            go_wp2_with fail
            refine HM.out.mono ?_
            rintro e w7 ⟨rfl, h7⟩
            have HT := Lib.hid (HTf.out _ h7)
            clear HM HTf h7
            go_wp2_with fail
            refine HT.out.mono ?_
            rintro e w8 ⟨rfl, h8⟩
            have HT2 := Lib.hid (HTf2.out _ h8)
            clear HT HTf2 h8
            go_wp2_with fail
            refine HT2.out.mono ?_
            rintro e w9 ⟨rfl, h9⟩
            clear HT2
            obtain ⟨A4, c4, hu4_, -, -⟩ := Rw.View.shape (ioSeeRow h9).view
            subst hu4_
            have hM := Lib.hid ((ioSeeRow h9).new ((Upon.refl _ _).alloc (.cells #[.int .i64 (kn : Int), .string a, .string b] 37 (0, 0))))
            have hI := Lib.hid (Own.upon0 (Tens.ob (thingIn _ _ _) (hJ.out _ _)) h9 ((Upon.refl _ _).alloc (.cells #[.int .i64 (kn : Int), .string a, .string b] 37 (0, 0))))
            have hX := Lib.hid (Mt.view_two w9 (kn : Int) a b)
            clear h9
            go_wp2_with (at_builtin; refine Rw.wpList_append typM rfl _ _ rfl _ _ l [((kn : Int), a, b)] All rfl rfl hM.out hX.out (by rw [List.length_singleton]; omega) (by rw [List.length_singleton]; omega) ?_)
            intro v' w10 hown hgr hbl
            have h10 := Lib.hid (ioRow hR.out hI.out hown hgr (hbl.imp id fun h => h.trans (by simp)))
            clear hM hI hX hown hgr hbl
            go_wp2_with fail
            go_roundw
            case rel => exact ⟨j + 1, x3, _, r3, by go_num, hlt, hr3s, hsm', hst', h10⟩
            case measure => simp [intOf]; omega
          · have HTf2 := Lib.hid (fun w (h : Own (Tens (InO p r2 x2) (Tens R (Rw.RowO layM 37 u4 l))) w0 w) => ioTextNo (most := 64) (hJ.out _ _) h hx2)
            obtain ⟨b, hb⟩ : ∃ b, ByteArray.empty = b := ⟨_, rfl⟩
            have hbs : b.size ≤ 9223372036854775807 := by rw [← hb]; exact Nat.zero_le _
            rw [hb] at HTf2
            have hst' : Hid (Mt.St sl n x2 (j + 1) (l ++ [((kn : Int), a, b)]) r2.data.toList) := Lib.hid (hst.out.bad hlt (one_name hg (by omega) (by rw [hr1l]; exact hta) hx2) hx2)
            have hsm' : Hid (Bnd (l ++ [((kn : Int), a, b)])) := Lib.hid (hsm.out.snoc ⟨by simp only; omega, by simp only; omega, has, hbs⟩)
            clear hst hsm hta hga hg ha hr1 hr2 hr1l has hbs ho hx2
            go_wp2_with fail
            refine HN.out.mono ?_
            rintro e w6 ⟨rfl, h6⟩
            have HM := Lib.hid (HMf.out _ h6)
            clear HN HMf h6 c0 c1 f0 f1
            go_wp2_with fail
            refine HM.out.mono ?_
            rintro e w7 ⟨rfl, h7⟩
            have HT := Lib.hid (HTf.out _ h7)
            clear HM HTf h7
            go_wp2_with fail
            refine HT.out.mono ?_
            rintro e w8 ⟨rfl, h8⟩
            have HT2 := Lib.hid (HTf2.out _ h8)
            clear HT HTf2 h8 hb
            go_wp2_with fail
            refine HT2.out.mono ?_
            rintro e w9 ⟨rfl, h9⟩
            clear HT2
            obtain ⟨A4, c4, hu4_, -, -⟩ := Rw.View.shape (ioSeeRow h9).view
            subst hu4_
            have hM := Lib.hid ((ioSeeRow h9).new ((Upon.refl _ _).alloc (.cells #[.int .i64 (kn : Int), .string a, .string b] 37 (0, 0))))
            have hI := Lib.hid (Own.upon0 (Tens.ob (thingIn _ _ _) (hJ.out _ _)) h9 ((Upon.refl _ _).alloc (.cells #[.int .i64 (kn : Int), .string a, .string b] 37 (0, 0))))
            have hX := Lib.hid (Mt.view_two w9 (kn : Int) a b)
            clear h9
            go_wp2_with (at_builtin; refine Rw.wpList_append typM rfl _ _ rfl _ _ l [((kn : Int), a, b)] All rfl rfl hM.out hX.out (by rw [List.length_singleton]; omega) (by rw [List.length_singleton]; omega) ?_)
            intro v' w10 hown hgr hbl
            have h10 := Lib.hid (ioRow hR.out hI.out hown hgr (hbl.imp id fun h => h.trans (by simp)))
            clear hM hI hX hown hgr hbl
            go_wp2_with fail
            go_roundw
            case rel => exact ⟨j + 1, x2, _, r2, by go_num, hlt, hr2s, hsm', hst', h10⟩
            case measure => simp [intOf]; omega
        · have hone : (one r.data.toList).2.2 = e1 := by
            by_cases c : x1 = 0
            · subst c
              cases b1 with
              | true => simp [mustE] at he1; omega
              | false =>
                have h4 : 4 < kn := by
                  have := of_decide_eq_false hb1
                  omega
                rw [one_kind hg h4]; simp [mustE] at he1; exact he1
            · rw [one_num hg c]; simp [mustE, c] at he1; exact he1
          obtain ⟨a, ha⟩ : ∃ a, ByteArray.empty = a := ⟨_, rfl⟩
          have has : a.size ≤ 9223372036854775807 := by rw [← ha]; exact Nat.zero_le _
          have HTf := Lib.hid (fun w (h : Own (Tens (InO p r1 e1) (Tens R (Rw.RowO layM 37 u4 l))) w0 w) => ioTextNo (most := 32) (hJ.out _ _) h he10)
          have HTf2 := Lib.hid (fun w (h : Own (Tens (InO p r1 e1) (Tens R (Rw.RowO layM 37 u4 l))) w0 w) => ioTextNo (most := 64) (hJ.out _ _) h he10)
          rw [ha] at HTf HTf2
          obtain ⟨kv, hcv⟩ : ∃ kv, IntKind.i64.wrap (kn : Int) = kv := ⟨_, rfl⟩
          have hst' : Hid (Mt.St sl n e1 (j + 1) (l ++ [(kv, a, a)]) r1.data.toList) := Lib.hid (hst.out.bad hlt hone he10)
          have hsm' : Hid (Bnd (l ++ [(kv, a, a)])) := Lib.hid (by rw [← hcv]; exact hsm.out.snoc (bnd_wrap _ has has))
          clear hst hsm hg hr1 hr1l has ho he10 hone he1 hb1
          go_wp2_with fail
          refine HN.out.mono ?_
          rintro e w6 ⟨rfl, h6⟩
          have HM := Lib.hid (HMf.out _ h6)
          clear HN HMf h6 c0 c1 f0 f1
          go_wp2_with fail
          refine HM.out.mono ?_
          rintro e w7 ⟨rfl, h7⟩
          have HT := Lib.hid (HTf.out _ h7)
          clear HM HTf h7
          go_wp2_with fail
          refine HT.out.mono ?_
          rintro e w8 ⟨rfl, h8⟩
          have HT2 := Lib.hid (HTf2.out _ h8)
          clear HT HTf2 h8 ha
          go_wp2_with fail
          refine HT2.out.mono ?_
          rintro e w9 ⟨rfl, h9⟩
          clear HT2
          obtain ⟨A4, c4, hu4_, -, -⟩ := Rw.View.shape (ioSeeRow h9).view
          subst hu4_
          have hM := Lib.hid ((ioSeeRow h9).new ((Upon.refl _ _).alloc (.cells #[.int .i64 kv, .string a, .string a] 37 (0, 0))))
          have hI := Lib.hid (Own.upon0 (Tens.ob (thingIn _ _ _) (hJ.out _ _)) h9 ((Upon.refl _ _).alloc (.cells #[.int .i64 kv, .string a, .string a] 37 (0, 0))))
          have hX := Lib.hid (Mt.view_two w9 kv a a)
          clear h9
          go_wp2_with (at_builtin; refine Rw.wpList_append typM rfl _ _ rfl _ _ l [(kv, a, a)] All rfl rfl hM.out hX.out (by rw [List.length_singleton]; omega) (by rw [List.length_singleton]; omega) ?_)
          intro v' w10 hown hgr hbl
          have h10 := Lib.hid (ioRow hR.out hI.out hown hgr (hbl.imp id fun h => h.trans (by simp)))
          clear hM hI hX hown hgr hbl
          go_wp2_with fail
          go_roundw
          case rel => exact ⟨j + 1, e1, _, r1, by go_num, hlt, hr1s, hsm', hst', h10⟩
          case measure => simp [intOf]; omega
      · have hfin := Lib.hid (hst.out.fin hlt)
        obtain ⟨z, hz⟩ : ∃ z, chk l = z := ⟨_, rfl⟩
        have HC := Lib.hid (refcheck_is _ _ _ l (ioSeeRow ho.out).view hsm.out hz)
        rw [hz] at hfin
        obtain ⟨A4, c4, hu4_, -, -⟩ := Rw.View.shape (ioSeeRow ho.out).view
        subst hu4_
        clear hst hz
        go_wp2_with fail
        refine HC.out.mono ?_
        rintro e w6 ⟨rfl, hu6⟩
        have h6 := Own.upon0 (Tens.ob (thingIn _ _ _) (hJ.out _ _)) ho.out hu6
        obtain ⟨g0, g1, k0, k1⟩ := ioBox h6
        have hend := Lib.hid (ioSet (hJ.out _ _) h6 z)
        clear HC ho hu6 h6 c0 c1 f0 f1
        go_wp2_with fail
        go_ret
        exact ⟨_, l, r, z, rfl, hfin.out, hr, hsm.out, hend.out⟩
    · have hfin := Lib.hid (hst.out.err he)
      have d0 : ((e : Int) == 0) = false := by rw [beq_eq_false_iff_ne]; omega
      clear hst he
      by_cases hlt : j < n
      · go_wp2_with fail
        go_ret
        exact ⟨_, l, r, e, rfl, hfin.out, hr, hsm.out, ho.out⟩
      · go_wp2_with fail
        go_ret
        exact ⟨_, l, r, e, rfl, hfin.out, hr, hsm.out, ho.out⟩
/-! ### Get -/
/-- What Get answers: the matchers, how many bytes were theirs, the error. -/
def got (s : List UInt8) : List M × Nat × Nat := if (tk s).2.2 = 0 then ((tk s).1, s.length - (tk s).2.1.length, 0) else ([], 0, (tk s).2.2)
theorem got_no {s : List UInt8} {x : Nat} (h : (tk s).2.2 = x) (hx : x ≠ 0) : got s = ([], 0, x) := by unfold got; rw [h, if_neg hx]
theorem got_ok {s : List UInt8} {l : List M} {r : List UInt8} (h : tk s = (l, r, 0)) : got s = (l, s.length - r.length, 0) := by unfold got; rw [h]; simp
/-- What Get's end is. -/
def GetE (w : World) (sl : List UInt8) (e : Ending) (w' : World) : Prop := ∃ v, e = .returned (.tuple #[v, .int .i64 ((got sl).2.1 : Int), .int .i64 ((got sl).2.2 : Int)]) ∧ View w' All v (got sl).1 ∧ New0 w w'
theorem GetE.no {w w' : World} {sl : List UInt8} {x : Nat} {z : Int} (h : got sl = ([], 0, x)) (hz : z = x) (hu : New0 w w') : GetE w sl (.returned (.tuple #[.slice none 0 0, .int .i64 0, .int .i64 z])) w' := by
  subst hz
  unfold GetE
  rw [h]
  exact ⟨_, rfl, Rw.View.noth _ _ _, hu⟩
theorem GetE.yes {w w' : World} {sl : List UInt8} {l : List M} {v : Value} {k : Nat} {z : Int} (h : got sl = (l, k, 0)) (hz : z = k) (hv : View w' All v l) (hu : New0 w w') : GetE w sl (.returned (.tuple #[v, .int .i64 z, .int .i64 0])) w' := by
  subst hz
  unfold GetE
  rw [h]
  exact ⟨v, rfl, hv, hu⟩
/-- Nothing. -/
def NoO : Ob.Rel := fun _ S => ∀ x, ¬ S x
theorem thingNo : Thing NoO := ⟨fun _ _ _ h _ _ => h, fun _ _ h x hx => absurd hx (h x)⟩
theorem ownNo {I : Ob.Rel} (hI : Thing I) {w0 w : World} (H : Own I w0 w) : Own (Tens I NoO) w0 w :=
  Own.new hI H (T := fun _ => False) (fun x hx => hx) (fun x hx => hx.elim) (Upon.refl _ w)
theorem tk_len {s r : List UInt8} {l : List M} (h : tk s = (l, r, 0)) : r.length ≤ s.length := by
  have := congrArg List.length (tk_back h).2
  rw [List.length_append] at this
  omega
set_option maxHeartbeats 3200000 in
theorem refgete_any (w : World) (s : ByteArray) (hs : s.size ≤ 140737488355328) :
    Calls Try.prog 17 #[.string s] w fun e w' => GetE w s.data.toList e w' := by
  have H0 : Own (InO w.heap.size s 0) w (w.alloc (.cells #[.string s, .int .i64 0] 55 (0, 0))) := Rw.box2Own (Below.refl _ _) (.string s) (.int .i64 ((0 : Nat) : Int)) _
  have HT := Lib.hid (take_any thingNo hs (ownNo (thingIn _ _ _) H0))
  have hsl : s.data.toList.length = s.size := by simp
  obtain ⟨sl, hsl'⟩ : ∃ sl, s.data.toList = sl := ⟨_, rfl⟩
  rw [hsl'] at HT hsl ⊢
  clear H0 hsl'
  go_enter Try.func17, Try.ntmps17
  go_wp2_with fail
  refine HT.out.mono ?_
  rintro e w2 ⟨u, l, r, x, rfl, hE, hr, hb, ho⟩
  obtain ⟨c0, c1, f0, f1⟩ := ioBox ho
  obtain ⟨A4, c4, hu4_, -, -⟩ := Rw.View.shape (ioSeeRow ho).view
  subst hu4_
  have hv := Lib.hid (ioSeeRow ho).view.all
  have hN := Lib.hid (newOf ho.bel)
  clear HT ho hb
  by_cases hx : x = 0
  · subst hx
    have htk := hE.2 rfl
    have hlr := tk_len htk
    have hrl : r.data.toList.length = r.size := by simp
    have hG := got_ok htk
    rw [hsl, hrl] at hG hlr
    have hsub : IntKind.i64.wrap ((s.size : Int) - (r.size : Int)) = ((s.size - r.size : Nat) : Int) := by rw [IntKind.wrap_i64]; omega
    have hsub' : wrap64 ((s.size : Int) - (r.size : Int)) = ((s.size - r.size : Nat) : Int) := by unfold wrap64; omega
    replace hG := Lib.hid hG
    clear hE htk hrl
    go_wp2_with fail
    go_quiet (fail)
    go_wp2_with fail
    refine bodyPost_ret (v := .tuple #[.slice A4 l.length c4, .int .i64 ((s.size - r.size : Nat) : Int), .int .i64 0]) (by simp [results, Try.results17, go_sem]) rfl ?_
    exact GetE.yes hG.out rfl (Rw.View.new hv.out (upon_drewN _ _ _)) (hN.out.trans (upon_drewN _ _ _))
  · have d : ((x : Int) != 0) = true := by rw [bne_iff_ne]; omega
    have hG := Lib.hid (got_no hE.1 hx)
    clear hE hx
    go_wp2_with fail
    go_quiet (fail)
    go_wp2_with fail
    refine bodyPost_ret (v := .tuple #[.slice none 0 0, .int .i64 0, .int .i64 (x : Int)]) (by simp [results, Try.results17, go_sem]) rfl ?_
    exact GetE.no hG.out rfl (hN.out.trans (upon_drewN _ _ _))
end Mt
end Go.Proofs.Ytckphnemnbejmaa
