/- The program's reader of records (layer 12): samples, a record, the end. -/
import Derived.Test.YtkachkoiajdhgaaRcRd2
set_option maxRecDepth 100000
namespace Go.Proofs.Ytkachkoiajdhgaa
open Go.RowKit Go.Sort
namespace Rc
open Bit Dsk Ob Dig Lb
set_option linter.unusedVariables false
set_option linter.unusedSimpArgs false

theorem count_any (n : Nat) (h : n < 18446744073709551616) (w : World) :
    Calls Try.prog 49 #[.int .u64 (n : Int)] w fun r w' => r = .returned (.bool (decide (1 ≤ n) && decide (n ≤ 32))) ∧ w' = w := by
  have e1 : decide ((n : Int) ≥ 1) = decide (1 ≤ n) := by
    by_cases c : 1 ≤ n
    · rw [decide_eq_true c]; exact decide_eq_true (by omega)
    · rw [decide_eq_false c]; exact decide_eq_false (by omega)
  have e2 : decide ((n : Int) ≤ 32) = decide (n ≤ 32) := by
    by_cases c : n ≤ 32
    · rw [decide_eq_true c]; exact decide_eq_true (by omega)
    · rw [decide_eq_false c]; exact decide_eq_false (by omega)
  by_cases c : 1 ≤ n
  · have d : (1 : Int) ≤ (n : Int) := by omega
    go_enter Try.func49, Try.ntmps49
    go_wp2
    go_ret
    exact ⟨by simp [c, e2], rfl⟩
  · have d : ¬ (1 : Int) ≤ (n : Int) := by omega
    go_enter Try.func49, Try.ntmps49
    go_wp2
    go_ret
    exact ⟨by simp [c], rfl⟩
theorem countM {n : Nat} (h : (decide (1 ≤ n) && decide (n ≤ 32)) = true) : 1 ≤ n ∧ n ≤ 32 := by simpa using h
abbrev SmsO (u : Value) (rs : List RS) (l : List Smp) : Ob.Rel := Tens (Rw.RowO layS 43 u rs) (LabsO rs l)
theorem thingSms (u : Value) (rs : List RS) (l : List Smp) : Thing (SmsO u rs l) := Tens.ob (Rw.thingRow _ _ _ _) (thingLabs _ _)
theorem smsOut {I J : Ob.Rel} {u : Value} {rs : List RS} {l : List Smp} {D : Ob.Rel} {w0 w : World} (H : Own (Tens I (Tens (Tens J (SmsO u rs l)) D)) w0 w) : Own (Tens I (Tens J (Tens (SmsO u rs l) D))) w0 w := H.mono fun S h => Tens.mapR (fun A h => Tens.assoc h) h
section
variable {J : Ob.Rel} {p : Nat} {s : ByteArray} {w0 w : World}
set_option maxHeartbeats 6400000 in
theorem rdSamples (hJ : Thing J) (h : Own (Tens (RdO p s) J) w0 w) (hs : s.size ≤ 140737488355328) :
    Calls Try.prog 57 #[.pointer (some ⟨p, 0, none⟩)] w (Got smpsR s J w0 fun l s' r w' => ∃ (u : Value) (rs : List RS), r = .returned u ∧ (∀ x ∈ l, BndS x) ∧ l.length ≤ 32 ∧ Own (Tens (RdO p s') (Tens J (SmsO u rs l))) w0 w') := by
  have HN := Lib.hid (rdNumber hJ h hs)
  clear h
  go_enter Try.func57, Try.ntmps57
  go_wp2_with fail
  refine HN.out.mono ?_
  rintro r w2 (⟨n, s2, hR2, hs2, rfl, hn64, h2⟩ | ⟨e, hR2, rfl, h2⟩)
  case inr => exact ⟨rfl, .inr ⟨e, by unfold smpsR; rw [bnd_no hR2], rfl, h2⟩⟩
  obtain ⟨K, hK⟩ : ∃ K, smpsR s.data.toList = K := ⟨_, rfl⟩
  have hC := count_any n hn64
  obtain ⟨bb, hbb⟩ : ∃ bb, (decide (1 ≤ n) && decide (n ≤ 32)) = bb := ⟨_, rfl⟩
  rw [hbb] at hC
  cases bb with
  | false =>
    have hKe : Hid (smpsR s.data.toList = .error 2) := Lib.hid (by unfold smpsR; rw [bnd_ok hR2, bnd_no (e := 2) (by unfold mustR; rw [hbb]; rfl)])
    have hend := Lib.hid h2.dropl
    have HC := Lib.hid hC
    have HT := Lib.hid (throw_no 2 (by decide))
    clear HN hR2 h2 hbb hC hK
    go_wp2_with fail
    refine (HC.out _).mono ?_
    rintro r w3 ⟨rfl, rfl⟩
    clear HC
    go_wp2_with fail
    refine (HT.out _).mono ?_
    rintro r w3 ⟨rfl, rfl⟩
    exact ⟨rfl, .inr ⟨2, hKe.out, rfl, hend.out⟩⟩
  | true =>
    obtain ⟨hn1, hn32⟩ := countM hbb
    have hKs : Hid (manyK retR n [] s2.data.toList = K) := Lib.hid (by rw [← hK]; unfold smpsR; rw [bnd_ok hR2, bnd_ok (a := ()) (r := s2.data.toList) (by unfold mustR; rw [hbb]; rfl)])
    obtain ⟨i0, z0, hi, hz0, hz1, hz2, -⟩ := typS.info
    replace hz1 : i0.size = 3 := hz1
    have HC := Lib.hid hC
    replace h2 := Lib.hid h2
    have hJr := Lib.hid (fun s => Tens.ob (thingRd p s) hJ)
    clear HN hR2 hbb hC
    replace hK := Lib.hid hK
    go_wp2_with fail
    refine (HC.out _).mono ?_
    rintro r w3 ⟨rfl, rfl⟩
    clear HC
    go_wp2_with (refine wpList_make_own _ rfl _ _ _ rfl 0 43 i0 _ 3 Try.underlying22 hi hz0 hz1 _ _ _ n rfl rfl rfl ?mk1 ?mk2 (Nat.zero_le _) ?_)
    case mk1 => rw [hz2]; omega
    case mk2 => unfold maxLen; omega
    intro w4 hrow hg4
    have h4 := Lib.hid (labsNone (Tens.ob (hJr.out _) (Rw.thingRow _ _ _ _)) (Rw.rowMade (L := layS) (T := 43) (hJr.out _) h2.out hrow hg4)).assoc.assoc
    clear hrow hg4 hi hz0 hz1 hz2 h2
    have hJs := Lib.hid (fun u rs l => Tens.ob hJ (thingSms u rs l))
    go_wp2_with fail
    go_loopw [4, 14] (fun u ov wr => ∃ (j : Nat) (sx : ByteArray) (l : List Smp) (rs : List RS), ov = .int .u64 (j : Int) ∧ j ≤ n ∧ sx.size ≤ 140737488355328 ∧ Hid (l.length = j) ∧ Hid (∀ x ∈ l, BndS x) ∧ Hid (manyK retR (n - j) l sx.data.toList = K) ∧
      Hid (Own (Tens (RdO p sx) (Tens J (SmsO u rs l))) w0 wr)) (fun _ ov _ => n - (intOf ov).toNat)
    case atStart => exact ⟨0, s2, [], [], rfl, Nat.zero_le _, hs2, Lib.hid rfl, Lib.hid (fun x hx => by cases hx), hKs, h4⟩
    case round =>
      clear hKs h4
      obtain ⟨j, sx, l, rs, rfl, hj, hsx, hlj, hbs, hr, ho⟩ := hrel
      by_cases hlt : j < n
      · have HS := Lib.hid (rdSample (hJs.out _ _ _) ho.out hsx)
        have hmst : Hid (∀ x r, smpR sx.data.toList = .ok (x, r) → manyK retR (n - (j + 1)) (l ++ [x]) r = K) := Lib.hid (fun x r hx => by rw [← hr.out, show n - j = n - (j + 1) + 1 by omega, many_step hx])
        have hmer : Hid (∀ e, smpR sx.data.toList = .error e → K = .error e) := Lib.hid (fun e hx => by rw [← hr.out, show n - j = n - (j + 1) + 1 by omega, many_err hx])
        clear ho hr
        go_wp2_with fail
        refine HS.out.mono ?_
        rintro r w6 (⟨x, s6, hR6, hs6, ⟨sa, sn, sc⟩, rfl, hb6, h6⟩ | ⟨e, hR6, rfl, h6⟩)
        case inr => exact ⟨rfl, .inr ⟨e, by rw [hK.out]; exact hmer.out e hR6, rfl, h6.dropr⟩⟩
        obtain ⟨ls, a, b⟩ := x
        have hm6 := Lib.hid (hmst.out _ _ hR6)
        have h10 := smsOut h6
        clear HS hmst hmer hR6 h6
        have hll : l.length ≤ 32 := by have := hlj.out; omega
        have hMi := Lib.hid (Rw.Mine.new (rowMine h10) ((Upon.refl _ w6).alloc (.cells #[(⟨sa, sn, sc⟩ : Rw.Sl).v, .int .i64 a, .int .u64 (b : Int)] 43 (0, 0))))
        have hXi := Lib.hid (view_smp w6 (⟨sa, sn, sc⟩ : Rw.Sl) a b)
        have hPe := Lib.hid (permOut (Own.upon0 (Tens.ob (thingRd _ _) (Tens.ob hJ (Tens.ob (thingSms _ _ _) (thingLab _ _)))) h10 ((Upon.refl _ w6).alloc (.cells #[(⟨sa, sn, sc⟩ : Rw.Sl).v, .int .i64 a, .int .u64 (b : Int)] 43 (0, 0)))))
        obtain ⟨A10, c10, hu10, -, -⟩ := Rw.View.shape (rowMine h10).view
        have hrl : rs.length ≤ 32 := by
          obtain ⟨S10, hS10⟩ := h10.dropl.dropl.dropr.seeR
          have := hS10.1
          omega
        subst hu10
        clear h10
        go_wp2_with (at_builtin; refine Rw.wpList_append typS rfl _ _ rfl _ _ rs [((⟨sa, sn, sc⟩ : Rw.Sl), a, b)] Rw.All rfl rfl hMi.out hXi.out (by rw [List.length_singleton]; omega) (by rw [List.length_singleton]; omega) ?_)
        intro v' w11 hown hgr hbl
        have h11 := Rw.rowAppend (Tens.ob (thingRd _ _) (Tens.ob hJ (Tens.ob (thingLabs _ _) (thingLab _ _)))) hPe.out hown hgr (hbl.imp id fun h => h.trans (by simp))
        have h12 := Lib.hid (permIn h11 (fun w S h => labs_add (t := a) (u := b) h))
        have hlj' : Hid ((l ++ [((ls : List Pr), a, b)]).length = j + 1) := Lib.hid (by rw [List.length_append, hlj.out]; rfl)
        have hbs' : Hid (∀ x ∈ l ++ [((ls : List Pr), a, b)], BndS x) := Lib.hid (bnds_snoc hbs.out hb6)
        clear hMi hXi hPe hown hgr hbl h11 hbs hlj hb6
        go_wp2_with fail
        go_roundw
        case rel => exact ⟨j + 1, s6, _, _, by go_num, hlt, hs6, hlj', hbs', hm6, h12⟩
        case measure => simp [intOf]; omega
      · have hr2 := hr.out
        rw [show n - j = 0 by omega, manyK] at hr2
        have hKr : Hid (K = .ok (l, sx.data.toList)) := Lib.hid hr2.symm
        have hll : l.length ≤ 32 := by have := hlj.out; omega
        have hll' := Lib.hid hll
        clear hr hr2 hll
        go_wp2_with fail
        go_ret
        exact .inl ⟨l, sx, by rw [hK.out]; exact hKr.out, hsx, _, rs, rfl, hbs.out, hll'.out, ho.out⟩
end
end Rc
end Go.Proofs.Ytkachkoiajdhgaa
