/- The program's reader of records (layer 12): a record, the end. -/
import Derived.Test.YtkachkoiajdhgaaRcRd3
set_option maxRecDepth 100000
namespace Go.Proofs.Ytkachkoiajdhgaa
open Go.RowKit Go.Sort
namespace Rc
open Bit Dsk Ob Dig Lb
set_option linter.unusedVariables false
set_option linter.unusedSimpArgs false

/-- What a record that was read is made of. -/
def RecO (v : Value) (r : R) : Ob.Rel := fun w S =>
  (∃ u rs l, v = .agg #[.int .i64 1, u, .slice none 0 0, .int .i64 0, .int .i64 0] ∧ r = ⟨1, l, [], 0, 0⟩ ∧ SmsO u rs l w S) ∨
  (∃ u l a b, v = .agg #[.int .i64 2, .slice none 0 0, u, .int .i64 a, .int .i64 b] ∧ r = ⟨2, [], l, a, b⟩ ∧ MsO u l w S)
theorem thingRec (v : Value) (r : R) : Thing (RecO v r) where
  kept w w' S h hk hs := by
    rcases h with ⟨u, rs, l, h1, h2, h3⟩ | ⟨u, l, a, b, h1, h2, h3⟩
    · exact .inl ⟨u, rs, l, h1, h2, (thingSms u rs l).kept w w' S h3 hk hs⟩
    · exact .inr ⟨u, l, a, b, h1, h2, (thingMs u l).kept w w' S h3 hk hs⟩
  lt w S h := by
    rcases h with ⟨u, rs, l, h1, h2, h3⟩ | ⟨u, l, a, b, h1, h2, h3⟩
    · exact (thingSms u rs l).lt w S h3
    · exact (thingMs u l).lt w S h3
theorem rec_view {v : Value} {r : R} {w : World} {S : Nat → Prop} (h : RecO v r w S) : RView w S v r := by
  rcases h with ⟨u, rs, l, rfl, rfl, ⟨A, B, k1, k2, -, k4⟩⟩ | ⟨u, l, a, b, rfl, rfl, hm, -⟩
  · have hv : SView w S u l := ⟨rs, (Rw.Mine.view k1.1).mono fun b _ hb => (k4 b).2 (.inl (k1.2.1 b hb)), k2.1, fun i h1 h2 => innS.mono (k2.2.1 i h1 h2) fun x _ hx => (k4 x).2 (.inr hx)⟩
    obtain ⟨A', c', rfl, -, -⟩ := Rw.View.shape (Rw.Mine.view k1.1)
    exact ⟨⟨A', rs.length, c'⟩, ⟨none, 0, 0⟩, rfl, hv, Rw.View.noth _ _ _⟩
  · obtain ⟨A', c', rfl, -, -⟩ := Rw.View.shape hm
    exact ⟨⟨none, 0, 0⟩, ⟨A', l.length, c'⟩, rfl, Rw.DView.noth _ _ _ _, hm⟩
theorem boxStep5 {g : Nat} {v : Fv} {w : World} {S : Nat → Prop} (h : BoxO g v w S) (x : Fv) : ObjStep (BoxO g x) S w (setFive g x w) :=
  ⟨⟨S, ⟨h.1.setAll x, h.2⟩, fun _ h => h, fun _ h => .inl h⟩, upon_setFive (Upon.refl S w) (.inl ((h.2 g).2 rfl))⟩
theorem bnd_com {l : List Smp} (h : ∀ x ∈ l, BndS x) : Bnd (R.mk 1 l [] 0 0) := ⟨⟨(show (-9223372036854775808 : Int) ≤ 1 by decide), (show (1 : Int) ≤ 9223372036854775807 by decide)⟩, h, fun m hm => (by cases hm), ⟨(show (-9223372036854775808 : Int) ≤ 0 by decide), (show (0 : Int) ≤ 9223372036854775807 by decide)⟩, ⟨(show (-9223372036854775808 : Int) ≤ 0 by decide), (show (0 : Int) ≤ 9223372036854775807 by decide)⟩⟩
theorem bnd_del {l : List Mt.M} (h : Mt.chk l = 0) {a b : Int} (ha : -9223372036854775808 ≤ a ∧ a ≤ 9223372036854775807) (hb : -9223372036854775808 ≤ b ∧ b ≤ 9223372036854775807) : Bnd (R.mk 2 [] l a b) := ⟨⟨(show (-9223372036854775808 : Int) ≤ 2 by decide), (show (2 : Int) ≤ 9223372036854775807 by decide)⟩, fun x hx => (by cases hx), fun m hm => by
    have h1 := (Mt.chk_zero.1 h).2 m hm
    have h2 := Mt.right_small h1
    obtain ⟨h3, h4, -, -⟩ := Mt.right_zero.1 h1
    exact ⟨by omega, by omega, by omega, by omega⟩, ha, hb⟩
section
variable {J : Ob.Rel} {p : Nat} {s : ByteArray} {w0 w : World}
theorem rdEnd (h : Own (Tens (RdO p s) J) w0 w) :
    Calls Try.prog 36 #[.pointer (some ⟨p, 0, none⟩)] w fun r w' => ((s.data.toList = [] ∧ r = .returned (.tuple #[])) ∨ (s.data.toList ≠ [] ∧ r = Thrown 6)) ∧ w' = w := by
  obtain ⟨c0, f0⟩ := rdCell h
  clear h
  by_cases he : s.data.toList = []
  · have hs : (!s.toList.isEmpty) = false := by rw [ByteArray.toList_eq, he]; rfl
    replace he := Lib.hid he
    go_enter Try.func36, Try.ntmps36
    go_wp2_with fail
    go_end0
    exact ⟨.inl ⟨he.out, rfl⟩, rfl⟩
  · have hs : (!s.toList.isEmpty) = true := by
      rw [ByteArray.toList_eq]
      cases hl : s.data.toList with
      | nil => exact absurd hl he
      | cons x y => rfl
    have HT := Lib.hid (throw_no 6 (by decide))
    replace he := Lib.hid he
    go_enter Try.func36, Try.ntmps36
    go_wp2_with fail
    refine (HT.out _).mono ?_
    rintro r w2 ⟨rfl, rfl⟩
    exact ⟨rfl, .inr ⟨he.out, rfl⟩, rfl⟩
set_option maxHeartbeats 6400000 in
theorem rdRecord (hJ : Thing J) (h : Own (Tens (RdO p s) J) w0 w) (hs : s.size ≤ 140737488355328) :
    Calls Try.prog 35 #[.pointer (some ⟨p, 0, none⟩)] w (Got allR s J w0 fun r s' e w' => ∃ v : Value, e = .returned v ∧ Bnd r ∧ Own (Tens (RdO p s') (Tens J (RecO v r))) w0 w') := by
  obtain ⟨g, hg⟩ : ∃ g, w.heap.size = g := ⟨_, rfl⟩
  have hB := hg ▸ (boxMade (Tens.ob (thingRd p s) hJ) h zeroV).assoc
  obtain ⟨wA, hwA⟩ : ∃ wA, w.alloc (.cells #[.int .i64 0, .slice none 0 0, .slice none 0 0, .int .i64 0, .int .i64 0] 25 (0, 0)) = wA := ⟨_, rfl⟩
  rw [hwA] at hB
  have hwA' : Hid (w.alloc (.cells #[.int .i64 0, .slice none 0 0, .slice none 0 0, .int .i64 0, .int .i64 0] 25 (0, 0)) = wA) := Lib.hid hwA
  have hJB := Lib.hid (fun v => Tens.ob hJ (thingBox g v))
  have HN := Lib.hid (rdNumber (hJB.out _) hB hs)
  clear hB h hwA
  go_enter Try.func35, Try.ntmps35
  go_wp2_with fail
  rw [hwA'.out]
  refine HN.out.mono ?_
  rintro r w2 (⟨k, s2, hR2, hs2, rfl, hk64, h2⟩ | ⟨e, hR2, rfl, h2⟩)
  case inr => exact ⟨rfl, .inr ⟨e, by unfold allR; rw [bnd_no hR2], rfl, h2.dropr⟩⟩
  have hal : Hid (allR s.data.toList = (bnd (mustR (decide (k = 1) || decide (k = 2)) 5) fun _ => if k = 1 then comR else delR) s2.data.toList) := Lib.hid (by unfold allR; rw [bnd_ok hR2])
  clear HN hR2
  by_cases hk1 : k = 1
  · subst hk1
    have hal2 : Hid (allR s.data.toList = bnd smpsR comF s2.data.toList) := Lib.hid (by rw [hal.out, bnd_ok (a := ()) (r := s2.data.toList) (by rfl), if_pos rfl, comR_smps])
    have HS := Lib.hid (rdSamples (hJB.out _) h2 hs2)
    clear hal h2
    go_wp2_with fail
    refine HS.out.mono ?_
    rintro r w3 (⟨l, s3, hR3, hs3, u, rs, rfl, hbs, hll, h3⟩ | ⟨e, hR3, rfl, h3⟩)
    case inr => exact ⟨rfl, .inr ⟨e, by rw [hal2.out, bnd_no hR3], rfl, h3.dropr⟩⟩
    have hRR : Hid (allR s.data.toList = .ok (⟨1, l, [], 0, 0⟩, s3.data.toList)) := Lib.hid (by rw [hal2.out, bnd_ok hR3]; rfl)
    have hbnd := Lib.hid (bnd_com hbs)
    obtain ⟨Au, cu, hu_, -, -⟩ := Rw.View.shape (Rw.Mine.view (let ⟨S, hS⟩ := h3.dropl.dropl.seeL; hS.1 : Rw.Mine layS 43 w3 u rs))
    subst hu_
    obtain ⟨A, hA, go⟩ := inBox (thingRd _ _) hJ (thingSms _ _ _) h3
    have hst := dropBox (go _ _ (boxStep5 hA ⟨.int .i64 1, .slice Au rs.length cu, .slice none 0 0, .int .i64 0, .int .i64 0⟩))
    have hF := hA.1
    obtain ⟨g0, g1, g2, g3, g4⟩ := hF.cells
    have z0 := hF.frozen 0
    obtain ⟨⟨p1, q1⟩, ⟨p2, q2⟩, ⟨p3, q3⟩, ⟨p4, q4⟩⟩ := hF.roads ⟨.int .i64 1, .slice Au rs.length cu, .slice none 0 0, .int .i64 0, .int .i64 0⟩
    obtain ⟨wz, hwz⟩ : ∃ wz, setFive g ⟨.int .i64 1, .slice Au rs.length cu, .slice none 0 0, .int .i64 0, .int .i64 0⟩ w3 = wz := ⟨_, rfl⟩
    have hFz := (hF.setAll ⟨.int .i64 1, .slice Au rs.length cu, .slice none 0 0, .int .i64 0, .int .i64 0⟩).cells
    rw [hwz] at hFz hst
    replace hFz := Lib.hid hFz
    have hst' : Hid (Own (Tens (RdO p s3) (Tens J (RecO (.agg #[.int .i64 1, .slice Au rs.length cu, .slice none 0 0, .int .i64 0, .int .i64 0]) ⟨1, l, [], 0, 0⟩))) w0 wz) := Lib.hid (hst.mono fun S h => Tens.mapR (fun A h => Tens.mapR (fun A h => .inl ⟨_, rs, l, rfl, rfl, h⟩) h) h)
    have hwz' : Hid ((((((w3.setCell ⟨g, 0, none⟩ (.int .i64 1)).setCell ⟨g, 1, none⟩ (.slice Au rs.length cu)).setCell ⟨g, 2, none⟩ (.slice none 0 0)).setCell ⟨g, 3, none⟩ (.int .i64 0)).setCell ⟨g, 4, none⟩ (.int .i64 0)) = wz) := Lib.hid hwz
    clear HS hR3 h3 hA go hst hF hwz hal2 hbs
    go_wp2_with fail
    rw [hwz'.out]
    obtain ⟨r0, r1, r2, r3, r4⟩ := hFz.out
    clear p1 q1 p2 q2 p3 q3 p4 q4 g0 g1 g2 g3 g4 z0
    refine bodyPost_ret (v := .agg #[.int .i64 1, .slice Au rs.length cu, .slice none 0 0, .int .i64 0, .int .i64 0]) (by simp [results, Try.results35, go_sem, r0, r1, r2, r3, r4]) rfl ?_
    exact .inl ⟨_, s3, hRR.out, hs3, _, rfl, hbnd.out, hst'.out⟩
  have e1 : ((k : Int) == 1) = false := by rw [beq_eq_false_iff_ne]; omega
  by_cases hk2 : k = 2
  · subst hk2
    have hal2 : Hid (allR s.data.toList = delR s2.data.toList) := Lib.hid (by rw [hal.out, bnd_ok (a := ()) (r := s2.data.toList) (by rfl), if_neg (by decide)])
    have HM := Lib.hid (rdMatches (hJB.out _) h2 hs2)
    clear hal h2 hk1
    go_wp2_with fail
    refine HM.out.mono ?_
    rintro r w3 (⟨l, s3, hR3, hs3, u, rfl, hcl, h3⟩ | ⟨e, hR3, rfl, h3⟩)
    case inr => exact ⟨rfl, .inr ⟨e, by rw [hal2.out]; unfold delR; rw [bnd_no hR3], rfl, h3.dropr⟩⟩
    have hal3 : Hid (allR s.data.toList = (bnd sgnR fun a => bnd sgnR fun b => retR (R.mk 2 [] l a b)) s3.data.toList) := Lib.hid (by rw [hal2.out]; unfold delR; rw [bnd_ok hR3])
    have hJM := Lib.hid (fun v => Tens.ob (hJB.out v) (thingMs u l))
    have HT := Lib.hid (rdTime (hJM.out _) h3 hs3)
    obtain ⟨Su, hSu⟩ : ∃ S, Mt.View w3 S u l := let ⟨S, hS⟩ := h3.dropl.seeR; ⟨S, hS.1⟩
    obtain ⟨Au, cu, hu_, -, -⟩ := Rw.View.shape hSu
    clear hSu
    subst hu_
    replace hcl := Lib.hid hcl
    clear HM hal2 hR3 h3
    go_wp2_with fail
    refine HT.out.mono ?_
    rintro r w4 (⟨a, s4, hR4, hs4, rfl, hab, h4⟩ | ⟨e, hR4, rfl, h4⟩)
    case inr => exact ⟨rfl, .inr ⟨e, by rw [hal3.out, bnd_no hR4], rfl, h4.dropr.dropr⟩⟩
    have hal4 : Hid (allR s.data.toList = (bnd sgnR fun b => retR (R.mk 2 [] l a b)) s4.data.toList) := Lib.hid (by rw [hal3.out, bnd_ok hR4])
    have HT2 := Lib.hid (rdTime (hJM.out _) h4 hs4)
    replace hab := Lib.hid hab
    clear HT hal3 hR4 h4
    go_wp2_with fail
    refine HT2.out.mono ?_
    rintro r w5 (⟨b, s5, hR5, hs5, rfl, hbb, h5⟩ | ⟨e, hR5, rfl, h5⟩)
    case inr => exact ⟨rfl, .inr ⟨e, by rw [hal4.out, bnd_no hR5], rfl, h5.dropr.dropr⟩⟩
    have hRR : Hid (allR s.data.toList = .ok (⟨2, [], l, a, b⟩, s5.data.toList)) := Lib.hid (by rw [hal4.out, bnd_ok hR5]; rfl)
    have hbnd := Lib.hid (bnd_del hcl.out hab.out hbb)
    obtain ⟨A, hA, go⟩ := inBox (thingRd _ _) hJ (thingMs _ _) h5
    have hst := dropBox (go _ _ (boxStep5 hA ⟨.int .i64 2, .slice none 0 0, .slice Au l.length cu, .int .i64 a, .int .i64 b⟩))
    have hF := hA.1
    obtain ⟨g0, g1, g2, g3, g4⟩ := hF.cells
    have z0 := hF.frozen 0
    obtain ⟨⟨p1, q1⟩, ⟨p2, q2⟩, ⟨p3, q3⟩, ⟨p4, q4⟩⟩ := hF.roads ⟨.int .i64 2, .slice none 0 0, .slice Au l.length cu, .int .i64 a, .int .i64 b⟩
    obtain ⟨wz, hwz⟩ : ∃ wz, setFive g ⟨.int .i64 2, .slice none 0 0, .slice Au l.length cu, .int .i64 a, .int .i64 b⟩ w5 = wz := ⟨_, rfl⟩
    have hFz := (hF.setAll ⟨.int .i64 2, .slice none 0 0, .slice Au l.length cu, .int .i64 a, .int .i64 b⟩).cells
    rw [hwz] at hFz hst
    replace hFz := Lib.hid hFz
    have hst' : Hid (Own (Tens (RdO p s5) (Tens J (RecO (.agg #[.int .i64 2, .slice none 0 0, .slice Au l.length cu, .int .i64 a, .int .i64 b]) ⟨2, [], l, a, b⟩))) w0 wz) := Lib.hid (hst.mono fun S h => Tens.mapR (fun A h => Tens.mapR (fun A h => .inr ⟨_, l, a, b, rfl, rfl, h⟩) h) h)
    have hwz' : Hid ((((((w5.setCell ⟨g, 0, none⟩ (.int .i64 2)).setCell ⟨g, 1, none⟩ (.slice none 0 0)).setCell ⟨g, 2, none⟩ (.slice Au l.length cu)).setCell ⟨g, 3, none⟩ (.int .i64 a)).setCell ⟨g, 4, none⟩ (.int .i64 b)) = wz) := Lib.hid hwz
    clear HT2 hR5 h5 hA go hst hF hwz hal4 hcl hab hbb
    go_wp2_with fail
    rw [hwz'.out]
    obtain ⟨r0, r1, r2, r3, r4⟩ := hFz.out
    clear p1 q1 p2 q2 p3 q3 p4 q4 g0 g1 g2 g3 g4 z0
    refine bodyPost_ret (v := .agg #[.int .i64 2, .slice none 0 0, .slice Au l.length cu, .int .i64 a, .int .i64 b]) (by simp [results, Try.results35, go_sem, r0, r1, r2, r3, r4]) rfl ?_
    exact .inl ⟨_, s5, hRR.out, hs5, _, rfl, hbnd.out, hst'.out⟩
  · have e2 : ((k : Int) == 2) = false := by rw [beq_eq_false_iff_ne]; omega
    have hRR : Hid (allR s.data.toList = .error 5) := Lib.hid (by rw [hal.out, bnd_no (e := 5)]; rw [decide_eq_false hk1, decide_eq_false hk2]; rfl)
    have hend := Lib.hid h2.dropl.dropr
    clear hal h2 hk1 hk2
    go_wp2_with fail
    exact ⟨rfl, .inr ⟨5, hRR.out, rfl, hend.out⟩⟩
end
end Rc
end Go.Proofs.Ytkachkoiajdhgaa
