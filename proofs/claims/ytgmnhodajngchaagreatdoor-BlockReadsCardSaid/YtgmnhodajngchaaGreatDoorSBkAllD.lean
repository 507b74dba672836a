/- Parts: RcRd4, RcDcd, BkRow2, BkAllR, BkAllD. -/
import Derived.Test.YtgmnhodajngchaaGreatDoorSPRc3
import Derived.Tactics2
import Derived.Defers
import Derived.Recover
import Derived.Laws.Pointers
import Derived.Test.YtgmnhodajngchaaGreatDoorSBkPts
set_option maxRecDepth 100000
set_option linter.unusedSimpArgs false
set_option linter.unusedVariables false
namespace Go.Proofs.YtgmnhodajngchaaGreatDoor
section
open Go.RowKit Go.Sort
namespace Rc
open Bit Dsk Ob Dig Lb
def RecO (v : Value) (r : R) : Ob.Rel := fun w S =>
 (∃ u rs l, v = .agg #[.int .i64 1, u, .slice none 0 0, .int .i64 0, .int .i64 0] /\ r = ⟨1, l, [], 0, 0⟩ /\ SmsO u rs l w S) \/
 (∃ u l a b, v = .agg #[.int .i64 2, .slice none 0 0, u, .int .i64 a, .int .i64 b] /\ r = ⟨2, [], l, a, b⟩ /\ MsO u l w S)
theorem thingRec (v : Value) (r : R) : Thing (RecO v r) where
 kept w w' S h hk hs := by
  rcases h with ⟨u, rs, l, h1, h2, h3⟩ | ⟨u, l, a, b, h1, h2, h3⟩
  ·exact .inl ⟨u, rs, l, h1, h2, (thingSms u rs l).kept w w' S h3 hk hs⟩
  ·exact .inr ⟨u, l, a, b, h1, h2, (thingMs u l).kept w w' S h3 hk hs⟩
 lt w S h := by
  rcases h with ⟨u, rs, l, h1, h2, h3⟩ | ⟨u, l, a, b, h1, h2, h3⟩
  ·exact (thingSms u rs l).lt w S h3
  ·exact (thingMs u l).lt w S h3
theorem rec_view {v : Value} {r : R} {w : World} {S : Nat -> Prop} (h : RecO v r w S) : RView w S v r := by
 rcases h with ⟨u, rs, l, rfl, rfl, ⟨A, B, k1, k2, -, k4⟩⟩ | ⟨u, l, a, b, rfl, rfl, hm, -⟩
 ·have hv : SView w S u l := ⟨rs, (Rw.Mine.view k1.1).mono fun b _ hb => (k4 b).2 (.inl (k1.2.1 b hb)), k2.1, fun i h1 h2 => innS.mono (k2.2.1 i h1 h2) fun x _ hx => (k4 x).2 (.inr hx)⟩
  obtain ⟨A', c', rfl, -, -⟩ := Rw.View.shape (Rw.Mine.view k1.1)
  exact ⟨⟨A', rs.length, c'⟩, ⟨none, 0, 0⟩, rfl, hv, Rw.View.noth _ _ _⟩
 ·obtain ⟨A', c', rfl, -, -⟩ := Rw.View.shape hm
  exact ⟨⟨none, 0, 0⟩, ⟨A', l.length, c'⟩, rfl, Rw.DView.noth _ _ _ _, hm⟩
theorem boxStep5 {g : Nat} {v : Fv} {w : World} {S : Nat -> Prop} (h : BoxO g v w S) (x : Fv) : ObjStep (BoxO g x) S w (setFive g x w) :=
 ⟨⟨S, ⟨h.1.setAll x, h.2⟩, fun _ h => h, fun _ h => .inl h⟩, upon_setFive (Upon.refl S w) (.inl ((h.2 g).2 rfl))⟩
theorem bnd_com {l : List Smp} (h : ∀ x ∈ l, BndS x) : Bnd (R.mk 1 l [] 0 0) := ⟨⟨(show (-9223372036854775808 : Int) <= 1 by decide), (show (1 : Int) <= 9223372036854775807 by decide)⟩, h, fun m hm => (by cases hm), ⟨(show (-9223372036854775808 : Int) <= 0 by decide), (show (0 : Int) <= 9223372036854775807 by decide)⟩, ⟨(show (-9223372036854775808 : Int) <= 0 by decide), (show (0 : Int) <= 9223372036854775807 by decide)⟩⟩
theorem bnd_del {l : List Mt.M} (h : Mt.chk l = 0) {a b : Int} (ha : -9223372036854775808 <= a /\ a <= 9223372036854775807) (hb : -9223372036854775808 <= b /\ b <= 9223372036854775807) : Bnd (R.mk 2 [] l a b) := ⟨⟨(show (-9223372036854775808 : Int) <= 2 by decide), (show (2 : Int) <= 9223372036854775807 by decide)⟩, fun x hx => (by cases hx), fun m hm => by
  have h1 := (Mt.chk_zero.1 h).2 m hm
  have h2 := Mt.right_small h1
  obtain ⟨h3, h4, -, -⟩ := Mt.right_zero.1 h1
  exact ⟨by omega, by omega, by omega, by omega⟩, ha, hb⟩
section
variable {J : Ob.Rel} {p : Nat} {s : ByteArray} {w0 w : World}
theorem rdEnd (h : Own (Tens (RdO p s) J) w0 w) :
  Calls Tryz.prog 153 #[.pointer (some ⟨p, 0, none⟩)] w fun r w' => ((s.data.toList = [] /\ r = .returned (.tuple #[])) \/ (s.data.toList ≠ [] /\ r = Thrown 6)) /\ w' = w := by
 obtain ⟨c0, f0⟩ := rdCell h
 clear h
 by_cases he : s.data.toList = []
 ·have hs : (!s.toList.isEmpty) = false := by rw [ByteArray.toList_eq, he]; rfl
  replace he := Lib.hid he
  go_enter Tryz.func153, Tryz.ntmps153
  go_wp2_with fail
  go_end0
  exact ⟨.inl ⟨he.out, rfl⟩, rfl⟩
 ·have hs : (!s.toList.isEmpty) = true := by
   rw [ByteArray.toList_eq]
   cases hl : s.data.toList with
   | nil => exact absurd hl he
   | cons x y => rfl
  have HT := Lib.hid (throw_no 6 (by decide))
  replace he := Lib.hid he
  go_enter Tryz.func153, Tryz.ntmps153
  go_wp2_with fail
  refine (HT.out _).mono ?_
  rintro r w2 ⟨rfl, rfl⟩
  exact ⟨rfl, .inr ⟨he.out, rfl⟩, rfl⟩
set_option maxHeartbeats 6400000 in
theorem rdRecord (hJ : Thing J) (h : Own (Tens (RdO p s) J) w0 w) (hs : s.size <= 140737488355328) :
  Calls Tryz.prog 152 #[.pointer (some ⟨p, 0, none⟩)] w (Got allR s J w0 fun r s' e w' => ∃ v : Value, e = .returned v /\ Bnd r /\ Own (Tens (RdO p s') (Tens J (RecO v r))) w0 w') := by
 obtain ⟨g, hg⟩ : ∃ g, w.heap.size = g := ⟨_, rfl⟩
 have hB := hg ▸ (boxMade (Tens.ob (thingRd p s) hJ) h zeroV).assoc
 obtain ⟨wA, hwA⟩ : ∃ wA, w.alloc (.cells #[.int .i64 0, .slice none 0 0, .slice none 0 0, .int .i64 0, .int .i64 0] 47 (0, 0)) = wA := ⟨_, rfl⟩
 rw [hwA] at hB
 have hwA' : Hid (w.alloc (.cells #[.int .i64 0, .slice none 0 0, .slice none 0 0, .int .i64 0, .int .i64 0] 47 (0, 0)) = wA) := Lib.hid hwA
 have hJB := Lib.hid (fun v => Tens.ob hJ (thingBox g v))
 have HN := Lib.hid (rdNumber (hJB.out _) hB hs)
 clear hB h hwA
 go_enter Tryz.func152, Tryz.ntmps152
 go_wp2_with fail
 rw [hwA'.out]
 refine HN.out.mono ?_
 rintro r w2 (⟨k, s2, hR2, hs2, rfl, hk64, h2⟩ | ⟨e, hR2, rfl, h2⟩)
 case inr => exact ⟨rfl, .inr ⟨e, by unfold allR; rw [bnd_no hR2], rfl, h2.dropr⟩⟩
 have hal : Hid (allR s.data.toList = (bnd (mustR (decide (k = 1) || decide (k = 2)) 5) fun _ => if k = 1 then comR else delR) s2.data.toList) := Lib.hid (by unfold allR; rw [bnd_ok hR2])
 clear HN hR2
 by_cases hk1 : k = 1
 ·subst hk1
  have hal2 : Hid (allR s.data.toList = bnd smpsR comF s2.data.toList) := Lib.hid (by rw [hal.out, bnd_ok (a := ()) (r := s2.data.toList) (by rfl), if_pos rfl, comR_smps])
  have HS := Lib.hid (rdSamples (hJB.out _) h2 hs2)
  clear hal h2
  go_wp2_with fail
  refine HS.out.mono ?_
  rintro r w3 (⟨l, s3, hR3, hs3, u, rs, rfl, hbs, hll, h3⟩ | ⟨e, hR3, rfl, h3⟩)
  case inr => exact ⟨rfl, .inr ⟨e, by rw [hal2.out, bnd_no hR3], rfl, h3.dropr⟩⟩
  have hRR : Hid (allR s.data.toList = .ok (⟨1, l, [], 0, 0⟩, s3.data.toList)) := Lib.hid (by rw [hal2.out, bnd_ok hR3]; rfl)
  have hbnd := Lib.hid (bnd_com hbs)
  obtain ⟨Au, cu, hu_, -, -⟩ := Rw.View.shape (Rw.Mine.view (let ⟨S, hS⟩ := h3.dropl.dropl.seeL; hS.1 : Rw.Mine layS 91 w3 u rs))
  subst hu_
  obtain ⟨A, hA, go⟩ := inBox (thingRd _ _) hJ (thingSms _ _ _) h3
  have hst := dropBox (go _ _ (boxStep5 hA ⟨.int .i64 1, .slice Au rs.length cu, .slice none 0 0, .int .i64 0, .int .i64 0⟩))
  have hF := hA.1
  obtain ⟨g0, g1, g2, g3, g4⟩ := hF.cells
  have z0 := hF.frozen 0
  obtain ⟨⟨p1, q1⟩, ⟨p2, q2⟩, ⟨p3, q3⟩, ⟨p4, q4⟩⟩ := hF.roads ⟨.int .i64 1, .slice Au rs.length cu, .slice none 0 0, .int .i64 0, .int .i64 0⟩
  obtain ⟨wz, hwz⟩ : ∃ wz, setFive g ⟨.int .i64 1, .slice Au rs.length cu, .slice none 0 0, .int .i64 0, .int .i64 0⟩ w3 = wz := ⟨_, rfl⟩
  have hFz := (hF.setAll ⟨.int .i64 1, .slice Au rs.length cu, .slice none 0 0, .int .i64 0, .int .i64 0⟩).cells
  rw [hwz] at hFz hst
  replace hFz := Lib.hid hFz
  have hst' : Hid (Own (Tens (RdO p s3) (Tens J (RecO (.agg #[.int .i64 1, .slice Au rs.length cu, .slice none 0 0, .int .i64 0, .int .i64 0]) ⟨1, l, [], 0, 0⟩))) w0 wz) := Lib.hid (hst.mono fun S h => Tens.mapR (fun A h => Tens.mapR (fun A h => .inl ⟨_, rs, l, rfl, rfl, h⟩) h) h)
  have hwz' : Hid ((((((w3.setCell ⟨g, 0, none⟩ (.int .i64 1)).setCell ⟨g, 1, none⟩ (.slice Au rs.length cu)).setCell ⟨g, 2, none⟩ (.slice none 0 0)).setCell ⟨g, 3, none⟩ (.int .i64 0)).setCell ⟨g, 4, none⟩ (.int .i64 0)) = wz) := Lib.hid hwz
  clear HS hR3 h3 hA go hst hF hwz hal2 hbs
  go_wp2_with fail
  rw [hwz'.out]
  obtain ⟨r0, r1, r2, r3, r4⟩ := hFz.out
  clear p1 q1 p2 q2 p3 q3 p4 q4 g0 g1 g2 g3 g4 z0
  refine bodyPost_ret (v := .agg #[.int .i64 1, .slice Au rs.length cu, .slice none 0 0, .int .i64 0, .int .i64 0]) (by simp [results, Tryz.results152, go_sem, r0, r1, r2, r3, r4]) rfl ?_
  exact .inl ⟨_, s3, hRR.out, hs3, _, rfl, hbnd.out, hst'.out⟩
 have e1 : ((k : Int) == 1) = false := by rw [beq_eq_false_iff_ne]; omega
 by_cases hk2 : k = 2
 ·subst hk2
  have hal2 : Hid (allR s.data.toList = delR s2.data.toList) := Lib.hid (by rw [hal.out, bnd_ok (a := ()) (r := s2.data.toList) (by rfl), if_neg (by decide)])
  have HM := Lib.hid (rdMatches (hJB.out _) h2 hs2)
  clear hal h2 hk1
  go_wp2_with fail
  refine HM.out.mono ?_
  rintro r w3 (⟨l, s3, hR3, hs3, u, rfl, hcl, h3⟩ | ⟨e, hR3, rfl, h3⟩)
  case inr => exact ⟨rfl, .inr ⟨e, by rw [hal2.out]; unfold delR; rw [bnd_no hR3], rfl, h3.dropr⟩⟩
  have hal3 : Hid (allR s.data.toList = (bnd sgnR fun a => bnd sgnR fun b => retR (R.mk 2 [] l a b)) s3.data.toList) := Lib.hid (by rw [hal2.out]; unfold delR; rw [bnd_ok hR3])
  have hJM := Lib.hid (fun v => Tens.ob (hJB.out v) (thingMs u l))
  have HT := Lib.hid (rdTime (hJM.out _) h3 hs3)
  obtain ⟨Su, hSu⟩ : ∃ S, Mt.View w3 S u l := let ⟨S, hS⟩ := h3.dropl.seeR; ⟨S, hS.1⟩
  obtain ⟨Au, cu, hu_, -, -⟩ := Rw.View.shape hSu
  clear hSu
  subst hu_
  replace hcl := Lib.hid hcl
  clear HM hal2 hR3 h3
  go_wp2_with fail
  refine HT.out.mono ?_
  rintro r w4 (⟨a, s4, hR4, hs4, rfl, hab, h4⟩ | ⟨e, hR4, rfl, h4⟩)
  case inr => exact ⟨rfl, .inr ⟨e, by rw [hal3.out, bnd_no hR4], rfl, h4.dropr.dropr⟩⟩
  have hal4 : Hid (allR s.data.toList = (bnd sgnR fun b => retR (R.mk 2 [] l a b)) s4.data.toList) := Lib.hid (by rw [hal3.out, bnd_ok hR4])
  have HT2 := Lib.hid (rdTime (hJM.out _) h4 hs4)
  replace hab := Lib.hid hab
  clear HT hal3 hR4 h4
  go_wp2_with fail
  refine HT2.out.mono ?_
  rintro r w5 (⟨b, s5, hR5, hs5, rfl, hbb, h5⟩ | ⟨e, hR5, rfl, h5⟩)
  case inr => exact ⟨rfl, .inr ⟨e, by rw [hal4.out, bnd_no hR5], rfl, h5.dropr.dropr⟩⟩
  have hRR : Hid (allR s.data.toList = .ok (⟨2, [], l, a, b⟩, s5.data.toList)) := Lib.hid (by rw [hal4.out, bnd_ok hR5]; rfl)
  have hbnd := Lib.hid (bnd_del hcl.out hab.out hbb)
  obtain ⟨A, hA, go⟩ := inBox (thingRd _ _) hJ (thingMs _ _) h5
  have hst := dropBox (go _ _ (boxStep5 hA ⟨.int .i64 2, .slice none 0 0, .slice Au l.length cu, .int .i64 a, .int .i64 b⟩))
  have hF := hA.1
  obtain ⟨g0, g1, g2, g3, g4⟩ := hF.cells
  have z0 := hF.frozen 0
  obtain ⟨⟨p1, q1⟩, ⟨p2, q2⟩, ⟨p3, q3⟩, ⟨p4, q4⟩⟩ := hF.roads ⟨.int .i64 2, .slice none 0 0, .slice Au l.length cu, .int .i64 a, .int .i64 b⟩
  obtain ⟨wz, hwz⟩ : ∃ wz, setFive g ⟨.int .i64 2, .slice none 0 0, .slice Au l.length cu, .int .i64 a, .int .i64 b⟩ w5 = wz := ⟨_, rfl⟩
  have hFz := (hF.setAll ⟨.int .i64 2, .slice none 0 0, .slice Au l.length cu, .int .i64 a, .int .i64 b⟩).cells
  rw [hwz] at hFz hst
  replace hFz := Lib.hid hFz
  have hst' : Hid (Own (Tens (RdO p s5) (Tens J (RecO (.agg #[.int .i64 2, .slice none 0 0, .slice Au l.length cu, .int .i64 a, .int .i64 b]) ⟨2, [], l, a, b⟩))) w0 wz) := Lib.hid (hst.mono fun S h => Tens.mapR (fun A h => Tens.mapR (fun A h => .inr ⟨_, l, a, b, rfl, rfl, h⟩) h) h)
  have hwz' : Hid ((((((w5.setCell ⟨g, 0, none⟩ (.int .i64 2)).setCell ⟨g, 1, none⟩ (.slice none 0 0)).setCell ⟨g, 2, none⟩ (.slice Au l.length cu)).setCell ⟨g, 3, none⟩ (.int .i64 a)).setCell ⟨g, 4, none⟩ (.int .i64 b)) = wz) := Lib.hid hwz
  clear HT2 hR5 h5 hA go hst hF hwz hal4 hcl hab hbb
  go_wp2_with fail
  rw [hwz'.out]
  obtain ⟨r0, r1, r2, r3, r4⟩ := hFz.out
  clear p1 q1 p2 q2 p3 q3 p4 q4 g0 g1 g2 g3 g4 z0
  refine bodyPost_ret (v := .agg #[.int .i64 2, .slice none 0 0, .slice Au l.length cu, .int .i64 a, .int .i64 b]) (by simp [results, Tryz.results152, go_sem, r0, r1, r2, r3, r4]) rfl ?_
  exact .inl ⟨_, s5, hRR.out, hs5, _, rfl, hbnd.out, hst'.out⟩
 ·have e2 : ((k : Int) == 2) = false := by rw [beq_eq_false_iff_ne]; omega
  have hRR : Hid (allR s.data.toList = .error 5) := Lib.hid (by rw [hal.out, bnd_no (e := 5)]; rw [decide_eq_false hk1, decide_eq_false hk2]; rfl)
  have hend := Lib.hid h2.dropl.dropr
  clear hal h2 hk1 hk2
  go_wp2_with fail
  exact ⟨rfl, .inr ⟨5, hRR.out, rfl, hend.out⟩⟩
end
end Rc
end
section
open Go.RowKit Go.Sort
namespace Rc
open Bit Dsk Ob Dig Lb
theorem catch_idle (p q : Addr) (w : World) :
  CallsD Tryz.prog 151 #[.pointer (some p), .pointer (some q)] .returning w fun e u' w' => e = .returned (.tuple #[]) /\ u' = .returning /\ w' = w := by
 refine callsD_of_wpS Tryz.func151 rfl fun c₀ cs hu => ?_
 apply wpS_seq
 apply wpS_region
 simp [wpOpsS, go_sem, recoverD, hu, Tryz.ntmps151, Exit.thenS]
 refine wpS_of_wp ?_
 go_wp2
 cases c₀
 simp_all [bodyPostS, results, Tryz.results151]
def ErrB (g : Nat) (x : Int) (w : World) : Prop := w.heap[g]? = some (.cells #[.int .i64 x] 26 (0, 0))
theorem ErrB.cell {g : Nat} {x : Int} {w : World} (h : ErrB g x w) : w.cell? ⟨g, 0, none⟩ = some (.int .i64 x) := by rw [Lib.cell_of_heap h]; rfl
theorem ErrB.frozen {g : Nat} {x : Int} {w : World} (h : ErrB g x w) : w.frozen? ⟨g, 0, none⟩ = false := by
 unfold ErrB at h
 simp [World.frozen?, h]
theorem ErrB.set {g : Nat} {x y : Int} {w : World} (h : ErrB g x w) : ErrB g y (w.setCell ⟨g, 0, none⟩ (.int .i64 y)) := by unfold ErrB at *; simp [World.setCell, Array.getElem?_modify, h]
theorem five_other {g k i : Nat} {v : Fv} {w : World} {x : Value} (h : Five 47 g v w) (hn : g ≠ k) : Five 47 g v (w.setCell ⟨k, i, none⟩ x) := by
 unfold Five at *
 simp [World.setCell, Array.getElem?_modify, h, Ne.symm hn]
theorem err_other {g k i : Nat} {y : Int} {w : World} {x : Value} (h : ErrB g y w) (hn : g ≠ k) : ErrB g y (w.setCell ⟨k, i, none⟩ x) := by
 unfold ErrB at *
 simp [World.setCell, Array.getElem?_modify, h, Ne.symm hn]
theorem err_five {g k : Nat} {y : Int} {v : Fv} {w : World} (h : ErrB g y w) (hn : g ≠ k) : ErrB g y (setFive k v w) := err_other (err_other (err_other (err_other (err_other h hn) hn) hn) hn) hn
set_option maxHeartbeats 1600000 in
theorem catch_no (g k : Nat) (hgk : k ≠ g) (v : Fv) (x : Int) (e : Nat) (older : List PanicEntry) (w : World) (h5 : Five 47 g v w) (h1 : ErrB k x w) :
  CallsD Tryz.prog 151 #[.pointer (some ⟨g, 0, none⟩), .pointer (some ⟨k, 0, none⟩)] (.panicking ({ v := .iface 26 (.int .i64 (e : Int)), recovered := false } :: older)) w fun r u' w' =>
   r = .returned (.tuple #[]) /\ u' = .panicking ({ v := .iface 26 (.int .i64 (e : Int)), recovered := true } :: older) /\ Five 47 g zeroV w' /\ ErrB k (e : Int) w' /\ Upon (fun b => b = g \/ b = k) w w' := by
 refine callsD_of_wpS Tryz.func151 rfl fun c₀ cs hu => ?_
 have z0 := h5.frozen 0
 obtain ⟨g0, g1, g2, g3, g4⟩ := h5.cells
 obtain ⟨⟨p1, q1⟩, ⟨p2, q2⟩, ⟨p3, q3⟩, ⟨p4, q4⟩⟩ := h5.roads zeroV
 have hE := err_five (v := zeroV) h1 hgk
 have k0 := hE.cell
 have kf := hE.frozen
 unfold setFive at k0 kf
 obtain ⟨wz, hwz⟩ : ∃ wz, (setFive g zeroV w).setCell ⟨k, 0, none⟩ (.int .i64 (e : Int)) = wz := ⟨_, rfl⟩
 have hF : Hid (Five 47 g zeroV wz) := Lib.hid (by rw [<- hwz]; exact five_other (h5.setAll zeroV) (Ne.symm hgk))
 have hK : Hid (ErrB k (e : Int) wz) := Lib.hid (by rw [<- hwz]; exact hE.set)
 have hu0 : Hid (Upon (fun b => b = g \/ b = k) w wz) := Lib.hid (by rw [<- hwz]; exact Upon.setCell (p := ⟨k, 0, none⟩) (upon_setFive (Upon.refl _ _) (.inl (.inl rfl))) (.inl (.inr rfl)) _)
 have hwz' : Hid ((((((w.setCell ⟨g, 0, none⟩ (.int .i64 0)).setCell ⟨g, 1, none⟩ (.slice none 0 0)).setCell ⟨g, 2, none⟩ (.slice none 0 0)).setCell ⟨g, 3, none⟩ (.int .i64 0)).setCell ⟨g, 4, none⟩ (.int .i64 0)).setCell ⟨k, 0, none⟩ (.int .i64 (e : Int)) = wz) := Lib.hid hwz
 clear h5 h1 hE hwz
 apply wpS_seq
 apply wpS_region
 simp [wpOpsS, go_sem, recoverD, hu, Tryz.ntmps151, Exit.thenS]
 apply wpS_seq
 apply wpS_region
 simp [wpOpsS, go_sem, Exit.thenS]
 refine wpS_cond (t := true) (by simp [Act.eval, Array.replicate]) ?_
 simp only [if_true]
 refine wpS_of_wp ?_
 generalize hc1 : ({ fn := c₀.fn, tmps := c₀.tmps, todo := c₀.todo, defers := c₀.defers, mode := FrameMode.panicking ({ v := Value.iface 26 (.int .i64 (e : Int)), recovered := true } :: older), kind := c₀.kind, roundOf := c₀.roundOf } : Frame) = c1
 have hm2 := Lib.hid hc1.symm
 clear hc1
 show Code.wp _ _ _ { tmps := #[.pointer (some ⟨g, 0, none⟩), .pointer (some ⟨k, 0, none⟩), .iface 26 (.int .i64 (e : Int)), .iface 26 (.int .i64 (e : Int)), .iface 26 (.int .i64 (e : Int)), .bool true, undef, undef, undef], defers := [] } w
 replace hu := Lib.hid hu
 have hta : ∀ W : World, (Instr.typeAssert (.iface 26 (.int .i64 (e : Int))) 20 26 false).run Tryz.prog W = .ok (.int .i64 (e : Int)) W := fun W => by
  have hu : Tryz.prog.underlying 26 = some (.int .i64) := by kernel_rfl
  simp [Instr.typeAssert, go_sem, hu]
 go_region
 all_goals
  rw [hwz'.out]
  refine ⟨rfl, _, by rw [hm2.out], _, by simp [results, Tryz.results151, go_sem], rfl, rfl, hF.out, hK.out, hu0.out.trans (upon_drewN _ wz 1)⟩
def ErrO (g : Nat) (x : Int) : Ob.Rel := fun w S => ErrB g x w /\ ∀ y, S y ↔ y = g
theorem thingErr (g : Nat) (x : Int) : Thing (ErrO g x) := ⟨fun w w' S h hk _ => ⟨(hk g ((h.2 g).2 rfl)).trans h.1, h.2⟩, fun w S h x hx => by rw [(h.2 x).1 hx]; exact (Array.getElem?_eq_some_iff.1 h.1).1⟩
theorem errMade {I : Ob.Rel} (hI : Thing I) {w0 w : World} (H : Own I w0 w) (x : Int) : Own (Tens I (ErrO w.heap.size x)) w0 (w.alloc (.cells #[.int .i64 x] 26 (0, 0))) :=
 Own.new hI H (T := fun x => x = w.heap.size) ⟨cell_new w _, fun _ => Iff.rfl⟩ (fun x hx => by rw [hx]; exact Nat.le_refl _) ((Upon.refl _ w).alloc _)
theorem rdNext {I : Ob.Rel} (hI : Thing I) {w0 w : World} (H : Own I w0 w) (s : ByteArray) : Own (Tens I (RdO w.heap.size s)) w0 (w.alloc (.cells #[.string s] 240 (0, 0))) :=
 Own.new hI H (T := fun x => x = w.heap.size) ⟨cell_new w _, fun _ => Iff.rfl⟩ (fun x hx => by rw [hx]; exact Nat.le_refl _) ((Upon.refl _ w).alloc _)
theorem boxFirst (w : World) (v : Fv) : Own (BoxO w.heap.size v) w (w.alloc (.cells #[v.a, v.b, v.c, v.d, v.e] 47 (0, 0))) :=
 Own.made (Below.refl _ _) (S := fun x => x = w.heap.size) ⟨cell_new w _, fun _ => Iff.rfl⟩ (fun x hx => by rw [hx]; exact Nat.le_refl _) ((Upon.refl _ w).alloc _)
theorem box5Set {I J : Ob.Rel} (hI : Thing I) (hJ : Thing J) {g : Nat} {v : Fv} {w0 w : World} (H : Own (Tens I (Tens (BoxO g v) J)) w0 w) (x : Fv) : Own (Tens I (Tens (BoxO g x) J)) w0 (setFive g x w) := by
 obtain ⟨B, hB, go⟩ := H.right hI
 obtain ⟨A, hA, go2⟩ := Tens.left hJ hB
 exact go _ _ (go2 _ _ (boxStep5 hA x))
theorem both_new {w w2 w3 : World} {g k : Nat} (h : New0 w w2) (hg : w.heap.size <= g) (hk : w.heap.size <= k) (hu : Upon (fun b => b = g \/ b = k) w2 w3) : New0 w w3 :=
 h.trans' hu fun i hi e => by
  have e' : i = g \/ i = k := e
  show False
  omega
theorem thrown_end {w w2 : World} {g : Nat} {v : Fv} {x : Int} {e : Nat} {sl : List UInt8} {a0 a1 a4 a5 a6 a7 a8 a9 a10 a11 a12 a13 : Value} (hg : w.heap.size <= g) (ho : Own (Tens (BoxO g v) (ErrO (g + 1) x)) w w2) (hd : dec sl = (zero, e)) :
  CallsD Tryz.prog 151 #[.pointer (some ⟨g, 0, none⟩), .pointer (some ⟨g + 1, 0, none⟩)] (.panicking [{ v := .iface 26 (.int .i64 (e : Int)), recovered := false }]) w2 fun
   | .returned _, u', w' => Leaves Tryz.prog Tryz.f104 #[a0, a1, .pointer (some ⟨g, 0, none⟩), .pointer (some ⟨g + 1, 0, none⟩), a4, a5, a6, a7, a8, a9, a10, a11, a12, a13] (fun e w' => DecN w sl e w') [] (settle u') w'
   | .panicked chain, u', w' => Leaves Tryz.prog Tryz.f104 #[a0, a1, .pointer (some ⟨g, 0, none⟩), .pointer (some ⟨g + 1, 0, none⟩), a4, a5, a6, a7, a8, a9, a10, a11, a12, a13] (fun e w' => DecN w sl e w') [] (raised u' chain) w'
   | .outgrown, _, w' => DecN w sl .outgrown w' := by
 obtain ⟨A, hA⟩ := ho.seeL
 obtain ⟨B, hB⟩ := ho.seeR
 refine (catch_no g (g + 1) (by omega) v x e [] w2 hA.1 hB.1).mono ?_
 rintro r u' w3 ⟨rfl, rfl, hF, hK, hu⟩
 obtain ⟨g0, g1, g2, g3, g4⟩ := hF.cells
 have k0 := hK.cell
 have hend := DecN.no hd (both_new (newOf ho.bel) hg (Nat.le_succ_of_le hg) hu)
 refine ⟨_, ?_, hend⟩
 simp [results, Tryz.results104, go_sem, g0, g1, g2, g3, g4, k0]
set_option maxHeartbeats 6400000 in
theorem dec_new (w : World) (s : ByteArray) (hs : s.size <= 140737488355328) :
  Calls Tryz.prog 104 #[.string s] w fun e w' => DecN w s.data.toList e w' := by
 have hmf : ∀ (fn : Fn) (first cap : Array Value) (w : World), (Instr.makeFunc fn first cap).run Tryz.prog w = .ok (.func fn first cap) w := fun _ _ _ _ => rfl
 obtain ⟨g, hg⟩ : ∃ g, w.heap.size = g := ⟨_, rfl⟩
 have hA := hg ▸ boxFirst w zeroV
 obtain ⟨wA, hwA⟩ : ∃ wA, w.alloc (.cells #[.int .i64 0, .slice none 0 0, .slice none 0 0, .int .i64 0, .int .i64 0] 47 (0, 0)) = wA := ⟨_, rfl⟩
 rw [hwA] at hA
 have hsA : wA.heap.size = g + 1 := by rw [<- hwA, <- hg]; simp
 have hE := hsA ▸ errMade (thingBox g zeroV) hA 0
 obtain ⟨wE, hwE⟩ : ∃ wE, wA.alloc (.cells #[.int .i64 0] 26 (0, 0)) = wE := ⟨_, rfl⟩
 rw [hwE] at hE
 have hsE : wE.heap.size = g + 1 + 1 := by rw [<- hwE]; simp [hsA]
 have hJ := Lib.hid (fun v => Tens.ob (thingBox g v) (thingErr (g + 1) 0))
 have hR := (hsE ▸ rdNext (hJ.out zeroV) hE s).swap
 obtain ⟨wR, hwR⟩ : ∃ wR, wE.alloc (.cells #[.string s] 240 (0, 0)) = wR := ⟨_, rfl⟩
 rw [hwR] at hR
 have HR := Lib.hid (rdRecord (hJ.out _) hR hs)
 have hw : Hid (((w.alloc (.cells #[.int .i64 0, .slice none 0 0, .slice none 0 0, .int .i64 0, .int .i64 0] 47 (0, 0))).alloc (.cells #[.int .i64 0] 26 (0, 0))).alloc (.cells #[.string s] 240 (0, 0)) = wR) := Lib.hid (by rw [hwA, hwE, hwR])
 obtain ⟨sl, hsl⟩ : ∃ sl, s.data.toList = sl := ⟨_, rfl⟩
 unfold Got at HR
 rw [hsl] at HR ⊢
 have hg' := Lib.hid (show w.heap.size <= g by omega)
 clear hR hE hA hwA hwE hwR hsA hsE hsl
 go_enter_defers Tryz.func104, Tryz.ntmps104
 go_wp2_with fail
 rw [hw.out]
 refine HR.out.mono ?_
 rintro r w2 (⟨rr, s2, hR2, hs2, v, rfl, hbnd, h2⟩ | ⟨e, hR2, rfl, h2⟩)
 case inr =>
  refine leaves_cons (f := 151) (args := #[.pointer (some ⟨g, 0, none⟩), .pointer (some ⟨g + 1, 0, none⟩)]) (by simp) (by simp [go_sem]) ?_
  exact thrown_end hg'.out h2 (dec_err hR2)
 obtain ⟨S2, hS2⟩ : ∃ S, RecO v rr w2 S := h2.dropl.seeR
 obtain ⟨A, c, A', c', rfl, -, -⟩ := RView.shape (rec_view hS2)
 obtain ⟨x, hx⟩ : ∃ x : Fv, (⟨.int .i64 rr.kind, .slice A rr.smp.length c, .slice A' rr.ms.length c', .int .i64 rr.frm, .int .i64 rr.til⟩ : Fv) = x := ⟨_, rfl⟩
 have h2' := h2.mono fun S h => Tens.mapR (fun A h => Tens.assoc h) h
 have h3 := box5Set (thingRd _ _) (Tens.ob (thingErr _ _) (thingRec _ _)) h2' x
 have hF2 : Five 47 g zeroV w2 := by
  obtain ⟨S, hS⟩ := h2'.dropl.seeL
  exact hS.1
 obtain ⟨g0, g1, g2, g3, g4⟩ := hF2.cells
 have z0 := hF2.frozen 0
 obtain ⟨⟨p1, q1⟩, ⟨p2, q2⟩, ⟨p3, q3⟩, ⟨p4, q4⟩⟩ := hF2.roads ⟨.int .i64 rr.kind, .slice A rr.smp.length c, .slice A' rr.ms.length c', .int .i64 rr.frm, .int .i64 rr.til⟩
 obtain ⟨w3, hw3⟩ : ∃ w3, setFive g x w2 = w3 := ⟨_, rfl⟩
 have hw3' : Hid (((((w2.setCell ⟨g, 0, none⟩ (.int .i64 rr.kind)).setCell ⟨g, 1, none⟩ (.slice A rr.smp.length c)).setCell ⟨g, 2, none⟩ (.slice A' rr.ms.length c')).setCell ⟨g, 3, none⟩ (.int .i64 rr.frm)).setCell ⟨g, 4, none⟩ (.int .i64 rr.til) = w3) := Lib.hid (by rw [<- hw3, <- hx]; rfl)
 rw [hw3] at h3
 have HE := Lib.hid (rdEnd h3)
 replace h3 := Lib.hid h3
 replace hR2 := Lib.hid hR2
 replace hbnd := Lib.hid hbnd
 clear HR hw h2 hS2 h2' hF2 hw3
 go_wp2_with fail
 rw [hw3'.out]
 refine HE.out.mono ?_
 rintro r w4 ⟨⟨he, rfl⟩ | ⟨he, rfl⟩, rfl⟩
 case inr =>
  refine leaves_cons (f := 151) (args := #[.pointer (some ⟨g, 0, none⟩), .pointer (some ⟨g + 1, 0, none⟩)]) (by simp) (by simp [go_sem]) ?_
  exact thrown_end hg'.out (h3.out.dropl.mono fun S h => Tens.mapR (fun A h => h) h |> fun h => Tens.cossa h).dropr (dec_more hR2.out he)
 clear g0 g1 g2 g3 g4 z0 p1 q1 p2 q2 p3 q3 p4 q4 HE
 have hRe : Hid (allR sl = .ok (rr, [])) := Lib.hid (by rw [hR2.out, he])
 obtain ⟨S3, hS3⟩ : ∃ S, RecO (.agg #[.int .i64 rr.kind, .slice A rr.smp.length c, .slice A' rr.ms.length c', .int .i64 rr.frm, .int .i64 rr.til]) rr w4 S := h3.out.dropl.dropl.seeR
 obtain ⟨z, hz⟩ : ∃ z, chk rr = z := ⟨_, rfl⟩
 have HC := Lib.hid (check_is w4 _ _ _ (rec_view hS3) hbnd.out hz)
 have hF4 : Five 47 g x w4 := by
  obtain ⟨S, hS⟩ := h3.out.dropl.seeL
  exact hS.1
 rw [<- hx] at hF4
 obtain ⟨g0, g1, g2, g3, g4⟩ := hF4.cells
 simp only at g0 g1 g2 g3 g4
 replace hz := Lib.hid hz
 clear hw3' hS3 hF4 hR2 he
 go_wp2_with fail
 refine HC.out.mono ?_
 rintro r w5 ⟨rfl, hu5⟩
 have h5 := Lib.hid (h3.out.upon0 (Tens.ob (thingRd _ _) (Tens.ob (thingBox _ _) (Tens.ob (thingErr _ _) (thingRec _ _)))) hu5)
 clear g0 g1 g2 g3 g4 HC hu5 h3
 by_cases hz0 : z = 0
 ·subst hz0
  have HT := Lib.hid throw_ok
  have hD := Lib.hid (dec_ok hRe.out hz.out)
  go_wp2_with fail
  refine (HT.out _).mono ?_
  rintro r w6 ⟨rfl, rfl⟩
  obtain ⟨⟨S6, ⟨Sb, B1, hSb, ⟨Se, Sr, hSe, hSr, d2, e2⟩, d1, e1⟩, hnw⟩, hbel⟩ := h5.out.dropl
  have hdis : ∀ b, Sr b -> ¬ (b = g \/ b = g + 1) := fun b hb hc => by
   rcases hc with h | h
   ·exact d1 b ((hSb.2 b).2 h) ((e2 b).2 (.inr hb))
   ·exact d2 b ((hSe.2 b).2 h) hb
  have hF := hSb.1
  rw [<- hx] at hF
  obtain ⟨g0, g1, g2, g3, g4⟩ := hF.cells
  have z0 := hF.frozen 0
  obtain ⟨⟨p1, q1⟩, ⟨p2, q2⟩, ⟨p3, q3⟩, ⟨p4, q4⟩⟩ := hF.roads ⟨.int .i64 rr.kind, .slice A rr.smp.length c, .slice A' rr.ms.length c', .int .i64 rr.frm, .int .i64 rr.til⟩
  have hE5 := err_five (v := ⟨.int .i64 rr.kind, .slice A rr.smp.length c, .slice A' rr.ms.length c', .int .i64 rr.frm, .int .i64 rr.til⟩) hSe.1 (Nat.succ_ne_self g)
  have k0 := hE5.cell
  have kf := hE5.frozen
  unfold setFive at k0 kf
  simp only at g0 g1 g2 g3 g4 p1 q1 p2 q2 p3 q3 p4 q4 k0 kf
  obtain ⟨wz, hwz⟩ : ∃ wz, (setFive g ⟨.int .i64 rr.kind, .slice A rr.smp.length c, .slice A' rr.ms.length c', .int .i64 rr.frm, .int .i64 rr.til⟩ w6).setCell ⟨g + 1, 0, none⟩ (.int .i64 0) = wz := ⟨_, rfl⟩
  have hFz : Five 47 g ⟨.int .i64 rr.kind, .slice A rr.smp.length c, .slice A' rr.ms.length c', .int .i64 rr.frm, .int .i64 rr.til⟩ wz := by rw [<- hwz]; exact five_other (hF.setAll ⟨.int .i64 rr.kind, .slice A rr.smp.length c, .slice A' rr.ms.length c', .int .i64 rr.frm, .int .i64 rr.til⟩) (by omega)
  have hKz : ErrB (g + 1) 0 wz := by rw [<- hwz]; exact hE5.set
  have huz : Upon (fun b => b = g \/ b = g + 1) w6 wz := by rw [<- hwz]; exact Upon.setCell (p := ⟨g + 1, 0, none⟩) (upon_setFive (Upon.refl _ _) (.inl (.inl rfl))) (.inl (.inr rfl)) _
  have hNz := Lib.hid (both_new (newOf hbel) hg'.out (Nat.le_succ_of_le hg'.out) huz)
  have hVz : Hid (RView wz (Nw w) (.agg #[.int .i64 rr.kind, .slice A rr.smp.length c, .slice A' rr.ms.length c', .int .i64 rr.frm, .int .i64 rr.til]) rr) := Lib.hid (((rec_view hSr).upon huz hdis).mono fun b _ hb => hnw b ((e1 b).2 (.inr ((e2 b).2 (.inr hb)))))
  have hrng : Hid (Rng rr) := Lib.hid ⟨fun x hx => rngS_of (hbnd.out.smp x hx), hbnd.out.frm, hbnd.out.til⟩
  have hwz' : Hid ((((((w6.setCell ⟨g, 0, none⟩ (.int .i64 rr.kind)).setCell ⟨g, 1, none⟩ (.slice A rr.smp.length c)).setCell ⟨g, 2, none⟩ (.slice A' rr.ms.length c')).setCell ⟨g, 3, none⟩ (.int .i64 rr.frm)).setCell ⟨g, 4, none⟩ (.int .i64 rr.til)).setCell ⟨g + 1, 0, none⟩ (.int .i64 0) = wz) := Lib.hid hwz
  obtain ⟨y0, y1, y2, y3, y4⟩ := Lib.hid hFz.cells
  have y5 := Lib.hid hKz.cell
  clear hSb hSe hSr d1 d2 e1 e2 hnw hdis hF hE5 hwz hFz hKz huz hbel h5 HT
  replace hx := Lib.hid hx
  go_wp2_with fail
  rw [hwz'.out]
  refine leaves_cons (f := 151) (args := #[.pointer (some ⟨g, 0, none⟩), .pointer (some ⟨g + 1, 0, none⟩)]) (by simp) (by simp [go_sem]) ?_
  refine (catch_idle ⟨g, 0, none⟩ ⟨g + 1, 0, none⟩ _).mono ?_
  rintro e u' w'' ⟨rfl, rfl, rfl⟩
  refine ⟨_, ?_, DecN.yes hD.out hVz.out hrng.out hNz.out⟩
  have y5' := y5.out
  clear g0 g1 g2 g3 g4 z0 p1 q1 p2 q2 p3 q3 p4 q4 k0 kf hwz'
  simp [results, Tryz.results104, go_sem, y0, y1, y2, y3, y4, y5']
 ·have HT := Lib.hid (throw_no z hz0)
  have hD := Lib.hid (by have := dec_chk hRe.out (by rw [hz.out]; exact hz0); rw [hz.out] at this; exact this)
  go_wp2_with fail
  refine (HT.out _).mono ?_
  rintro r w6 ⟨rfl, rfl⟩
  refine leaves_cons (f := 151) (args := #[.pointer (some ⟨g, 0, none⟩), .pointer (some ⟨g + 1, 0, none⟩)]) (by simp) (by simp [go_sem]) ?_
  exact thrown_end hg'.out (h5.out.dropl.mono fun S h => Tens.cossa h).dropr hD.out
end Rc
end
section
open Go.RowKit Go.Sort
namespace Bk
open Bit Dsk Ob Dig
theorem five_new {T : TypeId} {g : Nat} {v : Rc.Fv} {w w' : World} (h : Rc.Five T g v w) (hu : New0 w w') : Rc.Five T g v w' := (hu.block g (Array.getElem?_eq_some_iff.1 h).1 fun f => f).trans h
theorem upon_setFiveB {T : TypeId} {g : Nat} {v : Rc.Fv} {w : World} (h : Rc.Five T g v w) (x : Rc.Fv) : Upon (fun b => b = g) w (Rc.setFive g x w) := Rc.upon_setFive (Upon.refl _ _) (.inl rfl)
theorem pt_is (w : World) (s : ByteArray) (hs : s.size <= 65536) (hT : TabA w) {sl : List UInt8} (h : s.data.toList = sl) : Calls Tryz.prog 103 #[.string s] w (PtsE w sl) := by subst h; exact ppts_any w s hs hT
set_option maxHeartbeats 6400000 in
theorem pgetrow_any (w : World) (s : ByteArray) (hs : s.size <= 65536) (hT : TabA w) :
  Calls Tryz.prog 51 #[.string s] w (RowP w s.data.toList) := by
 obtain ⟨wA, hwA⟩ : ∃ wA, w.alloc (.cells #[.slice none 0 0, .int .i64 0, .slice none 0 0] 63 (0, 0)) = wA := ⟨_, rfl⟩
 have hres : Mt.Three 63 w.heap.size (.slice none 0 0) (.int .i64 0) (.slice none 0 0) wA := by rw [<- hwA]; exact cell_new w _
 have hN0 : New0 w wA := by rw [<- hwA]; exact (Upon.refl _ w).alloc _
 have hszA : w.heap.size < wA.heap.size := by rw [<- hwA]; simp
 have hT' := Lib.hid (fun w' (hu : New0 w w') => hT.new hu)
 obtain ⟨n, k, x, hg⟩ : ∃ n k x, gotT s.data.toList 65536 = (n, k, x) := ⟨_, _, _, rfl⟩
 obtain ⟨t, ht⟩ : ∃ t, s.extract k (k + n) = t := ⟨_, rfl⟩
 have hk := Lb.gotT_le hg
 rw [Frm.size_list] at hk
 have HG := Lib.hid (gettext_is s 65536 (by omega) (by decide) n k x hg t ht wA)
 replace hres := Lib.hid hres
 replace hN0 := Lib.hid hN0
 replace hwA := Lib.hid hwA
 clear hT
 go_enter Tryz.func51, Tryz.ntmps51
 go_wp2_with fail
 rw [hwA.out]
 refine HG.out.mono ?_
 rintro e w2 ⟨rfl, hb2⟩
 have hu2 := Lib.hid (newOf hb2)
 clear HG hb2 hwA
 by_cases hx : x = 0
 ·subst hx
  have htx := Lib.hid (txt_ok2 hg ht)
  have hts : t.size <= 65536 := by
   have := congrArg List.length (txt_back htx.out)
   rw [List.length_append, txtL, List.length_append, Frm.size_list, Frm.size_list] at this
   omega
  obtain ⟨⟨ls, ed⟩, hde⟩ : ∃ y, Lb.dec t.data.toList = y := ⟨_, rfl⟩
  have HD := Lb.decode_e w2 t (by omega)
  unfold Lb.DecE at HD
  rw [hde] at HD
  replace HD := Lib.hid HD
  clear hg ht
  go_wp2_with fail
  refine HD.out.mono ?_
  rintro e w3 ⟨v, rfl, hv, hu3⟩
  obtain ⟨A3, c3, rfl, -, -⟩ := Rw.View.shape hv
  by_cases hed : ed = 0
  ·subst hed
   obtain ⟨r1, hr1⟩ : ∃ r1, s.extract (k + n) s.size = r1 := ⟨_, rfl⟩
   have hl1 : r1.data.toList = s.data.toList.drop (k + n) := by rw [<- hr1, rest_list]
   have hrs : r1.size <= 65536 := by rw [<- hr1, ByteArray.size_extract]; omega
   obtain ⟨n2, k2, x2, hg2⟩ : ∃ n k x, gotN r1.data.toList = (n, k, x) := ⟨_, _, _, rfl⟩
   have hk2 : k2 <= r1.size := by
    have := (gotN_lt r1.data.toList).2.2.1
    rw [hg2, Frm.size_list] at this
    exact this
   have hrz : r1.size = s.size - (k + n) := by rw [<- hr1, ByteArray.size_extract]; omega
   have HS := Lib.hid (getsigned_is r1 (by omega) n2 k2 x2 hg2 w3)
   replace hr1 := Lib.hid hr1
   have hn23 := Lib.hid (hu2.out.trans hu3)
   replace hv := Lib.hid hv
   replace hu3 := Lib.hid hu3
   clear HD
   go_wp2_with fail
   rw [hr1.out]
   refine HS.out.mono ?_
   rintro e w4 ⟨rfl, hb4⟩
   have hu4 := Lib.hid (newOf hb4)
   have hn4 := Lib.hid (hn23.out.trans hu4.out)
   clear HS hb4
   by_cases hx2 : x2 = 0
   ·subst hx2
    have hsg := Lib.hid (sgn_ok hg2)
    have hr2 : s.extract (k + n + k2) s.size = r1.extract k2 r1.size := by
     apply Frm.bytes_ext
     rw [rest_list, rest_list, hl1, List.drop_drop]
    obtain ⟨r2, hr2e⟩ : ∃ r2, s.extract (k + n + k2) s.size = r2 := ⟨_, rfl⟩
    have hl2 : r2.data.toList = r1.data.toList.drop k2 := by rw [<- hr2e, hr2, rest_list]
    have hr2s : r2.size <= 65536 := by rw [<- hr2e, ByteArray.size_extract]; omega
    have HP := Lib.hid (pt_is w4 r2 hr2s (hT'.out _ (hN0.out.trans hn4.out)) hl2)
    have i1 : IntKind.i64.wrap ((k : Int) + (n : Int) + (k2 : Int)) = ((k + n + k2 : Nat) : Int) := by rw [IntKind.wrap_i64]; omega
    replace hr2e := Lib.hid hr2e
    clear hr2 hl2
    go_wp2_with fail
    rw [hr2e.out]
    refine HP.out.mono ?_
    rintro e w5 ⟨⟨pa, pn, pc⟩, l, b, rfl, hu5, hpn, hpy⟩
    have hn5 := hn4.out.trans hu5
    have hresw := Lib.hid (hres.out.new hn5)
    have hnw := Lib.hid (hN0.out.trans hn5)
    have hlv : Hid (Rw.View Lb.layPr w5 (fun x => w2.heap.size <= x /\ x < w3.heap.size) (.slice A3 ls.length c3) ls) := Lib.hid (Rw.View.new (Rw.View.mono hv.out fun x h1 h2 => ⟨h2, h1⟩) (hu4.out.trans hu5))
    have hz2 := hu2.out.size
    have hz0 := hN0.out.size
    clear HP
    cases b with
    | false =>
     have hno := Lib.hid (row_pts_no (m := 65536) (by decide) htx.out ((congrArg Rc.sgnR hl1.symm).trans hsg.out) (hpn rfl))
     clear hpn hpy hu5 hlv
     have hF := hresw.out
     obtain ⟨g0, g1, g2⟩ := hF.cells
     have z0 := hF.frozen 0
     obtain ⟨p1, q1, p2, q2, p3, q3, -, -, -⟩ := hF.roads (.slice A3 ls.length c3) (.int .i64 (unz n2)) (.slice pa pn pc)
     obtain ⟨wz, hwz⟩ : ∃ wz, (((w5.setCell ⟨w.heap.size, 0, none⟩ (.slice A3 ls.length c3)).setCell ⟨w.heap.size, 1, none⟩ (.int .i64 (unz n2))).setCell ⟨w.heap.size, 2, none⟩ (.slice pa pn pc)) = wz := ⟨_, rfl⟩
     have hFz := (((hF.set0 (.slice A3 ls.length c3)).set1 (.int .i64 (unz n2))).set2 (.slice pa pn pc)).cells
     rw [hwz] at hFz
     replace hFz := Lib.hid hFz
     have hNz : Hid (New0 w wz) := Lib.hid (by rw [<- hwz]; exact upon_set3 hnw.out (.inr (Nat.le_refl _)) _ _ _)
     have hUz : Hid (Upon (fun x => x = w.heap.size) w5 wz) := Lib.hid (by rw [<- hwz]; exact upon_set3 (S := fun x => x = w.heap.size) (Upon.refl _ _) (.inl rfl) _ _ _)
     have hwz' : Hid ((((w5.setCell ⟨w.heap.size, 0, none⟩ (.slice A3 ls.length c3)).setCell ⟨w.heap.size, 1, none⟩ (.int .i64 (unz n2))).setCell ⟨w.heap.size, 2, none⟩ (.slice pa pn pc)) = wz) := Lib.hid hwz
     clear hwz hF
     go_wp2_with fail
     rw [hwz'.out]
     obtain ⟨r0, r1', r2'⟩ := hFz.out
     clear g0 g1 g2 z0 p1 q1 p2 q2 p3 q3
     refine bodyPost_ret (v := .tuple #[.agg #[.slice A3 ls.length c3, .int .i64 (unz n2), .slice pa pn pc], .bool false]) (by simp [results, Tryz.results51, go_sem, r0, r1', r2']) rfl ?_
     exact RowP.no hno.out hNz.out
    | true =>
     obtain ⟨hpv, hgt⟩ := hpy rfl
     have hgot := Lib.hid (row_yes htx.out ((congrArg Rc.sgnR hl1.symm).trans hsg.out) hde hgt)
     replace hpv := Lib.hid hpv
     have hz5 := hu5.size
     have hlw : w.heap.size < w2.heap.size := by omega
     have hz4 := hn4.out.size
     clear hpn hpy hu5
     have hF := hresw.out
     obtain ⟨g0, g1, g2⟩ := hF.cells
     have z0 := hF.frozen 0
     obtain ⟨p1, q1, p2, q2, p3, q3, -, -, -⟩ := hF.roads (.slice A3 ls.length c3) (.int .i64 (unz n2)) (.slice pa pn pc)
     obtain ⟨wz, hwz⟩ : ∃ wz, (((w5.setCell ⟨w.heap.size, 0, none⟩ (.slice A3 ls.length c3)).setCell ⟨w.heap.size, 1, none⟩ (.int .i64 (unz n2))).setCell ⟨w.heap.size, 2, none⟩ (.slice pa pn pc)) = wz := ⟨_, rfl⟩
     have hFz := (((hF.set0 (.slice A3 ls.length c3)).set1 (.int .i64 (unz n2))).set2 (.slice pa pn pc)).cells
     rw [hwz] at hFz
     replace hFz := Lib.hid hFz
     have hNz : Hid (New0 w wz) := Lib.hid (by rw [<- hwz]; exact upon_set3 hnw.out (.inr (Nat.le_refl _)) _ _ _)
     have hUz : Hid (Upon (fun x => x = w.heap.size) w5 wz) := Lib.hid (by rw [<- hwz]; exact upon_set3 (S := fun x => x = w.heap.size) (Upon.refl _ _) (.inl rfl) _ _ _)
     have hwz' : Hid ((((w5.setCell ⟨w.heap.size, 0, none⟩ (.slice A3 ls.length c3)).setCell ⟨w.heap.size, 1, none⟩ (.int .i64 (unz n2))).setCell ⟨w.heap.size, 2, none⟩ (.slice pa pn pc)) = wz) := Lib.hid hwz
     clear hwz hF
     go_wp2_with fail
     rw [hwz'.out]
     obtain ⟨r0, r1', r2'⟩ := hFz.out
     clear g0 g1 g2 z0 p1 q1 p2 q2 p3 q3
     refine bodyPost_ret (v := .tuple #[.agg #[.slice A3 ls.length c3, .int .i64 (unz n2), .slice pa pn pc], .bool true]) (by simp [results, Tryz.results51, go_sem, r0, r1', r2']) rfl ?_
     exact ⟨⟨A3, ls.length, c3⟩, ⟨pa, pn, pc⟩, unz n2, true, rfl, hNz.out, fun h => (by cases h), fun _ => ⟨⟨ls, l, unz n2⟩, rfl, ⟨rfl, (Rw.View.upon hlv.out hUz.out (fun x h1 h2 => by omega)).mono fun x _ h1 => (by unfold Lb.Nw; omega), (Rw.View.upon hpv.out hUz.out (fun x h1 h2 => by unfold Lb.Nw at h1; omega)).mono fun x _ h1 => (by unfold Lb.Nw at *; omega)⟩, hgot.out⟩⟩
   ·have dx : ((x2 : Int) != 0) = true := by rw [bne_iff_ne]; omega
    have hno := Lib.hid (row_sgn_no (m := 65536) (by decide) (htx.out.trans (by rw [hl1])) (sgn_no hg2 hx2))
    have hresw := Lib.hid (hres.out.new hn4.out)
    have hnw := Lib.hid (hN0.out.trans hn4.out)
    clear hg2
    have hF := hresw.out
    obtain ⟨g0, g1, g2⟩ := hF.cells
    have z0 := hF.frozen 0
    obtain ⟨p1, q1, p2, q2, p3, q3, -, -, -⟩ := hF.roads (.slice none 0 0) (.int .i64 0) (.slice none 0 0)
    obtain ⟨wz, hwz⟩ : ∃ wz, (((w4.setCell ⟨w.heap.size, 0, none⟩ (.slice none 0 0)).setCell ⟨w.heap.size, 1, none⟩ (.int .i64 0)).setCell ⟨w.heap.size, 2, none⟩ (.slice none 0 0)) = wz := ⟨_, rfl⟩
    have hFz := (((hF.set0 (.slice none 0 0)).set1 (.int .i64 0)).set2 (.slice none 0 0)).cells
    rw [hwz] at hFz
    replace hFz := Lib.hid hFz
    have hNz : Hid (New0 w wz) := Lib.hid (by rw [<- hwz]; exact upon_set3 hnw.out (.inr (Nat.le_refl _)) _ _ _)
    have hUz : Hid (Upon (fun x => x = w.heap.size) w4 wz) := Lib.hid (by rw [<- hwz]; exact upon_set3 (S := fun x => x = w.heap.size) (Upon.refl _ _) (.inl rfl) _ _ _)
    have hwz' : Hid ((((w4.setCell ⟨w.heap.size, 0, none⟩ (.slice none 0 0)).setCell ⟨w.heap.size, 1, none⟩ (.int .i64 0)).setCell ⟨w.heap.size, 2, none⟩ (.slice none 0 0)) = wz) := Lib.hid hwz
    clear hwz hF
    go_wp2_with fail
    rw [hwz'.out]
    obtain ⟨r0, r1', r2'⟩ := hFz.out
    clear g0 g1 g2 z0 p1 q1 p2 q2 p3 q3
    refine bodyPost_ret (v := .tuple #[.agg #[.slice none 0 0, .int .i64 0, .slice none 0 0], .bool false]) (by simp [results, Tryz.results51, go_sem, r0, r1', r2']) rfl ?_
    exact RowP.no hno.out hNz.out
  ·have dx : ((ed : Int) != 0) = true := by rw [bne_iff_ne]; omega
   have hno := Lib.hid (row_lab_no (m := 65536) (by decide) htx.out (by rw [hde]; exact hed))
   have hresw := Lib.hid (hres.out.new (hu2.out.trans hu3))
   have hnw := Lib.hid (hN0.out.trans (hu2.out.trans hu3))
   clear HD hv hu3 hde
   have hF := hresw.out
   obtain ⟨g0, g1, g2⟩ := hF.cells
   have z0 := hF.frozen 0
   obtain ⟨p1, q1, p2, q2, p3, q3, -, -, -⟩ := hF.roads (.slice none 0 0) (.int .i64 0) (.slice none 0 0)
   obtain ⟨wz, hwz⟩ : ∃ wz, (((w3.setCell ⟨w.heap.size, 0, none⟩ (.slice none 0 0)).setCell ⟨w.heap.size, 1, none⟩ (.int .i64 0)).setCell ⟨w.heap.size, 2, none⟩ (.slice none 0 0)) = wz := ⟨_, rfl⟩
   have hFz := (((hF.set0 (.slice none 0 0)).set1 (.int .i64 0)).set2 (.slice none 0 0)).cells
   rw [hwz] at hFz
   replace hFz := Lib.hid hFz
   have hNz : Hid (New0 w wz) := Lib.hid (by rw [<- hwz]; exact upon_set3 hnw.out (.inr (Nat.le_refl _)) _ _ _)
   have hUz : Hid (Upon (fun x => x = w.heap.size) w3 wz) := Lib.hid (by rw [<- hwz]; exact upon_set3 (S := fun x => x = w.heap.size) (Upon.refl _ _) (.inl rfl) _ _ _)
   have hwz' : Hid ((((w3.setCell ⟨w.heap.size, 0, none⟩ (.slice none 0 0)).setCell ⟨w.heap.size, 1, none⟩ (.int .i64 0)).setCell ⟨w.heap.size, 2, none⟩ (.slice none 0 0)) = wz) := Lib.hid hwz
   clear hwz hF
   go_wp2_with fail
   rw [hwz'.out]
   obtain ⟨r0, r1', r2'⟩ := hFz.out
   clear g0 g1 g2 z0 p1 q1 p2 q2 p3 q3
   refine bodyPost_ret (v := .tuple #[.agg #[.slice none 0 0, .int .i64 0, .slice none 0 0], .bool false]) (by simp [results, Tryz.results51, go_sem, r0, r1', r2']) rfl ?_
   exact RowP.no hno.out hNz.out
 ·have dx : ((x : Int) != 0) = true := by rw [bne_iff_ne]; omega
  have hno := Lib.hid (row_txt_no (m := 65536) (by decide) (txt_no2 hg hx))
  have hresw := Lib.hid (hres.out.new hu2.out)
  have hnw := Lib.hid (hN0.out.trans hu2.out)
  clear hg
  have hF := hresw.out
  obtain ⟨g0, g1, g2⟩ := hF.cells
  have z0 := hF.frozen 0
  obtain ⟨p1, q1, p2, q2, p3, q3, -, -, -⟩ := hF.roads (.slice none 0 0) (.int .i64 0) (.slice none 0 0)
  obtain ⟨wz, hwz⟩ : ∃ wz, (((w2.setCell ⟨w.heap.size, 0, none⟩ (.slice none 0 0)).setCell ⟨w.heap.size, 1, none⟩ (.int .i64 0)).setCell ⟨w.heap.size, 2, none⟩ (.slice none 0 0)) = wz := ⟨_, rfl⟩
  have hFz := (((hF.set0 (.slice none 0 0)).set1 (.int .i64 0)).set2 (.slice none 0 0)).cells
  rw [hwz] at hFz
  replace hFz := Lib.hid hFz
  have hNz : Hid (New0 w wz) := Lib.hid (by rw [<- hwz]; exact upon_set3 hnw.out (.inr (Nat.le_refl _)) _ _ _)
  have hUz : Hid (Upon (fun x => x = w.heap.size) w2 wz) := Lib.hid (by rw [<- hwz]; exact upon_set3 (S := fun x => x = w.heap.size) (Upon.refl _ _) (.inl rfl) _ _ _)
  have hwz' : Hid ((((w2.setCell ⟨w.heap.size, 0, none⟩ (.slice none 0 0)).setCell ⟨w.heap.size, 1, none⟩ (.int .i64 0)).setCell ⟨w.heap.size, 2, none⟩ (.slice none 0 0)) = wz) := Lib.hid hwz
  clear hwz hF
  go_wp2_with fail
  rw [hwz'.out]
  obtain ⟨r0, r1', r2'⟩ := hFz.out
  clear g0 g1 g2 z0 p1 q1 p2 q2 p3 q3
  refine bodyPost_ret (v := .tuple #[.agg #[.slice none 0 0, .int .i64 0, .slice none 0 0], .bool false]) (by simp [results, Tryz.results51, go_sem, r0, r1', r2']) rfl ?_
  exact RowP.no hno.out hNz.out
set_option maxHeartbeats 6400000 in
theorem pgetdel_any (w : World) (s : ByteArray) (hs : s.size <= 65536) :
  Calls Tryz.prog 53 #[.string s] w (DelP w s.data.toList) := by
 obtain ⟨wA, hwA⟩ : ∃ wA, w.alloc (.cells #[.int .i64 0, .slice none 0 0, .slice none 0 0, .int .i64 0, .int .i64 0] 47 (0, 0)) = wA := ⟨_, rfl⟩
 have hres : Rc.Five 47 w.heap.size ⟨.int .i64 0, .slice none 0 0, .slice none 0 0, .int .i64 0, .int .i64 0⟩ wA := by rw [<- hwA]; exact cell_new w _
 have hN0 : New0 w wA := by rw [<- hwA]; exact (Upon.refl _ w).alloc _
 have hszA : w.heap.size < wA.heap.size := by rw [<- hwA]; simp
 obtain ⟨sl, hsl⟩ : ∃ sl, s.data.toList = sl := ⟨_, rfl⟩
 have HD := Rc.dec_new wA s (by omega)
 rw [hsl] at HD ⊢
 unfold Rc.DecN at HD
 obtain ⟨⟨r, x⟩, hde⟩ : ∃ y, Rc.dec sl = y := ⟨_, rfl⟩
 unfold DelP
 rw [hde] at HD ⊢
 simp only at HD ⊢
 replace HD := Lib.hid HD
 replace hres := Lib.hid hres
 replace hN0 := Lib.hid hN0
 replace hwA := Lib.hid hwA
 clear hsl hde
 go_enter Tryz.func53, Tryz.ntmps53
 go_wp2_with fail
 rw [hwA.out]
 refine HD.out.mono ?_
 rintro e w2 ⟨v, rfl, hv, hrg, hu2⟩
 obtain ⟨A1, c1, A2, c2, rfl, -, -⟩ := Rc.RView.shape hv
 have hn3 := (Upon.refl (fun _ => False) w2).alloc (.cells #[.int .i64 r.kind, .slice A1 r.smp.length c1, .slice A2 r.ms.length c2, .int .i64 r.frm, .int .i64 r.til] 47 (0, 0))
 obtain ⟨m0, m1, m2, m3, m4⟩ := Rc.box5 w2 r.kind (.slice A1 r.smp.length c1) (.slice A2 r.ms.length c2) r.frm r.til
 obtain ⟨w3, hw3⟩ : ∃ w3, w2.alloc (.cells #[.int .i64 r.kind, .slice A1 r.smp.length c1, .slice A2 r.ms.length c2, .int .i64 r.frm, .int .i64 r.til] 47 (0, 0)) = w3 := ⟨_, rfl⟩
 rw [hw3] at hn3 m0 m1 m2 m3 m4
 have hlt : w2.heap.size < w3.heap.size := by rw [<- hw3]; simp
 have hn := hu2.trans hn3
 have hF := five_new hres.out hn
 have hvz := Lib.hid (hv.new hn3)
 obtain ⟨g0, g1, g2, g3, g4⟩ := hF.cells
 have z0 := hF.frozen 0
 obtain ⟨⟨p1, q1⟩, ⟨p2, q2⟩, ⟨p3, q3⟩, ⟨p4, q4⟩⟩ := hF.roads ⟨.int .i64 r.kind, .slice A1 r.smp.length c1, .slice A2 r.ms.length c2, .int .i64 r.frm, .int .i64 r.til⟩
 have hF0 := Lib.hid hF
 have hne : w2.heap.size ≠ w.heap.size := by have := hu2.size; omega
 have hnw := Lib.hid (hN0.out.trans hn)
 have hFz := hF.setAll ⟨.int .i64 r.kind, .slice A1 r.smp.length c1, .slice A2 r.ms.length c2, .int .i64 r.frm, .int .i64 r.til⟩
 have hUz := upon_setFiveB hF ⟨.int .i64 r.kind, .slice A1 r.smp.length c1, .slice A2 r.ms.length c2, .int .i64 r.frm, .int .i64 r.til⟩
 obtain ⟨wz, hwz⟩ : ∃ wz, (((((w3.setCell ⟨w.heap.size, 0, none⟩ (.int .i64 r.kind)).setCell ⟨w.heap.size, 1, none⟩ (.slice A1 r.smp.length c1)).setCell ⟨w.heap.size, 2, none⟩ (.slice A2 r.ms.length c2)).setCell ⟨w.heap.size, 3, none⟩ (.int .i64 r.frm)).setCell ⟨w.heap.size, 4, none⟩ (.int .i64 r.til)) = wz := ⟨_, rfl⟩
 unfold Rc.setFive at hFz hUz
 simp only at hFz hUz
 rw [hwz] at hFz hUz
 have hm0 : wz.cell? ⟨w2.heap.size, 0, none⟩ = some (.int .i64 r.kind) := by
  rw [World.cell?, hUz.block w2.heap.size hlt hne]
  exact m0
 rw [<- hwz] at hm0
 have hFe := Lib.hid ((five_new hFz (upon_drewN _ wz 1)).cells)
 have hNz : Hid (New0 w (wz.drewN 1)) := Lib.hid (((hnw.out.trans' hUz (fun i hi e => by omega))).trans (upon_drewN _ wz 1))
 have hVz : Hid (Rc.RView (wz.drewN 1) (Lb.Nw w) (.agg #[.int .i64 r.kind, .slice A1 r.smp.length c1, .slice A2 r.ms.length c2, .int .i64 r.frm, .int .i64 r.til]) r) := Lib.hid (((hvz.out.upon hUz (fun b hb e => by unfold Lb.Nw at hb; omega)).new (upon_drewN _ wz 1)).mono fun b _ hb => by unfold Lb.Nw at *; omega)
 have hwz' : Hid (((((((w3.setCell ⟨w.heap.size, 0, none⟩ (.int .i64 r.kind)).setCell ⟨w.heap.size, 1, none⟩ (.slice A1 r.smp.length c1)).setCell ⟨w.heap.size, 2, none⟩ (.slice A2 r.ms.length c2)).setCell ⟨w.heap.size, 3, none⟩ (.int .i64 r.frm)).setCell ⟨w.heap.size, 4, none⟩ (.int .i64 r.til))).drew = wz.drewN 1) := Lib.hid (by rw [hwz]; rfl)
 have hFd := five_new hF (upon_drewN _ w3 1)
 obtain ⟨g0', g1', g2', g3', g4'⟩ := hFd.cells
 have z0' := hFd.frozen 0
 obtain ⟨⟨p1', q1'⟩, ⟨p2', q2'⟩, ⟨p3', q3'⟩, ⟨p4', q4'⟩⟩ := hFd.roads ⟨.int .i64 r.kind, .slice A1 r.smp.length c1, .slice A2 r.ms.length c2, .int .i64 r.frm, .int .i64 r.til⟩
 have e0 : w3.drew.cell? ⟨w2.heap.size, 0, none⟩ = some (.int .i64 r.kind) := m0
 have e1 : w3.drew.cell? ⟨w2.heap.size, 1, none⟩ = some (.slice A1 r.smp.length c1) := m1
 have e2 : w3.drew.cell? ⟨w2.heap.size, 2, none⟩ = some (.slice A2 r.ms.length c2) := m2
 have e3 : w3.drew.cell? ⟨w2.heap.size, 3, none⟩ = some (.int .i64 r.frm) := m3
 have e4 : w3.drew.cell? ⟨w2.heap.size, 4, none⟩ = some (.int .i64 r.til) := m4
 replace hrg := Lib.hid hrg
 replace hw3 := Lib.hid hw3
 clear HD hwA hn3 hv hF hu2 hn hwz hFz hUz hFd hF0 hvz hnw
 by_cases hx : x = 0
 ·subst hx
  have d1 : ((0 : Int) == 0) = true := rfl
  by_cases hk : r.kind = 2
  ·have d2 : (r.kind == 2) = true := by rw [beq_iff_eq]; exact hk
   have hdec : decide ((0 : Nat) = 0 /\ r.kind = 2) = true := decide_eq_true ⟨rfl, hk⟩
   replace hk := Lib.hid hk
   go_wp2_with fail
   rw [hw3.out]
   go_region
   all_goals
    go_wp2_with fail
    rw [hwz'.out]
    obtain ⟨r0, r1, r2, r3, r4⟩ := hFe.out
    clear g0 g1 g2 g3 g4 z0 p1 q1 p2 q2 p3 q3 p4 q4 g0' g1' g2' g3' g4' z0' p1' q1' p2' q2' p3' q3' p4' q4'
    refine bodyPost_ret (v := .tuple #[.agg #[.int .i64 r.kind, .slice A1 r.smp.length c1, .slice A2 r.ms.length c2, .int .i64 r.frm, .int .i64 r.til], .bool true]) (by simp [results, Tryz.results53, go_sem, r0, r1, r2, r3, r4]) rfl ?_
    exact ⟨_, by first | rw [hdec] | simp [hk.out], hNz.out, hVz.out, hrg.out⟩
  ·have d2 : (r.kind == 2) = false := by rw [beq_eq_false_iff_ne]; exact hk
   have hdec : decide ((0 : Nat) = 0 /\ r.kind = 2) = false := decide_eq_false (fun h => hk h.2)
   replace hk := Lib.hid hk
   go_wp2_with fail
   rw [hw3.out]
   go_region
   all_goals
    go_wp2_with fail
    rw [hwz'.out]
    obtain ⟨r0, r1, r2, r3, r4⟩ := hFe.out
    clear g0 g1 g2 g3 g4 z0 p1 q1 p2 q2 p3 q3 p4 q4 g0' g1' g2' g3' g4' z0' p1' q1' p2' q2' p3' q3' p4' q4'
    refine bodyPost_ret (v := .tuple #[.agg #[.int .i64 r.kind, .slice A1 r.smp.length c1, .slice A2 r.ms.length c2, .int .i64 r.frm, .int .i64 r.til], .bool false]) (by simp [results, Tryz.results53, go_sem, r0, r1, r2, r3, r4]) rfl ?_
    exact ⟨_, by first | rw [hdec] | simp [hk.out], hNz.out, hVz.out, hrg.out⟩
 ·have d1 : ((x : Int) == 0) = false := by rw [beq_eq_false_iff_ne]; omega
  have hdec : decide (x = 0 /\ r.kind = 2) = false := decide_eq_false (fun h => hx h.1)
  go_wp2_with fail
  rw [hw3.out]
  go_region
  all_goals
   go_wp2_with fail
   rw [hwz'.out]
   obtain ⟨r0, r1, r2, r3, r4⟩ := hFe.out
   clear g0 g1 g2 g3 g4 z0 p1 q1 p2 q2 p3 q3 p4 q4 g0' g1' g2' g3' g4' z0' p1' q1' p2' q2' p3' q3' p4' q4'
   refine bodyPost_ret (v := .tuple #[.agg #[.int .i64 r.kind, .slice A1 r.smp.length c1, .slice A2 r.ms.length c2, .int .i64 r.frm, .int .i64 r.til], .bool false]) (by simp [results, Tryz.results53, go_sem, r0, r1, r2, r3, r4]) rfl ?_
   exact ⟨_, by first | rw [hdec] | simp [hk.out], hNz.out, hVz.out, hrg.out⟩
end Bk
end
section
open Go.RowKit Go.Sort
namespace Bk
open Bit Dsk Ob Dig
theorem at_next (args : Array Value) (W : World) : (callFunc 47 args).run Tryz.prog W = .ok (.enter 47 args) W := by kernel_rfl
theorem ne_br : 63 ≠ 47 := by decide
theorem upR {gr lo : Nat} {w w1 w2 : World} (h : Upon (fun x => x = gr \/ lo <= x) w w1) (h2 : Upon (fun x => x = gr) w1 w2) : Upon (fun x => x = gr \/ lo <= x) w w2 := h.trans' h2 fun _ _ e => .inl e
theorem upN {gr lo : Nat} {w0 w w1 : World} (h0 : New0 w0 w) (h : Upon (fun x => x = gr \/ lo <= x) w w1) (hg : w0.heap.size <= gr) (hl : gr < lo) : New0 w0 w1 := h0.trans' h fun i hi e => by omega
def AllR (s0 : List UInt8) (f t : Int) (n m gr lo : Nat) (w : World) (e : Ending) (w' : World) : Prop := ∃ (v : Value) (ok : Bool), e = .returned (.tuple #[v, .bool ok]) /\ Upon (fun x => x = gr \/ lo <= x) w w' /\ (ok = false -> v = .slice none 0 0 /\ Not s0) /\
 (ok = true -> ∃ (rs : List RB) (l : List Row) (rest : ByteArray), l.length = n /\ St s0 ⟨f, t, l, []⟩ n m rest.data.toList /\ Left gr rest w' /\ BOwn 63 lo w' v rs l (.slice none 0 0) [] [])
def AllD (s0 : List UInt8) (f t : Int) (n m gr lo : Nat) (u : Value) (rs : List RB) (l : List Row) (w : World) (e : Ending) (w' : World) : Prop := ∃ (v : Value) (ok : Bool), e = .returned (.tuple #[v, .bool ok]) /\ Upon (fun x => x = gr \/ lo <= x) w w' /\ (ok = false -> v = .slice none 0 0 /\ Not s0) /\
 (ok = true -> ∃ (ds : List Hd.RC) (ms : List Rc.R) (rest : ByteArray), ms.length = m /\ St s0 ⟨f, t, l, ms⟩ n m rest.data.toList /\ Left gr rest w' /\ BOwn 63 lo w' u rs l v ds ms)
set_option maxHeartbeats 12800000 in
theorem pallR (w0 w : World) (hT : TabA w0) (h0 : New0 w0 w) (gr lo : Nat) (hg0 : w0.heap.size <= gr) (hgl : gr < lo) (hlo : lo <= w.heap.size) (s0 : List UInt8) (hs0 : s0.length <= 1000000000) (f t : Int) (n m : Nat) (hn : n < 18446744073709551616) (hm : m < 18446744073709551616) (rest : ByteArray) (hL : Left gr rest w) (hS : St s0 ⟨f, t, [], []⟩ n m rest.data.toList) :
  Calls Tryz.prog 50 #[.int .u64 (n : Int), .int .i64 3, .func (.func 47) #[] #[.pointer (some ⟨gr, 0, none⟩)], .func (.func 51) #[] #[]] w (AllR s0 f t n m gr lo w) := by
 have hTn := Lib.hid (fun w' (hu : Upon (fun x => x = gr \/ lo <= x) w w') => hT.new (upN h0 hu hg0 hgl))
 have hlw := Lib.hid (fun w' (hu : Upon (fun x => x = gr \/ lo <= x) w w') => Nat.le_trans hlo hu.size)
 have eg := at_next
 have eg2 : ∀ (args : Array Value) (W : World), (callFunc 51 args).run Tryz.prog W = .ok (.enter 51 args) W := fun _ _ => by kernel_rfl
 replace hL := Lib.hid hL
 replace hS := Lib.hid hS
 replace hg0 := Lib.hid hg0
 clear hT h0
 go_enter Tryz.func50, Tryz.ntmps50
 go_wp2_with fail
 go_loopw [15, 10] (fun s15 s10 wr => ∃ (k : Nat) (rest : ByteArray) (rs : List RB) (l : List Row), s15 = .int .u64 (k : Int) /\ k <= n /\ l.length = k /\ Hid (St s0 ⟨f, t, l, []⟩ n m rest.data.toList) /\ Hid (Left gr rest wr) /\ Hid (BOwn 63 lo wr s10 rs l (.slice none 0 0) [] []) /\ Hid (Upon (fun x => x = gr \/ lo <= x) w wr)) (fun s15 _ _ => n - (intOf s15).toNat)
 case atStart => exact ⟨0, rest, [], [], rfl, Nat.zero_le _, rfl, hS, hL, Lib.hid (BOwn.start _ _ _), Lib.hid (Upon.refl _ _)⟩
 case round =>
  clear hS hL
  obtain ⟨k, rest, rs, l, rfl, hkn, hlk, hS, hL, hB, hU⟩ := hrel
  obtain ⟨Au, cu, rfl, -, -⟩ := hB.out.row.view.shape
  have hlen := hB.out.len
  have hrz := hS.out.size.2
  have hrl : l.length <= 1000000000 := by have := hS.out.size.1; simp only at this; omega
  rw [Frm.size_list] at hrz
  replace hlk := Lib.hid hlk
  have hlen' : rs.length <= 1000000000 := by omega
  replace hlen := Lib.hid hlen
  have hTw := Lib.hid (hTn.out _ hU.out)
  by_cases hlt : k < n
  ·have dl : decide ((k : Int) < (n : Int)) = true := decide_eq_true (by omega)
   have HN := Lib.hid (next_any gr 3 rest (by omega) wr hTw.out.s hL.out)
   have hF := Frm.gotF_ok rest
   unfold NxtE at HN
   have hstep := Lib.hid (fun e1 e2 x (hx : RowGot _ x) => hS.out.row_step rfl (by simp only; have := hlk.out; omega) e1 e2 hx)
   have hno := Lib.hid (hS.out.row_no rfl (by simp only; have := hlk.out; omega))
   have hbad := Lib.hid (hS.out.row_bad rfl (by simp only; have := hlk.out; omega))
   have hrl2 := rest_list rest (Frm.gotF rest).size
   obtain ⟨⟨K, D, z, x⟩, hG⟩ : ∃ G, Frm.gotF rest = G := ⟨_, rfl⟩
   rw [hG] at hF hrl2
   simp only [hG] at HN hstep hno hbad
   simp only at hF hrl2
   obtain ⟨rest', hr'⟩ : ∃ r, rest.extract z rest.size = r := ⟨_, rfl⟩
   rw [hr'] at HN hrl2
   clear hG hr' hS hL hrz
   by_cases hx : x = 0 /\ K = 3
   ·obtain ⟨rfl, rfl⟩ := hx
    have hDz : D.size <= 65536 := (hF rfl).2.2.2
    have hok : decide ((0 : Nat) = 0 /\ (3 : Nat) = 3) = true := rfl
    rw [hok] at HN
    go_wp2_with fail
    refine HN.out.mono ?_
    rintro e w2 ⟨rfl, hL2, hu2⟩
    have hU2 := upR hU.out hu2
    have hB2 := Lib.hid (hB.out.step hu2 (fun b h1 h2 => by omega))
    have HR := Lib.hid (pgetrow_any w2 D hDz (hTn.out _ hU2))
    replace hU2 := Lib.hid hU2
    replace hL2 := Lib.hid hL2
    clear HN hB hU hu2 hno hTw
    go_wp2_with fail
    refine HR.out.mono ?_
    rintro e w6 ⟨⟨sa, sn, sc⟩, ⟨pa, pn, pc⟩, rt, ok, rfl, hu6, hnot, hyes⟩
    cases ok with
    | false =>
     have hD := Lib.hid (hbad.out (hnot rfl))
     have hU6 := Lib.hid ((hU2.out.trans' hu6 (fun _ _ f => f.elim)).alloc (.cells #[.slice sa sn sc, .int .i64 rt, .slice pa pn pc] 63 (0, 0)))
     clear HR hnot hyes hu6 hB2 hU2 hL2 hbad hstep
     go_wp2_with fail
     go_ret2
     exact ⟨_, false, rfl, hU6.out, fun _ => ⟨rfl, hD.out⟩, fun h => by cases h⟩
    | true =>
     obtain ⟨r, hrt, hin, hgot⟩ := hyes rfl
     replace hrt := Lib.hid hrt
     have hst := Lib.hid (hrl2 ▸ hstep.out (by simp) (by simp) r hgot)
     have n1' := (Upon.refl (fun _ => False) w6).alloc (.cells #[.slice sa sn sc, .int .i64 rt, .slice pa pn pc] 63 (0, 0))
     have n2' := n1'.alloc (.cells #[.slice sa sn sc, .int .i64 rt, .slice pa pn pc] 63 (0, 0))
     have hB6 := hB2.out.new hu6
     have hB8 := Lib.hid (hB6.new n2')
     have hfr := Lib.hid (BOwn.fresh (w' := w6) hB2.out (hlw.out _ hU2.out))
     have hin8 : Hid (innB.rel ((w6.alloc (.cells #[.slice sa sn sc, .int .i64 rt, .slice pa pn pc] 63 (0, 0))).alloc (.cells #[.slice sa sn sc, .int .i64 rt, .slice pa pn pc] 63 (0, 0))) (fun x => Lb.Nw w2 x /\ x < w6.heap.size) ⟨⟨sa, sn, sc⟩, rt, ⟨pa, pn, pc⟩⟩ r) := Lib.hid (innB.upon (innB.mono hin fun b hb1 hb2 => ⟨hb2, hb1⟩) n2' (fun _ _ f => f))
     have hM2 := Lib.hid hB8.out.row
     have hV2 : Hid (Rw.Mine layB 63 ((w6.alloc (.cells #[.slice sa sn sc, .int .i64 rt, .slice pa pn pc] 63 (0, 0))).alloc (.cells #[.slice sa sn sc, .int .i64 rt, .slice pa pn pc] 63 (0, 0))) (.slice (some ⟨w6.heap.size + 1, 0, none⟩) 1 1) [⟨⟨sa, sn, sc⟩, rt, ⟨pa, pn, pc⟩⟩]) := Lib.hid (by
      have := bmine_one 63 (w6.alloc (.cells #[.slice sa sn sc, .int .i64 rt, .slice pa pn pc] 63 (0, 0))) ⟨⟨sa, sn, sc⟩, rt, ⟨pa, pn, pc⟩⟩
      rw [show (w6.alloc (.cells #[.slice sa sn sc, .int .i64 rt, .slice pa pn pc] 63 (0, 0))).heap.size = w6.heap.size + 1 by simp] at this
      exact this)
     obtain ⟨m0, m1, m2⟩ := box3 w6 (.slice sa sn sc) rt (.slice pa pn pc) 63
     have hU8 := Lib.hid (hU2.out.trans' (hu6.trans n2') (fun i _ f => f.elim))
     have hL8 := Lib.hid (hL2.out.new (hu6.trans n2'))
     have hsz8 : Hid (lo <= ((w6.alloc (.cells #[.slice sa sn sc, .int .i64 rt, .slice pa pn pc] 63 (0, 0))).alloc (.cells #[.slice sa sn sc, .int .i64 rt, .slice pa pn pc] 63 (0, 0))).heap.size /\ w6.heap.size <= ((w6.alloc (.cells #[.slice sa sn sc, .int .i64 rt, .slice pa pn pc] 63 (0, 0))).alloc (.cells #[.slice sa sn sc, .int .i64 rt, .slice pa pn pc] 63 (0, 0))).heap.size) := Lib.hid ⟨hlw.out _ hU8.out, n2'.size⟩
     clear HR hbad hstep hB2 hU2 hL2 hu6 n1' n2' hB6 hin
     go_wp2_with (at_builtin; refine Rw.wpList_append typW rfl _ _ rfl _ _ rs [(⟨⟨sa, sn, sc⟩, rt, ⟨pa, pn, pc⟩⟩ : RB)] _ rfl rfl hM2.out hV2.out.view (by rw [List.length_singleton]; omega) (by rw [List.length_singleton]; omega) ?_)
     intro v9 w9 hown hgr hbl
     have hB9 := Lib.hid (BOwn.addRow hB8.out ne_br hsz8.out.1 hin8.out (fun x hx => by
      have := hfr.out x hx
      exact ⟨Nat.lt_of_lt_of_le this.1 hsz8.out.2, this.2⟩) hown hgr (hbl.imp id fun h => h.trans (by simp)))
     have hlo9 := hB8.out.base
     have hU9 := Lib.hid (hU8.out.trans' (Upon.grown (S := fun x => lo <= x) (Upon.refl _ _) hgr (fun g hg => .inl (hlo9 g hg))) (fun _ _ h => .inr h))
     have hL9 := Lib.hid (hL8.out.grown hgr (fun e => by have := hlo9 gr e.symm; omega))
     clear hB8 hfr hin8 hM2 hV2 hU8 hL8 hsz8 hown hgr hbl hlo9 m0 m1 m2
     go_wp2_with fail
     go_roundw
     case rel => exact ⟨k + 1, rest', _, _, by go_num, hlt, by rw [List.length_append, List.length_singleton, hlk.out], hst, hL9, hB9, hU9⟩
     case measure => simp [intOf]; omega
   ·have hok : decide (x = 0 /\ K = 3) = false := decide_eq_false hx
    rw [hok] at HN
    have hD := Lib.hid (hno.out (by
     by_cases h : x = 0
     ·exact .inr fun c => hx ⟨h, c⟩
     ·exact .inl h))
    clear hbad hstep hno hTw
    go_wp2_with fail
    refine HN.out.mono ?_
    rintro e w2 ⟨rfl, hL2, hu2⟩
    have hU2 := Lib.hid (upR hU.out hu2)
    clear HN hB hU hu2 hL2
    go_wp2_with fail
    go_ret2
    exact ⟨_, false, rfl, hU2.out, fun _ => ⟨rfl, hD.out⟩, fun h => by cases h⟩
  ·have hke : k = n := by omega
   subst hke
   have dl : decide ((k : Int) < (k : Int)) = false := decide_eq_false (by omega)
   have hend : Hid (AllR s0 f t k m gr lo w (.returned (.tuple #[.slice Au rs.length cu, .bool true])) wr) := Lib.hid ⟨_, true, rfl, hU.out, fun h => (by cases h), fun _ => ⟨_, _, rest, hlk.out, hS.out, hL.out, hB.out⟩⟩
   clear hS hL hB hU hTw hTn
   go_wp2_with fail
   go_ret2
   exact hend.out
end Bk
end
section
open Go.RowKit Go.Sort
namespace Bk
open Bit Dsk Ob Dig
set_option maxHeartbeats 12800000 in
theorem pallD (w0 w : World) (hT : TabA w0) (h0 : New0 w0 w) (gr lo : Nat) (hg0 : w0.heap.size <= gr) (hgl : gr < lo) (hlo : lo <= w.heap.size) (s0 : List UInt8) (hs0 : s0.length <= 1000000000) (f t : Int) (n m : Nat) (hn : n < 18446744073709551616) (hm : m < 18446744073709551616) (u : Value) (rs : List RB) (l : List Row) (hln : l.length = n) (rest : ByteArray) (hL : Left gr rest w) (hS : St s0 ⟨f, t, l, []⟩ n m rest.data.toList) (hB : BOwn 63 lo w u rs l (.slice none 0 0) [] []) :
  Calls Tryz.prog 52 #[.int .u64 (m : Int), .int .i64 4, .func (.func 47) #[] #[.pointer (some ⟨gr, 0, none⟩)], .func (.func 53) #[] #[]] w (AllD s0 f t n m gr lo u rs l w) := by
 have hTn := Lib.hid (fun w' (hu : Upon (fun x => x = gr \/ lo <= x) w w') => hT.new (upN h0 hu hg0 hgl))
 have hlw := Lib.hid (fun w' (hu : Upon (fun x => x = gr \/ lo <= x) w w') => Nat.le_trans hlo hu.size)
 have eg := at_next
 have eg2 : ∀ (args : Array Value) (W : World), (callFunc 53 args).run Tryz.prog W = .ok (.enter 53 args) W := fun _ _ => by kernel_rfl
 replace hL := Lib.hid hL
 replace hS := Lib.hid hS
 replace hg0 := Lib.hid hg0
 replace hB := Lib.hid hB
 replace hln := Lib.hid hln
 clear hT h0
 go_enter Tryz.func52, Tryz.ntmps52
 go_wp2_with fail
 go_loopw [15, 10] (fun s15 s10 wr => ∃ (k : Nat) (rest : ByteArray) (ds : List Hd.RC) (ms : List Rc.R), s15 = .int .u64 (k : Int) /\ k <= m /\ ms.length = k /\ Hid (St s0 ⟨f, t, l, ms⟩ n m rest.data.toList) /\ Hid (Left gr rest wr) /\ Hid (BOwn 63 lo wr u rs l s10 ds ms) /\ Hid (Upon (fun x => x = gr \/ lo <= x) w wr)) (fun s15 _ _ => m - (intOf s15).toNat)
 case atStart => exact ⟨0, rest, [], [], rfl, Nat.zero_le _, rfl, hS, hL, hB, Lib.hid (Upon.refl _ _)⟩
 case round =>
  clear hS hL hB
  obtain ⟨k, rest, ds, ms, rfl, hkn, hlk, hS, hL, hB, hU⟩ := hrel
  obtain ⟨Au, cu, rfl, -, -⟩ := hB.out.del.view.shape
  have hlen := hB.out.len2
  have hrz := hS.out.size.2
  have hrl : ms.length <= 1000000000 := by have := hS.out.size.1; simp only at this; omega
  rw [Frm.size_list] at hrz
  replace hlk := Lib.hid hlk
  have hlen' : ds.length <= 1000000000 := by omega
  replace hlen := Lib.hid hlen
  have hTw := Lib.hid (hTn.out _ hU.out)
  by_cases hlt : k < m
  ·have dl : decide ((k : Int) < (m : Int)) = true := decide_eq_true (by omega)
   have HN := Lib.hid (next_any gr 4 rest (by omega) wr hTw.out.s hL.out)
   have hF := Frm.gotF_ok rest
   unfold NxtE at HN
   have hstep := Lib.hid (fun e1 e2 x (hx : Rc.dec _ = (x, 0)) h2 => hS.out.del_step hln.out (by simp only; have := hlk.out; omega) e1 e2 hx h2)
   have hno := Lib.hid (hS.out.del_no hln.out (by simp only; have := hlk.out; omega))
   have hbad := Lib.hid (hS.out.del_bad hln.out (by simp only; have := hlk.out; omega))
   have hrl2 := rest_list rest (Frm.gotF rest).size
   obtain ⟨⟨K, D, z, x⟩, hG⟩ : ∃ G, Frm.gotF rest = G := ⟨_, rfl⟩
   rw [hG] at hF hrl2
   simp only [hG] at HN hstep hno hbad
   simp only at hF hrl2
   obtain ⟨rest', hr'⟩ : ∃ r, rest.extract z rest.size = r := ⟨_, rfl⟩
   rw [hr'] at HN hrl2
   clear hG hr' hS hL hrz
   by_cases hx : x = 0 /\ K = 4
   ·obtain ⟨rfl, rfl⟩ := hx
    have hDz : D.size <= 65536 := (hF rfl).2.2.2
    have hok : decide ((0 : Nat) = 0 /\ (4 : Nat) = 4) = true := rfl
    rw [hok] at HN
    go_wp2_with fail
    refine HN.out.mono ?_
    rintro e w2 ⟨rfl, hL2, hu2⟩
    have hU2 := upR hU.out hu2
    have hB2 := Lib.hid (hB.out.step hu2 (fun b h1 h2 => by omega))
    have HR := Lib.hid (pgetdel_any w2 D hDz)
    replace hU2 := Lib.hid hU2
    replace hL2 := Lib.hid hL2
    clear HN hB hU hu2 hno hTw
    go_wp2_with fail
    refine HR.out.mono ?_
    rintro e w6 ⟨v6, rfl, hu6, hv6, hrg⟩
    obtain ⟨A1, c1, A2, c2, rfl, hs6, hm6⟩ := hv6.shape
    obtain ⟨⟨r, x6⟩, hde⟩ : ∃ y, Rc.dec D.data.toList = y := ⟨_, rfl⟩
    simp only [hde] at hs6 hm6 hrg hstep hbad ⊢
    obtain ⟨rk, hrk⟩ : ∃ x, r.kind = x := ⟨_, rfl⟩
    obtain ⟨rf, hrfr⟩ : ∃ x, r.frm = x := ⟨_, rfl⟩
    obtain ⟨rt, hrt⟩ : ∃ x, r.til = x := ⟨_, rfl⟩
    obtain ⟨ns, hns⟩ : ∃ x, r.smp.length = x := ⟨_, rfl⟩
    obtain ⟨nm, hnm⟩ : ∃ x, r.ms.length = x := ⟨_, rfl⟩
    have hin : Hd.innRC.rel w6 (Lb.Nw w2) ⟨rk, ⟨A1, ns, c1⟩, ⟨A2, nm, c2⟩, rf, rt⟩ r := by
     rw [<- hrk, <- hrfr, <- hrt, <- hns, <- hnm]
     exact ⟨rfl, rfl, rfl, hs6, hm6⟩
    rw [hrfr, hrt, hns, hnm]
    simp only [hrk] at hbad hstep ⊢
    by_cases hx6 : x6 = 0 /\ rk = 2
    case neg =>
     have dx : decide (x6 = 0 /\ rk = 2) = false := decide_eq_false hx6
     rw [dx]
     have hD := Lib.hid (hbad.out (by
      by_cases h : x6 = 0
      ·exact .inr fun c => hx6 ⟨h, c⟩
      ·exact .inl h))
     have hU6 := Lib.hid ((hU2.out.trans' hu6 (fun _ _ f => f.elim)).alloc (.cells #[.int .i64 rk, .slice A1 ns c1, .slice A2 nm c2, .int .i64 rf, .int .i64 rt] 47 (0, 0)))
     clear HR hu6 hB2 hU2 hL2 hbad hstep hv6 hs6 hm6 hin
     go_wp2_with fail
     go_ret2
     exact ⟨_, false, rfl, hU6.out, fun _ => ⟨rfl, hD.out⟩, fun h => by cases h⟩
    case pos =>
     obtain ⟨rfl, rfl⟩ := hx6
     have dx : decide ((0 : Nat) = 0 /\ (2 : Int) = 2) = true := rfl
     rw [dx]
     have hst := Lib.hid (hrl2 ▸ hstep.out (by first | trivial | rfl | simp) (by first | trivial | rfl | simp) r (by first | rfl | simp) (by first | assumption | simp))
     clear hv6 hs6 hm6 hrk hrfr hrt hns hnm
     have n1' := (Upon.refl (fun _ => False) w6).alloc (.cells #[.int .i64 2, .slice A1 ns c1, .slice A2 nm c2, .int .i64 rf, .int .i64 rt] 47 (0, 0))
     have n2' := n1'.alloc (.cells #[.int .i64 2, .slice A1 ns c1, .slice A2 nm c2, .int .i64 rf, .int .i64 rt] 47 (0, 0))
     have hB6 := hB2.out.new hu6
     have hB8 := Lib.hid (hB6.new n2')
     have hfr := Lib.hid (BOwn.fresh (w' := w6) hB2.out (hlw.out _ hU2.out))
     have hin8 : Hid (Hd.innRC.rel ((w6.alloc (.cells #[.int .i64 2, .slice A1 ns c1, .slice A2 nm c2, .int .i64 rf, .int .i64 rt] 47 (0, 0))).alloc (.cells #[.int .i64 2, .slice A1 ns c1, .slice A2 nm c2, .int .i64 rf, .int .i64 rt] 47 (0, 0))) (fun x => Lb.Nw w2 x /\ x < w6.heap.size) ⟨2, ⟨A1, ns, c1⟩, ⟨A2, nm, c2⟩, rf, rt⟩ r) := Lib.hid (Hd.innRC.upon (Hd.innRC.mono hin fun b hb1 hb2 => ⟨hb2, hb1⟩) n2' (fun _ _ f => f))
     have hM2 := Lib.hid hB8.out.del
     have hV2 : Hid (Rw.Mine Hd.layRC 47 ((w6.alloc (.cells #[.int .i64 2, .slice A1 ns c1, .slice A2 nm c2, .int .i64 rf, .int .i64 rt] 47 (0, 0))).alloc (.cells #[.int .i64 2, .slice A1 ns c1, .slice A2 nm c2, .int .i64 rf, .int .i64 rt] 47 (0, 0))) (.slice (some ⟨w6.heap.size + 1, 0, none⟩) 1 1) [⟨2, ⟨A1, ns, c1⟩, ⟨A2, nm, c2⟩, rf, rt⟩]) := Lib.hid (by
      have := rmine_one (w6.alloc (.cells #[.int .i64 2, .slice A1 ns c1, .slice A2 nm c2, .int .i64 rf, .int .i64 rt] 47 (0, 0))) ⟨2, ⟨A1, ns, c1⟩, ⟨A2, nm, c2⟩, rf, rt⟩
      rw [show (w6.alloc (.cells #[.int .i64 2, .slice A1 ns c1, .slice A2 nm c2, .int .i64 rf, .int .i64 rt] 47 (0, 0))).heap.size = w6.heap.size + 1 by simp] at this
      exact this)
     obtain ⟨m0, m1, m2, m3, m4⟩ := Rc.box5 w6 2 (.slice A1 ns c1) (.slice A2 nm c2) rf rt
     have hU8 := Lib.hid (hU2.out.trans' (hu6.trans n2') (fun i _ f => f.elim))
     have hL8 := Lib.hid (hL2.out.new (hu6.trans n2'))
     have hsz8 : Hid (lo <= ((w6.alloc (.cells #[.int .i64 2, .slice A1 ns c1, .slice A2 nm c2, .int .i64 rf, .int .i64 rt] 47 (0, 0))).alloc (.cells #[.int .i64 2, .slice A1 ns c1, .slice A2 nm c2, .int .i64 rf, .int .i64 rt] 47 (0, 0))).heap.size /\ w6.heap.size <= ((w6.alloc (.cells #[.int .i64 2, .slice A1 ns c1, .slice A2 nm c2, .int .i64 rf, .int .i64 rt] 47 (0, 0))).alloc (.cells #[.int .i64 2, .slice A1 ns c1, .slice A2 nm c2, .int .i64 rf, .int .i64 rt] 47 (0, 0))).heap.size) := Lib.hid ⟨hlw.out _ hU8.out, n2'.size⟩
     clear HR hbad hstep hB2 hU2 hL2 hu6 n1' n2' hB6 hin
     go_wp2_with (at_builtin; refine Rw.wpList_append typRC rfl _ _ rfl _ _ ds [(⟨2, ⟨A1, ns, c1⟩, ⟨A2, nm, c2⟩, rf, rt⟩ : Hd.RC)] _ rfl rfl hM2.out hV2.out.view (by rw [List.length_singleton]; omega) (by rw [List.length_singleton]; omega) ?_)
     intro v9 w9 hown hgr hbl
     have hB9 := Lib.hid (BOwn.addDel hB8.out ne_br hsz8.out.1 hin8.out (fun x hx => by
      have := hfr.out x hx
      exact ⟨Nat.lt_of_lt_of_le this.1 hsz8.out.2, this.2⟩) hown hgr (hbl.imp id fun h => h.trans (by simp)))
     have hlo9 := hB8.out.base2
     have hU9 := Lib.hid (hU8.out.trans' (Upon.grown (S := fun x => lo <= x) (Upon.refl _ _) hgr (fun g hg => .inl (hlo9 g hg))) (fun _ _ h => .inr h))
     have hL9 := Lib.hid (hL8.out.grown hgr (fun e => by have := hlo9 gr e.symm; omega))
     clear hB8 hfr hin8 hM2 hV2 hU8 hL8 hsz8 hown hgr hbl hlo9 m0 m1 m2 m3 m4
     go_wp2_with fail
     go_roundw
     case rel => exact ⟨k + 1, rest', _, _, by go_num, hlt, by rw [List.length_append, List.length_singleton, hlk.out], hst, hL9, hB9, hU9⟩
     case measure => simp [intOf]; omega
   ·have hok : decide (x = 0 /\ K = 4) = false := decide_eq_false hx
    rw [hok] at HN
    have hD := Lib.hid (hno.out (by
     by_cases h : x = 0
     ·exact .inr fun c => hx ⟨h, c⟩
     ·exact .inl h))
    clear hbad hstep hno hTw
    go_wp2_with fail
    refine HN.out.mono ?_
    rintro e w2 ⟨rfl, hL2, hu2⟩
    have hU2 := Lib.hid (upR hU.out hu2)
    clear HN hB hU hu2 hL2
    go_wp2_with fail
    go_ret2
    exact ⟨_, false, rfl, hU2.out, fun _ => ⟨rfl, hD.out⟩, fun h => by cases h⟩
  ·have hke : k = m := by omega
   subst hke
   have dl : decide ((k : Int) < (k : Int)) = false := decide_eq_false (by omega)
   have hend : Hid (AllD s0 f t n k gr lo u rs l w (.returned (.tuple #[.slice Au ds.length cu, .bool true])) wr) := Lib.hid ⟨_, true, rfl, hU.out, fun h => (by cases h), fun _ => ⟨_, _, rest, hlk.out, hS.out, hL.out, hB.out⟩⟩
   clear hS hL hB hU hTw hTn
   go_wp2_with fail
   go_ret2
   exact hend.out
end Bk
end
end Go.Proofs.YtgmnhodajngchaaGreatDoor
