/- The program's records (layer 12): Decode. -/
import Derived.Test.YtkachkoiajdhgaaRcChk
import Derived.Test.YtkachkoiajdhgaaRcRd4
import Derived.Tactics2
import Derived.Defers
import Derived.Recover
import Derived.Laws.Pointers
set_option maxRecDepth 100000
namespace Go.Proofs.Ytkachkoiajdhgaa
open Go.RowKit Go.Sort
namespace Rc
open Bit Dsk Ob Dig Lb
set_option linter.unusedVariables false
set_option linter.unusedSimpArgs false

theorem catch_idle (p q : Addr) (w : World) :
    CallsD Try.prog 34 #[.pointer (some p), .pointer (some q)] .returning w fun e u' w' => e = .returned (.tuple #[]) ∧ u' = .returning ∧ w' = w := by
  refine callsD_of_wpS Try.func34 rfl fun c₀ cs hu => ?_
  apply wpS_seq
  apply wpS_region
  simp [wpOpsS, go_sem, recoverD, hu, Try.ntmps34, Exit.thenS]
  refine wpS_of_wp ?_
  go_wp2
  cases c₀
  simp_all [bodyPostS, results, Try.results34]
/-- An error's box. -/
def ErrB (g : Nat) (x : Int) (w : World) : Prop := w.heap[g]? = some (.cells #[.int .i64 x] 28 (0, 0))
theorem ErrB.cell {g : Nat} {x : Int} {w : World} (h : ErrB g x w) : w.cell? ⟨g, 0, none⟩ = some (.int .i64 x) := by rw [Lib.cell_of_heap h]; rfl
theorem ErrB.frozen {g : Nat} {x : Int} {w : World} (h : ErrB g x w) : w.frozen? ⟨g, 0, none⟩ = false := by
  unfold ErrB at h
  simp [World.frozen?, h]
theorem ErrB.set {g : Nat} {x y : Int} {w : World} (h : ErrB g x w) : ErrB g y (w.setCell ⟨g, 0, none⟩ (.int .i64 y)) := by unfold ErrB at *; simp [World.setCell, Array.getElem?_modify, h]
theorem five_other {g k i : Nat} {v : Fv} {w : World} {x : Value} (h : Five 25 g v w) (hn : g ≠ k) : Five 25 g v (w.setCell ⟨k, i, none⟩ x) := by
  unfold Five at *
  simp [World.setCell, Array.getElem?_modify, h, Ne.symm hn]
theorem err_other {g k i : Nat} {y : Int} {w : World} {x : Value} (h : ErrB g y w) (hn : g ≠ k) : ErrB g y (w.setCell ⟨k, i, none⟩ x) := by
  unfold ErrB at *
  simp [World.setCell, Array.getElem?_modify, h, Ne.symm hn]
theorem err_five {g k : Nat} {y : Int} {v : Fv} {w : World} (h : ErrB g y w) (hn : g ≠ k) : ErrB g y (setFive k v w) := err_other (err_other (err_other (err_other (err_other h hn) hn) hn) hn) hn
set_option maxHeartbeats 1600000 in
theorem catch_no (g k : Nat) (hgk : k ≠ g) (v : Fv) (x : Int) (e : Nat) (older : List PanicEntry) (w : World) (h5 : Five 25 g v w) (h1 : ErrB k x w) :
    CallsD Try.prog 34 #[.pointer (some ⟨g, 0, none⟩), .pointer (some ⟨k, 0, none⟩)] (.panicking ({ v := .iface 28 (.int .i64 (e : Int)), recovered := false } :: older)) w fun r u' w' =>
      r = .returned (.tuple #[]) ∧ u' = .panicking ({ v := .iface 28 (.int .i64 (e : Int)), recovered := true } :: older) ∧ Five 25 g zeroV w' ∧ ErrB k (e : Int) w' ∧ Upon (fun b => b = g ∨ b = k) w w' := by
  refine callsD_of_wpS Try.func34 rfl fun c₀ cs hu => ?_
  have z0 := h5.frozen 0
  obtain ⟨g0, g1, g2, g3, g4⟩ := h5.cells
  obtain ⟨⟨p1, q1⟩, ⟨p2, q2⟩, ⟨p3, q3⟩, ⟨p4, q4⟩⟩ := h5.roads zeroV
  have hE := err_five (v := zeroV) h1 hgk
  have k0 := hE.cell
  have kf := hE.frozen
  unfold setFive at k0 kf
  obtain ⟨wz, hwz⟩ : ∃ wz, (setFive g zeroV w).setCell ⟨k, 0, none⟩ (.int .i64 (e : Int)) = wz := ⟨_, rfl⟩
  have hF : Hid (Five 25 g zeroV wz) := Lib.hid (by rw [← hwz]; exact five_other (h5.setAll zeroV) (Ne.symm hgk))
  have hK : Hid (ErrB k (e : Int) wz) := Lib.hid (by rw [← hwz]; exact hE.set)
  have hu0 : Hid (Upon (fun b => b = g ∨ b = k) w wz) := Lib.hid (by rw [← hwz]; exact Upon.setCell (p := ⟨k, 0, none⟩) (upon_setFive (Upon.refl _ _) (.inl (.inl rfl))) (.inl (.inr rfl)) _)
  have hwz' : Hid ((((((w.setCell ⟨g, 0, none⟩ (.int .i64 0)).setCell ⟨g, 1, none⟩ (.slice none 0 0)).setCell ⟨g, 2, none⟩ (.slice none 0 0)).setCell ⟨g, 3, none⟩ (.int .i64 0)).setCell ⟨g, 4, none⟩ (.int .i64 0)).setCell ⟨k, 0, none⟩ (.int .i64 (e : Int)) = wz) := Lib.hid hwz
  clear h5 h1 hE hwz
  apply wpS_seq
  apply wpS_region
  simp [wpOpsS, go_sem, recoverD, hu, Try.ntmps34, Exit.thenS]
  apply wpS_seq
  apply wpS_region
  simp [wpOpsS, go_sem, Exit.thenS]
  refine wpS_cond (t := true) (by simp [Act.eval, Array.replicate]) ?_
  simp only [if_true]
  refine wpS_of_wp ?_
  generalize hc1 : ({ fn := c₀.fn, tmps := c₀.tmps, todo := c₀.todo, defers := c₀.defers, mode := FrameMode.panicking ({ v := Value.iface 28 (.int .i64 (e : Int)), recovered := true } :: older), kind := c₀.kind, roundOf := c₀.roundOf } : Frame) = c1
  have hm2 := Lib.hid hc1.symm
  clear hc1
  show Code.wp _ _ _ { tmps := #[.pointer (some ⟨g, 0, none⟩), .pointer (some ⟨k, 0, none⟩), .iface 28 (.int .i64 (e : Int)), .iface 28 (.int .i64 (e : Int)), .iface 28 (.int .i64 (e : Int)), .bool true, undef, undef, undef], defers := [] } w
  replace hu := Lib.hid hu
  have hta : ∀ W : World, (Instr.typeAssert (.iface 28 (.int .i64 (e : Int))) 20 28 false).run Try.prog W = .ok (.int .i64 (e : Int)) W := fun W => by
    have hu : Try.prog.underlying 28 = some (.int .i64) := by kernel_rfl
    simp [Instr.typeAssert, go_sem, hu]
  go_region
  all_goals
    rw [hwz'.out]
    refine ⟨rfl, _, by rw [hm2.out], _, by simp [results, Try.results34, go_sem], rfl, rfl, hF.out, hK.out, hu0.out.trans (upon_drewN _ wz 1)⟩
/-- An error's box, as an object. -/
def ErrO (g : Nat) (x : Int) : Ob.Rel := fun w S => ErrB g x w ∧ ∀ y, S y ↔ y = g
theorem thingErr (g : Nat) (x : Int) : Thing (ErrO g x) := ⟨fun w w' S h hk _ => ⟨(hk g ((h.2 g).2 rfl)).trans h.1, h.2⟩, fun w S h x hx => by rw [(h.2 x).1 hx]; exact (Array.getElem?_eq_some_iff.1 h.1).1⟩
theorem errMade {I : Ob.Rel} (hI : Thing I) {w0 w : World} (H : Own I w0 w) (x : Int) : Own (Tens I (ErrO w.heap.size x)) w0 (w.alloc (.cells #[.int .i64 x] 28 (0, 0))) :=
  Own.new hI H (T := fun x => x = w.heap.size) ⟨cell_new w _, fun _ => Iff.rfl⟩ (fun x hx => by rw [hx]; exact Nat.le_refl _) ((Upon.refl _ w).alloc _)
theorem rdNext {I : Ob.Rel} (hI : Thing I) {w0 w : World} (H : Own I w0 w) (s : ByteArray) : Own (Tens I (RdO w.heap.size s)) w0 (w.alloc (.cells #[.string s] 59 (0, 0))) :=
  Own.new hI H (T := fun x => x = w.heap.size) ⟨cell_new w _, fun _ => Iff.rfl⟩ (fun x hx => by rw [hx]; exact Nat.le_refl _) ((Upon.refl _ w).alloc _)
theorem boxFirst (w : World) (v : Fv) : Own (BoxO w.heap.size v) w (w.alloc (.cells #[v.a, v.b, v.c, v.d, v.e] 25 (0, 0))) :=
  Own.made (Below.refl _ _) (S := fun x => x = w.heap.size) ⟨cell_new w _, fun _ => Iff.rfl⟩ (fun x hx => by rw [hx]; exact Nat.le_refl _) ((Upon.refl _ w).alloc _)
theorem box5Set {I J : Ob.Rel} (hI : Thing I) (hJ : Thing J) {g : Nat} {v : Fv} {w0 w : World} (H : Own (Tens I (Tens (BoxO g v) J)) w0 w) (x : Fv) : Own (Tens I (Tens (BoxO g x) J)) w0 (setFive g x w) := by
  obtain ⟨B, hB, go⟩ := H.right hI
  obtain ⟨A, hA, go2⟩ := Tens.left hJ hB
  exact go _ _ (go2 _ _ (boxStep5 hA x))
theorem both_new {w w2 w3 : World} {g k : Nat} (h : New0 w w2) (hg : w.heap.size ≤ g) (hk : w.heap.size ≤ k) (hu : Upon (fun b => b = g ∨ b = k) w2 w3) : New0 w w3 :=
  h.trans' hu fun i hi e => by
    have e' : i = g ∨ i = k := e
    show False
    omega
/-- Where the reader threw, the answer is read off. -/
theorem thrown_end {w w2 : World} {g : Nat} {v : Fv} {x : Int} {e : Nat} {sl : List UInt8} {a0 a1 a4 a5 a6 a7 a8 a9 a10 a11 a12 a13 : Value} (hg : w.heap.size ≤ g) (ho : Own (Tens (BoxO g v) (ErrO (g + 1) x)) w w2) (hd : dec sl = (zero, e)) :
    CallsD Try.prog 34 #[.pointer (some ⟨g, 0, none⟩), .pointer (some ⟨g + 1, 0, none⟩)] (.panicking [{ v := .iface 28 (.int .i64 (e : Int)), recovered := false }]) w2 fun
      | .returned _, u', w' => Leaves Try.prog Try.f17 #[a0, a1, .pointer (some ⟨g, 0, none⟩), .pointer (some ⟨g + 1, 0, none⟩), a4, a5, a6, a7, a8, a9, a10, a11, a12, a13] (fun e w' => DecE w sl e w') [] (settle u') w'
      | .panicked chain, u', w' => Leaves Try.prog Try.f17 #[a0, a1, .pointer (some ⟨g, 0, none⟩), .pointer (some ⟨g + 1, 0, none⟩), a4, a5, a6, a7, a8, a9, a10, a11, a12, a13] (fun e w' => DecE w sl e w') [] (raised u' chain) w'
      | .outgrown, _, w' => DecE w sl .outgrown w' := by
  obtain ⟨A, hA⟩ := ho.seeL
  obtain ⟨B, hB⟩ := ho.seeR
  refine (catch_no g (g + 1) (by omega) v x e [] w2 hA.1 hB.1).mono ?_
  rintro r u' w3 ⟨rfl, rfl, hF, hK, hu⟩
  obtain ⟨g0, g1, g2, g3, g4⟩ := hF.cells
  have k0 := hK.cell
  have hend := DecE.no hd (both_new (newOf ho.bel) hg (Nat.le_succ_of_le hg) hu)
  refine ⟨_, ?_, hend⟩
  simp [results, Try.results17, go_sem, g0, g1, g2, g3, g4, k0]
set_option maxHeartbeats 6400000 in
theorem dec_any (w : World) (s : ByteArray) (hs : s.size ≤ 140737488355328) :
    Calls Try.prog 17 #[.string s] w fun e w' => DecE w s.data.toList e w' := by
  have hmf : ∀ (fn : Fn) (first cap : Array Value) (w : World), (Instr.makeFunc fn first cap).run Try.prog w = .ok (.func fn first cap) w := fun _ _ _ _ => rfl
  obtain ⟨g, hg⟩ : ∃ g, w.heap.size = g := ⟨_, rfl⟩
  have hA := hg ▸ boxFirst w zeroV
  obtain ⟨wA, hwA⟩ : ∃ wA, w.alloc (.cells #[.int .i64 0, .slice none 0 0, .slice none 0 0, .int .i64 0, .int .i64 0] 25 (0, 0)) = wA := ⟨_, rfl⟩
  rw [hwA] at hA
  have hsA : wA.heap.size = g + 1 := by rw [← hwA, ← hg]; simp
  have hE := hsA ▸ errMade (thingBox g zeroV) hA 0
  obtain ⟨wE, hwE⟩ : ∃ wE, wA.alloc (.cells #[.int .i64 0] 28 (0, 0)) = wE := ⟨_, rfl⟩
  rw [hwE] at hE
  have hsE : wE.heap.size = g + 1 + 1 := by rw [← hwE]; simp [hsA]
  have hJ := Lib.hid (fun v => Tens.ob (thingBox g v) (thingErr (g + 1) 0))
  have hR := (hsE ▸ rdNext (hJ.out zeroV) hE s).swap
  obtain ⟨wR, hwR⟩ : ∃ wR, wE.alloc (.cells #[.string s] 59 (0, 0)) = wR := ⟨_, rfl⟩
  rw [hwR] at hR
  have HR := Lib.hid (rdRecord (hJ.out _) hR hs)
  have hw : Hid (((w.alloc (.cells #[.int .i64 0, .slice none 0 0, .slice none 0 0, .int .i64 0, .int .i64 0] 25 (0, 0))).alloc (.cells #[.int .i64 0] 28 (0, 0))).alloc (.cells #[.string s] 59 (0, 0)) = wR) := Lib.hid (by rw [hwA, hwE, hwR])
  obtain ⟨sl, hsl⟩ : ∃ sl, s.data.toList = sl := ⟨_, rfl⟩
  unfold Got at HR
  rw [hsl] at HR ⊢
  have hg' := Lib.hid (show w.heap.size ≤ g by omega)
  clear hR hE hA hwA hwE hwR hsA hsE hsl
  go_enter_defers Try.func17, Try.ntmps17
  go_wp2_with fail
  rw [hw.out]
  refine HR.out.mono ?_
  rintro r w2 (⟨rr, s2, hR2, hs2, v, rfl, hbnd, h2⟩ | ⟨e, hR2, rfl, h2⟩)
  case inr =>
    refine leaves_cons (f := 34) (args := #[.pointer (some ⟨g, 0, none⟩), .pointer (some ⟨g + 1, 0, none⟩)]) (by simp) (by simp [go_sem]) ?_
    exact thrown_end hg'.out h2 (dec_err hR2)
  obtain ⟨S2, hS2⟩ : ∃ S, RecO v rr w2 S := h2.dropl.seeR
  obtain ⟨A, c, A', c', rfl, -, -⟩ := RView.shape (rec_view hS2)
  obtain ⟨x, hx⟩ : ∃ x : Fv, (⟨.int .i64 rr.kind, .slice A rr.smp.length c, .slice A' rr.ms.length c', .int .i64 rr.frm, .int .i64 rr.til⟩ : Fv) = x := ⟨_, rfl⟩
  have h2' := h2.mono fun S h => Tens.mapR (fun A h => Tens.assoc h) h
  have h3 := box5Set (thingRd _ _) (Tens.ob (thingErr _ _) (thingRec _ _)) h2' x
  have hF2 : Five 25 g zeroV w2 := by
    obtain ⟨S, hS⟩ := h2'.dropl.seeL
    exact hS.1
  obtain ⟨g0, g1, g2, g3, g4⟩ := hF2.cells
  have z0 := hF2.frozen 0
  obtain ⟨⟨p1, q1⟩, ⟨p2, q2⟩, ⟨p3, q3⟩, ⟨p4, q4⟩⟩ := hF2.roads ⟨.int .i64 rr.kind, .slice A rr.smp.length c, .slice A' rr.ms.length c', .int .i64 rr.frm, .int .i64 rr.til⟩
  obtain ⟨w3, hw3⟩ : ∃ w3, setFive g x w2 = w3 := ⟨_, rfl⟩
  have hw3' : Hid (((((w2.setCell ⟨g, 0, none⟩ (.int .i64 rr.kind)).setCell ⟨g, 1, none⟩ (.slice A rr.smp.length c)).setCell ⟨g, 2, none⟩ (.slice A' rr.ms.length c')).setCell ⟨g, 3, none⟩ (.int .i64 rr.frm)).setCell ⟨g, 4, none⟩ (.int .i64 rr.til) = w3) := Lib.hid (by rw [← hw3, ← hx]; rfl)
  rw [hw3] at h3
  have HE := Lib.hid (rdEnd h3)
  replace h3 := Lib.hid h3
  replace hR2 := Lib.hid hR2
  replace hbnd := Lib.hid hbnd
  clear HR hw h2 hS2 h2' hF2 hw3
  go_wp2_with fail
  rw [hw3'.out]
  refine HE.out.mono ?_
  rintro r w4 ⟨⟨he, rfl⟩ | ⟨he, rfl⟩, rfl⟩
  case inr =>
    refine leaves_cons (f := 34) (args := #[.pointer (some ⟨g, 0, none⟩), .pointer (some ⟨g + 1, 0, none⟩)]) (by simp) (by simp [go_sem]) ?_
    exact thrown_end hg'.out (h3.out.dropl.mono fun S h => Tens.mapR (fun A h => h) h |> fun h => Tens.cossa h).dropr (dec_more hR2.out he)
  clear g0 g1 g2 g3 g4 z0 p1 q1 p2 q2 p3 q3 p4 q4 HE
  have hRe : Hid (allR sl = .ok (rr, [])) := Lib.hid (by rw [hR2.out, he])
  obtain ⟨S3, hS3⟩ : ∃ S, RecO (.agg #[.int .i64 rr.kind, .slice A rr.smp.length c, .slice A' rr.ms.length c', .int .i64 rr.frm, .int .i64 rr.til]) rr w4 S := h3.out.dropl.dropl.seeR
  obtain ⟨z, hz⟩ : ∃ z, chk rr = z := ⟨_, rfl⟩
  have HC := Lib.hid (check_is w4 _ _ _ (rec_view hS3) hbnd.out hz)
  have hF4 : Five 25 g x w4 := by
    obtain ⟨S, hS⟩ := h3.out.dropl.seeL
    exact hS.1
  rw [← hx] at hF4
  obtain ⟨g0, g1, g2, g3, g4⟩ := hF4.cells
  simp only at g0 g1 g2 g3 g4
  replace hz := Lib.hid hz
  clear hw3' hS3 hF4 hR2 he
  go_wp2_with fail
  refine HC.out.mono ?_
  rintro r w5 ⟨rfl, hu5⟩
  have h5 := Lib.hid (h3.out.upon0 (Tens.ob (thingRd _ _) (Tens.ob (thingBox _ _) (Tens.ob (thingErr _ _) (thingRec _ _)))) hu5)
  clear g0 g1 g2 g3 g4 HC hu5 h3
  by_cases hz0 : z = 0
  · subst hz0
    have HT := Lib.hid throw_ok
    have hD := Lib.hid (dec_ok hRe.out hz.out)
    go_wp2_with fail
    refine (HT.out _).mono ?_
    rintro r w6 ⟨rfl, rfl⟩
    obtain ⟨⟨S6, ⟨Sb, B1, hSb, ⟨Se, Sr, hSe, hSr, d2, e2⟩, d1, e1⟩, -⟩, hbel⟩ := h5.out.dropl
    have hdis : ∀ b, Sr b → ¬ (b = g ∨ b = g + 1) := fun b hb hc => by
      rcases hc with h | h
      · exact d1 b ((hSb.2 b).2 h) ((e2 b).2 (.inr hb))
      · exact d2 b ((hSe.2 b).2 h) hb
    have hF := hSb.1
    rw [← hx] at hF
    obtain ⟨g0, g1, g2, g3, g4⟩ := hF.cells
    have z0 := hF.frozen 0
    obtain ⟨⟨p1, q1⟩, ⟨p2, q2⟩, ⟨p3, q3⟩, ⟨p4, q4⟩⟩ := hF.roads ⟨.int .i64 rr.kind, .slice A rr.smp.length c, .slice A' rr.ms.length c', .int .i64 rr.frm, .int .i64 rr.til⟩
    have hE5 := err_five (v := ⟨.int .i64 rr.kind, .slice A rr.smp.length c, .slice A' rr.ms.length c', .int .i64 rr.frm, .int .i64 rr.til⟩) hSe.1 (Nat.succ_ne_self g)
    have k0 := hE5.cell
    have kf := hE5.frozen
    unfold setFive at k0 kf
    simp only at g0 g1 g2 g3 g4 p1 q1 p2 q2 p3 q3 p4 q4 k0 kf
    obtain ⟨wz, hwz⟩ : ∃ wz, (setFive g ⟨.int .i64 rr.kind, .slice A rr.smp.length c, .slice A' rr.ms.length c', .int .i64 rr.frm, .int .i64 rr.til⟩ w6).setCell ⟨g + 1, 0, none⟩ (.int .i64 0) = wz := ⟨_, rfl⟩
    have hFz : Five 25 g ⟨.int .i64 rr.kind, .slice A rr.smp.length c, .slice A' rr.ms.length c', .int .i64 rr.frm, .int .i64 rr.til⟩ wz := by rw [← hwz]; exact five_other (hF.setAll ⟨.int .i64 rr.kind, .slice A rr.smp.length c, .slice A' rr.ms.length c', .int .i64 rr.frm, .int .i64 rr.til⟩) (by omega)
    have hKz : ErrB (g + 1) 0 wz := by rw [← hwz]; exact hE5.set
    have huz : Upon (fun b => b = g ∨ b = g + 1) w6 wz := by rw [← hwz]; exact Upon.setCell (p := ⟨g + 1, 0, none⟩) (upon_setFive (Upon.refl _ _) (.inl (.inl rfl))) (.inl (.inr rfl)) _
    have hNz := Lib.hid (both_new (newOf hbel) hg'.out (Nat.le_succ_of_le hg'.out) huz)
    have hVz : Hid (RView wz All (.agg #[.int .i64 rr.kind, .slice A rr.smp.length c, .slice A' rr.ms.length c', .int .i64 rr.frm, .int .i64 rr.til]) rr) := Lib.hid ((rec_view hSr).upon huz hdis).all
    have hrng : Hid (Rng rr) := Lib.hid ⟨fun x hx => rngS_of (hbnd.out.smp x hx), hbnd.out.frm, hbnd.out.til⟩
    have hwz' : Hid ((((((w6.setCell ⟨g, 0, none⟩ (.int .i64 rr.kind)).setCell ⟨g, 1, none⟩ (.slice A rr.smp.length c)).setCell ⟨g, 2, none⟩ (.slice A' rr.ms.length c')).setCell ⟨g, 3, none⟩ (.int .i64 rr.frm)).setCell ⟨g, 4, none⟩ (.int .i64 rr.til)).setCell ⟨g + 1, 0, none⟩ (.int .i64 0) = wz) := Lib.hid hwz
    obtain ⟨y0, y1, y2, y3, y4⟩ := Lib.hid hFz.cells
    have y5 := Lib.hid hKz.cell
    clear hSb hSe hSr d1 d2 e1 e2 hdis hF hE5 hwz hFz hKz huz hbel h5 HT
    replace hx := Lib.hid hx
    go_wp2_with fail
    rw [hwz'.out]
    refine leaves_cons (f := 34) (args := #[.pointer (some ⟨g, 0, none⟩), .pointer (some ⟨g + 1, 0, none⟩)]) (by simp) (by simp [go_sem]) ?_
    refine (catch_idle ⟨g, 0, none⟩ ⟨g + 1, 0, none⟩ _).mono ?_
    rintro e u' w'' ⟨rfl, rfl, rfl⟩
    refine ⟨_, ?_, DecE.yes hD.out hVz.out hrng.out hNz.out⟩
    have y5' := y5.out
    clear g0 g1 g2 g3 g4 z0 p1 q1 p2 q2 p3 q3 p4 q4 k0 kf hwz'
    simp [results, Try.results17, go_sem, y0, y1, y2, y3, y4, y5']
  · have HT := Lib.hid (throw_no z hz0)
    have hD := Lib.hid (by have := dec_chk hRe.out (by rw [hz.out]; exact hz0); rw [hz.out] at this; exact this)
    go_wp2_with fail
    refine (HT.out _).mono ?_
    rintro r w6 ⟨rfl, rfl⟩
    refine leaves_cons (f := 34) (args := #[.pointer (some ⟨g, 0, none⟩), .pointer (some ⟨g + 1, 0, none⟩)]) (by simp) (by simp [go_sem]) ?_
    exact thrown_end hg'.out (h5.out.dropl.mono fun S h => Tens.cossa h).dropr hD.out
end Rc
end Go.Proofs.Ytkachkoiajdhgaa
