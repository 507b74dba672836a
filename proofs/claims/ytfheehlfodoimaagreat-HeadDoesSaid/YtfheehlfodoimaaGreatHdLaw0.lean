/- Layer 13: Great; the record that works asks with; records and answers as objects. -/
import Derived.Test.YtfheehlfodoimaaGreatHdProg
import Derived.Test.YtfheehlfodoimaaGreatPRc2
set_option maxRecDepth 100000
namespace Go.Proofs.YtfheehlfodoimaaGreat
open Go.RowKit Go.Sort
namespace Hd
open Bit Dsk Ob Dig
set_option linter.unusedVariables false
set_option linter.unusedSimpArgs false

/-- A record that is small. -/
def Small (r : Rc.R) : Prop := r.ms.length < 1000 ∧ r.smp.length < 1000 ∧ ∀ i (h : i < r.smp.length), Rc.Fine r.smp[i]
theorem Small.lab {r : Rc.R} (h : Small r) : ∀ x ∈ r.smp, x.1.length ≤ 1000000000 := fun x hx => by
  obtain ⟨i, hi, rfl⟩ := List.mem_iff_getElem.1 hx
  have := (h.2.2 i hi).1; omega
set_option maxHeartbeats 3200000 in
theorem great_any (w : World) (v : Value) (l : List Rc.R) (hv : RsView w AllB v l) (hb : ∀ r ∈ l, RBnd r) (hl : l.length * 72 ≤ 140737488351232) :
    Calls Tryz.prog 4 #[v] w fun e w' => ∃ b, e = .returned (.bool b) ∧ New0 w w' ∧ (b = false → l.length ≤ 200 ∧ ∀ r ∈ l, Small r) := by
  obtain ⟨A, c, rfl, -, -⟩ := Rw.DView.shape hv
  have hll : l.length ≤ 9223372036854775807 := by omega
  replace hv := Lib.hid hv
  replace hb := Lib.hid hb
  go_enter Tryz.func4, Tryz.ntmps4
  go_wp2_with fail
  go_loopw [3] (fun ov wr => ∃ (j : Nat), ov = .int .i64 (j : Int) ∧ j ≤ l.length ∧ Hid (∀ i (h : i < l.length), i < j → Small l[i]) ∧ Hid (New0 w wr)) (fun ov _ => l.length - (intOf ov).toNat)
  case atStart => exact ⟨0, rfl, Nat.zero_le _, Lib.hid (fun i h hi => absurd hi (Nat.not_lt_zero i)), Lib.hid (Upon.refl _ _)⟩
  case round =>
    obtain ⟨j, rfl, hj, hsm, hn⟩ := hrel
    by_cases hlt : j < l.length
    · obtain ⟨b, off, A1, c1, A2, c2, rfl, -, x0, x1, x2, x3, x4, hrv, -⟩ := RsView.at (Rw.DView.new hv.out hn.out) hlt
      obtain ⟨hb1, hb2, hb3⟩ := hb.out _ (List.getElem_mem hlt)
      have HG := Lib.hid (Rc.great_any wr _ _ hrv hb1 hb2 hb3)
      have hnx : Hid (Small l[j] → ∀ i (h : i < l.length), i < j + 1 → Small l[i]) := Lib.hid (fun h i hi hij => by
        by_cases e : i = j
        · subst e; exact h
        · exact hsm.out i hi (by omega))
      have hsj : Hid (∀ (k : Bool), k = false → (k = false → l[j].ms.length < 1000 ∧ l[j].smp.length < 1000 ∧ ∀ i (h : i < l[j].smp.length), Rc.Fine l[j].smp[i]) → Small l[j]) := Lib.hid (fun k h1 h2 => h2 h1)
      obtain ⟨rj, hrj⟩ : ∃ rj, l[j] = rj := ⟨_, rfl⟩
      rw [hrj] at x0 x1 x2 x3 x4 HG
      have hrj' := Lib.hid hrj
      clear hrv hb1 hb2 hb3 hrj
      go_wp2_with fail
      refine HG.out.mono ?_
      rintro e w2 ⟨k, rfl, hu, hk⟩
      have hn2 := Lib.hid (hn.out.trans hu)
      cases k with
      | true =>
        clear HG x0 x1 x2 x3 x4 hu hk hsm hn hnx hsj
        go_wp2_with fail
        go_ret
        exact ⟨true, rfl, hn2.out, fun h => (by cases h)⟩
      | false =>
        have hsm2 := Lib.hid (hnx.out (by rw [hrj'.out]; exact hk rfl))
        clear HG x0 x1 x2 x3 x4 hu hk hsm hn hnx hsj hrj'
        go_wp2_with fail
        go_roundw
        case rel => exact ⟨j + 1, by go_num, hlt, hsm2, hn2⟩
        case measure => simp [intOf]; omega
    · have hall : Hid (∀ r ∈ l, Small r) := Lib.hid (fun r hr => by
        obtain ⟨i, hi, rfl⟩ := List.mem_iff_getElem.1 hr
        exact hsm.out i hi (by omega))
      clear hsm
      by_cases h200 : 200 < l.length
      · have d : decide ((200 : Int) < (l.length : Int)) = true := decide_eq_true (by omega)
        go_wp2_with fail
        go_ret
        exact ⟨true, rfl, hn.out, fun h => (by cases h)⟩
      · have d : decide ((200 : Int) < (l.length : Int)) = false := decide_eq_false (by omega)
        go_wp2_with fail
        go_ret
        exact ⟨false, rfl, hn.out, fun _ => ⟨by omega, hall.out⟩⟩
/-- A record, as an object. -/
def RcB (u : Value) (r : Rc.R) : Ob.Rel := fun w S => Rc.RView w S u r ∧ ∀ x, S x → x < w.heap.size
theorem sv_keep {w w' : World} {S : Nat → Prop} (hk : ∀ b, S b → w'.heap[b]? = w.heap[b]?) {v : Value} {l : List Rc.Smp} (h : Rc.SView w S v l) : Rc.SView w' S v l :=
  let ⟨rs, h1, h2, h3⟩ := h
  ⟨rs, row_keep hk h1, h2, fun i k1 k2 => ⟨(h3 i k1 k2).1, (h3 i k1 k2).2.1, row_keep hk (h3 i k1 k2).2.2⟩⟩
theorem thingRcB (u : Value) (r : Rc.R) : Thing (RcB u r) := ⟨fun w w' S h hk hs => ⟨let ⟨s, m, h1, h2, h3⟩ := h.1; ⟨s, m, h1, sv_keep hk h2, row_keep hk h3⟩, fun x hx => Nat.lt_of_lt_of_le (h.2 x hx) hs⟩, fun w S h x hx => h.2 x hx⟩
theorem rcMade {I : Ob.Rel} (hI : Thing I) {w0 w w' : World} (H : Ob.Own I w0 w) {u : Value} {r : Rc.R} (hv : Rc.RView w' (Lb.Nw w) u r) (hu : New0 w w') : Ob.Own (Tens I (RcB u r)) w0 w' :=
  Ob.Own.new hI H (T := fun x => w.heap.size ≤ x ∧ x < w'.heap.size) ⟨hv.mono fun b hb h => ⟨h, hb⟩, fun x hx => hx.2⟩ (fun x hx => hx.1) hu
/-- An answer, as an object. -/
def QB (u : Value) (l : List Ser) : Ob.Rel := fun w S => QView w S u l ∧ ∀ x, S x → x < w.heap.size
theorem qv_keep {w w' : World} {S : Nat → Prop} (hk : ∀ b, S b → w'.heap[b]? = w.heap[b]?) {v : Value} {l : List Ser} (h : QView w S v l) : QView w' S v l :=
  let ⟨rs, h1, h2, h3⟩ := h
  ⟨rs, row_keep hk h1, h2, fun i k1 k2 => ⟨row_keep hk (h3 i k1 k2).1, row_keep hk (h3 i k1 k2).2⟩⟩
theorem thingQB (u : Value) (l : List Ser) : Thing (QB u l) := ⟨fun w w' S h hk hs => ⟨qv_keep hk h.1, fun x hx => Nat.lt_of_lt_of_le (h.2 x hx) hs⟩, fun w S h x hx => h.2 x hx⟩
theorem qMade {I : Ob.Rel} (hI : Thing I) {w0 w w' : World} (H : Ob.Own I w0 w) {u : Value} {l : List Ser} (hv : QView w' (Lb.Nw w) u l) (hu : New0 w w') : Ob.Own (Tens I (QB u l)) w0 w' :=
  Ob.Own.new hI H (T := fun x => w.heap.size ≤ x ∧ x < w'.heap.size) ⟨hv.mono fun b hb h => ⟨h, hb⟩, fun x hx => hx.2⟩ (fun x hx => hx.1) hu
/-- Apply, of a record of the law's own that lies beside the head. -/
theorem pappOwn {J : Ob.Rel} (hJ : Thing J) {p : Nat} {g : H} {u : Value} {r : Rc.R} {w0 w : World} (h : Ob.Own (Tens (IsPH p g) (Tens (RcB u r) J)) w0 w) (hs : Srt g) (hb : Rc.Bnd r) (hsane : SaneN r.smp.length g) (hsl : ∀ x ∈ r.smp, x.1.length ≤ 1000000000) :
    Calls Tryz.prog 9 #[.pointer (some ⟨p, 0, none⟩), u] w fun e w' => e = .returned (.int .i64 (tr g r : Int)) ∧ Ob.Own (Tens (IsPH p (app g r)) (Tens (RcB u r) J)) w0 w' := by
  obtain ⟨⟨S, ⟨A, B, h1, ⟨C, D, h2, h3, h4, h5⟩, h6, h7⟩, h8⟩, hbel⟩ := h
  have hO : Ob.Own (Tens (IsPH p g) (Tens (RcB u r) J)) w0 w := ⟨⟨S, ⟨A, B, h1, ⟨C, D, h2, h3, h4, h5⟩, h6, h7⟩, h8⟩, hbel⟩
  have hCA : ∀ b, C b → ¬ A b := fun b hb hA => h6 b hA ((h5 b).2 (.inl hb))
  refine (papp_any w h1 hs C u r h2.1 hCA hb hsane hsl).mono ?_
  rintro e w' ⟨he, ⟨A', k1, k2, k3⟩, ku⟩
  refine ⟨he, ?_⟩
  obtain ⟨SS, hSS, go⟩ := hO.get
  -- the whole as one step
  have hJ2 : Thing (Tens (RcB u r) J) := Tens.ob (thingRcB u r) hJ
  have hst : ObjStep (Tens (IsPH p (app g r)) (Tens (RcB u r) J)) S w w' := by
    have ht : Tens (IsPH p g) (Tens (RcB u r) J) w S := ⟨A, B, h1, ⟨C, D, h2, h3, h4, h5⟩, h6, h7⟩
    have ht2 := ht
    obtain ⟨A2, B2, q1, q2, q3, q4⟩ := ht
    exact ⟨⟨fun b => A' b ∨ B b, ⟨A', B, k1, hJ2.kept w w' B ⟨C, D, h2, h3, h4, h5⟩ (fun b hb => ku.block b (hJ2.lt w B ⟨C, D, h2, h3, h4, h5⟩ b hb) (fun hA => h6 b hA hb)) ku.size, fun b hb hB => by
        rcases k3 b hb with h | h
        · exact h6 b h hB
        · have := hJ2.lt w B ⟨C, D, h2, h3, h4, h5⟩ b hB; omega, fun b => Iff.rfl⟩, fun b hb => ((h7 b).1 hb).imp (k2 b) id, fun b hb => by
        rcases hb with hb | hb
        · exact (k3 b hb).imp (fun h => (h7 b).2 (.inl h)) id
        · exact .inl ((h7 b).2 (.inr hb))⟩, ku.mono fun b _ hb => (h7 b).2 (.inl hb)⟩
  obtain ⟨⟨S', s1, s2, s3⟩, su⟩ := hst
  exact ⟨⟨S', s1, fun b hb => (s3 b hb).elim (h8 b) fun h => Nat.le_trans hbel.size h⟩, hbel.trans (su.below hbel.size h8)⟩
end Hd
end Go.Proofs.YtfheehlfodoimaaGreat
