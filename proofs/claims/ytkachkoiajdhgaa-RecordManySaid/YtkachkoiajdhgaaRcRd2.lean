/- The program's reader of records (layer 12): a sample, samples. -/
import Derived.Test.YtkachkoiajdhgaaRcRd
set_option maxRecDepth 100000
namespace Go.Proofs.Ytkachkoiajdhgaa
open Go.RowKit Go.Sort
namespace Rc
open Bit Dsk Ob Dig Lb
set_option linter.unusedVariables false

theorem bnd_assoc {α β γ : Type} (x : Rd α) (f : α → Rd β) (g : β → Rd γ) : bnd (bnd x f) g = bnd x fun a => bnd (f a) g := by
  funext s
  unfold bnd
  cases x s with
  | error e => rfl
  | ok y => rfl
noncomputable def smpR : Rd Smp := smpK retR
theorem smpR_is : smpR = bnd labsR fun l => bnd sgnR fun a => bnd numR fun b => retR (l, a, b) := by unfold smpR smpK labsR; rw [bnd_assoc]
theorem smpK_bnd {β : Type} (f : Smp → Rd β) : smpK f = bnd smpR f := by
  unfold smpR smpK
  simp only [bnd_assoc]
  rfl
theorem manyK_bnd {β : Type} (f : List Smp → Rd β) : ∀ (n : Nat) (acc : List Smp), manyK f n acc = bnd (manyK retR n acc) f
  | 0, acc => rfl
  | n + 1, acc => by
    rw [manyK, manyK, smpK_bnd, smpK_bnd, bnd_assoc]
    congr 1
    funext x
    exact manyK_bnd f n (acc ++ [x])
noncomputable def smpsR : Rd (List Smp) := bnd numR fun n => bnd (mustR (decide (1 ≤ n) && decide (n ≤ 32)) 2) fun _ => manyK retR n []
theorem comR_smps : comR = bnd smpsR comF := by
  unfold smpsR
  rw [comR_is, bnd_assoc]
  congr 1
  funext n
  rw [bnd_assoc]
  congr 1
  funext u
  exact manyK_bnd comF n []
theorem many_step {m : Nat} {l : List Smp} {x : Smp} {s r : List UInt8} (h : smpR s = .ok (x, r)) : manyK retR (m + 1) l s = manyK retR m (l ++ [x]) r := by rw [manyK, smpK_bnd, bnd_ok h]
theorem many_err {m : Nat} {l : List Smp} {s : List UInt8} {e : Nat} (h : smpR s = .error e) : manyK retR (m + 1) l s = .error e := by rw [manyK, smpK_bnd, bnd_no h]

/-- A sample in a box, as an object. -/
def Box3O (g : Nat) (a b c : Value) : Ob.Rel := fun w S => Mt.Three 43 g a b c w ∧ ∀ x, S x ↔ x = g
theorem thingBox3 (g : Nat) (a b c : Value) : Thing (Box3O g a b c) := ⟨fun w w' S h hk _ => ⟨(hk g ((h.2 g).2 rfl)).trans h.1, h.2⟩, fun w S h x hx => by rw [(h.2 x).1 hx]; exact (Array.getElem?_eq_some_iff.1 h.1).1⟩
theorem box3Made {I : Ob.Rel} (hI : Thing I) {w0 w : World} (H : Own I w0 w) (a b c : Value) : Own (Tens I (Box3O w.heap.size a b c)) w0 (w.alloc (.cells #[a, b, c] 43 (0, 0))) :=
  Own.new hI H (T := fun x => x = w.heap.size) ⟨cell_new w _, fun _ => Iff.rfl⟩ (fun x hx => by rw [hx]; exact Nat.le_refl _) ((Upon.refl _ w).alloc _)
theorem box3Step {g : Nat} {a b c : Value} {w : World} {S : Nat → Prop} (h : Box3O g a b c w S) (x y z : Value) : ObjStep (Box3O g x y z) S w (((w.setCell ⟨g, 0, none⟩ x).setCell ⟨g, 1, none⟩ y).setCell ⟨g, 2, none⟩ z) :=
  have hs := (h.2 g).2 rfl
  ⟨⟨S, ⟨((h.1.set0 x).set1 y).set2 z, h.2⟩, fun _ h => h, fun _ h => .inl h⟩, Upon.setCell (p := ⟨g, 2, none⟩) (Upon.setCell (p := ⟨g, 1, none⟩) (Upon.setCell (p := ⟨g, 0, none⟩) (Upon.refl S w) (.inl hs) _) (.inl hs) _) (.inl hs) _⟩
theorem inBox {I J B L : Ob.Rel} (hI : Thing I) (hJ : Thing J) (hL : Thing L) {w0 w : World} (H : Own (Tens I (Tens (Tens J B) L)) w0 w) : ∃ A, B w A ∧ ∀ (B' : Ob.Rel) (w' : World), ObjStep B' A w w' → Own (Tens I (Tens (Tens J B') L)) w0 w' := by
  obtain ⟨A1, h1, go1⟩ := H.right hI
  obtain ⟨A2, h2, go2⟩ := Tens.left hL h1
  obtain ⟨A3, h3, go3⟩ := Tens.right hJ h2
  exact ⟨A3, h3, fun B' w' k => go1 _ _ (go2 _ _ (go3 _ _ k))⟩
theorem dropBox {I J B L : Ob.Rel} {w0 w : World} (H : Own (Tens I (Tens (Tens J B) L)) w0 w) : Own (Tens I (Tens J L)) w0 w :=
  Own.dropr (J := B) (H.mono fun S h => Tens.cossa (Tens.mapR (fun A h => Tens.cossa (Tens.mapR (fun A h => Tens.swap h) (Tens.assoc h))) h))
section
variable {J : Ob.Rel} {p : Nat} {s : ByteArray} {w0 w : World}
set_option maxHeartbeats 3200000 in
theorem rdSample (hJ : Thing J) (h : Own (Tens (RdO p s) J) w0 w) (hs : s.size ≤ 140737488355328) :
    Calls Try.prog 69 #[.pointer (some ⟨p, 0, none⟩)] w (Got smpR s J w0 fun x s' r w' => ∃ sl : Rw.Sl, r = .returned (.agg #[sl.v, .int .i64 x.2.1, .int .u64 (x.2.2 : Int)]) ∧ BndS x ∧ Own (Tens (RdO p s') (Tens J (LabO sl x.1))) w0 w') := by
  obtain ⟨g, hg⟩ : ∃ g, w.heap.size = g := ⟨_, rfl⟩
  have hB := hg ▸ (box3Made (Tens.ob (thingRd p s) hJ) h (.slice none 0 0) (.int .i64 0) (.int .u64 0)).assoc
  obtain ⟨wA, hwA⟩ : ∃ wA, w.alloc (.cells #[.slice none 0 0, .int .i64 0, .int .u64 0] 43 (0, 0)) = wA := ⟨_, rfl⟩
  rw [hwA] at hB
  have hwA' : Hid (w.alloc (.cells #[.slice none 0 0, .int .i64 0, .int .u64 0] 43 (0, 0)) = wA) := Lib.hid hwA
  have hg' := Lib.hid hg
  have hJB := Lib.hid (fun a b c => Tens.ob hJ (thingBox3 g a b c))
  have hJL := Lib.hid (fun a b c sl (ls : List Pr) => Tens.ob (Tens.ob hJ (thingBox3 g a b c)) (thingLab sl ls))
  have HL := Lib.hid (rdLabels (hJB.out _ _ _) hB hs)
  clear hB h hwA
  go_enter Try.func69, Try.ntmps69
  go_wp2_with fail
  rw [hwA'.out]
  refine HL.out.mono ?_
  rintro r w2 (⟨ls, s2, hR2, hs2, ⟨sa, sn, sc⟩, rfl, hb, h2⟩ | ⟨e, hR2, rfl, h2⟩)
  case inr => exact ⟨rfl, .inr ⟨e, by rw [smpR_is, bnd_no hR2], rfl, h2.dropr⟩⟩
  have hR2' := Lib.hid hR2
  have HT := Lib.hid (rdTime (hJL.out _ _ _ _ _) h2 hs2)
  replace hb := Lib.hid hb
  clear HL h2 hR2
  go_wp2_with fail
  refine HT.out.mono ?_
  rintro r w3 (⟨a, s3, hR3, hs3, rfl, hab, h3⟩ | ⟨e, hR3, rfl, h3⟩)
  case inr => exact ⟨rfl, .inr ⟨e, by rw [smpR_is, bnd_ok hR2'.out, bnd_no hR3], rfl, h3.dropr.dropr⟩⟩
  have hR3' := Lib.hid hR3
  have HN := Lib.hid (rdNumber (hJL.out _ _ _ _ _) h3 hs3)
  replace hab := Lib.hid hab
  clear HT h3 hR3
  go_wp2_with fail
  refine HN.out.mono ?_
  rintro r w4 (⟨b, s4, hR4, hs4, rfl, hb64, h4⟩ | ⟨e, hR4, rfl, h4⟩)
  case inr => exact ⟨rfl, .inr ⟨e, by rw [smpR_is, bnd_ok hR2'.out, bnd_ok hR3'.out, bnd_no hR4], rfl, h4.dropr.dropr⟩⟩
  have hRR : Hid (smpR s.data.toList = .ok ((ls, a, b), s4.data.toList)) := Lib.hid (by rw [smpR_is, bnd_ok hR2'.out, bnd_ok hR3'.out, bnd_ok hR4]; rfl)
  obtain ⟨A, hA, go⟩ := inBox (thingRd _ _) hJ (thingLab _ _) h4
  have hst := Lib.hid (dropBox (go _ _ (box3Step hA (.slice sa sn sc) (.int .i64 a) (.int .u64 (b : Int)))))
  obtain ⟨c0, f0, c1, f1, c2, f2, e0, e1, e2⟩ := hA.1.roads (.slice sa sn sc) (.int .i64 a) (.int .u64 (b : Int))
  have hb' : Hid (BndS (ls, a, b)) := Lib.hid ⟨hb.out.1, hb.out.2, hab.out.1, hab.out.2, hb64⟩
  clear HN h4 hR4 go hA hR2' hR3' hb hab hb64
  go_wp2_with fail
  refine bodyPost_ret (v := .agg #[.slice sa sn sc, .int .i64 a, .int .u64 (b : Int)]) (by simp [results, Try.results69, go_sem, e0, e1, e2]) rfl ?_
  exact .inl ⟨(ls, a, b), s4, hRR.out, hs4, ⟨sa, sn, sc⟩, rfl, hb'.out, hst.out⟩
end
end Rc
end Go.Proofs.Ytkachkoiajdhgaa
