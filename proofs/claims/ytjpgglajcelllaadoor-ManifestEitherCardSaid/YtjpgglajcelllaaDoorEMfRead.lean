/- The program's manifests (layer 17): its reader: pass, number, time, name. -/
import Derived.Test.YtjpgglajcelllaaDoorEMfRow
set_option maxRecDepth 100000
namespace Go.Proofs.YtjpgglajcelllaaDoor
open Go.RowKit
namespace Mf
open Bit Dsk Ob Dig
set_option linter.unusedVariables false
/-- The reader at p: what is left, and whether it has failed. -/
abbrev RdO (p : Nat) (s : ByteArray) (b : Bool) : Ob.Rel := Rw.Box2 70 p (.string s) (.bool b)
theorem thingRd (p : Nat) (s : ByteArray) (b : Bool) : Thing (RdO p s b) := Rw.thingBox2 _ _ _ _
theorem box2Set01 {T : TypeId} {g : Nat} {a b x y : Value} {w : World} {S : Nat → Prop} (h : Rw.Box2 T g a b w S) : ObjStep (Rw.Box2 T g x y) S w ((w.setCell ⟨g, 0, none⟩ x).setCell ⟨g, 1, none⟩ y) := by
  have hg : S g := (h.2 g).2 rfl
  refine ⟨⟨S, ⟨?_, h.2⟩, fun _ h => h, fun _ h => .inl h⟩, ((Upon.refl S w).setCell (p := ⟨g, 0, none⟩) (.inl hg) x).setCell (p := ⟨g, 1, none⟩) (.inl hg) y⟩
  have h1 := h.1
  simp [World.setCell, Array.getElem?_modify, h1]
theorem drop_size (s : ByteArray) (k : Nat) : (s.extract k s.size).size ≤ s.size := by rw [ByteArray.size_extract]; omega
set_option maxHeartbeats 1600000 in
theorem pass_any (w : World) (S : Nat → Prop) (p : Nat) (s : ByteArray) (b r : Bool) (hs : s.size ≤ 9223372036854775807) (k : Nat) (hk : k ≤ s.size) (t : ByteArray) (ht : s.extract k s.size = t) (h : RdO p s b w S) :
    Calls Tryd.prog 95 #[.pointer (some ⟨p, 0, none⟩), .int .i64 (k : Int), .bool r] w fun e w' => e = .returned (.tuple #[]) ∧ ObjStep (RdO p t (b || !r)) S w w' := by
  obtain ⟨c0, c1, f0, f1⟩ := Rw.box2See h
  have hend := Lib.hid (fun x y : Value => box2Set01 (x := x) (y := y) h)
  have e1 := fun x : Value => World.set_other (v := x) (by decide : (0 : Nat) ≠ 1) c1
  have g1 : ∀ x : Value, (w.setCell ⟨p, 0, none⟩ x).frozen? ⟨p, 1, none⟩ = false := fun x => (World.frozen?_setCell w _ _ _).trans f1
  clear h
  cases b with
  | true =>
    go_enter Tryd.func95, Tryd.ntmps95
    go_wp2_with fail
    go_end0
    exact ⟨rfl, hend.out _ _⟩
  | false =>
    cases r with
    | true =>
      go_enter Tryd.func95, Tryd.ntmps95
      go_wp2_with fail
      go_end0
      exact ⟨rfl, hend.out _ _⟩
    | false =>
      go_enter Tryd.func95, Tryd.ntmps95
      go_wp2_with fail
      go_end0
      exact ⟨rfl, hend.out _ _⟩
/-- What number answers. -/
theorem pGetNum (s : ByteArray) (hs : s.size ≤ 9223372036854775807) (n k x : Nat) (hg : gotN s.data.toList = (n, k, x)) (w : World) :
    Calls Tryd.prog 94 #[.string s] w fun e w' => e = .returned (.tuple #[.int .u64 (n : Int), .int .i64 (k : Int), .int .i64 (x : Int)]) ∧ Below w.heap.size w w' := by
  have := Dig.get_any s hs w
  rw [hg] at this
  exact this
theorem pGetSigned (s : ByteArray) (hs : s.size ≤ 9223372036854775807) (n k x : Nat) (hg : gotN s.data.toList = (n, k, x)) (w : World) :
    Calls Tryd.prog 96 #[.string s] w fun e w' => e = .returned (.tuple #[.int .i64 (unz n), .int .i64 (k : Int), .int .i64 (x : Int)]) ∧ Below w.heap.size w w' := by
  have := Dig.getsigned_any s hs w
  rw [hg] at this
  exact this
theorem pGetText (s : ByteArray) (hs : s.size ≤ 9223372036854775807) (n k m x : Nat) (hg : gotT s.data.toList 32 = (n, k, x)) (hm : k + n = m) (t : ByteArray) (ht : s.extract k m = t) (w : World) :
    Calls Tryd.prog 75 #[.string s, .int .i64 32] w fun e w' => e = .returned (.tuple #[.string t, .int .i64 (m : Int), .int .i64 (x : Int)]) ∧ Below w.heap.size w w' := by
  have := Dig.gettext_any s 32 hs (by decide) w
  rw [hg] at this
  simp only at this
  rw [← Int.natCast_add, hm, ht] at this
  exact this
set_option maxHeartbeats 1600000 in
theorem number_is (w : World) (S : Nat → Prop) (p : Nat) (s : ByteArray) (b : Bool) (hs : s.size ≤ 9223372036854775807) (most : Nat) (hm : most ≤ 99999999) (n k x : Nat) (hg : gotN s.data.toList = (n, k, x)) (r : Bool) (hr : r = (decide (x = 0) && decide (n ≤ most))) (t : ByteArray) (ht : s.extract k s.size = t) (h : RdO p s b w S) :
    Calls Tryd.prog 76 #[.pointer (some ⟨p, 0, none⟩), .int .u64 (most : Int)] w fun e w' => e = .returned (.int .i64 (if (b || !r) = true then 0 else (n : Int))) ∧ ObjStep (RdO p t (b || !r)) S w w' := by
  have hk : k ≤ s.size := by
    have := (gotN_lt s.data.toList).2.2.1
    rw [hg] at this
    simpa using this
  have HG := Lib.hid (fun w => pGetNum s hs n k x hg w)
  have HP := Lib.hid (fun w S r (h : RdO p s b w S) => pass_any w S p s b r hs k hk t ht h)
  obtain ⟨c0, c1, f0, f1⟩ := Rw.box2See h
  have H0 := Lib.hid (ObjStep.refl h)
  clear h hg ht hk hs
  by_cases hx : x = 0
  · subst hx
    by_cases hn : n ≤ most
    · obtain rfl : r = true := by rw [hr]; simp [hn]
      have d : (n : Int) ≤ (most : Int) := by omega
      have hw : wrap64 (n : Int) = (n : Int) := by unfold wrap64; omega
      clear hr
      cases b with
      | true =>
        go_enter Tryd.func76, Tryd.ntmps76
        go_wp2_with fail
        refine (HG.out _).mono ?_
        rintro e w2 ⟨rfl, hb⟩
        have H2 := callW (Q := fun e => e = .returned (.tuple #[])) (H0.out.upon0 (thingRd _ _ _) (newOf hb)) fun A hA => HP.out w2 A true hA
        clear HG hb c0 c1 f0 f1 H0
        go_wp2_with fail
        refine H2.mono ?_
        rintro e w3 ⟨rfl, h3⟩
        obtain ⟨A, hA⟩ := seeW h3
        obtain ⟨c0, c1, f0, f1⟩ := Rw.box2See hA
        replace h3 := Lib.hid h3
        clear H2 hA
        simp only [Bool.true_or] at c1
        go_wp2_with fail
        go_ret
        exact ⟨rfl, h3.out⟩
      | false =>
        go_enter Tryd.func76, Tryd.ntmps76
        go_wp2_with fail
        refine (HG.out _).mono ?_
        rintro e w2 ⟨rfl, hb⟩
        have H2 := callW (Q := fun e => e = .returned (.tuple #[])) (H0.out.upon0 (thingRd _ _ _) (newOf hb)) fun A hA => HP.out w2 A true hA
        clear HG hb c0 c1 f0 f1 H0
        go_wp2_with fail
        refine H2.mono ?_
        rintro e w3 ⟨rfl, h3⟩
        obtain ⟨A, hA⟩ := seeW h3
        obtain ⟨c0, c1, f0, f1⟩ := Rw.box2See hA
        replace h3 := Lib.hid h3
        clear H2 hA
        simp only [Bool.not_true, Bool.or_self] at c1
        go_wp2_with fail
        go_ret
        exact ⟨rfl, h3.out⟩
    · obtain rfl : r = false := by rw [hr]; simp; omega
      have d : ¬ (n : Int) ≤ (most : Int) := by omega
      clear hr
      go_enter Tryd.func76, Tryd.ntmps76
      go_wp2_with fail
      refine (HG.out _).mono ?_
      rintro e w2 ⟨rfl, hb⟩
      have H2 := callW (Q := fun e => e = .returned (.tuple #[])) (H0.out.upon0 (thingRd _ _ _) (newOf hb)) fun A hA => HP.out w2 A false hA
      clear HG hb c0 c1 f0 f1 H0
      go_wp2_with fail
      refine H2.mono ?_
      rintro e w3 ⟨rfl, h3⟩
      obtain ⟨A, hA⟩ := seeW h3
      obtain ⟨c0, c1, f0, f1⟩ := Rw.box2See hA
      replace h3 := Lib.hid h3
      clear H2 hA
      have eb : (b || !false) = true := by cases b <;> rfl
      rw [eb] at c1 h3
      go_wp2_with fail
      go_ret
      exact ⟨rfl, h3.out⟩
  · obtain rfl : r = false := by rw [hr]; simp [hx]
    have d : ((x : Int) == 0) = false := by rw [beq_eq_false_iff_ne]; omega
    clear hr
    go_enter Tryd.func76, Tryd.ntmps76
    go_wp2_with fail
    refine (HG.out _).mono ?_
    rintro e w2 ⟨rfl, hb⟩
    have H2 := callW (Q := fun e => e = .returned (.tuple #[])) (H0.out.upon0 (thingRd _ _ _) (newOf hb)) fun A hA => HP.out w2 A false hA
    clear HG hb c0 c1 f0 f1 H0
    go_wp2_with fail
    refine H2.mono ?_
    rintro e w3 ⟨rfl, h3⟩
    obtain ⟨A, hA⟩ := seeW h3
    obtain ⟨c0, c1, f0, f1⟩ := Rw.box2See hA
    replace h3 := Lib.hid h3
    clear H2 hA
    have eb : (b || !false) = true := by cases b <;> rfl
    rw [eb] at c1 h3
    go_wp2_with fail
    go_ret
    exact ⟨rfl, h3.out⟩
set_option maxHeartbeats 1600000 in
theorem time_is (w : World) (S : Nat → Prop) (p : Nat) (s : ByteArray) (b : Bool) (hs : s.size ≤ 9223372036854775807) (n k x : Nat) (hg : gotN s.data.toList = (n, k, x)) (r : Bool) (hr : r = ((x : Int) == 0)) (t : ByteArray) (ht : s.extract k s.size = t) (h : RdO p s b w S) :
    Calls Tryd.prog 77 #[.pointer (some ⟨p, 0, none⟩)] w fun e w' => e = .returned (.int .i64 (unz n)) ∧ ObjStep (RdO p t (b || !r)) S w w' := by
  have hk : k ≤ s.size := by
    have := (gotN_lt s.data.toList).2.2.1
    rw [hg] at this
    simpa using this
  have HG := Lib.hid (fun w => pGetSigned s hs n k x hg w)
  have HP := Lib.hid (fun w S r (h : RdO p s b w S) => pass_any w S p s b r hs k hk t ht h)
  obtain ⟨c0, c1, f0, f1⟩ := Rw.box2See h
  have H0 := Lib.hid (ObjStep.refl h)
  clear h hg ht hk hs
  generalize unz n = un at *
  subst hr
  obtain ⟨r, hr⟩ : ∃ r, ((x : Int) == 0) = r := ⟨_, rfl⟩
  rw [hr]
  go_enter Tryd.func77, Tryd.ntmps77
  go_wp2_with fail
  refine (HG.out _).mono ?_
  rintro e w2 ⟨rfl, hb⟩
  have H2 := callW (Q := fun e => e = .returned (.tuple #[])) (H0.out.upon0 (thingRd _ _ _) (newOf hb)) fun A hA => HP.out w2 A r hA
  clear HG hb c0 c1 f0 f1 H0
  go_wp2_with fail
  refine H2.mono ?_
  rintro e w3 ⟨rfl, h3⟩
  replace h3 := Lib.hid h3
  clear H2
  go_wp2_with fail
  go_ret
  exact ⟨rfl, h3.out⟩
set_option maxHeartbeats 1600000 in
theorem name_is (w : World) (S : Nat → Prop) (p : Nat) (s : ByteArray) (b : Bool) (hs : s.size ≤ 9223372036854775807) (n k m x : Nat) (hg : gotT s.data.toList 32 = (n, k, x)) (hm : k + n = m) (r : Bool) (hr : r = ((x : Int) == 0)) (u t : ByteArray) (hu : s.extract k m = u) (ht : s.extract m s.size = t) (h : RdO p s b w S) :
    Calls Tryd.prog 78 #[.pointer (some ⟨p, 0, none⟩)] w fun e w' => e = .returned (.string u) ∧ ObjStep (RdO p t (b || !r)) S w w' := by
  have hk : m ≤ s.size := by
    have := Lb.gotT_le hg
    rw [hm] at this
    simpa using this
  have HG := Lib.hid (fun w => pGetText s hs n k m x hg hm u hu w)
  have HP := Lib.hid (fun w S r (h : RdO p s b w S) => pass_any w S p s b r hs m hk t ht h)
  obtain ⟨c0, c1, f0, f1⟩ := Rw.box2See h
  have H0 := Lib.hid (ObjStep.refl h)
  clear h hg ht hk hs hu hm
  subst hr
  obtain ⟨r, hr⟩ : ∃ r, ((x : Int) == 0) = r := ⟨_, rfl⟩
  rw [hr]
  go_enter Tryd.func78, Tryd.ntmps78
  go_wp2_with fail
  refine (HG.out _).mono ?_
  rintro e w2 ⟨rfl, hb⟩
  have H2 := callW (Q := fun e => e = .returned (.tuple #[])) (H0.out.upon0 (thingRd _ _ _) (newOf hb)) fun A hA => HP.out w2 A r hA
  clear HG hb c0 c1 f0 f1 H0
  go_wp2_with fail
  refine H2.mono ?_
  rintro e w3 ⟨rfl, h3⟩
  replace h3 := Lib.hid h3
  clear H2
  go_wp2_with fail
  go_ret
  exact ⟨rfl, h3.out⟩
/-! ### as a reading goes -/
/-- A step of the reader. -/
def Nb {α : Type} (x : Rc.Rd α) (s : ByteArray) (b : Bool) (a : α) (s' : ByteArray) (b' : Bool) : Prop :=
  (b = false → (b' = false ∧ x s.data.toList = .ok (a, s'.data.toList)) ∨ (b' = true ∧ ∃ e, x s.data.toList = .error e)) ∧ (b = true → b' = true)
/-- Where the reader stands, all that is to be read being F, the whole comes to K. -/
def Rb {β : Type} (F : Rc.Rd β) (s : ByteArray) (b : Bool) (K : Except Nat (β × List UInt8)) : Prop := (b = false → F s.data.toList = K) ∧ (b = true → ∃ e, K = .error e)
theorem Rb.start {β : Type} (F : Rc.Rd β) (s : ByteArray) : Rb F s false (F s.data.toList) := ⟨fun _ => rfl, fun h => by cases h⟩
theorem Rb.step {α β : Type} {x : Rc.Rd α} {f : α → Rc.Rd β} {s s' : ByteArray} {b b' : Bool} {a : α} {K : Except Nat (β × List UInt8)} (h : Rb (Rc.bnd x f) s b K) (hx : Nb x s b a s' b') : Rb (f a) s' b' K := by
  cases b with
  | false =>
    rcases hx.1 rfl with ⟨rfl, h2⟩ | ⟨rfl, e, h2⟩
    · exact ⟨fun _ => by rw [← h.1 rfl, Rc.bnd_ok h2], fun c => (by cases c)⟩
    · exact ⟨fun c => (by cases c), fun _ => ⟨e, by rw [← h.1 rfl, Rc.bnd_no h2]⟩⟩
  | true =>
    have := hx.2 rfl
    subst this
    exact ⟨fun c => (by cases c), fun _ => h.2 rfl⟩
theorem Rb.any {β : Type} {F : Rc.Rd β} {s s' : ByteArray} {K : Except Nat (β × List UInt8)} (h : Rb F s true K) (G : Rc.Rd β) : Rb G s' true K := ⟨fun c => (by cases c), h.2⟩
theorem upto_is {s : List UInt8} {n k : Nat} {most : Nat} (hg : gotN s = (n, k, 0)) (h : n ≤ most) : uptoR most s = .ok (n, s.drop k) := by
  unfold uptoR
  rw [Rc.bnd_ok (a := n) (r := s.drop k) (by unfold Rc.numR; rw [hg]; rfl), Rc.bnd_ok (a := ()) (r := s.drop k) (by unfold Rc.mustR; rw [if_pos (decide_eq_true h)])]
  rfl
theorem upto_no {s : List UInt8} {n k x : Nat} {most : Nat} (hg : gotN s = (n, k, x)) (h : x ≠ 0 ∨ most < n) : ∃ e, uptoR most s = .error e := by
  by_cases hx : x = 0
  · subst hx
    refine ⟨3, ?_⟩
    unfold uptoR
    rw [Rc.bnd_ok (a := n) (r := s.drop k) (by unfold Rc.numR; rw [hg]; rfl), Rc.bnd_no (e := 3) (by unfold Rc.mustR; rw [if_neg (by simp; omega)])]
  · exact ⟨x, by unfold uptoR; exact Rc.bnd_no (by unfold Rc.numR; rw [hg]; simp [hx])⟩
theorem number_any (w : World) (S : Nat → Prop) (p : Nat) (s : ByteArray) (b : Bool) (hs : s.size ≤ 9223372036854775807) (most : Nat) (hm : most ≤ 99999999) (h : RdO p s b w S) :
    Calls Tryd.prog 76 #[.pointer (some ⟨p, 0, none⟩), .int .u64 (most : Int)] w fun e w' => ∃ (a : Nat) (s' : ByteArray) (b' : Bool), e = .returned (.int .i64 (a : Int)) ∧ a ≤ most ∧ (b' = true → a = 0) ∧ s'.size ≤ s.size ∧ Nb (uptoR most) s b a s' b' ∧ ObjStep (RdO p s' b') S w w' := by
  obtain ⟨n, k, x, hg⟩ : ∃ n k x, gotN s.data.toList = (n, k, x) := ⟨_, _, _, rfl⟩
  refine (number_is w S p s b hs most hm n k x hg _ rfl _ rfl h).mono ?_
  rintro e w' ⟨rfl, h2⟩
  have hd : (s.extract k s.size).data.toList = s.data.toList.drop k := by
    rw [Frm.extract_list, List.take_of_length_le (by rw [Frm.size_list]; exact Nat.le_refl _)]
  by_cases hc : x = 0 ∧ n ≤ most
  · obtain ⟨rfl, hn⟩ := hc
    have er : (decide ((0 : Nat) = 0) && decide (n ≤ most)) = true := by simp [hn]
    rw [er] at h2 ⊢
    cases b with
    | true => exact ⟨0, _, true, rfl, Nat.zero_le _, fun _ => rfl, drop_size s k, ⟨fun c => (by cases c), fun _ => rfl⟩, h2⟩
    | false => exact ⟨n, _, false, rfl, hn, fun c => (by cases c), drop_size s k, ⟨fun _ => .inl ⟨rfl, by rw [hd]; exact upto_is hg hn⟩, fun c => (by cases c)⟩, h2⟩
  · have er : (decide (x = 0) && decide (n ≤ most)) = false := by
      rw [Bool.and_eq_false_iff]
      by_cases hx : x = 0
      · right; exact decide_eq_false fun h => hc ⟨hx, h⟩
      · left; exact decide_eq_false hx
    rw [er] at h2 ⊢
    have eb : (b || !false) = true := by cases b <;> rfl
    rw [eb] at h2 ⊢
    refine ⟨0, _, true, rfl, Nat.zero_le _, fun _ => rfl, drop_size s k, ⟨fun _ => .inr ⟨rfl, upto_no hg ?_⟩, fun _ => rfl⟩, h2⟩
    by_cases hx : x = 0
    · right; by_cases h : n ≤ most
      · exact absurd ⟨hx, h⟩ hc
      · omega
    · exact .inl hx
theorem time_any (w : World) (S : Nat → Prop) (p : Nat) (s : ByteArray) (b : Bool) (hs : s.size ≤ 9223372036854775807) (h : RdO p s b w S) :
    Calls Tryd.prog 77 #[.pointer (some ⟨p, 0, none⟩)] w fun e w' => ∃ (a : Int) (s' : ByteArray) (b' : Bool), e = .returned (.int .i64 a) ∧ (-9223372036854775808 ≤ a ∧ a ≤ 9223372036854775807) ∧ s'.size ≤ s.size ∧ Nb Rc.sgnR s b a s' b' ∧ ObjStep (RdO p s' b') S w w' := by
  obtain ⟨n, k, x, hg⟩ : ∃ n k x, gotN s.data.toList = (n, k, x) := ⟨_, _, _, rfl⟩
  have hn := (gotN_lt s.data.toList).1
  rw [hg] at hn
  refine (time_is w S p s b hs n k x hg _ rfl _ rfl h).mono ?_
  rintro e w' ⟨rfl, h2⟩
  have hd : (s.extract k s.size).data.toList = s.data.toList.drop k := by
    rw [Frm.extract_list, List.take_of_length_le (by rw [Frm.size_list]; exact Nat.le_refl _)]
  refine ⟨_, _, _, rfl, unz_bd n hn, drop_size s k, ?_, h2⟩
  by_cases hx : x = 0
  · subst hx
    cases b with
    | true => exact ⟨fun c => (by cases c), fun _ => rfl⟩
    | false => exact ⟨fun _ => .inl ⟨rfl, by rw [hd]; unfold Rc.sgnR; rw [hg]; rfl⟩, fun c => (by cases c)⟩
  · have er : ((x : Int) == 0) = false := by rw [beq_eq_false_iff_ne]; omega
    rw [er]
    have eb : (b || !false) = true := by cases b <;> rfl
    rw [eb]
    exact ⟨fun _ => .inr ⟨rfl, x, by unfold Rc.sgnR; rw [hg]; simp [hx]⟩, fun _ => rfl⟩
theorem name_any (w : World) (S : Nat → Prop) (p : Nat) (s : ByteArray) (b : Bool) (hs : s.size ≤ 9223372036854775807) (h : RdO p s b w S) :
    Calls Tryd.prog 78 #[.pointer (some ⟨p, 0, none⟩)] w fun e w' => ∃ (a s' : ByteArray) (b' : Bool), e = .returned (.string a) ∧ a.size ≤ s.size ∧ s'.size ≤ s.size ∧ Nb (Rc.txtR 32) s b a s' b' ∧ ObjStep (RdO p s' b') S w w' := by
  obtain ⟨n, k, x, hg⟩ : ∃ n k x, gotT s.data.toList 32 = (n, k, x) := ⟨_, _, _, rfl⟩
  refine (name_is w S p s b hs n k _ x hg rfl _ rfl _ _ rfl rfl h).mono ?_
  rintro e w' ⟨rfl, h2⟩
  have hx1 := Rc.nx_txt hg
  refine ⟨_, _, _, rfl, by rw [ByteArray.size_extract]; omega, drop_size s _, ?_, h2⟩
  by_cases hx : x = 0
  · subst hx
    cases b with
    | true => exact ⟨fun c => (by cases c), fun _ => rfl⟩
    | false =>
      rcases hx1.1 rfl with ⟨-, h3⟩ | ⟨h3, -⟩
      · exact ⟨fun _ => .inl ⟨rfl, h3⟩, fun c => (by cases c)⟩
      · exact absurd rfl h3
  · have er : ((x : Int) == 0) = false := by rw [beq_eq_false_iff_ne]; omega
    rw [er]
    have eb : (b || !false) = true := by cases b <;> rfl
    rw [eb]
    rcases hx1.1 rfl with ⟨h3, -⟩ | ⟨-, h3⟩
    · exact absurd h3 hx
    · exact ⟨fun _ => .inr ⟨rfl, x, h3⟩, fun _ => rfl⟩
end Mf
end Go.Proofs.YtjpgglajcelllaaDoor
