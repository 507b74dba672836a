/- The program's two coders with a writer, with a reader, and a row of points beside them (layer 9). -/
import Derived.Test.YtadlkfdjdjaakaaDoorCkTab
set_option maxRecDepth 100000
namespace Go.Proofs.YtadlkfdjdjaakaaDoor
open Go.RowKit Go.Sort
namespace Ck
open Bit Dsk Ob Dig
set_option linter.unusedVariables false

theorem belowOf0 {w w' : World} (h : Below w.heap.size w w') : New0 w w' := new0_of_bel h
/-! ### writing -/
abbrev PE (qt qv p : Nat) (c : C2) (L : List Bool) : Ob.Rel := Tens (Xr.IsCd qv c.2) (Tm.PW qt c.1 p L)
theorem thingPE (qt qv p : Nat) (c : C2) (L : List Bool) : Thing (PE qt qv p c L) := Tens.ob (Xr.objCd _ _) (Tm.thingPW _ _ _ _)
theorem pePutT {w0 w : World} {qt qv p : Nat} {c c' : C2} {L L' : List Bool} {t : Int} (hT : Tab w0) (H : Own (PE qt qv p c L) w0 w) (hok : c.1.Ok) (hL : L.length ≤ 80000000000000) (ht : Tm.In t) (e : (Tm.putC c.1 t, c.2) = c') (e2 : L ++ Tm.putB c.1 t = L') :
    Calls Tryd.prog 32 #[.pointer (some ⟨qt, 0, none⟩), .pointer (some ⟨p, 0, none⟩), .int .i64 t] w fun e w' => e = .returned (.tuple #[]) ∧ Own (PE qt qv p c' L') w0 w' := by
  subst e; subst e2
  exact ownR (Q := fun e => e = .returned (.tuple #[])) (Xr.objCd qv c.2) H fun A hA h => Tm.cdPut_any A qt p c.1 L t w h hok hL ht (hT.t.beside H.bel hA)
theorem pePutV {w0 w : World} {qt qv p : Nat} {c c' : C2} {L L' : List Bool} {v : Nat} (hT : Tab w0) (H : Own (PE qt qv p c L) w0 w) (hok : c.2.Ok) (hf : c.2.begun = false → c.2.v = 0) (hL : L.length ≤ 80000000000000) (hv : v < 18446744073709551616) (e : (c.1, Xr.putC c.2 v) = c') (e2 : L ++ Xr.putB c.2 v = L') :
    Calls Tryd.prog 33 #[.pointer (some ⟨qv, 0, none⟩), .pointer (some ⟨p, 0, none⟩), .int .u64 (v : Int)] w fun e w' => e = .returned (.tuple #[]) ∧ Own (PE qt qv p c' L') w0 w' := by
  subst e; subst e2
  refine (ownR (I := Tm.IsCd qt c.1) (J := Xr.PW qv c.2 p L) (J' := Xr.PW qv (Xr.putC c.2 v) p (L ++ Xr.putB c.2 v)) (Q := fun e => e = .returned (.tuple #[])) (Tm.objCd qt c.1) (H.mono fun _ h => lcomm h) fun A hA h => Xr.cdPut_any A qv p c.2 L v w h hok hf hL hv (hT.v.own H.bel) (Xr.notG hT.v hA)).mono ?_
  rintro e w' ⟨he, h⟩
  exact ⟨he, h.mono fun _ h => lcomm h⟩
/-- The two puts of a point. -/
theorem pePuts {w0 wr : World} {qt qv p : Nat} {l : List Pt} (hT : Tab w0) (hin : ∀ p ∈ l, PtIn p) (h64 : l.length ≤ 64) {j : Nat} (hj : j < l.length) (x : Int) (y : Nat) (hx : l[j].1 = x) (hy : l[j].2 = y) (H : Own (PE qt qv p (stps c0 (l.take j)) (ptsB c0 (l.take j))) w0 wr) :
    Calls Tryd.prog 32 #[.pointer (some ⟨qt, 0, none⟩), .pointer (some ⟨p, 0, none⟩), .int .i64 x] wr fun e w' => e = .returned (.tuple #[]) ∧ ∃ I, Thing I ∧ Own I w0 w' ∧
      ∀ w2, Own I w0 w2 → Calls Tryd.prog 33 #[.pointer (some ⟨qv, 0, none⟩), .pointer (some ⟨p, 0, none⟩), .int .u64 (y : Int)] w2 fun e w3 => e = .returned (.tuple #[]) ∧ Own (PE qt qv p (stps c0 (l.take (j + 1))) (ptsB c0 (l.take (j + 1)))) w0 w3 := by
  subst hx; subst hy
  obtain ⟨e1, e2⟩ := ptB_at hj
  have hb := lenB h64 j
  have hok := ok_at hin j
  have ht := Tm.putB_len (c := (stps c0 (l.take j)).1) l[j].1
  refine (pePutT hT H hok.t (by omega) (hin _ (List.getElem_mem hj)).1 rfl rfl).mono ?_
  rintro e w' ⟨he, h⟩
  exact ⟨he, _, thingPE _ _ _ _ _, h, fun w2 h2 => pePutV hT h2 hok.v hok.fresh (by rw [List.length_append]; omega) (hin _ (List.getElem_mem hj)).2 e2 e1⟩

/-! ### .. with another object beside -/
abbrev PEJ (qt qv p : Nat) (c : C2) (L : List Bool) (J : Ob.Rel) : Ob.Rel := Tens (PE qt qv p c L) J
theorem rcomm {A B C : Ob.Rel} {w : World} {S : Nat → Prop} (h : Tens (Tens A B) C w S) : Tens (Tens A C) B w S := Tens.cossa (Tens.mapR (fun _ k => Tens.swap k) (Tens.assoc h))
theorem pejPutT {J : Ob.Rel} (hJ : Thing J) {w0 w : World} {qt qv p : Nat} {c c' : C2} {L L' : List Bool} {t : Int} (hT : Tab w0) (H : Own (PEJ qt qv p c L J) w0 w) (hok : c.1.Ok) (hL : L.length ≤ 80000000000000) (ht : Tm.In t) (e : (Tm.putC c.1 t, c.2) = c') (e2 : L ++ Tm.putB c.1 t = L') :
    Calls Tryd.prog 32 #[.pointer (some ⟨qt, 0, none⟩), .pointer (some ⟨p, 0, none⟩), .int .i64 t] w fun e w' => e = .returned (.tuple #[]) ∧ Own (PEJ qt qv p c' L' J) w0 w' := by
  subst e; subst e2
  refine (ownR (I := Tens (Xr.IsCd qv c.2) J) (J := Tm.PW qt c.1 p L) (J' := Tm.PW qt (Tm.putC c.1 t) p (L ++ Tm.putB c.1 t)) (Q := fun e => e = .returned (.tuple #[])) (Tens.ob (Xr.objCd _ _) hJ) (H.mono fun _ h => rcomm h) fun A hA h => Tm.cdPut_any A qt p c.1 L t w h hok hL ht (hT.t.beside H.bel hA)).mono fun e w' ⟨he, h⟩ => ⟨he, h.mono fun _ h => rcomm h⟩
theorem pejPutV {J : Ob.Rel} (hJ : Thing J) {w0 w : World} {qt qv p : Nat} {c c' : C2} {L L' : List Bool} {v : Nat} (hT : Tab w0) (H : Own (PEJ qt qv p c L J) w0 w) (hok : c.2.Ok) (hf : c.2.begun = false → c.2.v = 0) (hL : L.length ≤ 80000000000000) (hv : v < 18446744073709551616) (e : (c.1, Xr.putC c.2 v) = c') (e2 : L ++ Xr.putB c.2 v = L') :
    Calls Tryd.prog 33 #[.pointer (some ⟨qv, 0, none⟩), .pointer (some ⟨p, 0, none⟩), .int .u64 (v : Int)] w fun e w' => e = .returned (.tuple #[]) ∧ Own (PEJ qt qv p c' L' J) w0 w' := by
  subst e; subst e2
  refine (ownR (I := Tens (Tm.IsCd qt c.1) J) (J := Xr.PW qv c.2 p L) (J' := Xr.PW qv (Xr.putC c.2 v) p (L ++ Xr.putB c.2 v)) (Q := fun e => e = .returned (.tuple #[])) (Tens.ob (Tm.objCd _ _) hJ) (H.mono fun _ h => rcomm (Tens.mapL (fun _ k => lcomm k) h)) fun A hA h => Xr.cdPut_any A qv p c.2 L v w h hok hf hL hv (hT.v.own H.bel) (Xr.notG hT.v hA)).mono ?_
  rintro e w' ⟨he, h⟩
  exact ⟨he, h.mono fun _ h => Tens.mapL (fun _ k => lcomm k) (rcomm h)⟩
/-- The two puts of a point. -/
theorem pejPuts {J : Ob.Rel} (hJ : Thing J) {w0 wr : World} {qt qv p : Nat} {l : List Pt} (hT : Tab w0) (hin : ∀ p ∈ l, PtIn p) (h64 : l.length ≤ 64) {j : Nat} (hj : j < l.length) (x : Int) (y : Nat) (hx : l[j].1 = x) (hy : l[j].2 = y) (H : Own (PEJ qt qv p (stps c0 (l.take j)) (ptsB c0 (l.take j)) J) w0 wr) :
    Calls Tryd.prog 32 #[.pointer (some ⟨qt, 0, none⟩), .pointer (some ⟨p, 0, none⟩), .int .i64 x] wr fun e w' => e = .returned (.tuple #[]) ∧ Own J w0 w' ∧
      Calls Tryd.prog 33 #[.pointer (some ⟨qv, 0, none⟩), .pointer (some ⟨p, 0, none⟩), .int .u64 (y : Int)] w' fun e w2 => e = .returned (.tuple #[]) ∧ Own (PEJ qt qv p (stps c0 (l.take (j + 1))) (ptsB c0 (l.take (j + 1))) J) w0 w2 := by
  subst hx; subst hy
  obtain ⟨e1, e2⟩ := ptB_at hj
  have hb := lenB h64 j
  have hok := ok_at hin j
  have ht := Tm.putB_len (c := (stps c0 (l.take j)).1) l[j].1
  refine (pejPutT hJ hT H hok.t (by omega) (hin _ (List.getElem_mem hj)).1 rfl rfl).mono ?_
  rintro e w' ⟨he, h⟩
  exact ⟨he, h.dropl, pejPutV hJ hT h hok.v hok.fresh (by rw [List.length_append]; omega) (hin _ (List.getElem_mem hj)).2 e2 e1⟩
/-- A local struct of two cells in a box. -/
def Box2 (g : Nat) (a b : Value) (T : TypeId) : Ob.Rel := fun w S => w.heap[g]? = some (.cells #[a, b] T (0, 0)) ∧ ∀ x, S x ↔ x = g
theorem thingBox2 (g : Nat) (a b : Value) (T : TypeId) : Thing (Box2 g a b T) := ⟨fun w w' S h hk _ => ⟨(hk g ((h.2 g).2 rfl)).trans h.1, h.2⟩, fun w S h x hx => by rw [(h.2 x).1 hx]; exact (Array.getElem?_eq_some_iff.1 h.1).1⟩
theorem box2Own {w0 w : World} (hb : Below w0.heap.size w0 w) (a b : Value) (T : TypeId) : Own (Box2 w.heap.size a b T) w0 (w.alloc (.cells #[a, b] T (0, 0))) :=
  Own.made (S := fun x => x = w.heap.size) hb ⟨cell_new w _, fun _ => Iff.rfl⟩ (fun x hx => by rw [hx]; exact Nat.le_refl _) ((Upon.refl _ w).alloc _)
theorem box2Made {I : Ob.Rel} (hI : Thing I) {w0 w : World} (H : Own I w0 w) (a b : Value) (T : TypeId) : Own (Tens I (Box2 w.heap.size a b T)) w0 (w.alloc (.cells #[a, b] T (0, 0))) :=
  Own.new hI H (T := fun x => x = w.heap.size) ⟨cell_new w _, fun _ => Iff.rfl⟩ (fun x hx => by rw [hx]; exact Nat.le_refl _) ((Upon.refl _ w).alloc _)
theorem box2Cells {g : Nat} {a b : Value} {T : TypeId} {w0 w : World} (H : Own (Box2 g a b T) w0 w) : Boxed g a b w := by
  obtain ⟨⟨S, h, _⟩, _⟩ := H
  exact Boxed.of h.1
theorem box2Set {I : Ob.Rel} (hI : Thing I) {g : Nat} {a b : Value} {T : TypeId} {w0 w : World} (H : Own (Tens I (Box2 g a b T)) w0 w) (x y : Value) : Own (Tens I (Box2 g x y T)) w0 ((w.setCell ⟨g, 0, none⟩ x).setCell ⟨g, 1, none⟩ y) := by
  obtain ⟨A, h, go⟩ := H.right hI
  have hA : A g := (h.2 g).2 rfl
  have hu : Upon A w ((w.setCell ⟨g, 0, none⟩ x).setCell ⟨g, 1, none⟩ y) := Upon.setCell (S := A) (p := ⟨g, 1, none⟩) (Upon.setCell (S := A) (p := ⟨g, 0, none⟩) (Upon.refl _ w) (.inl hA) x) (.inl hA) y
  refine go _ _ ⟨⟨A, ⟨?_, h.2⟩, fun _ h => h, fun _ h => .inl h⟩, hu⟩
  simp [World.setCell, Array.getElem?_modify, h.1]

/-! ### a row of the call's own, as an object -/
def RowO (v : Value) (l : List Pt) : Ob.Rel := fun w S => OwnPts w v l ∧ (∀ x, v.ownBlock = some x → S x) ∧ ∀ x, S x → x < w.heap.size
theorem thingRowO (v : Value) (l : List Pt) : Thing (RowO v l) :=
  ⟨fun w w' S h hk hs => ⟨h.1.kept fun b hb => hk b (h.2.1 b hb), h.2.1, fun x hx => Nat.lt_of_lt_of_le (h.2.2 x hx) hs⟩, fun w S h x hx => h.2.2 x hx⟩
theorem RowO.append {w w' : World} {S : Nat → Prop} {v v' : Value} {l m : List Pt} (h : RowO v l w S) (hown : OwnPts w' v' m) (hg : w.grownBy w' v.ownBlock) (hb : v'.ownBlock = v.ownBlock ∨ v'.ownBlock = some w.heap.size) : ObjStep (RowO v' m) S w w' := by
  refine ⟨⟨fun x => S x ∨ v'.ownBlock = some x, ⟨hown, fun x hx => .inr hx, fun x hx => ?_⟩, fun b hb => .inl hb, fun b hb2 => ?_⟩, Upon.grown (Upon.refl _ w) hg fun k hk => .inl (h.2.1 k hk)⟩
  · rcases hx with hx | hx
    · exact Nat.lt_of_lt_of_le (h.2.2 x hx) hg.size
    · exact hown.lt hx
  · rcases hb2 with hb2 | hb2
    · exact .inl hb2
    · rcases hb with hb | hb
      · exact .inl (h.2.1 b (by rw [← hb]; exact hb2))
      · rw [hb2] at hb
        have : b = w.heap.size := by simpa using hb
        right; omega

/-! ### reading -/
abbrev PG (qt qv p : Nat) (c : C2) (K : List Bool) : Ob.Rel := Tens (Xr.IsCd qv c.2) (Tm.PR qt c.1 p K)
/-- .. with another object beside. -/
abbrev PGJ (qt qv p : Nat) (c : C2) (K : List Bool) (J : Ob.Rel) : Ob.Rel := Tens (PG qt qv p c K) J
theorem thingPG (qt qv p : Nat) (c : C2) (K : List Bool) : Thing (PG qt qv p c K) := Tens.ob (Xr.objCd _ _) (Tm.thingPR _ _ _ _)
theorem pgT_yes {J : Ob.Rel} (hJ : Thing J) {w0 w : World} {qt qv p n : Nat} {c : C2} {K : List Bool} {t : Int} (hT : Tab w0) (H : Own (PGJ qt qv p c K J) w0 w) (hok : c.1.Ok) (hg : Tm.getR c.1 K = some (t, n)) :
    Calls Tryd.prog 47 #[.pointer (some ⟨qt, 0, none⟩), .pointer (some ⟨p, 0, none⟩)] w fun e w' => e = .returned (.tuple #[.int .i64 t, .bool true]) ∧ Own (PGJ qt qv p (Tm.putC c.1 t, c.2) (K.drop n) J) w0 w' := by
  refine (ownR (I := Tens (Xr.IsCd qv c.2) J) (J := Tm.PR qt c.1 p K) (J' := Tm.PR qt (Tm.putC c.1 t) p (K.drop n)) (Q := fun e => e = .returned (.tuple #[.int .i64 t, .bool true])) (Tens.ob (Xr.objCd _ _) hJ) (H.mono fun _ h => rcomm h) fun A hA h => ?_).mono fun e w' ⟨he, h⟩ => ⟨he, h.mono fun _ h => rcomm h⟩
  have := Tm.cdGet_any A qt p c.1 K w h hok (hT.t.beside H.bel hA)
  rw [hg] at this
  exact this
theorem pgT_no {J : Ob.Rel} (hJ : Thing J) {w0 w : World} {qt qv p : Nat} {c : C2} {K : List Bool} (hT : Tab w0) (H : Own (PGJ qt qv p c K J) w0 w) (hok : c.1.Ok) (hg : Tm.getR c.1 K = none) :
    Calls Tryd.prog 47 #[.pointer (some ⟨qt, 0, none⟩), .pointer (some ⟨p, 0, none⟩)] w fun e w' => e = .returned (.tuple #[.int .i64 0, .bool false]) ∧ Own J w0 w' := by
  refine (ownR (I := Tens (Xr.IsCd qv c.2) J) (J := Tm.PR qt c.1 p K) (J' := Tm.PX qt p) (Q := fun e => e = .returned (.tuple #[.int .i64 0, .bool false])) (Tens.ob (Xr.objCd _ _) hJ) (H.mono fun _ h => rcomm h) fun A hA h => ?_).mono fun e w' ⟨he, h⟩ => ⟨he, h.dropr.dropl⟩
  have := Tm.cdGet_any A qt p c.1 K w h hok (hT.t.beside H.bel hA)
  rw [hg] at this
  exact this
theorem pg_v {J : Ob.Rel} {qt qv p : Nat} {c : C2} {K : List Bool} {w : World} {S : Nat → Prop} (h : PGJ qt qv p c K J w S) : Tens (Tens (Tm.IsCd qt c.1) J) (Xr.PR qv c.2 p K) w S := rcomm (Tens.mapL (fun _ k => lcomm k) h)
theorem pg_b {J : Ob.Rel} {qt qv p : Nat} {c : C2} {K : List Bool} {w : World} {S : Nat → Prop} (h : Tens (Tens (Tm.IsCd qt c.1) J) (Xr.PR qv c.2 p K) w S) : PGJ qt qv p c K J w S := Tens.mapL (fun _ k => lcomm k) (rcomm h)
theorem pgV_yes {J : Ob.Rel} (hJ : Thing J) {w0 w : World} {qt qv p n : Nat} {c : C2} {K : List Bool} {x : Nat} (hT : Tab w0) (H : Own (PGJ qt qv p c K J) w0 w) (hok : c.2.Ok) (hf : c.2.begun = false → c.2.v = 0) (hg : Xr.getR c.2 K = some (x, n)) :
    Calls Tryd.prog 48 #[.pointer (some ⟨qv, 0, none⟩), .pointer (some ⟨p, 0, none⟩)] w fun e w' => e = .returned (.tuple #[.int .u64 (x : Int), .bool true]) ∧ Own (PGJ qt qv p (c.1, Xr.putC c.2 x) (K.drop n) J) w0 w' := by
  refine (ownR (I := Tens (Tm.IsCd qt c.1) J) (J := Xr.PR qv c.2 p K) (J' := Xr.PR qv (Xr.putC c.2 x) p (K.drop n)) (Q := fun e => e = .returned (.tuple #[.int .u64 (x : Int), .bool true])) (Tens.ob (Tm.objCd _ _) hJ) (H.mono fun _ h => pg_v h) fun A hA h => ?_).mono fun e w' ⟨he, h⟩ => ⟨he, h.mono fun _ h => pg_b (c := (c.1, Xr.putC c.2 x)) h⟩
  have := Xr.cdGet_any A qv p c.2 K w h hok hf (hT.v.own H.bel) (Xr.notG hT.v hA)
  rw [hg] at this
  exact this
theorem pgV_no {J : Ob.Rel} (hJ : Thing J) {w0 w : World} {qt qv p : Nat} {c : C2} {K : List Bool} (hT : Tab w0) (H : Own (PGJ qt qv p c K J) w0 w) (hok : c.2.Ok) (hf : c.2.begun = false → c.2.v = 0) (hg : Xr.getR c.2 K = none) :
    Calls Tryd.prog 48 #[.pointer (some ⟨qv, 0, none⟩), .pointer (some ⟨p, 0, none⟩)] w fun e w' => e = .returned (.tuple #[.int .u64 0, .bool false]) ∧ Own J w0 w' := by
  refine (ownR (I := Tens (Tm.IsCd qt c.1) J) (J := Xr.PR qv c.2 p K) (J' := Xr.PX qv c.2 p) (Q := fun e => e = .returned (.tuple #[.int .u64 0, .bool false])) (Tens.ob (Tm.objCd _ _) hJ) (H.mono fun _ h => pg_v h) fun A hA h => ?_).mono fun e w' ⟨he, h⟩ => ⟨he, h.dropr.dropl⟩
  have := Xr.cdGet_any A qv p c.2 K w h hok hf (hT.v.own H.bel) (Xr.notG hT.v hA)
  rw [hg] at this
  exact this
/-- How much is left. -/
theorem pgLeft {J : Ob.Rel} {w0 w : World} {qt qv p : Nat} {c : C2} {K : List Bool} (H : Own (PGJ qt qv p c K J) w0 w) :
    Calls Tryd.prog 41 #[.pointer (some ⟨p, 0, none⟩)] w fun e w' => e = .returned (.int .i64 (K.length : Int)) ∧ ∃ n, w' = w.drewN n := by
  obtain ⟨A, h⟩ := H.seeL
  obtain ⟨_, B, _, h2, _⟩ := h
  obtain ⟨_, D, _, h3, _⟩ := h2
  exact rkLeft D p K w h3
theorem rowSee {v : Value} {l : List Pt} {w0 w : World} (H : Own (RowO v l) w0 w) : OwnPts w v l := by
  obtain ⟨⟨S, h, _⟩, _⟩ := H
  exact h.1
/-! ### they are made -/
theorem ends_in {s : ByteArray} {m : Nat} (h : m ≤ 8 * s.size) : ends s (m : Int) = m := by unfold ends; omega
theorem rkMade {s : ByteArray} {m : Nat} (hm : m ≤ 8 * s.size) {w0 w w' : World} {e : Ending} (hb : Below w0.heap.size w0 w) (h : RMade s (ends s (m : Int)) w e w') : ∃ p, e = .returned (.pointer (some ⟨p, 0, none⟩)) ∧ Own (fun w S => IsRK w S p (bitsAt s.data.toList 0 m)) w0 w' := by
  rw [ends_in hm] at h
  obtain ⟨p, he, H⟩ := RMade.own hb h
  exact ⟨p, he, H.mono fun S h => ⟨s, 0, m, h, by rw [Nat.sub_zero]⟩⟩
theorem rowStart {I : Ob.Rel} {w0 w : World} (H : Own I w0 w) : Own (Tens I (RowO (.slice none 0 0) [])) w0 w := by
  refine H.mono fun S h => ⟨S, fun _ => False, h, ⟨OwnPts.nil w, fun x hx => (by cases hx), fun x hx => hx.elim⟩, fun _ _ h => h, fun b => ?_⟩
  simp
end Ck
end Go.Proofs.YtadlkfdjdjaakaaDoor
