/- The program's coder of times (layer 8): Put, Get. -/
import Derived.Test.YtjoaccfjjihleaaDoorTmCd0
import Derived.BigQuiet
import Derived.StillTailTactics
namespace Go.Proofs.YtjoaccfjjihleaaDoor
open Go.RowKit Go.Sort
namespace Tm
open Bit Dsk Ob
set_option linter.unusedVariables false

set_option maxRecDepth 100000 in
set_option maxHeartbeats 3200000 in
theorem cdPut_next (S : Nat → Prop) (q p : Nat) (c : Cd) (L : List Bool) (t d x : Int) (w : World) (h : PW q c p L w S) (hb : c.begun = true) (hL : L.length ≤ 80000000000000) (hT : TabS S w) (hd : wr (t - c.t) = d) (hx : wr (d - c.d) = x) :
    Calls Tryd.prog 10 #[.pointer (some ⟨q, 0, none⟩), .pointer (some ⟨p, 0, none⟩), .int .i64 t] w fun e w' => e = .returned (.tuple #[]) ∧ ObjStep (PW q (putC c t) p (L ++ chB x)) S w w' := by
  have H := ObjStep.refl (I := PW q c p L) h
  obtain ⟨k0, k1, k2, kf⟩ := pjCells H
  have e1 : IntKind.i64.wrap (t - c.t) = d := (i64_wr _).trans hd
  have e2 : IntKind.i64.wrap (d - c.d) = x := (i64_wr _).trans hx
  have hin : In x := by rw [← hx]; exact wr_in _
  have HP := Lib.hid (callR (Q := fun e => e = .returned (.tuple #[])) (objCd q c) (notgR (stepDrew (thingPW _ _ _ _) H) hT.2 hT.1.lt) fun A h => putChange_any A p x L w.drew h.1 hin hL ⟨hT.1.upon (Upon.refl (fun _ => False) w).drew fun f => f, h.2⟩)
  rw [hb] at k0
  clear H h kf hb hL hT hd hx hin
  generalize chB x = M at *
  go_enter Tryd.func10, Tryd.ntmps10
  go_wp2_with fail
  go_still_tail 12, (by kernel_rfl)
  change wpList _ _ _ _ _ w.drew
  generalize w.drew = wd at *
  clear k0 k1 k2 e1 e2
  go_wp2_with fail
  refine HP.out.mono ?_
  rintro e w2 ⟨rfl, h2⟩
  have HM := Lib.hid (moveTo_any (objW _ _) S q c t w w2 h2)
  clear HP h2
  go_wp2_with fail
  refine HM.out.mono ?_
  rintro e w3 ⟨rfl, h3⟩
  replace h3 := Lib.hid h3
  clear HM
  go_wp2_with fail
  go_end0
  exact ⟨rfl, h3.out⟩
theorem cdPut_any (S : Nat → Prop) (q p : Nat) (c : Cd) (L : List Bool) (t : Int) (w : World) (h : PW q c p L w S) (hok : c.Ok) (hL : L.length ≤ 80000000000000) (ht : In t) (hT : TabS S w) :
    Calls Tryd.prog 10 #[.pointer (some ⟨q, 0, none⟩), .pointer (some ⟨p, 0, none⟩), .int .i64 t] w fun e w' => e = .returned (.tuple #[]) ∧ ObjStep (PW q (putC c t) p (L ++ putB c t)) S w w' := by
  unfold putB
  by_cases hb : c.begun = false
  · rw [if_pos hb]
    exact cdPut_first S q p c L t w h hb hL
  · rw [if_neg hb]
    exact cdPut_next S q p c L t _ _ w h (by simpa using hb) hL hT rfl rfl

/-! ### Get -/
abbrev PR (q : Nat) (c : Cd) (p : Nat) (K : List Bool) : Ob.Rel := Tens (IsCd q c) (fun w S => IsRK w S p K)
theorem thingPR (q : Nat) (c : Cd) (p : Nat) (K : List Bool) : Thing (PR q c p K) := Tens.ob (objCd q c) (objRK p K)
/-- The reader has whatever left. -/
abbrev PX (q : Nat) (p : Nat) : Ob.Rel := Tens (fun w S => ∃ c, IsCd q c w S) (fun w S => ∃ K', IsRK w S p K')
theorem thingX (q : Nat) (p : Nat) : Thing (PX q p) := Tens.ob ⟨fun w w' S ⟨c, h⟩ hk hs => ⟨c, (objCd q c).kept w w' S h hk hs⟩, fun w S ⟨c, h⟩ => (objCd q c).lt w S h⟩ ⟨fun w w' S ⟨K, h⟩ hk hs => ⟨K, (objRK p K).kept w w' S h hk hs⟩, fun w S ⟨K, h⟩ => (objRK p K).lt w S h⟩
theorem px_of {q p : Nat} {c : Cd} {K' : List Bool} {S : Nat → Prop} {w w' : World} (h : ObjStep (PR q c p K') S w w') : ObjStep (PX q p) S w w' :=
  h.mono fun T h => Tens.mapL (fun A h => ⟨c, h⟩) (Tens.mapR (fun A h => ⟨K', h⟩) h)
/-- What Get leaves. -/
def Gp (q : Nat) (c : Cd) (p : Nat) (K : List Bool) (S : Nat → Prop) (w : World) (o : Option (Int × Nat)) (e : Ending) (w' : World) : Prop :=
  match o with
  | some (v, n) => e = .returned (.tuple #[.int .i64 v, .bool true]) ∧ ObjStep (PR q (putC c v) p (K.drop n)) S w w'
  | none => e = .returned (.tuple #[.int .i64 0, .bool false]) ∧ ObjStep (PX q p) S w w'
/-- What getTime leaves. -/
def Gt0 (q : Nat) (c : Cd) (p : Nat) (K : List Bool) (S : Nat → Prop) (w : World) (o : Option (Int × Nat)) (e : Ending) (w' : World) : Prop :=
  match o with
  | some (v, n) => e = .returned (.tuple #[.int .i64 v, .bool true]) ∧ ObjStep (PR q c p (K.drop n)) S w w'
  | none => (∃ x : Int, e = .returned (.tuple #[.int .i64 x, .bool false])) ∧ ∃ K', ObjStep (PR q c p K') S w w' ∧ (K = [] → K' = [])
theorem Gt0.no {q p : Nat} {c : Cd} {K K' : List Bool} {S : Nat → Prop} {w w' : World} {o : Option (Int × Nat)} {x : Int} (ho : o = none) (h : ObjStep (PR q c p K') S w w') (hK : K = [] → K' = []) : Gt0 q c p K S w o (.returned (.tuple #[.int .i64 x, .bool false])) w' := by
  subst ho; exact ⟨⟨x, rfl⟩, K', h, hK⟩
theorem Gt0.yes {q p n : Nat} {c : Cd} {K : List Bool} {S : Nat → Prop} {w w' : World} {o : Option (Int × Nat)} {x v : Int} (ho : o = some (v, n)) (hx : x = v) (h : ObjStep (PR q c p (K.drop n)) S w w') : Gt0 q c p K S w o (.returned (.tuple #[.int .i64 x, .bool true])) w' := by
  subst ho; subst hx; exact ⟨rfl, h⟩
set_option maxRecDepth 100000 in
set_option maxHeartbeats 3200000 in
theorem getTime_first (S : Nat → Prop) (q p : Nat) (c : Cd) (K : List Bool) (w : World) (h : PR q c p K w S) (hb : c.begun = false) :
    Calls Tryd.prog 26 #[.pointer (some ⟨q, 0, none⟩), .pointer (some ⟨p, 0, none⟩)] w (Gt0 q c p K S w (getR c K)) := by
  have H := ObjStep.refl (I := PR q c p K) h
  obtain ⟨k0, k1, k2, kf⟩ := pjCells H
  have hg := getR_first hb K
  rw [hb] at k0
  by_cases hle : 64 ≤ K.length
  · rw [if_pos hle] at hg
    have hi := i64_wr (numOf (K.take 64) : Int)
    have HP := Lib.hid (callR (Q := fun e => e = .returned (.tuple #[.int .u64 (numOf (K.take 64) : Int), .bool true])) (objCd q c) H fun A h => rkGet_ok A p K 64 w h (by omega) hle)
    have hg := Lib.hid hg
    clear H h kf hb hle k1 k2
    generalize numOf (K.take 64) = X at *
    generalize wr (X : Int) = Y at *
    generalize getR c K = o at *
    go_enter Tryd.func26, Tryd.ntmps26
    go_wp2_with fail
    refine HP.out.mono ?_
    rintro e w2 ⟨rfl, h2⟩
    replace h2 := Lib.hid h2
    clear HP k0
    go_wp2_with fail
    go_ret2
    exact Gt0.yes hg.out rfl h2.out
  · rw [if_neg hle] at hg
    have HP := Lib.hid (callR (Q := fun e => e = .returned (.tuple #[.int .u64 0, .bool false])) (objCd q c) H fun A h => rkGet_no A p K 64 w h (by omega))
    have hg := Lib.hid hg
    clear H h kf hb hle k1 k2
    generalize getR c K = o at *
    go_enter Tryd.func26, Tryd.ntmps26
    go_wp2_with fail
    refine HP.out.mono ?_
    rintro e w2 ⟨rfl, h2⟩
    replace h2 := Lib.hid h2
    clear HP k0
    go_wp2_with fail
    go_ret2
    exact Gt0.no hg.out h2.out id
theorem sum_wr (a b : Int) : IntKind.i64.wrap (a + b) = wr (a + b) := i64_wr _
/-- getChange, beside the coder. -/
def Gj (q : Nat) (c : Cd) (p n : Nat) (S : Nat → Prop) (w : World) (o : Option (Int × List Bool)) (e : Ending) (w' : World) : Prop :=
  match o with
  | some (x, R) => e = .returned (.tuple #[.int .i64 x, .bool true]) ∧ ObjStep (PR q c p R) S w w'
  | none => e = .returned (.tuple #[.int .i64 0, .bool false]) ∧ ∃ K', ObjStep (PR q c p K') S w w' ∧ K'.length ≤ n
theorem prChange {S : Nat → Prop} {q p : Nat} {c : Cd} {K : List Bool} {w : World} (h : PR q c p K w S) (hT : TabS S w) :
    Calls Tryd.prog 33 #[.pointer (some ⟨p, 0, none⟩)] w (Gj q c p K.length S w (gch K)) := by
  have H := ObjStep.refl (I := PR q c p K) h
  obtain ⟨T, h1, go⟩ := (notgR H hT.2 hT.1.lt).get
  obtain ⟨A, ⟨h2, hn⟩, go2⟩ := h1.right (objCd q c)
  refine (getChange_any A p K w h2 ⟨hT.1, hn⟩).mono fun e w' hh => ?_
  cases hg : gch K with
  | none =>
    rw [hg] at hh
    obtain ⟨he, K', hs, hl⟩ := hh
    exact ⟨he, K', go _ _ (go2 _ _ hs), hl⟩
  | some y =>
    obtain ⟨x, R⟩ := y
    rw [hg] at hh
    exact ⟨hh.1, go _ _ (go2 _ _ hh.2)⟩
set_option maxRecDepth 100000 in
set_option maxHeartbeats 3200000 in
theorem getTime_next (S : Nat → Prop) (q p : Nat) (c : Cd) (K : List Bool) (w : World) (h : PR q c p K w S) (hok : c.Ok) (hb : c.begun = true) (hT : TabS S w) :
    Calls Tryd.prog 26 #[.pointer (some ⟨q, 0, none⟩), .pointer (some ⟨p, 0, none⟩)] w (Gt0 q c p K S w (getR c K)) := by
  have H := ObjStep.refl (I := PR q c p K) h
  obtain ⟨k0, k1, k2, kf⟩ := pjCells H
  rw [hb] at k0
  have HP := prChange h hT
  have hs1 := i64_wr (c.t + c.d)
  rcases getR_gch hok hb K with ⟨h1, h2⟩ | ⟨x, n, h1, h2⟩
  · rw [h1] at HP
    rw [h2]
    replace HP := Lib.hid HP
    have hx := i64_wr (wr (c.t + c.d) + 0)
    clear H h kf hb hT hok h1 h2 k1 k2
    generalize wr (c.t + c.d) = a at *
    generalize wr (a + 0) = b at *
    go_enter Tryd.func26, Tryd.ntmps26
    go_wp2_with fail
    refine HP.out.mono ?_
    rintro e w2 ⟨rfl, K', h2, hl⟩
    obtain ⟨k0, k1, k2, kf⟩ := pjCells h2
    have hend := Lib.hid (fun n => h2.upon0 (thingPR _ _ _ _) (upon_drewN _ w2 n))
    replace hl := Lib.hid hl
    clear HP h2 kf
    go_wp2_with fail
    go_quiet (fail)
    go_wp2_with fail
    go_ret2
    exact Gt0.no rfl (hend.out _) (fun e => by have := hl.out; rw [e] at this; exact List.length_eq_zero_iff.1 (Nat.le_zero.1 this))
  · rw [h1] at HP
    rw [h2]
    replace HP := Lib.hid HP
    have hx : IntKind.i64.wrap (wr (c.t + c.d) + x) = tim c x := i64_wr _
    clear H h kf hb hT hok h1 h2 k1 k2
    generalize wr (c.t + c.d) = a at *
    generalize tim c x = b at *
    go_enter Tryd.func26, Tryd.ntmps26
    go_wp2_with fail
    refine HP.out.mono ?_
    rintro e w2 ⟨rfl, h2⟩
    obtain ⟨k0, k1, k2, kf⟩ := pjCells h2
    have hend := Lib.hid (fun n => h2.upon0 (thingPR _ _ _ _) (upon_drewN _ w2 n))
    clear HP h2 kf
    go_wp2_with fail
    go_quiet (fail)
    go_wp2_with fail
    go_ret2
    exact Gt0.yes rfl rfl (hend.out _)
theorem getTime_any (S : Nat → Prop) (q p : Nat) (c : Cd) (K : List Bool) (w : World) (h : PR q c p K w S) (hok : c.Ok) (hT : TabS S w) :
    Calls Tryd.prog 26 #[.pointer (some ⟨q, 0, none⟩), .pointer (some ⟨p, 0, none⟩)] w (Gt0 q c p K S w (getR c K)) := by
  by_cases hb : c.begun = false
  · exact getTime_first S q p c K w h hb
  · exact getTime_next S q p c K w h hok (by simpa using hb) hT
/-- What Get leaves, with what is left of nothing. -/
def Gp1 (q : Nat) (c : Cd) (p : Nat) (K : List Bool) (S : Nat → Prop) (w : World) (o : Option (Int × Nat)) (e : Ending) (w' : World) : Prop :=
  match o with
  | some (v, n) => e = .returned (.tuple #[.int .i64 v, .bool true]) ∧ ObjStep (PR q (putC c v) p (K.drop n)) S w w'
  | none => e = .returned (.tuple #[.int .i64 0, .bool false]) ∧ ∃ K', ObjStep (PR q c p K') S w w' ∧ (K = [] → K' = [])
set_option maxRecDepth 100000 in
set_option maxHeartbeats 3200000 in
theorem cdGet1 (S : Nat → Prop) (q p : Nat) (c : Cd) (K : List Bool) (w : World) (h : PR q c p K w S) (hok : c.Ok) (hT : TabS S w) :
    Calls Tryd.prog 17 #[.pointer (some ⟨q, 0, none⟩), .pointer (some ⟨p, 0, none⟩)] w (Gp1 q c p K S w (getR c K)) := by
  have HP := getTime_any S q p c K w h hok hT
  clear h hT
  cases hg : getR c K with
  | none =>
    rw [hg] at HP
    replace HP := Lib.hid HP
    clear hg hok
    go_enter Tryd.func17, Tryd.ntmps17
    go_wp2_with fail
    refine HP.out.mono ?_
    rintro e w2 ⟨⟨x, rfl⟩, K', h2, hl⟩
    replace h2 := Lib.hid h2
    replace hl := Lib.hid hl
    clear HP
    go_wp2_with fail
    go_ret2
    exact ⟨rfl, K', h2.out, hl.out⟩
  | some y =>
    obtain ⟨v, n⟩ := y
    rw [hg] at HP
    replace HP := Lib.hid HP
    clear hg hok
    go_enter Tryd.func17, Tryd.ntmps17
    go_wp2_with fail
    refine HP.out.mono ?_
    rintro e w2 ⟨rfl, h2⟩
    have HM := Lib.hid (moveTo_any (objRK _ _) S q c v w w2 h2)
    clear HP h2
    go_wp2_with fail
    refine HM.out.mono ?_
    rintro e w3 ⟨rfl, h3⟩
    replace h3 := Lib.hid h3
    clear HM
    go_wp2_with fail
    go_ret2
    exact ⟨rfl, h3.out⟩
theorem cdGet_any (S : Nat → Prop) (q p : Nat) (c : Cd) (K : List Bool) (w : World) (h : PR q c p K w S) (hok : c.Ok) (hT : TabS S w) :
    Calls Tryd.prog 17 #[.pointer (some ⟨q, 0, none⟩), .pointer (some ⟨p, 0, none⟩)] w (Gp q c p K S w (getR c K)) := by
  refine (cdGet1 S q p c K w h hok hT).mono fun e w' hh => ?_
  cases hg : getR c K with
  | none =>
    rw [hg] at hh
    obtain ⟨he, K', hs, -⟩ := hh
    exact ⟨he, px_of hs⟩
  | some y =>
    obtain ⟨v, n⟩ := y
    rw [hg] at hh
    exact hh
theorem cdGet_nil (S : Nat → Prop) (q p : Nat) (c : Cd) (w : World) (h : PR q c p [] w S) (hok : c.Ok) (hT : TabS S w) :
    Calls Tryd.prog 17 #[.pointer (some ⟨q, 0, none⟩), .pointer (some ⟨p, 0, none⟩)] w fun e w' => e = .returned (.tuple #[.int .i64 0, .bool false]) ∧ ObjStep (PR q c p []) S w w' := by
  refine (cdGet1 S q p c [] w h hok hT).mono fun e w' hh => ?_
  rw [get_nil] at hh
  obtain ⟨he, K', hs, hl⟩ := hh
  obtain rfl := hl rfl
  exact ⟨he, hs⟩
end Tm
end Go.Proofs.YtjoaccfjjihleaaDoor
