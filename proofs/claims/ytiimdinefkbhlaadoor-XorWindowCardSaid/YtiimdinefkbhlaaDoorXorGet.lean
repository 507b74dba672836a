/- The program's coder of patterns (layer 7): Get. -/
import Derived.Test.YtiimdinefkbhlaaDoorXorCd
import Derived.Test.YtiimdinefkbhlaaDoorXorGetP
namespace Go.Proofs.YtiimdinefkbhlaaDoor
open Go.RowKit Go.Sort
namespace Xr
open Bit Dsk Ob
set_option linter.unusedVariables false

/-! ### coder and reader -/
abbrev PR (q : Nat) (c : Cd) (p : Nat) (K : List Bool) : Ob.Rel := Tens (IsCd q c) (fun w S => IsRK w S p K)
theorem thingPR (q : Nat) (c : Cd) (p : Nat) (K : List Bool) : Thing (PR q c p K) := Tens.ob (objCd q c) (objRK p K)
theorem prGet {S : Nat → Prop} {w0 w : World} {q p : Nat} {c : Cd} {K K' : List Bool} {x : Nat} (H : ObjStep (PR q c p K) S w0 w) (m : Nat) (hm : m ≤ 64) (hle : m ≤ K.length) (hx : numOf (K.take m) = x) (e : K.drop m = K') :
    Calls Tryd.prog 32 #[.pointer (some ⟨p, 0, none⟩), .int .i64 (m : Int)] w fun e w' => e = .returned (.tuple #[.int .u64 (x : Int), .bool true]) ∧ ObjStep (PR q c p K') S w0 w' := by
  subst e; subst hx
  exact callR (Q := fun e => e = .returned (.tuple #[.int .u64 (numOf (K.take m) : Int), .bool true])) (objCd q c) H fun A h => rkGet_ok A p K m w h hm hle
theorem prNo {S : Nat → Prop} {w0 w : World} {q p : Nat} {c : Cd} {K : List Bool} (H : ObjStep (PR q c p K) S w0 w) (m : Nat) (hle : K.length < m) :
    Calls Tryd.prog 32 #[.pointer (some ⟨p, 0, none⟩), .int .i64 (m : Int)] w fun e w' => e = .returned (.tuple #[.int .u64 0, .bool false]) ∧ ObjStep (PR q c p K) S w0 w' :=
  callR (Q := fun e => e = .returned (.tuple #[.int .u64 0, .bool false])) (objCd q c) H fun A h => rkGet_no A p K m w h (by omega)
theorem prBetween {S : Nat → Prop} {w0 w : World} {q p : Nat} {c : Cd} {K K' : List Bool} (H : ObjStep (PR q c p K) S w0 w) (l t n x y : Nat) (hlt : l + t ≤ 64) (hn : n = 64 - l - t) (hle : n ≤ K.length) (hx : numOf (K.take n) = x) (hy : x * 2 ^ t % 2 ^ 64 = y) {b : Bool} (hb : decide (x ≠ 0) = b) (e : K.drop n = K') :
    Calls Tryd.prog 33 #[win l t, .pointer (some ⟨p, 0, none⟩)] w fun e w' => e = .returned (.tuple #[.int .u64 (y : Int), .bool b]) ∧ ObjStep (PR q c p K') S w0 w' := by
  subst e; subst hx; subst hb; subst hy
  exact callR (Q := fun e => e = .returned (.tuple #[.int .u64 ((numOf (K.take n) * 2 ^ t % 2 ^ 64 : Nat) : Int), .bool (decide (numOf (K.take n) ≠ 0))])) (objCd q c) H fun A h => getBetween_ok A p l t n K w h hlt hn hle
theorem prBetweenNo {S : Nat → Prop} {w0 w : World} {q p : Nat} {c : Cd} {K : List Bool} (H : ObjStep (PR q c p K) S w0 w) (l t n : Nat) (hlt : l + t ≤ 64) (hn : n = 64 - l - t) (hle : ¬ n ≤ K.length) :
    Calls Tryd.prog 33 #[win l t, .pointer (some ⟨p, 0, none⟩)] w fun e w' => e = .returned (.tuple #[.int .u64 0, .bool false]) ∧ ObjStep (PR q c p K) S w0 w' :=
  callR (Q := fun e => e = .returned (.tuple #[.int .u64 0, .bool false])) (objCd q c) H fun A h => getBetween_no A p l t n K w h hlt hn hle
theorem prCells {S : Nat → Prop} {w0 w : World} {q p : Nat} {c : Cd} {K : List Bool} (H : ObjStep (PR q c p K) S w0 w) :
    w.cell? ⟨q, 0, none⟩ = some (.int .i64 (wl c : Int)) ∧ w.cell? ⟨q, 1, none⟩ = some (.int .i64 (wt c : Int)) ∧ w.cell? ⟨q, 2, none⟩ = some (.bool c.begun) ∧ w.cell? ⟨q, 3, none⟩ = some (.int .u64 (c.v : Int)) ∧ ∀ o, w.frozen? ⟨q, o, none⟩ = false := by
  obtain ⟨A, h⟩ := seeL H
  exact cd4 h.1
theorem prSet {S : Nat → Prop} {w0 w : World} {q p o : Nat} {c c' : Cd} {K : List Bool} {v : Value} (H : ObjStep (PR q c p K) S w0 w) (he : (pCells c).setIfInBounds o v = pCells c') : ObjStep (PR q c' p K) S w0 (w.setCell ⟨q, o, none⟩ v) :=
  stepL (objRK p K) H fun A h => cdSet h he
theorem prSet2 {S : Nat → Prop} {w0 w : World} {q p : Nat} {c : Cd} {K : List Bool} (H : ObjStep (PR q c p K) S w0 w) (l t : Nat) : ObjStep (PR q { c with win := true, lead := l, tail := t } p K) S w0 ((w.setCell ⟨q, 0, none⟩ (.int .i64 (l : Int))).setCell ⟨q, 1, none⟩ (.int .i64 (t : Int))) :=
  stepL (objRK p K) H fun A h => cdSet2 h l t
/-- A window that is no window. -/
theorem prWindowNo {S : Nat → Prop} {w0 w : World} {q p : Nat} {c : Cd} {K : List Bool} (H : ObjStep (PR q c p K) S w0 w) (h : ¬ (11 ≤ K.length ∧ numOf (K.take 5) + numOf ((K.drop 5).take 6) + 1 ≤ 64)) :
    Calls Tryd.prog 40 #[.pointer (some ⟨p, 0, none⟩)] w fun e w' => e = .returned (.tuple #[win 0 0, .bool false]) ∧ ObjStep (Tens (IsCd q c) (fun w S => ∃ K', IsRK w S p K')) S w0 w' := by
  refine callR (Q := fun e => e = .returned (.tuple #[win 0 0, .bool false])) (objCd q c) H fun A hr => ?_
  have lift : ∀ e w', (e = Ending.returned (.tuple #[win 0 0, .bool false]) ∧ ∃ K', ObjStep (fun w S => IsRK w S p K') A w w') → e = Ending.returned (.tuple #[win 0 0, .bool false]) ∧ ObjStep (fun w S => ∃ K', IsRK w S p K') A w w' := fun e w' ⟨he, K', hs⟩ => ⟨he, hs.mono fun _ hh => ⟨K', hh⟩⟩
  by_cases h5 : K.length < 5
  · exact (getWindow_no5 A p K w hr h5).mono lift
  · by_cases h11 : K.length < 11
    · exact (getWindow_no11 A p K w hr (by omega) h11).mono lift
    · exact (getWindow_not A p K w hr (by omega) _ _ rfl rfl (by omega)).mono lift
theorem prWindow {S : Nat → Prop} {w0 w : World} {q p : Nat} {c : Cd} {K K' : List Bool} (H : ObjStep (PR q c p K) S w0 w) (h11 : 11 ≤ K.length) (P Q : Nat) (hP : numOf (K.take 5) = P) (hQ : numOf ((K.drop 5).take 6) = Q) (hs : P + Q + 1 ≤ 64) (e : K.drop 11 = K') :
    Calls Tryd.prog 40 #[.pointer (some ⟨p, 0, none⟩)] w fun e w' => e = .returned (.tuple #[win P (63 - P - Q), .bool true]) ∧ ObjStep (PR q c p K') S w0 w' := by
  subst e
  exact callR (Q := fun e => e = .returned (.tuple #[win P (63 - P - Q), .bool true])) (objCd q c) H fun A hr => getWindow_ok A p K w hr h11 P Q hP hQ hs
/-- The reader has whatever left. -/
abbrev PX (q : Nat) (c : Cd) (p : Nat) : Ob.Rel := Tens (IsCd q c) (fun w S => ∃ K', IsRK w S p K')
theorem toX {S : Nat → Prop} {w0 w : World} {q p : Nat} {c : Cd} {K : List Bool} (H : ObjStep (PR q c p K) S w0 w) : ObjStep (PX q c p) S w0 w := H.mono fun _ h => Tens.mapR (fun _ k => ⟨K, k⟩) h
theorem thingX (q : Nat) (c : Cd) (p : Nat) : Thing (PX q c p) := Tens.ob (objCd q c) ⟨fun w w' S ⟨K, h⟩ hk hs => ⟨K, (objRK p K).kept w w' S h hk hs⟩, fun w S ⟨K, h⟩ => (objRK p K).lt w S h⟩

theorem Tab.lt {w : World} (h : Tab w) : 0 < w.heap.size := World.block_lt_of_cell? w _ (h 0 (by decide))
/-! ### getOutside -/
def No (q : Nat) (c : Cd) (p : Nat) (S : Nat → Prop) (w : World) (e : Ending) (w' : World) : Prop := e = .returned (.tuple #[.int .u64 0, .bool false]) ∧ ObjStep (PX q c p) S w w'
set_option maxRecDepth 100000 in
set_option maxHeartbeats 3200000 in
theorem out_none (S : Nat → Prop) (q p : Nat) (c : Cd) (K : List Bool) (w : World) (h : PR q c p K w S) (hno : ¬ (11 ≤ K.length ∧ numOf (K.take 5) + numOf ((K.drop 5).take 6) + 1 ≤ 64)) :
    Calls Tryd.prog 34 #[.pointer (some ⟨q, 0, none⟩), .pointer (some ⟨p, 0, none⟩)] w (No q c p S w) := by
  have H := ObjStep.refl (I := PR q c p K) h
  have HG := Lib.hid (prWindowNo H hno)
  clear H h hno
  go_enter Tryd.func34, Tryd.ntmps34
  go_wp2_with fail
  refine HG.out.mono ?_
  rintro e w2 ⟨rfl, h2⟩
  have h3 := Lib.hid (h2.upon0 (thingX q c p) ((Upon.refl _ w2).alloc (.cells #[.int .i64 0, .int .i64 0] 52 (0, 0))))
  clear HG h2
  go_wp2_with fail
  go_ret2
  exact ⟨rfl, h3.out⟩
set_option maxRecDepth 100000 in
set_option maxHeartbeats 3200000 in
/-- Too few bits, or all of them 0. -/
theorem out_zero (S : Nat → Prop) (q p : Nat) (c : Cd) (K : List Bool) (w : World) (h : PR q c p K w S) (h11 : 11 ≤ K.length) (P Q : Nat) (hP : numOf (K.take 5) = P) (hQ : numOf ((K.drop 5).take 6) = Q) (hs : P + Q + 1 ≤ 64)
    (hno : ¬ Q + 1 ≤ (K.drop 11).length ∨ numOf ((K.drop 11).take (Q + 1)) = 0) :
    Calls Tryd.prog 34 #[.pointer (some ⟨q, 0, none⟩), .pointer (some ⟨p, 0, none⟩)] w (No q c p S w) := by
  have H := ObjStep.refl (I := PR q c p K) h
  have HG := Lib.hid (prWindow H h11 P Q hP hQ hs rfl)
  have hno2 : ∀ w1, ObjStep (PR q c p (K.drop 11)) S w w1 → Calls Tryd.prog 33 #[win P (63 - P - Q), .pointer (some ⟨p, 0, none⟩)] w1 fun e w' => e = .returned (.tuple #[.int .u64 0, .bool false]) ∧ ObjStep (PX q c p) S w w' := by
    intro w1 h1
    by_cases hle : Q + 1 ≤ (K.drop 11).length
    · exact (prBetween h1 P (63 - P - Q) (Q + 1) 0 0 (by omega) (by omega) hle (hno.resolve_left fun k => k hle) (by simp) (b := false) (by simp) rfl).mono fun e w' ⟨he, hs⟩ => ⟨he, toX hs⟩
    · exact (prBetweenNo h1 P (63 - P - Q) (Q + 1) (by omega) (by omega) hle).mono fun e w' ⟨he, hs⟩ => ⟨he, toX hs⟩
  replace hno2 := Lib.hid hno2
  obtain ⟨t, ht⟩ : ∃ t, t = 63 - P - Q := ⟨_, rfl⟩
  rw [← ht] at HG hno2
  clear H h hno hP hQ ht hs
  go_enter Tryd.func34, Tryd.ntmps34
  go_wp2_with fail
  refine HG.out.mono ?_
  rintro e w2 ⟨rfl, h2⟩
  have h3 := h2.upon0 (thingPR _ _ _ _) ((Upon.refl _ w2).alloc (.cells #[.int .i64 (P : Int), .int .i64 (t : Int)] 52 (0, 0)))
  have HB := Lib.hid (hno2.out _ h3)
  clear HG h2 hno2 h3
  go_wp2_with fail
  refine HB.out.mono ?_
  rintro e w3 ⟨rfl, h3⟩
  have h4 := Lib.hid (fun n => h3.upon0 (thingX q c p) (upon_drewN _ w3 n))
  clear HB h3
  go_wp2_with fail
  go_quiet (fail)
  go_wp2_with fail
  go_ret2
  exact ⟨rfl, h4.out _⟩
/-- A difference that is told if ok holds. -/
def Od (ok : Prop) (J : Ob.Rel) (q : Nat) (c : Cd) (p : Nat) (S : Nat → Prop) (w : World) (d : Nat) (e : Ending) (w' : World) : Prop :=
  (ok ∧ e = .returned (.tuple #[.int .u64 (d : Int), .bool true]) ∧ ObjStep J S w w') ∨ (¬ ok ∧ No q c p S w e w')
set_option maxRecDepth 100000 in
set_option maxHeartbeats 6400000 in
/-- Bits between: another window than the difference's own; or one that the window in hand holds; or a window that is taken. -/
theorem out_some (S : Nat → Prop) (q p : Nat) (c : Cd) (K : List Bool) (w : World) (h : PR q c p K w S) (hok : c.Ok) (hT : Tab w) (hG : ¬ S 0) (h11 : 11 ≤ K.length) (P Q x d : Nat) (hP : numOf (K.take 5) = P) (hQ : numOf ((K.drop 5).take 6) = Q) (hs : P + Q + 1 ≤ 64)
    (hle : Q + 1 ≤ (K.drop 11).length) (hx : numOf ((K.drop 11).take (Q + 1)) = x) (hx0 : x ≠ 0) (hd : d = x * 2 ^ (63 - P - Q)) (ok : Prop) (hiff : ok ↔ (Xr.lead d = P ∧ Xr.tail d = 63 - P - Q ∧ ¬ (c.win = true ∧ c.lead ≤ P ∧ c.tail ≤ 63 - P - Q))) :
    Calls Tryd.prog 34 #[.pointer (some ⟨q, 0, none⟩), .pointer (some ⟨p, 0, none⟩)] w (Od ok (PR q { c with win := true, lead := P, tail := 63 - P - Q } p (K.drop (12 + Q))) q c p S w d) := by
  have H := ObjStep.refl (I := PR q c p K) h
  have HG := Lib.hid (prWindow H h11 P Q hP hQ hs rfl)
  have hd64 : d < 18446744073709551616 := by
    have h1 := mid_of (l := P) (t := 63 - P - Q) (n := Q + 1) ((K.drop 11).take (Q + 1)) (by rw [List.length_take, Nat.min_eq_left hle]) (by omega) (by omega)
    rw [hx, ← hd] at h1
    exact Nat.lt_of_lt_of_le h1 (show 2 ^ (64 - P) ≤ 2 ^ 64 from Nat.pow_le_pow_right (by decide) (by omega))
  have hd0 : d ≠ 0 := by rw [hd]; exact Nat.ne_of_gt (Nat.mul_pos (Nat.pos_of_ne_zero hx0) (Nat.two_pow_pos (63 - P - Q)))
  obtain ⟨t, ht⟩ : ∃ t, t = 63 - P - Q := ⟨_, rfl⟩
  rw [← ht] at HG hd hiff ⊢
  have hy : x * 2 ^ t % 2 ^ 64 = d := by rw [← hd, Nat.mod_eq_of_lt hd64]
  have hB0 := Lib.hid (fun (S' : Nat → Prop) (w0 w1 : World) (h1 : ObjStep (PR q c p (K.drop 11)) S' w0 w1) => prBetween h1 P t (Q + 1) x d (by omega) (by omega) hle hx hy (b := true) (by simp [hx0]) (K' := K.drop (12 + Q)) (by rw [List.drop_drop]; congr 1; omega))
  have hwin := Lib.hid (fun w hT => windowOf_any d hd64 hd0 w hT)
  have hPt : P + t ≤ 63 := by omega
  have hcw : (c.win = true ∧ c.lead ≤ P ∧ c.tail ≤ t) ↔ (wl c ≤ P ∧ wt c ≤ t) := by
    unfold wl wt
    cases c.win with
    | false => simp; omega
    | true => simp
  rw [hcw] at hiff
  replace hiff := Lib.hid hiff
  clear H h hP hQ hs hx hx0 hd hy ht hle h11 hcw
  generalize Xr.lead d = a at *
  generalize Xr.tail d = b at *
  go_enter Tryd.func34, Tryd.ntmps34
  go_wp2_with fail
  refine HG.out.mono ?_
  rintro e w2 ⟨rfl, h2⟩
  clear HG
  have hT2 := hT.upon h2.upon hG
  obtain ⟨S', hI, go, hnS, hB, hS'⟩ := boxStart (thingPR _ _ _ _) h2 (.int .i64 (P : Int)) (.int .i64 (t : Int)) 52
  have hT3 : Tab (w2.alloc (.cells #[.int .i64 (P : Int), .int .i64 (t : Int)] 52 (0, 0))) := hT2.upon ((Upon.refl (fun _ => False) w2).alloc _) fun f => f
  have hG' : ¬ S' 0 := fun hs => (hS' _ hs).elim hG fun hz => Nat.lt_irrefl _ (Nat.lt_of_lt_of_le hT.lt hz)
  clear h2 hT hT2 hS'
  go_wp2_with fail
  generalize w2.alloc (.cells #[.int .i64 (P : Int), .int .i64 (t : Int)] 52 (0, 0)) = wb at *
  generalize w2.heap.size = g at *
  have H4 := ObjStep.refl (I := PR q c p (K.drop 11)) hI
  refine (hB0.out _ _ _ H4).mono ?_
  rintro e w5 ⟨rfl, h5⟩
  clear hB0 H4 hI
  obtain ⟨b0, b1, bf0, bf1⟩ := hB.beside h5 hnS
  obtain ⟨m0, m1, m2, m3, mf⟩ := prCells h5
  have hT5 := hT3.upon h5.upon hG'
  have x0 := fun d os => cell_regrown m0 d os
  have x1 := fun d os => cell_regrown m1 d os
  have y0 := fun d os => cell_regrown b0 d os
  have y1 := fun d os => cell_regrown b1 d os
  have hw5 := Lib.hid (fun d os => (hwin.out (grow (redrawn w5 d) os) (hT5.upon (newOf (below_regrown w5 d os)) fun f => f)).mono fun _ _ ⟨he, hu⟩ => (⟨he, belowOf hu⟩ : _ = _ ∧ Below (grow (redrawn w5 d) os).heap.size (grow (redrawn w5 d) os) _))
  by_cases hab : a = P ∧ b = t
  · obtain ⟨rfl, rfl⟩ := hab
    by_cases hh : wl c ≤ a ∧ wt c ≤ b
    · have hv : (decide (wl c ≤ a) && decide (wt c ≤ b)) = true := by simp [hh.1, hh.2]
      have hhB := Lib.hid (fun d os => hv ▸ holdsB (w := w5) (wl c) (wt c) a b d os)
      have h6 := Lib.hid (fun w6 (hu : New0 w5 w6) => go _ _ (toX (stepNew (thingPR _ _ _ _) h5 hu)))
      clear hv h5 m0 m1 b0 b1 hB hT5 hT3 hwin go
      go_wp2_with fail
      refine wp_region_quiet_below (by kernel_rfl) (by kernel_rfl) ?_
      repeat (go_big_quiet_step (first
        | (go_at_call 29; exact Calls.regrown_of (hhB.out _ _))
        | (go_at_call 28; exact Calls.regrown_of (hw5.out _ _))))
      refine wpQuiet_nil ?_
      intro _ hw'
      obtain ⟨⟨dq, osq⟩, hw''⟩ := hw'
      subst hw''
      have h7 := Lib.hid (h6.out _ (newOf (below_regrown w5 dq osq)))
      clear x0 x1 y0 y1 hw5 hhB h6
      generalize grow (redrawn w5 dq) osq = w6 at *
      go_wp2_with fail
      go_ret2
      exact .inr ⟨fun k => (hiff.out.1 k).2.2 hh, rfl, h7.out⟩
    · have hv : (decide (wl c ≤ a) && decide (wt c ≤ b)) = false := by
        rw [Bool.and_eq_false_iff]
        by_cases h1 : wl c ≤ a
        · right; exact decide_eq_false fun h2 => hh ⟨h1, h2⟩
        · left; exact decide_eq_false h1
      have hhB := Lib.hid (fun d os => hv ▸ holdsB (w := w5) (wl c) (wt c) a b d os)
      have h6 := Lib.hid (fun w6 (hu : New0 w5 w6) => stepNew (thingPR _ _ _ _) h5 hu)
      have hB6 := Lib.hid (fun w6 (hs : ObjStep (PR q c p (K.drop (12 + Q))) S' wb w6) => hB.beside hs hnS)
      replace go := Lib.hid go
      clear hv h5 m0 m1 b0 b1 hB hT5 hT3 hwin
      go_wp2_with fail
      refine wp_region_quiet_below (by kernel_rfl) (by kernel_rfl) ?_
      repeat (go_big_quiet_step (first
        | (go_at_call 29; exact Calls.regrown_of (hhB.out _ _))
        | (go_at_call 28; exact Calls.regrown_of (hw5.out _ _))))
      refine wpQuiet_nil ?_
      intro _ hw'
      obtain ⟨⟨dq, osq⟩, hw''⟩ := hw'
      subst hw''
      have h7 := h6.out _ (newOf (below_regrown w5 dq osq))
      clear x0 x1 y0 y1 hw5 hhB h6
      generalize grow (redrawn w5 dq) osq = w6 at *
      obtain ⟨b0, b1, -, -⟩ := hB6.out _ h7
      obtain ⟨n0, n1, n2, n3, nf⟩ := prCells h7
      have nf0 := nf 0
      have nf1 := nf 1
      have h8 := Lib.hid (go.out _ _ (prSet2 h7 a b))
      clear h7 hB6 go nf m2 m3 mf bf0 bf1
      go_wp2_with fail
      go_ret2
      exact .inl ⟨hiff.out.2 ⟨by first | rfl | trivial, by first | rfl | trivial, hh⟩, rfl, h8.out⟩
  · have hv : ∃ v, (decide (wl c ≤ P) && decide (wt c ≤ t)) = v := ⟨_, rfl⟩
    obtain ⟨v, hv⟩ := hv
    have hhB := Lib.hid (fun d os => hv ▸ holdsB (w := w5) (wl c) (wt c) P t d os)
    have h6 := Lib.hid (fun w6 (hu : New0 w5 w6) => go _ _ (toX (stepNew (thingPR _ _ _ _) h5 hu)))
    clear hv h5 m0 m1 b0 b1 hB hT5 hT3 hwin go
    have hab2 : (a ≠ P) ∨ (a = P ∧ b ≠ t) := by
      by_cases ha : a = P
      · exact .inr ⟨ha, fun hb => hab ⟨ha, hb⟩⟩
      · exact .inl ha
    replace hab := Lib.hid hab
    rcases hab2 with ha | ⟨rfl, hb⟩
    · have d1 : decide (P = a) = false := decide_eq_false fun e => ha e.symm
      have d2 : ((P : Int) == (a : Int)) = false := by rw [beq_eq_false_iff_ne]; omega
      go_wp2_with fail
      refine wp_region_quiet_below (by kernel_rfl) (by kernel_rfl) ?_
      repeat (go_big_quiet_step (first
        | (go_at_call 29; exact Calls.regrown_of (hhB.out _ _))
        | (go_at_call 28; exact Calls.regrown_of (hw5.out _ _))))
      refine wpQuiet_nil ?_
      intro _ hw'
      obtain ⟨⟨dq, osq⟩, hw''⟩ := hw'
      subst hw''
      have h7 := Lib.hid (h6.out _ (newOf (below_regrown w5 dq osq)))
      clear x0 x1 y0 y1 hw5 hhB h6
      generalize grow (redrawn w5 dq) osq = w6 at *
      go_wp2_with fail
      go_ret2
      exact .inr ⟨fun k => hab.out ⟨(hiff.out.1 k).1, (hiff.out.1 k).2.1⟩, rfl, h7.out⟩
    · have d1 : decide (t = b) = false := decide_eq_false fun e => hb e.symm
      have d2 : ((t : Int) == (b : Int)) = false := by rw [beq_eq_false_iff_ne]; omega
      go_wp2_with fail
      refine wp_region_quiet_below (by kernel_rfl) (by kernel_rfl) ?_
      repeat (go_big_quiet_step (first
        | (go_at_call 29; exact Calls.regrown_of (hhB.out _ _))
        | (go_at_call 28; exact Calls.regrown_of (hw5.out _ _))))
      refine wpQuiet_nil ?_
      intro _ hw'
      obtain ⟨⟨dq, osq⟩, hw''⟩ := hw'
      subst hw''
      have h7 := Lib.hid (h6.out _ (newOf (below_regrown w5 dq osq)))
      clear x0 x1 y0 y1 hw5 hhB h6
      generalize grow (redrawn w5 dq) osq = w6 at *
      go_wp2_with fail
      go_ret2
      exact .inr ⟨fun k => hab.out ⟨(hiff.out.1 k).1, (hiff.out.1 k).2.1⟩, rfl, h7.out⟩
end Xr
end Go.Proofs.YtiimdinefkbhlaaDoor
