/- The program's coder of patterns (layer 7): Get, whatever the bits. -/
import Derived.Test.YtiimdinefkbhlaaDoorXorGet
namespace Go.Proofs.YtiimdinefkbhlaaDoor
open Go.RowKit Go.Sort
namespace Xr
open Bit Dsk Ob
set_option linter.unusedVariables false

/-- What getDifference leaves. -/
def Dg (q : Nat) (c : Cd) (p : Nat) (K : List Bool) (S : Nat → Prop) (w : World) (o : Option (Nat × Nat)) (e : Ending) (w' : World) : Prop :=
  match o with
  | some (v, n) => ∃ d c', d < 18446744073709551616 ∧ c.v ^^^ d = v ∧ e = .returned (.tuple #[.int .u64 (d : Int), .bool true]) ∧ ObjStep (PR q c' p (K.drop n)) S w w' ∧ { c' with begun := true, v := v } = putC c v ∧ c'.v = c.v
  | none => ∃ x : Int, e = .returned (.tuple #[.int .u64 x, .bool false]) ∧ ObjStep (PX q c p) S w w'
theorem Dg.yes {q : Nat} {c : Cd} {p : Nat} {K : List Bool} {S : Nat → Prop} {w w' : World} {o : Option (Nat × Nat)} {e : Ending} {v n d : Nat} {c' : Cd} (ho : o = some (v, n)) (hd : d < 18446744073709551616) (hv : c.v ^^^ d = v) (he : e = .returned (.tuple #[.int .u64 (d : Int), .bool true]))
    (hs : ObjStep (PR q c' p (K.drop n)) S w w') (hc : { c' with begun := true, v := v } = putC c v) (hv2 : c'.v = c.v) : Dg q c p K S w o e w' := by
  subst ho; exact ⟨d, c', hd, hv, he, hs, hc, hv2⟩
theorem Dg.no {q : Nat} {c : Cd} {p : Nat} {K : List Bool} {S : Nat → Prop} {w w' : World} {o : Option (Nat × Nat)} {e : Ending} {x : Int} (ho : o = none) (he : e = .returned (.tuple #[.int .u64 x, .bool false])) (hs : ObjStep (PX q c p) S w w') : Dg q c p K S w o e w' := by
  subst ho; exact ⟨x, he, hs⟩
set_option maxRecDepth 100000 in
set_option maxHeartbeats 3200000 in
theorem gd_first (S : Nat → Prop) (q p : Nat) (c : Cd) (K : List Bool) (w : World) (h : PR q c p K w S) (hb : c.begun = false) (hf : c.v = 0) (o : Option (Nat × Nat)) (ho : getR c K = o) :
    Calls Tryd.prog 25 #[.pointer (some ⟨q, 0, none⟩), .pointer (some ⟨p, 0, none⟩)] w (Dg q c p K S w o) := by
  have H := ObjStep.refl (I := PR q c p K) h
  obtain ⟨k0, k1, k2, k3, -⟩ := prCells H
  rw [hb] at k2
  rw [getR_first hb] at ho
  have hp : ∀ v, putC c v = { c with begun := true, v := v } := fun v => by unfold putC; rw [if_pos hb]
  by_cases hl : 64 ≤ K.length
  · rw [if_pos hl] at ho
    have hx : numOf (K.take 64) < 18446744073709551616 := by
      have := numOf_lt (K.take 64)
      rwa [List.length_take, Nat.min_eq_left hl] at this
    have hv : Hid (c.v ^^^ numOf (K.take 64) = numOf (K.take 64)) := Lib.hid (by rw [hf, Nat.zero_xor])
    have HG := Lib.hid (prGet H 64 (by omega) hl rfl rfl)
    have hk := Lib.hid ho.symm
    have hp2 := Lib.hid (hp (numOf (K.take 64)))
    generalize numOf (K.take 64) = x at *
    clear H h ho hp hf
    go_enter Tryd.func25, Tryd.ntmps25
    go_wp2_with fail
    refine HG.out.mono ?_
    rintro e w2 ⟨rfl, h2⟩
    replace h2 := Lib.hid h2
    clear HG
    go_wp2_with fail
    go_ret2
    exact Dg.yes hk.out hx hv.out rfl h2.out hp2.out.symm rfl
  · rw [if_neg hl] at ho
    have HG := Lib.hid (prNo H 64 (by omega))
    have hk := Lib.hid ho.symm
    clear H h ho hp hf
    go_enter Tryd.func25, Tryd.ntmps25
    go_wp2_with fail
    refine HG.out.mono ?_
    rintro e w2 ⟨rfl, h2⟩
    replace h2 := Lib.hid (toX h2)
    clear HG
    go_wp2_with fail
    go_ret2
    exact Dg.no hk.out rfl h2.out
theorem putC_same {c : Cd} (hb : c.begun = true) : putC c c.v = { c with begun := true, v := c.v } := by
  unfold putC; rw [if_neg (begun_not hb), if_pos (Nat.xor_self _), ← hb]
set_option maxRecDepth 100000 in
set_option maxHeartbeats 3200000 in
theorem gd_short (S : Nat → Prop) (q p : Nat) (c : Cd) (K : List Bool) (w : World) (h : PR q c p K w S) (hb : c.begun = true) (o : Option (Nat × Nat)) (ho : getR c K = o) (hK : K = [] ∨ (∃ R, K = false :: R) ∨ K = [true]) :
    Calls Tryd.prog 25 #[.pointer (some ⟨q, 0, none⟩), .pointer (some ⟨p, 0, none⟩)] w (Dg q c p K S w o) := by
  have H := ObjStep.refl (I := PR q c p K) h
  obtain ⟨k0, k1, k2, k3, -⟩ := prCells H
  rw [hb] at k2
  rcases hK with rfl | ⟨R, rfl⟩ | rfl
  · have hk : Hid (o = none) := Lib.hid (ho.symm.trans (get_nil c))
    have HG := Lib.hid (prNo H 1 (by simp))
    clear h ho H
    go_enter Tryd.func25, Tryd.ntmps25
    go_wp2_with fail
    refine HG.out.mono ?_
    rintro e w2 ⟨rfl, h2⟩
    replace h2 := Lib.hid (toX h2)
    clear HG
    go_wp2_with fail
    go_ret2
    exact Dg.no hk.out rfl h2.out
  · have hk : Hid (o = some (c.v, 1)) := Lib.hid (ho.symm.trans (getR_same hb R))
    have hps := Lib.hid (putC_same hb)
    have HG := Lib.hid (prGet (x := 0) (K' := R) H 1 (by omega) (by simp) (by rfl) (by rfl))
    clear h ho H
    go_enter Tryd.func25, Tryd.ntmps25
    go_wp2_with fail
    refine HG.out.mono ?_
    rintro e w2 ⟨rfl, h2⟩
    replace h2 := Lib.hid h2
    clear HG
    go_wp2_with fail
    go_ret2
    exact Dg.yes (d := 0) hk.out (by decide) (Nat.xor_zero _) rfl h2.out hps.out.symm rfl
  · have hk : Hid (o = none) := Lib.hid (ho.symm.trans (getR_one hb))
    have HG := Lib.hid (prGet (x := 1) (K' := []) H 1 (by omega) (by simp) (by rfl) (by rfl))
    clear h ho H
    go_enter Tryd.func25, Tryd.ntmps25
    go_wp2_with fail
    refine HG.out.mono ?_
    rintro e w2 ⟨rfl, h2⟩
    have HG2 := Lib.hid (prNo h2 1 (by simp))
    clear HG h2
    go_wp2_with fail
    refine HG2.out.mono ?_
    rintro e w3 ⟨rfl, h3⟩
    replace h3 := Lib.hid (toX h3)
    clear HG2
    go_wp2_with fail
    go_ret2
    exact Dg.no hk.out rfl h3.out
set_option maxRecDepth 100000 in
set_option maxHeartbeats 3200000 in
theorem gd_within (S : Nat → Prop) (q p : Nat) (c : Cd) (R : List Bool) (w : World) (h : PR q c p (true :: false :: R) w S) (hok : c.Ok) (hb : c.begun = true) (o : Option (Nat × Nat)) (ho : getR c (true :: false :: R) = o) :
    Calls Tryd.prog 25 #[.pointer (some ⟨q, 0, none⟩), .pointer (some ⟨p, 0, none⟩)] w (Dg q c p (true :: false :: R) S w o) := by
  have H := ObjStep.refl (I := PR q c p (true :: false :: R)) h
  obtain ⟨k0, k1, k2, k3, -⟩ := prCells H
  rw [hb] at k2
  have HG := Lib.hid (prGet (x := 1) (K' := false :: R) H 1 (by omega) (by simp) (by rfl) (by rfl))
  have hwlt := wlt hok
  -- what getBetween answers
  have HB : Hid (∀ w1, ObjStep (PR q c p R) S w w1 → ∃ (x : Int) (b : Bool), Calls Tryd.prog 33 #[win (wl c) (wt c), .pointer (some ⟨p, 0, none⟩)] w1 fun e w' => e = .returned (.tuple #[.int .u64 x, .bool b]) ∧ Dg q c p (true :: false :: R) S w o e w') := Lib.hid fun w1 h1 => by
    obtain ⟨n, hn⟩ : ∃ n, n = 64 - wl c - wt c := ⟨_, rfl⟩
    by_cases hle : n ≤ R.length
    · by_cases h0 : numOf (R.take n) = 0
      · have hk : o = none := by
          rw [← ho]
          cases hw : c.win with
          | false => exact getR_none hb hw R
          | true =>
            have e1 : wl c = c.lead := by unfold wl; rw [hw]; rfl
            have e2 : wt c = c.tail := by unfold wt; rw [hw]; rfl
            rw [e1, e2] at hn
            rw [getR_within hok hb hw R n hn, if_neg (fun hh => hh.2 h0)]
        refine ⟨((0 : Nat) : Int), false, (prBetween h1 (wl c) (wt c) n 0 0 hwlt hn hle h0 (by simp) (b := false) (by simp) rfl).mono ?_⟩
        rintro e w' ⟨rfl, hs⟩
        exact ⟨rfl, Dg.no hk rfl (toX hs)⟩
      · cases hw : c.win with
        | false =>
          exfalso; apply h0
          have : n = 0 := by rw [hn]; unfold wl wt; rw [hw]; rfl
          rw [this]; rfl
        | true =>
          have e1 : wl c = c.lead := by unfold wl; rw [hw]; rfl
          have e2 : wt c = c.tail := by unfold wt; rw [hw]; rfl
          have hn2 := hn
          rw [e1, e2] at hn2
          have hk : o = some (c.v ^^^ (numOf (R.take n) * 2 ^ c.tail), n + 2) := by
            rw [← ho, getR_within hok hb hw R n hn2, if_pos ⟨hle, h0⟩]
          have hm : numOf (R.take n) * 2 ^ c.tail < 2 ^ (64 - c.lead) := mid_of _ (by rw [List.length_take, Nat.min_eq_left hle]) hn2 (by have := hok.sum; omega)
          have hm64 : numOf (R.take n) * 2 ^ c.tail < 2 ^ 64 := Nat.lt_of_lt_of_le hm (Nat.pow_le_pow_right (by decide) (by omega))
          have hd0 : numOf (R.take n) * 2 ^ c.tail ≠ 0 := Nat.ne_of_gt (Nat.mul_pos (Nat.pos_of_ne_zero h0) (Nat.two_pow_pos _))
          have hx : ((c.v ^^^ (numOf (R.take n) * 2 ^ c.tail)) ^^^ c.v) = numOf (R.take n) * 2 ^ c.tail := xor_back2 _ _
          refine ⟨((numOf (R.take n) * 2 ^ c.tail : Nat) : Int), true, (prBetween h1 (wl c) (wt c) n _ (numOf (R.take n) * 2 ^ c.tail) hwlt hn hle rfl (by rw [e2, Nat.mod_eq_of_lt hm64]) (b := true) (by simp [h0]) rfl).mono ?_⟩
          rintro e w' ⟨rfl, hs⟩
          refine ⟨rfl, Dg.yes hk hm64 rfl rfl hs ?_ rfl⟩
          unfold putC
          rw [if_neg (begun_not hb), hx, if_neg hd0, if_pos ⟨hw, lead_ge' hok.lead hm, tail_ge hm64 hd0 (Nat.dvd_mul_left _ _)⟩, ← hb]
    · have hk : o = none := by
        rw [← ho]
        cases hw : c.win with
        | false => exact getR_none hb hw R
        | true =>
          have e1 : wl c = c.lead := by unfold wl; rw [hw]; rfl
          have e2 : wt c = c.tail := by unfold wt; rw [hw]; rfl
          rw [e1, e2] at hn
          rw [getR_within hok hb hw R n hn, if_neg (fun hh => hle hh.1)]
      refine ⟨0, false, (prBetweenNo h1 (wl c) (wt c) n hwlt hn hle).mono ?_⟩
      rintro e w' ⟨rfl, hs⟩
      exact ⟨rfl, Dg.no hk rfl (toX hs)⟩
  clear h ho H hok hwlt
  go_enter Tryd.func25, Tryd.ntmps25
  go_wp2_with fail
  refine HG.out.mono ?_
  rintro e w2 ⟨rfl, h2⟩
  have HG2 := Lib.hid (prGet (x := 0) (K' := R) h2 1 (by omega) (by simp) (by rfl) (by rfl))
  clear HG h2 k0 k1 k2 k3
  go_wp2_with fail
  refine HG2.out.mono ?_
  rintro e w3 ⟨rfl, h3⟩
  obtain ⟨n0, n1, n2, n3, -⟩ := prCells h3
  obtain ⟨x, b, HC⟩ := HB.out w3 h3
  replace HC := Lib.hid HC
  clear HG2 HB h3
  go_wp2_with fail
  refine HC.out.mono ?_
  rintro e w4 ⟨rfl, h4⟩
  replace h4 := Lib.hid h4
  clear HC
  go_wp2_with fail
  go_ret2
  exact h4.out
set_option maxRecDepth 100000 in
set_option maxHeartbeats 3200000 in
theorem gd_new (S : Nat → Prop) (q p : Nat) (c : Cd) (R : List Bool) (w : World) (h : PR q c p (true :: true :: R) w S) (hok : c.Ok) (hT : Tab w) (hG : ¬ S 0) (hb : c.begun = true) (o : Option (Nat × Nat)) (ho : getR c (true :: true :: R) = o) :
    Calls Tryd.prog 25 #[.pointer (some ⟨q, 0, none⟩), .pointer (some ⟨p, 0, none⟩)] w (Dg q c p (true :: true :: R) S w o) := by
  have H := ObjStep.refl (I := PR q c p (true :: true :: R)) h
  obtain ⟨k0, k1, k2, k3, -⟩ := prCells H
  rw [hb] at k2
  have HG := Lib.hid (prGet (x := 1) (K' := true :: R) H 1 (by omega) (by simp) (by rfl) (by rfl))
  have HB : Hid (∀ w1, ObjStep (PR q c p R) S w w1 → ∃ (x : Int) (b : Bool), Calls Tryd.prog 34 #[.pointer (some ⟨q, 0, none⟩), .pointer (some ⟨p, 0, none⟩)] w1 fun e w' => e = .returned (.tuple #[.int .u64 x, .bool b]) ∧ Dg q c p (true :: true :: R) S w o e w') := Lib.hid fun w1 h1 => by
    obtain ⟨P, hP⟩ : ∃ P, numOf (R.take 5) = P := ⟨_, rfl⟩
    obtain ⟨Q, hQ⟩ : ∃ Q, numOf ((R.drop 5).take 6) = Q := ⟨_, rfl⟩
    obtain ⟨x, hx⟩ : ∃ x, numOf ((R.drop 11).take (Q + 1)) = x := ⟨_, rfl⟩
    obtain ⟨d, hd⟩ : ∃ d, d = x * 2 ^ (63 - P - Q) := ⟨_, rfl⟩
    have eg := getR_new hok hb R P Q x d hP hQ hx hd
    rw [ho] at eg
    have hT1 := hT.upon h1.upon hG
    obtain ⟨⟨S', hI, h2, h3⟩, hu⟩ := h1
    have hG' : ¬ S' 0 := fun hs => (h3 _ hs).elim hG fun hz => Nat.lt_irrefl _ (Nat.lt_of_lt_of_le hT.lt hz)
    have go : ∀ (J : Ob.Rel) (z : World), ObjStep J S' w1 z → ObjStep J S w z := fun J z k => ObjStep.then (I := fun w T => w = w1 ∧ T = S') ⟨⟨S', ⟨rfl, rfl⟩, h2, h3⟩, hu⟩ (fun T hT => by rw [hT.2]; exact k)
    have no : o = none → ∀ e w', No q c p S' w1 e w' → e = .returned (.tuple #[.int .u64 0, .bool false]) ∧ Dg q c p (true :: true :: R) S w o e w' := fun hk e w' ⟨he, hs⟩ => ⟨he, Dg.no hk he (go _ _ hs)⟩
    by_cases h11 : 11 ≤ R.length ∧ P + Q + 1 ≤ 64
    · by_cases hle : Q + 1 ≤ (R.drop 11).length
      · by_cases hx0 : x = 0
        · have hk : o = none := by rw [eg, if_neg (fun hh => hh.2.2.2.1 hx0)]
          exact ⟨0, false, (out_zero S' q p c R w1 hI h11.1 P Q hP hQ h11.2 (.inr (by rw [hx, hx0]))).mono (no hk)⟩
        · by_cases hc : Xr.lead d = P ∧ Xr.tail d = 63 - P - Q ∧ ¬ (c.win = true ∧ c.lead ≤ P ∧ c.tail ≤ 63 - P - Q)
          · have hc2 : Xr.lead d = P ∧ Xr.tail d = 63 - P - Q ∧ ¬ (c.win = true ∧ c.lead ≤ Xr.lead d ∧ c.tail ≤ Xr.tail d) := ⟨hc.1, hc.2.1, by rw [hc.1, hc.2.1]; exact hc.2.2⟩
            have hk : o = some (c.v ^^^ d, 14 + Q) := by rw [eg, if_pos ⟨h11.1, h11.2, hle, hx0, hc2⟩]
            have hd0 : d ≠ 0 := by rw [hd]; exact Nat.ne_of_gt (Nat.mul_pos (Nat.pos_of_ne_zero hx0) (Nat.two_pow_pos (63 - P - Q)))
            have hd64 : d < 18446744073709551616 := by
              have h1 := mid_of (l := P) (t := 63 - P - Q) (n := Q + 1) ((R.drop 11).take (Q + 1)) (by rw [List.length_take, Nat.min_eq_left hle]) (by omega) (by omega)
              rw [hx, ← hd] at h1
              exact Nat.lt_of_lt_of_le h1 (show 2 ^ (64 - P) ≤ 2 ^ 64 from Nat.pow_le_pow_right (by decide) (by omega))
            refine ⟨(d : Int), true, (out_some S' q p c R w1 hI hok hT1 hG' h11.1 P Q x d hP hQ h11.2 hle hx hx0 hd True ⟨fun _ => hc, fun _ => trivial⟩).mono ?_⟩
            rintro e w' (⟨-, rfl, hs⟩ | ⟨hn, -⟩)
            · refine ⟨rfl, Dg.yes hk hd64 rfl rfl (c' := { c with win := true, lead := P, tail := 63 - P - Q }) ?_ ?_ rfl⟩
              · have := go _ _ hs
                rw [show (true :: true :: R).drop (14 + Q) = R.drop (12 + Q) by rw [show 14 + Q = (12 + Q) + 2 by omega]; rfl]
                exact this
              · unfold putC
                rw [if_neg (begun_not hb), xor_back2, if_neg hd0, if_neg hc2.2.2, hc2.1, hc2.2.1]
            · exact absurd trivial hn
          · have hk : o = none := by
              rw [eg, if_neg]
              rintro ⟨-, -, -, -, g1, g2, g3⟩
              exact hc ⟨g1, g2, by rw [g1, g2] at g3; exact g3⟩
            refine ⟨0, false, (out_some S' q p c R w1 hI hok hT1 hG' h11.1 P Q x d hP hQ h11.2 hle hx hx0 hd False ⟨fun h => h.elim, fun h => hc h⟩).mono ?_⟩
            rintro e w' (⟨hn, -⟩ | ⟨-, hs⟩)
            · exact hn.elim
            · exact no hk e w' hs
      · have hk : o = none := by rw [eg, if_neg (fun hh => hle hh.2.2.1)]
        exact ⟨0, false, (out_zero S' q p c R w1 hI h11.1 P Q hP hQ h11.2 (.inl hle)).mono (no hk)⟩
    · have hk : o = none := by rw [eg, if_neg (fun hh => h11 ⟨hh.1, hh.2.1⟩)]
      exact ⟨0, false, (out_none S' q p c R w1 hI (by rw [hP, hQ]; exact h11)).mono (no hk)⟩
  clear h ho H hok hT hG
  go_enter Tryd.func25, Tryd.ntmps25
  go_wp2_with fail
  refine HG.out.mono ?_
  rintro e w2 ⟨rfl, h2⟩
  have HG2 := Lib.hid (prGet (x := 1) (K' := R) h2 1 (by omega) (by simp) (by rfl) (by rfl))
  clear HG h2 k0 k1 k2 k3
  go_wp2_with fail
  refine HG2.out.mono ?_
  rintro e w3 ⟨rfl, h3⟩
  obtain ⟨x, b, HC⟩ := HB.out w3 h3
  replace HC := Lib.hid HC
  clear HG2 HB h3
  go_wp2_with fail
  refine HC.out.mono ?_
  rintro e w4 ⟨rfl, h4⟩
  replace h4 := Lib.hid h4
  clear HC
  go_wp2_with fail
  go_ret2
  exact h4.out
/-- getDifference, whatever the bits. -/
theorem gd_any (S : Nat → Prop) (q p : Nat) (c : Cd) (K : List Bool) (w : World) (h : PR q c p K w S) (hok : c.Ok) (hf : c.begun = false → c.v = 0) (hT : Tab w) (hG : ¬ S 0) :
    Calls Tryd.prog 25 #[.pointer (some ⟨q, 0, none⟩), .pointer (some ⟨p, 0, none⟩)] w (Dg q c p K S w (getR c K)) := by
  by_cases hb : c.begun = false
  · exact gd_first S q p c K w h hb (hf hb) _ rfl
  · have hb' : c.begun = true := by simpa using hb
    match K, h with
    | [], h => exact gd_short S q p c _ w h hb' _ rfl (.inl rfl)
    | false :: R, h => exact gd_short S q p c _ w h hb' _ rfl (.inr (.inl ⟨R, rfl⟩))
    | [true], h => exact gd_short S q p c _ w h hb' _ rfl (.inr (.inr rfl))
    | true :: false :: R, h => exact gd_within S q p c R w h hok hb' _ rfl
    | true :: true :: R, h => exact gd_new S q p c R w h hok hT hG hb' _ rfl

/-! ### Get -/
/-- What Get leaves. -/
def Gp (q : Nat) (c : Cd) (p : Nat) (K : List Bool) (S : Nat → Prop) (w : World) (o : Option (Nat × Nat)) (e : Ending) (w' : World) : Prop :=
  match o with
  | some (v, n) => e = .returned (.tuple #[.int .u64 (v : Int), .bool true]) ∧ ObjStep (PR q (putC c v) p (K.drop n)) S w w'
  | none => e = .returned (.tuple #[.int .u64 0, .bool false]) ∧ ObjStep (PX q c p) S w w'
set_option maxRecDepth 100000 in
set_option maxHeartbeats 3200000 in
theorem cdGet_any (S : Nat → Prop) (q p : Nat) (c : Cd) (K : List Bool) (w : World) (h : PR q c p K w S) (hok : c.Ok) (hf : c.begun = false → c.v = 0) (hT : Tab w) (hG : ¬ S 0) :
    Calls Tryd.prog 17 #[.pointer (some ⟨q, 0, none⟩), .pointer (some ⟨p, 0, none⟩)] w (Gp q c p K S w (getR c K)) := by
  have HD := gd_any S q p c K w h hok hf hT hG
  have hc : c.v < 18446744073709551616 := hok.v
  clear h hok hf hT hG
  cases hg : getR c K with
  | none =>
    rw [hg] at HD
    replace HD := Lib.hid HD
    clear hg
    go_enter Tryd.func17, Tryd.ntmps17
    go_wp2_with fail
    refine HD.out.mono ?_
    rintro e w2 ⟨x, rfl, h2⟩
    replace h2 := Lib.hid h2
    clear HD
    go_wp2_with fail
    go_ret2
    exact ⟨rfl, h2.out⟩
  | some y =>
    obtain ⟨v, n⟩ := y
    rw [hg] at HD
    replace HD := Lib.hid HD
    clear hg
    go_enter Tryd.func17, Tryd.ntmps17
    go_wp2_with fail
    refine HD.out.mono ?_
    rintro e w2 ⟨d, c', hd, hv, rfl, h2, hp, hv2⟩
    obtain ⟨m0, m1, m2, m3, mf⟩ := prCells h2
    have hx := xor_int c.v d hc hd
    rw [hv, ← hv2] at hx
    have f2 := mf 2
    have h3 := prSet (o := 2) (v := .bool true) (c' := { c' with begun := true }) h2 rfl
    obtain ⟨n0, n1, n2, n3, nf⟩ := prCells h3
    have f3 := nf 3
    have h4 := prSet (o := 3) (v := .int .u64 (v : Int)) (c' := { c' with begun := true, v := v }) h3 rfl
    obtain ⟨l0, l1, l2, l3, -⟩ := prCells h4
    rw [hp] at h4
    replace h4 := Lib.hid h4
    clear h2 h3 mf nf hp hv hv2 HD
    go_wp2_with fail
    go_ret2
    exact ⟨rfl, h4.out⟩
end Xr
end Go.Proofs.YtiimdinefkbhlaaDoor
