/- TimesEven, TimesCost, walked: what times cost. -/
import Derived.Test.YtjoaccfjjihleaaDoorTmLaw2
namespace Go.Proofs.YtjoaccfjjihleaaDoor
open Go.RowKit Go.Sort
namespace Tm
open Bit Dsk Ob Arg
set_option linter.unusedVariables false

def hm (n : Int) : Nat := (n % 18446744073709551616 % 100).toNat
theorem hm_le (n : Int) : hm n ≤ 99 := by unfold hm; omega
theorem hm_go (n : Int) : wrap64 ((IntKind.u64.wrap n).tmod 100) = (hm n : Int) := by
  have h0 : 0 ≤ n % 18446744073709551616 := Int.emod_nonneg _ (by decide)
  rw [IntKind.wrap_u64, Int.tmod_eq_emod_of_nonneg h0, IntWalk.wrap64_in _ (by omega)]
  unfold hm
  omega
theorem even_two {t d : Int} (ht : In t) : even t d 2 = [t, wr (t + d)] := by
  have e0 : wr (t + wr (((0 : Nat) : Int) * d)) = t := by
    have : (((0 : Nat) : Int) * d) = 0 := by simp
    rw [this, show wr 0 = 0 by decide, Int.add_zero, wr_id ht]
  have e1 : wr (t + wr (((1 : Nat) : Int) * d)) = wr (t + d) := by
    have : (((1 : Nat) : Int) * d) = d := by simp
    rw [this]; unfold wr; omega
  show [wr (t + wr (((0 : Nat) : Int) * d)), wr (t + wr (((1 : Nat) : Int) * d))] = _
  rw [e0, e1]
theorem ret_beq {a b : Int} (h : a = b) : Ending.returned (.bool (a == b)) = .returned (.bool true) := by rw [beq_iff_eq.2 h]
theorem even_i64 (t d : Int) (n : Nat) : I64 (even t d n) := even_in t d n
theorem even_length (t d : Int) (n : Nat) : (even t d n).length = n := by unfold even; simp
set_option maxRecDepth 100000 in
set_option maxHeartbeats 3200000 in
theorem even_true (t d n : Int) (ht0 : -9223372036854775808 ≤ t) (ht1 : t ≤ 9223372036854775807) (hd0 : -9223372036854775808 ≤ d) (hd1 : d ≤ 9223372036854775807) (hn0 : -9223372036854775808 ≤ n) (hn1 : n ≤ 9223372036854775807) (w : World) (hT : Tab w) :
    Calls Tryd.prog 6 #[.int .i64 t, .int .i64 d, .int .i64 n] w fun e w' => e = .returned (.bool true) ∧ Below w.heap.size w w' := by
  have hwk := Lib.hid (works_true w hT)
  replace hT := Lib.hid hT
  have ht : In t := ⟨ht0, ht1⟩
  have h2 := Lib.hid (even_two (d := d) ht)
  have u0 : I64 [] := fun v hv => by simp at hv
  have u1 := Lib.hid (u0.snoc ht)
  replace u0 := Lib.hid u0
  replace ht := Lib.hid ht
  have hmg := hm_go n
  have hmle := hm_le n
  generalize hm n = N at *
  have e1 : IntKind.i64.wrap (t + d) = wr (t + d) := i64_wr _
  clear ht0 ht1 hd0 hd1
  go_enter Tryd.func6, Tryd.ntmps6
  go_wp2_with fail
  refine hwk.out.mono ?_
  rintro x w0 ⟨rfl, hb0⟩
  replace hb0 := Lib.hid hb0
  clear hwk
  go_wp2_with fail
  refine (new_any w0 (hT.out.own hb0.out)).mono ?_
  intro x w1 hx
  obtain ⟨q, rfl, h1⟩ := CMade.own hb0.out hx
  replace h1 := Lib.hid h1
  clear hx hb0
  go_wp2_with fail
  refine (newWriter_any w1).mono ?_
  intro x w2 hx
  obtain ⟨p, rfl, h3⟩ := WMade.beside (objCd _ _) h1.out hx
  have h3' : Hid (Own (RW q p []) w w2) := Lib.hid h3
  clear hx h1 h3
  go_wp2_with fail
  refine (ownW h3'.out fun A hA h => rwPut (l' := [t]) hT.out h3'.out.bel u0.out (by simp) ht.out rfl A hA h).mono ?_
  rintro x w4 ⟨rfl, h4⟩
  replace h4 := Lib.hid h4
  clear h3'
  go_wp2_with fail
  refine (ownW h4.out fun A hA h => rwPut (l' := [t, wr (t + d)]) hT.out h4.out.bel u1.out (by simp) (wr_in _) rfl A hA h).mono ?_
  rintro x w5 ⟨rfl, h5⟩
  rw [← h2.out] at h5
  replace h5 := Lib.hid h5
  obtain ⟨k0, hk0⟩ : ∃ k0, (putsB newC (even t d 2)).length = k0 := ⟨_, rfl⟩
  have hk0l : k0 ≤ 1000 := by rw [← hk0]; have := putsB_len (even t d 2) newC; rw [even_length] at this; omega
  replace hk0 := Lib.hid hk0
  clear h4 e1
  go_wp2_with fail
  refine (rwLen1 h5.out hk0.out).mono ?_
  rintro x w6 ⟨rfl, rfl⟩
  go_wp2_with fail
  go_loopw [10] (fun i wr => ∃ k : Nat, 2 ≤ k ∧ (k = 2 ∨ k ≤ N) ∧ i = .int .i64 k ∧ Own (RW q p (even t d k)) w wr) (fun i _ => N - (intOf i).toNat)
  case atStart => exact ⟨2, Nat.le_refl _, .inl rfl, rfl, h5.out⟩
  case round =>
    obtain ⟨k, hk, hk2, rfl, hst⟩ := hrel
    by_cases hlt : k < N
    · have e2 : IntKind.i64.wrap ((k : Int) * d) = Tm.wr ((k : Int) * d) := i64_wr _
      have e3 : IntKind.i64.wrap (t + Tm.wr ((k : Int) * d)) = Tm.wr (t + Tm.wr ((k : Int) * d)) := i64_wr _
      have hput := Lib.hid (ownW hst fun A hA h => rwPut (l' := even t d (k + 1)) hT.out hst.bel (even_i64 t d k) (by rw [even_length]; omega) (wr_in _) (even_snoc t d k).symm A hA h)
      clear hst h5
      go_wp2_with fail
      refine hput.out.mono ?_
      rintro x w7 ⟨rfl, h7⟩
      replace h7 := Lib.hid h7
      clear hput e2 e3
      go_wp2_with fail
      go_roundw
      case rel => exact ⟨k + 1, by omega, .inr (by omega), by go_num, h7.out⟩
      case measure => simp [intOf]; omega
    · obtain ⟨m, rfl⟩ : ∃ m, k = m + 2 := ⟨k - 2, by omega⟩
      have hl := Lib.hid (rwLen1 hst (n := k0 + m) (by rw [even_len t d m, hk0.out]))
      have hb : Hid (Below w.heap.size w wr) := Lib.hid hst.bel
      have hmax : max 0 ((N : Int) - 2) = (m : Int) := by omega
      clear hst h5
      go_wp2_with fail
      refine hl.out.mono ?_
      rintro x w7 ⟨rfl, rfl⟩
      clear hl
      go_wp2_with fail
      all_goals
        go_ret
        exact ⟨ret_beq (by omega), hb.out⟩

/-! ### TimesCost -/
theorem cost_is {t d c : Int} (ht : In t) (hc : In c) : wr (wr (wr (wr (wr (t + d) + d) + c) - wr (t + d)) - wr (wr (t + d) - t)) = c := by
  unfold In at hc ht
  unfold wr
  omega
set_option maxRecDepth 100000 in
set_option maxHeartbeats 6400000 in
theorem cost_true (t d c : Int) (ht0 : -9223372036854775808 ≤ t) (ht1 : t ≤ 9223372036854775807) (hd0 : -9223372036854775808 ≤ d) (hd1 : d ≤ 9223372036854775807) (hc0 : -9223372036854775808 ≤ c) (hc1 : c ≤ 9223372036854775807) (w : World) (hT : Tab w) :
    Calls Tryd.prog 7 #[.int .i64 t, .int .i64 d, .int .i64 c] w fun e w' => e = .returned (.bool true) ∧ Below w.heap.size w w' := by
  have hwk := Lib.hid (works_true w hT)
  replace hT := Lib.hid hT
  have ht : In t := ⟨ht0, ht1⟩
  have hc : In c := ⟨hc0, hc1⟩
  have u0 : I64 [] := fun v hv => by simp at hv
  have u1 := u0.snoc ht
  have u2 := Lib.hid (u1.snoc (wr_in (t + d)))
  replace u1 := Lib.hid u1
  replace u0 := Lib.hid u0
  have e1 : IntKind.i64.wrap (t + d) = wr (t + d) := i64_wr _
  have e2 : IntKind.i64.wrap (wr (t + d) + d) = wr (wr (t + d) + d) := i64_wr _
  have e3 : IntKind.i64.wrap (wr (wr (t + d) + d) + c) = wr (wr (wr (t + d) + d) + c) := i64_wr _
  have h3 := cost_three t (wr (t + d)) (wr (wr (wr (t + d) + d) + c))
  rw [cost_is ht hc] at h3
  obtain ⟨k0, hk0⟩ : ∃ k0, (putsB newC [t, wr (t + d)]).length = k0 := ⟨_, rfl⟩
  have hk0l : k0 ≤ 1000 := by rw [← hk0]; have := putsB_len [t, wr (t + d)] newC; simp at this; omega
  rw [hk0] at h3
  replace hk0 := Lib.hid hk0
  replace h3 := Lib.hid h3
  replace ht := Lib.hid ht
  have hcases := cls_cases c
  clear ht0 ht1 hd0 hd1
  go_enter Tryd.func7, Tryd.ntmps7
  go_wp2_with fail
  refine hwk.out.mono ?_
  rintro x w0 ⟨rfl, hb0⟩
  replace hb0 := Lib.hid hb0
  clear hwk
  go_wp2_with fail
  refine (new_any w0 (hT.out.own hb0.out)).mono ?_
  intro x w1 hx
  obtain ⟨q, rfl, h1⟩ := CMade.own hb0.out hx
  replace h1 := Lib.hid h1
  clear hx hb0
  go_wp2_with fail
  refine (newWriter_any w1).mono ?_
  intro x w2 hx
  obtain ⟨p, rfl, h2⟩ := WMade.beside (objCd _ _) h1.out hx
  have h2' : Hid (Own (RW q p []) w w2) := Lib.hid h2
  clear hx h1 h2
  go_wp2_with fail
  refine (ownW h2'.out fun A hA h => rwPut (l' := [t]) hT.out h2'.out.bel u0.out (by simp) ht.out rfl A hA h).mono ?_
  rintro x w4 ⟨rfl, h4⟩
  replace h4 := Lib.hid h4
  clear h2'
  go_wp2_with fail
  refine (ownW h4.out fun A hA h => rwPut (l' := [t, wr (t + d)]) hT.out h4.out.bel u1.out (by simp) (wr_in _) rfl A hA h).mono ?_
  rintro x w5 ⟨rfl, h5⟩
  replace h5 := Lib.hid h5
  clear h4
  go_wp2_with fail
  refine (rwLen1 h5.out hk0.out).mono ?_
  rintro x w6 ⟨rfl, rfl⟩
  go_wp2_with fail
  refine (ownW h5.out fun A hA h => rwPut (l' := [t, wr (t + d), wr (wr (wr (t + d) + d) + c)]) hT.out h5.out.bel u2.out (by simp) (wr_in _) rfl A hA h).mono ?_
  rintro x w7 ⟨rfl, h7⟩
  have hb7 := Lib.hid h7.bel
  clear h5 e1 e2 e3
  rcases hcases with ⟨h0, hk⟩ | ⟨h0, ha, hb2, hk⟩ | ⟨h0, ha, hb2, hk⟩ | ⟨h0, ha, hb2, hk⟩ | ⟨h0, hk⟩
  · have hl := Lib.hid (rwLen1 h7 (n := k0 + 1) (h3.out.trans (by unfold cost; rw [hk]; rfl)))
    clear h7 h3 hk
    subst h0
    go_wp2_with fail
    refine hl.out.mono ?_
    rintro x w8 ⟨rfl, rfl⟩
    clear hl
    go_wp2_with fail
    go_ret
    first | exact ⟨rfl, hb7.out⟩ | exact ⟨ret_beq (by omega), hb7.out⟩
  · have hl := Lib.hid (rwLen1 h7 (n := k0 + 9) (h3.out.trans (by unfold cost; rw [hk]; rfl)))
    clear h7 h3 hk
    have d0 : (c == 0) = false := by rw [beq_eq_false_iff_ne]; omega
    have lo : decide (-63 ≤ c) = true := decide_eq_true (by omega)
    have hi2 : decide (c ≤ 64) = true := decide_eq_true (by omega)
    go_wp2_with fail
    refine hl.out.mono ?_
    rintro x w8 ⟨rfl, rfl⟩
    clear hl
    go_wp2_with fail
    go_ret
    first | exact ⟨rfl, hb7.out⟩ | exact ⟨ret_beq (by omega), hb7.out⟩
  · have hl := Lib.hid (rwLen1 h7 (n := k0 + 12) (h3.out.trans (by unfold cost; rw [hk]; rfl)))
    clear h7 h3 hk
    have d0 : (c == 0) = false := by rw [beq_eq_false_iff_ne]; omega
    rcases h0 with h0 | h0
    · have lo : decide (-255 ≤ c) = true := decide_eq_true (by omega)
      have hi2 : decide (c ≤ 256) = true := decide_eq_true (by omega)
      have l1 : decide (-63 ≤ c) = false := decide_eq_false (by omega)
      go_wp2_with fail
      refine hl.out.mono ?_
      rintro x w8 ⟨rfl, rfl⟩
      clear hl
      go_wp2_with fail
      go_ret
      first | exact ⟨rfl, hb7.out⟩ | exact ⟨ret_beq (by omega), hb7.out⟩
    · have lo : decide (-255 ≤ c) = true := decide_eq_true (by omega)
      have hi2 : decide (c ≤ 256) = true := decide_eq_true (by omega)
      have l1 : decide (-63 ≤ c) = true := decide_eq_true (by omega)
      have u1 : decide (c ≤ 64) = false := decide_eq_false (by omega)
      go_wp2_with fail
      refine hl.out.mono ?_
      rintro x w8 ⟨rfl, rfl⟩
      clear hl
      go_wp2_with fail
      go_ret
      first | exact ⟨rfl, hb7.out⟩ | exact ⟨ret_beq (by omega), hb7.out⟩
  · have hl := Lib.hid (rwLen1 h7 (n := k0 + 16) (h3.out.trans (by unfold cost; rw [hk]; rfl)))
    clear h7 h3 hk
    have d0 : (c == 0) = false := by rw [beq_eq_false_iff_ne]; omega
    rcases h0 with h0 | h0
    · have lo : decide (-2047 ≤ c) = true := decide_eq_true (by omega)
      have hi2 : decide (c ≤ 2048) = true := decide_eq_true (by omega)
      have l1 : decide (-63 ≤ c) = false := decide_eq_false (by omega)
      have l2 : decide (-255 ≤ c) = false := decide_eq_false (by omega)
      go_wp2_with fail
      refine hl.out.mono ?_
      rintro x w8 ⟨rfl, rfl⟩
      clear hl
      go_wp2_with fail
      go_ret
      first | exact ⟨rfl, hb7.out⟩ | exact ⟨ret_beq (by omega), hb7.out⟩
    · have lo : decide (-2047 ≤ c) = true := decide_eq_true (by omega)
      have hi2 : decide (c ≤ 2048) = true := decide_eq_true (by omega)
      have l1 : decide (-63 ≤ c) = true := decide_eq_true (by omega)
      have u1 : decide (c ≤ 64) = false := decide_eq_false (by omega)
      have l2 : decide (-255 ≤ c) = true := decide_eq_true (by omega)
      have u2 : decide (c ≤ 256) = false := decide_eq_false (by omega)
      go_wp2_with fail
      refine hl.out.mono ?_
      rintro x w8 ⟨rfl, rfl⟩
      clear hl
      go_wp2_with fail
      go_ret
      first | exact ⟨rfl, hb7.out⟩ | exact ⟨ret_beq (by omega), hb7.out⟩
  · have hl := Lib.hid (rwLen1 h7 (n := k0 + 68) (h3.out.trans (by unfold cost; rw [hk]; rfl)))
    clear h7 h3 hk
    have d0 : (c == 0) = false := by rw [beq_eq_false_iff_ne]; omega
    rcases h0 with h0 | h0
    · have l1 : decide (-63 ≤ c) = false := decide_eq_false (by omega)
      have l2 : decide (-255 ≤ c) = false := decide_eq_false (by omega)
      have l3 : decide (-2047 ≤ c) = false := decide_eq_false (by omega)
      go_wp2_with fail
      refine hl.out.mono ?_
      rintro x w8 ⟨rfl, rfl⟩
      clear hl
      go_wp2_with fail
      go_ret
      first | exact ⟨rfl, hb7.out⟩ | exact ⟨ret_beq (by omega), hb7.out⟩
    · have l1 : decide (-63 ≤ c) = true := decide_eq_true (by omega)
      have u1 : decide (c ≤ 64) = false := decide_eq_false (by omega)
      have l2 : decide (-255 ≤ c) = true := decide_eq_true (by omega)
      have u2 : decide (c ≤ 256) = false := decide_eq_false (by omega)
      have l3 : decide (-2047 ≤ c) = true := decide_eq_true (by omega)
      have u3 : decide (c ≤ 2048) = false := decide_eq_false (by omega)
      go_wp2_with fail
      refine hl.out.mono ?_
      rintro x w8 ⟨rfl, rfl⟩
      clear hl
      go_wp2_with fail
      go_ret
      first | exact ⟨rfl, hb7.out⟩ | exact ⟨ret_beq (by omega), hb7.out⟩
end Tm
end Go.Proofs.YtjoaccfjjihleaaDoor
