/- XorSame, XorWindow, walked: what patterns cost. -/
import Derived.Test.YtiimdinefkbhlaaDoorXorLaw2
namespace Go.Proofs.YtiimdinefkbhlaaDoor
open Go.RowKit Go.Sort
namespace Xr
open Bit Dsk Ob Arg
set_option linter.unusedVariables false

/-! ### XorSame -/
def hm (n : Int) : Nat := (n % 18446744073709551616 % 100).toNat
theorem hm_le (n : Int) : hm n ≤ 99 := by unfold hm; omega
theorem hm_go (n : Int) : wrap64 ((IntKind.u64.wrap n).tmod 100) = (hm n : Int) := by
  have h0 : 0 ≤ n % 18446744073709551616 := Int.emod_nonneg _ (by decide)
  rw [IntKind.wrap_u64, Int.tmod_eq_emod_of_nonneg h0, IntWalk.wrap64_in _ (by omega)]
  unfold hm
  omega
theorem rep_u64 {V : Nat} (h : V < 18446744073709551616) (k : Nat) : U64 (List.replicate k V) := fun v hv => by
  rw [(List.mem_replicate.1 hv).2]; exact h
set_option maxRecDepth 100000 in
set_option maxHeartbeats 3200000 in
theorem same_true (v n : Int) (hv0 : 0 ≤ v) (hv1 : v ≤ 18446744073709551615) (hn0 : -9223372036854775808 ≤ n) (hn1 : n ≤ 9223372036854775807) (w : World) (hT : Tab w) :
    Calls Tryd.prog 6 #[.int .u64 v, .int .i64 n] w fun e w' => e = .returned (.bool true) ∧ Below w.heap.size w w' := by
  obtain ⟨V, rfl⟩ := Int.eq_ofNat_of_zero_le hv0
  have hVl : V < 18446744073709551616 := by omega
  have hwk := Lib.hid (works_true w hT)
  replace hT := Lib.hid hT
  have hmg := hm_go n
  have hmle := hm_le n
  generalize hm n = N at *
  clear hv0 hv1
  go_enter Tryd.func6, Tryd.ntmps6
  go_wp2_with fail
  refine hwk.out.mono ?_
  rintro x w0 ⟨rfl, hb0⟩
  replace hb0 := Lib.hid hb0
  clear hwk
  go_wp2_with fail
  refine (new_any w0).mono ?_
  intro x w1 hx
  obtain ⟨q, rfl, h1⟩ := CMade.own hb0.out hx
  replace h1 := Lib.hid h1
  clear hx hb0
  go_wp2_with fail
  refine (newWriter_any w1).mono ?_
  intro x w2 hx
  obtain ⟨p, rfl, h2⟩ := WMade.beside (objCd _ _) h1.out hx
  have h2' : Hid (Own (RW q p []) w w2) := Lib.hid h2
  clear hx h1 h2
  go_wp2_with fail
  go_loopw [7] (fun i wr => ∃ k : Nat, k ≤ N + 1 ∧ i = .int .i64 k ∧ Own (RW q p (List.replicate k V)) w wr) (fun i _ => N + 1 - (intOf i).toNat)
  case atStart => exact ⟨0, Nat.zero_le _, rfl, h2'.out⟩
  case round =>
    obtain ⟨k, hk, rfl, hst⟩ := hrel
    by_cases hlt : k ≤ N
    · have hput := Lib.hid (ownW hst fun A hA h => rwPut (l' := List.replicate (k + 1) V) hT.out hst.bel (rep_u64 hVl k) (by simp; omega) hVl (by rw [List.replicate_succ']) A hA h)
      clear hst h2'
      go_wp2_with fail
      refine hput.out.mono ?_
      rintro x w5 ⟨rfl, h5⟩
      replace h5 := Lib.hid h5
      clear hput
      go_wp2_with fail
      go_roundw
      case rel => exact ⟨k + 1, by omega, by go_num, h5.out⟩
      case measure => simp [intOf]; omega
    · obtain rfl : k = N + 1 := by omega
      have hl := Lib.hid (rwLen1 hst (puts_same V N).1)
      have hb : Hid (Below w.heap.size w wr) := Lib.hid hst.bel
      clear hst h2'
      go_wp2_with fail
      refine hl.out.mono ?_
      rintro x w5 ⟨rfl, rfl⟩
      clear hl
      go_wp2_with fail
      go_ret
      exact ⟨rfl, hb.out⟩

/-! ### XorWindow -/
theorem win_len (V A D : Nat) (hA : A ≠ 0) (ht : tail A = 0) (hD : D < 2 ^ (64 - lead A)) :
    (putsB newC [V, V ^^^ A]).length = 141 - lead A ∧ (putsB newC [V, V ^^^ A, V ^^^ A ^^^ D]).length = 141 - lead A + if D = 0 then 1 else 66 - lead A := by
  have hl := lead_le A
  obtain ⟨h1, h2⟩ := put_two (v := V) hA ht
  have h3 := put_three (V := V ^^^ A) (l := lead A) hl hD
  have e0 : putsC newC [V] = ⟨true, V, false, 0, 0⟩ := rfl
  have l0 : (putsB newC [V]).length = 64 := by simp [putsB, put_one, bitsOf_len]
  have e1 : putsC newC [V, V ^^^ A] = ⟨true, V ^^^ A, true, lead A, 0⟩ := by
    rw [show [V, V ^^^ A] = [V] ++ [V ^^^ A] from rfl, putsC_snoc, e0, h2]
  have l1 : (putsB newC [V, V ^^^ A]).length = 141 - lead A := by
    rw [show [V, V ^^^ A] = [V] ++ [V ^^^ A] from rfl, putsB_snoc, List.length_append, l0, e0, h1]
    omega
  refine ⟨l1, ?_⟩
  rw [show [V, V ^^^ A, V ^^^ A ^^^ D] = [V, V ^^^ A] ++ [V ^^^ A ^^^ D] from rfl, putsB_snoc, List.length_append, l1, e1, h3]
theorem or_int (a b : Nat) (ha : a < 18446744073709551616) (hb : b < 18446744073709551616) : bits .or .u64 (a : Int) (b : Int) = ((a ||| b : Nat) : Int) := bits_or_u64_nat a b ha hb
set_option maxRecDepth 100000 in
set_option maxHeartbeats 3200000 in
theorem window_true (v a b : Int) (hv0 : 0 ≤ v) (hv1 : v ≤ 18446744073709551615) (ha0 : 0 ≤ a) (ha1 : a ≤ 18446744073709551615) (hb0 : 0 ≤ b) (hb1 : b ≤ 18446744073709551615) (w : World) (hT : Tab w) :
    Calls Tryd.prog 7 #[.int .u64 v, .int .u64 a, .int .u64 b] w fun e w' => e = .returned (.bool true) ∧ Below w.heap.size w w' := by
  obtain ⟨V, rfl⟩ := Int.eq_ofNat_of_zero_le hv0
  obtain ⟨a, rfl⟩ := Int.eq_ofNat_of_zero_le ha0
  obtain ⟨b, rfl⟩ := Int.eq_ofNat_of_zero_le hb0
  have hVl : V < 18446744073709551616 := by omega
  have hbl : b < 18446744073709551616 := by omega
  have ha : a < 18446744073709551616 := by omega
  obtain ⟨hAl, hA23, hAt, hA0⟩ := big_or (a := a) ha
  have o1 := or_int a (2 ^ 40) ha (by decide)
  have o2 := or_int (a ||| 2 ^ 40) 1 (Nat.or_lt_two_pow (n := 64) ha (by decide)) (by decide)
  rw [← o1] at o2
  have o3 : bits .or .u64 (bits .or .u64 (a : Int) 1099511627776) 1 = ((a ||| 2 ^ 40 ||| 1 : Nat) : Int) := o2
  clear o1 o2
  generalize a ||| 2 ^ 40 ||| 1 = A at *
  replace hAl : A < 18446744073709551616 := hAl
  have hXl : V ^^^ A < 18446744073709551616 := xor_lt hVl hAl
  have x1 := xor_int V A hVl hAl
  obtain ⟨D, hD⟩ : ∃ D, D = b / 2 ^ lead A := ⟨_, rfl⟩
  have hDl : D < 2 ^ (64 - lead A) := by
    rw [hD, Nat.div_lt_iff_lt_mul (Nat.two_pow_pos _), ← Nat.pow_add, show 64 - lead A + lead A = 64 by omega]
    exact hbl
  have hD64 : D < 18446744073709551616 := by rw [hD]; exact Nat.lt_of_le_of_lt (Nat.div_le_self _ _) hbl
  have x2 := xor_int (V ^^^ A) D hXl hD64
  have x3 : (b : Int) / 2 ^ lead A = (D : Int) := by rw [hD]; exact int_div_pow b (lead A)
  obtain ⟨l2, l3⟩ := win_len V A D hA0 hAt hDl
  have hYl : V ^^^ A ^^^ D < 18446744073709551616 := xor_lt hXl hD64
  have u0 : U64 [] := fun v hv => by simp at hv
  have u1 : U64 [V] := u0.snoc hVl
  have u2 : U64 [V, V ^^^ A] := u1.snoc hXl
  have hwk := Lib.hid (works_true w hT)
  replace hT := Lib.hid hT
  replace u0 := Lib.hid u0
  replace u1 := Lib.hid u1
  replace u2 := Lib.hid u2
  replace l2 := Lib.hid l2
  replace l3 := Lib.hid l3
  replace x2 := Lib.hid x2
  replace x3 := Lib.hid x3
  have hAl2 := Lib.hid hAl
  clear hv0 hv1 ha0 ha1 hb0 hb1 ha hA0 hAt hD hDl hbl
  go_enter Tryd.func7, Tryd.ntmps7
  go_wp2_with fail
  refine hwk.out.mono ?_
  rintro x w0 ⟨rfl, hb0⟩
  replace hb0 := Lib.hid hb0
  clear hwk
  go_wp2_with fail
  refine (new_any w0).mono ?_
  intro x w1 hx
  obtain ⟨q, rfl, h1⟩ := CMade.own hb0.out hx
  replace h1 := Lib.hid h1
  clear hx hb0
  go_wp2_with fail
  refine (newWriter_any w1).mono ?_
  intro x w2 hx
  obtain ⟨p, rfl, h2⟩ := WMade.beside (objCd _ _) h1.out hx
  have h2' : Hid (Own (RW q p []) w w2) := Lib.hid h2
  clear hx h1 h2
  go_wp2_with fail
  refine (ownW h2'.out fun A hA h => rwPut (l' := [V]) hT.out h2'.out.bel u0.out (by simp) hVl rfl A hA h).mono ?_
  rintro x w3 ⟨rfl, h3⟩
  replace h3 := Lib.hid h3
  clear h2'
  go_wp2_with fail
  refine (ownW h3.out fun Z hA h => rwPut (l' := [V, V ^^^ A]) hT.out h3.out.bel u1.out (by simp) hXl rfl Z hA h).mono ?_
  rintro x w4 ⟨rfl, h4⟩
  replace h4 := Lib.hid h4
  clear h3
  go_wp2_with fail
  go_loopw [9] (fun i wr => ∃ n : Nat, n ≤ 31 ∧ i = .int .i64 (n : Int) ∧ (∀ i, i < n → A / 2 ^ (63 - i) = 0) ∧ w4 = wr) (fun i _ => 31 - (intOf i).toNat)
  case atStart => exact ⟨0, Nat.zero_le _, rfl, fun i hi => absurd hi (Nat.not_lt_zero _), rfl⟩
  case round =>
    obtain ⟨n, hn, rfl, hall, rfl⟩ := hrel
    replace hall := Lib.hid hall
    have hs : IntKind.i64.wrap (63 - (n : Int)) = ((63 - n : Nat) : Int) := by rw [IntWalk.i64_in _ (by omega)]; omega
    have hdiv := int_div_pow A (63 - n)
    by_cases hgo : n < 31 ∧ A / 2 ^ (63 - n) = 0
    · obtain ⟨hlt, hz⟩ := hgo
      have hb : ((A : Int) / 2 ^ (63 - n) == 0) = true := by rw [hdiv, hz]; rfl
      have hnext : Hid (∀ i, i < n + 1 → A / 2 ^ (63 - i) = 0) := Lib.hid fun i hi => by
        by_cases e : i = n
        · rw [e]; exact hz
        · exact hall.out i (by omega)
      clear hdiv hz
      go_wp2_with fail
      refine ⟨⟨n + 1, by omega, by go_num, hnext.out, trivial⟩, ?_⟩
      simp [intOf]; omega
    · have hlt : n < 31 := by
        by_cases h : n < 31
        · exact h
        · obtain rfl : n = 31 := by omega
          have := lead_is (d := A) (Nat.le_refl _) hall.out (.inl rfl)
          omega
      have hz : A / 2 ^ (63 - n) ≠ 0 := fun h => hgo ⟨hlt, h⟩
      have hb : ((A : Int) / 2 ^ (63 - n) == 0) = false := by
        rw [hdiv, beq_eq_false_iff_ne]
        exact fun e => hz (by exact_mod_cast e)
      have he : Xr.lead A = n := lead_is hn hall.out (.inr hz)
      clear hall hgo
      rw [he] at l2 l3 x3 hA23
      have hL := Lib.hid (rwLen1 h4.out l2.out)
      have hi : (141 : Int) - (n : Int) = ((141 - n : Nat) : Int) := by omega
      have hx2 := x2.out
      have hx3 := x3.out
      have hput := Lib.hid (ownW h4.out fun Z hA h => rwPut (l' := [V, V ^^^ A, V ^^^ A ^^^ D]) hT.out h4.out.bel u2.out (by simp) hYl rfl Z hA h)
      clear h4 he hdiv hz
      go_wp2_with fail
      refine hL.out.mono ?_
      rintro x w5 ⟨rfl, rfl⟩
      clear hL
      go_wp2_with fail
      refine hput.out.mono ?_
      rintro x w6 ⟨rfl, h6⟩
      clear hput
      by_cases hD0 : D = 0
      · have l3' := l3.out
        rw [if_pos hD0] at l3'
        have hL := Lib.hid (rwLen1 h6 l3')
        have hd0 : ((D : Int) == 0) = true := by rw [hD0]; rfl
        have hb6 := Lib.hid h6.bel
        clear h6 l3' l3 hx2 hx3 x1 o3
        go_wp2_with fail
        refine hL.out.mono ?_
        rintro x w7 ⟨rfl, rfl⟩
        clear hL
        go_wp2_with fail
        go_ret
        exact ⟨by congr 2; first | done | rfl | (simp; omega) | (rw [decide_eq_true]; omega), hb6.out⟩
      · have l3' := l3.out
        rw [if_neg hD0] at l3'
        have hL := Lib.hid (rwLen1 h6 l3')
        have hd0 : ((D : Int) == 0) = false := by rw [beq_eq_false_iff_ne]; omega
        have hb6 := Lib.hid h6.bel
        clear h6 l3' l3 hx2 hx3 x1 o3
        go_wp2_with fail
        refine hL.out.mono ?_
        rintro x w7 ⟨rfl, rfl⟩
        clear hL
        go_wp2_with fail
        go_ret
        exact ⟨by congr 2; first | done | rfl | (simp; omega) | (rw [decide_eq_true]; omega), hb6.out⟩
end Xr
end Go.Proofs.YtiimdinefkbhlaaDoor
