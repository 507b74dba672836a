/- The law DiskFuse (layer 4), walked: of a row of writes the first ones go, as many as the fuse lets. -/
import Derived.Test.YtfpphahdbhelcaaDiskWorks
namespace Go.Proofs.Ytfpphahdbhelcaa
open Go.RowKit
namespace Dsk
open Go.Maps

/-- The disk behind k writes. -/
def fz (n : Nat) : Nat → St
  | 0 => fuse (new 1000) (n : Int)
  | k + 1 => appS (fz n k) [97] [120]
def okA (n k : Nat) : Bool := decide (appE (fz n k) [97] [120] = if k < n then 0 else 11) && decide (used (fz n k) ≤ 100) && (fz n k).F.all (fun f => decide (f.s.length ≤ 100)) && decide ((fz n k).C.length ≤ 100) && ((fz n k).dead == decide (n < k))
def okB (n k : Nat) : Bool := (crash (fz n k) [1, 999]).dead == false && decide (appE (crash (fz n k) [1, 999]) [97] [120] = 0) && decide (used (crash (fz n k) [1, 999]) ≤ 100) && (crash (fz n k) [1, 999]).F.all (fun f => decide (f.s.length ≤ 100)) && decide ((crash (fz n k) [1, 999]).C.length ≤ 100)
set_option maxRecDepth 1000000 in
theorem fz_A : ∀ n < 30, ∀ k < 41, okA n k = true := by decide +kernel
set_option maxRecDepth 1000000 in
theorem fz_B : ∀ n < 30, ∀ k < 41, okB n k = true := by decide +kernel

theorem fzA {n k : Nat} (hn : n < 30) (hk : k < 41) : appE (fz n k) [97] [120] = (if k < n then 0 else 11) ∧ Small (fz n k) 1 ∧ (fz n k).dead = decide (n < k) := by
  have h := fz_A n hn k hk
  unfold okA at h
  simp only [Bool.and_eq_true, decide_eq_true_eq, List.all_eq_true, beq_iff_eq] at h
  obtain ⟨⟨⟨⟨h1, h2⟩, h3⟩, h4⟩, h5⟩ := h
  exact ⟨h1, ⟨by omega, fun f hf => by have := h3 f hf; omega, by omega, by omega⟩, h5⟩
theorem Small.zero {st : St} {z : Nat} (h : Small st z) : Small st 0 := ⟨by have := h.used; omega, fun f hf => by have := h.file f hf; omega, h.chs, by omega⟩
theorem fzB {n k : Nat} (hn : n < 30) (hk : k < 41) : (crash (fz n k) [1, 999]).dead = false ∧ appE (crash (fz n k) [1, 999]) [97] [120] = 0 ∧ Small (crash (fz n k) [1, 999]) 1 := by
  have h := fz_B n hn k hk
  unfold okB at h
  simp only [Bool.and_eq_true, decide_eq_true_eq, List.all_eq_true, beq_iff_eq] at h
  obtain ⟨⟨⟨⟨h1, h2⟩, h3⟩, h4⟩, h5⟩ := h
  exact ⟨h1, h2, ⟨by omega, fun f hf => by have := h4 f hf; omega, by omega, by omega⟩⟩

set_option maxHeartbeats 4000000 in
set_option maxRecDepth 100000 in
theorem fuse_true (n m : Int) (_n0 : -9223372036854775808 ≤ n) (_n1 : n ≤ 9223372036854775807) (_m0 : -9223372036854775808 ≤ m) (_m1 : m ≤ 9223372036854775807) (w : World) :
    Calls Try.prog 5 #[.int .i64 n, .int .i64 m] w (Yes w) := by
  have sz : ∀ n : UInt8, (⟨#[n]⟩ : ByteArray).size ≤ maxLen := fun n => by unfold maxLen; simp [ByteArray.size]
  replace sz := Lib.hid sz
  have ha : IntKind.u64.wrap n = n % 18446744073709551616 := by rw [IntKind.wrap_u64]
  have hb : IntKind.u64.wrap m = m % 18446744073709551616 := by rw [IntKind.wrap_u64]
  have ha0 : 0 ≤ n % 18446744073709551616 := Int.emod_nonneg _ (by decide)
  have hb0 : 0 ≤ m % 18446744073709551616 := Int.emod_nonneg _ (by decide)
  obtain ⟨N, hN⟩ : ∃ N : Nat, n % 18446744073709551616 % 30 = (N : Int) := ⟨(n % 18446744073709551616 % 30).toNat, by omega⟩
  obtain ⟨M, hM⟩ : ∃ M : Nat, m % 18446744073709551616 % 40 = (M : Int) := ⟨(m % 18446744073709551616 % 40).toNat, by omega⟩
  have hN2 : N < 30 := by omega
  have hM2 : M < 40 := by omega
  have HN := Lib.hid hN
  have HM := Lib.hid hM
  clear hN hM
  go_enter Try.func5, Try.ntmps5
  go_wp2_with fail
  refine (works_true w).mono ?_
  rintro e w0 ⟨rfl, hb0'⟩
  replace hb0' := Lib.hid hb0'
  go_wp2_with fail
  refine (new_any 1000 ⟨by omega, by omega⟩ w0).mono ?_
  intro e w1 hm
  obtain ⟨p, rfl, h0⟩ := Own.made hb0'.out hm
  replace h0 := Lib.hid h0
  clear hm hb0'
  rw [HN.out, HM.out]
  clear ha hb ha0 hb0 HN HM
  go_wp2_with fail
  refine (h0.out.fuse (N : Int) (by omega)).mono ?_
  rintro e w2 ⟨rfl, h2⟩
  replace h2 := Lib.hid (show Own w p (fz N 0) w2 from h2)
  clear h0
  go_wp2_with fail
  go_loopw [6] (fun i wr => ∃ k : Nat, k ≤ M ∧ i = .int .i64 (k : Int) ∧ Own w p (fz N k) wr) (fun i _ => M - (intOf i).toNat)
  case atStart => exact ⟨0, Nat.zero_le _, rfl, h2.out⟩
  case round =>
    obtain ⟨k, hk, rfl, hown⟩ := hrel
    replace hown := Lib.hid hown
    by_cases hlt : k < M
    · obtain ⟨he, hs, _⟩ := fzA hN2 (show k < 41 by omega)
      have hc := hown.out.append ⟨#[97]⟩ ⟨#[120]⟩ (sz.out _) hs
      rw [show (⟨#[97]⟩ : ByteArray).data.toList = [97] from rfl, show (⟨#[120]⟩ : ByteArray).data.toList = [120] from rfl, he] at hc
      clear he hs
      by_cases hkn : k < N
      · rw [if_pos hkn] at hc
        replace hc := Lib.hid hc
        have hd : decide ((k : Int) < (N : Int)) = true := decide_eq_true (by omega)
        go_wp2_with fail
        refine hc.out.mono ?_
        rintro e w3 ⟨rfl, h3⟩
        replace h3 := Lib.hid (show Own w p (fz N (k + 1)) w3 from h3)
        clear hc
        go_wp2
        go_roundw
        case rel => exact ⟨k + 1, by omega, by go_num, h3.out⟩
        case measure => simp [intOf]; omega
      · rw [if_neg hkn] at hc
        replace hc := Lib.hid hc
        have hd : decide ((k : Int) < (N : Int)) = false := decide_eq_false (by omega)
        go_wp2_with fail
        refine hc.out.mono ?_
        rintro e w3 ⟨rfl, h3⟩
        replace h3 := Lib.hid (show Own w p (fz N (k + 1)) w3 from h3)
        clear hc
        go_wp2
        go_roundw
        case rel => exact ⟨k + 1, by omega, by go_num, h3.out⟩
        case measure => simp [intOf]; omega
    · obtain rfl : k = M := by omega
      obtain ⟨_, hs, hdd⟩ := fzA hN2 (show k < 41 by omega)
      have hup := hown.out.up
      rw [hdd] at hup
      have hcr := Lib.hid (hown.out.crash2 1 999 (by omega) (by omega) hs.zero)
      obtain ⟨c1, c2, c3⟩ := fzB hN2 (show k < 41 by omega)
      have C1 := Lib.hid c1
      have C2 := Lib.hid c2
      clear hs hdd c1 c2
      by_cases hnk : N < k
      · rw [decide_eq_true hnk] at hup
        replace hup := Lib.hid hup
        have hd : decide (k ≤ N) = false := decide_eq_false (by omega)
        go_wp2_with fail
        refine hup.out.mono ?_
        rintro e w3 ⟨rfl, rfl⟩
        go_wp2_with fail
        refine hcr.out.mono ?_
        rintro e w4 ⟨rfl, h4⟩
        have hup2 := h4.up
        rw [C1.out] at hup2
        have hap := h4.append ⟨#[97]⟩ ⟨#[120]⟩ (sz.out _) c3
        rw [show (⟨#[97]⟩ : ByteArray).data.toList = [97] from rfl, show (⟨#[120]⟩ : ByteArray).data.toList = [120] from rfl, C2.out] at hap
        replace hup2 := Lib.hid hup2
        replace hap := Lib.hid hap
        clear h4 hup hcr
        go_wp2_with fail
        refine hup2.out.mono ?_
        rintro e w5 ⟨rfl, rfl⟩
        go_wp2_with fail
        refine hap.out.mono ?_
        rintro e w5 ⟨rfl, h5⟩
        replace h5 := Lib.hid h5
        go_wp2
        go_ret
        exact ⟨rfl, h5.out.below⟩
      · rw [decide_eq_false hnk] at hup
        replace hup := Lib.hid hup
        have hd : decide (k ≤ N) = true := decide_eq_true (by omega)
        go_wp2_with fail
        refine hup.out.mono ?_
        rintro e w3 ⟨rfl, rfl⟩
        go_wp2_with fail
        refine hcr.out.mono ?_
        rintro e w4 ⟨rfl, h4⟩
        have hup2 := h4.up
        rw [C1.out] at hup2
        have hap := h4.append ⟨#[97]⟩ ⟨#[120]⟩ (sz.out _) c3
        rw [show (⟨#[97]⟩ : ByteArray).data.toList = [97] from rfl, show (⟨#[120]⟩ : ByteArray).data.toList = [120] from rfl, C2.out] at hap
        replace hup2 := Lib.hid hup2
        replace hap := Lib.hid hap
        clear h4 hup hcr
        go_wp2_with fail
        refine hup2.out.mono ?_
        rintro e w5 ⟨rfl, rfl⟩
        go_wp2_with fail
        refine hap.out.mono ?_
        rintro e w5 ⟨rfl, h5⟩
        replace h5 := Lib.hid h5
        go_wp2
        go_ret
        exact ⟨rfl, h5.out.below⟩
end Dsk
end Go.Proofs.Ytfpphahdbhelcaa
