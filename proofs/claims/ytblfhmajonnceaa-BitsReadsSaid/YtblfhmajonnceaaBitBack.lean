/- BitsBack, walked: numbers that are written are read again. -/
import Derived.Test.YtblfhmajonnceaaBitFill
import Derived.Test.YtblfhmajonnceaaArgNums
namespace Go.Proofs.Ytblfhmajonnceaa
open Go.RowKit
namespace Bit
open Dsk Ob Arg
set_option linter.unusedVariables false

/-- The count of bits that the statement makes of a number. -/
def mm (n : Int) : Nat := (n % 18446744073709551616 % 65).toNat
theorem mm_le (n : Int) : mm n ≤ 64 := by unfold mm; omega
theorem mm_go (n : Int) : wrap64 ((IntKind.u64.wrap n).tmod 65) = (mm n : Int) := by
  rw [IntKind.wrap_u64, Int.tmod_eq_emod_of_nonneg (by omega), IntWalk.wrap64_in _ (by omega)]
  unfold mm; omega
def opL (ps : List (Int × Int)) : List Bool := ps.flatMap fun p => bitsOf p.1.toNat (mm p.2)
theorem opL_snoc (ps : List (Int × Int)) (k : Nat) (h : k < ps.length) : opL (ps.take (k + 1)) = opL (ps.take k) ++ bitsOf ps[k].1.toNat (mm ps[k].2) := by
  rw [List.take_succ_eq_append_getElem h]
  unfold opL
  rw [List.flatMap_append]
  simp
theorem opL_le (ps : List (Int × Int)) (k : Nat) : (opL (ps.take k)).length ≤ 64 * k := by
  induction k with
  | zero => simp [opL]
  | succ k ih =>
    by_cases h : k < ps.length
    · rw [opL_snoc ps k h, List.length_append, bitsOf_length]
      have := mm_le ps[k].2
      omega
    · rw [List.take_of_length_le (by omega)] at ih ⊢
      omega
/-- What is read behind k numbers is the next one. -/
theorem opL_read (ps : List (Int × Int)) (k K : Nat) (h : k < ps.length) (hK : k < K) :
    bitsAt (pack (opL (ps.take K))) (opL (ps.take k)).length (mm ps[k].2) = bitsOf ps[k].1.toNat (mm ps[k].2) ∧ (opL (ps.take k)).length + mm ps[k].2 = (opL (ps.take (k + 1))).length ∧ (opL (ps.take (k + 1))).length ≤ (opL (ps.take K)).length := by
  have hs := opL_snoc ps k h
  have hlen : (opL (ps.take k)).length + mm ps[k].2 = (opL (ps.take (k + 1))).length := by rw [hs, List.length_append, bitsOf_length]
  have hsplit : ∃ R, opL (ps.take K) = opL (ps.take (k + 1)) ++ R := by
    refine ⟨opL ((ps.take K).drop (k + 1)), ?_⟩
    unfold opL
    rw [← List.flatMap_append]
    congr 1
    have e : ps.take (k + 1) = (ps.take K).take (k + 1) := by rw [List.take_take, Nat.min_eq_left (by omega)]
    rw [e, List.take_append_drop]
  obtain ⟨R, hR⟩ := hsplit
  have hle : (opL (ps.take (k + 1))).length ≤ (opL (ps.take K)).length := by rw [hR, List.length_append]; omega
  refine ⟨?_, hlen, hle⟩
  rw [bitsAt_pack _ _ _ (by omega), hR, hs, List.append_assoc, List.drop_left, List.take_left' (bitsOf_length _ _)]

theorem two_pow_u64 {M : Nat} (h : M < 64) : IntKind.u64.wrap ((2 : Int) ^ M) = 2 ^ M := by
  have h1 : 2 ^ M ≤ 2 ^ 63 := Nat.pow_le_pow_right (by decide) (by omega)
  have e : ((2 : Int) ^ M) = ((2 ^ M : Nat) : Int) := by simp
  rw [e]
  clear e
  generalize 2 ^ M = p at *
  rw [IntKind.wrap_u64]; omega
theorem OwnR.left0 {w0 w : World} {q : Nat} {s : ByteArray} {a e n : Nat} (h : OwnR w0 q s a e w) (hn : e - a = n) :
    Calls Try.prog 17 #[.pointer (some ⟨q, 0, none⟩)] w fun y w' => y = .returned (.int .i64 (n : Int)) ∧ OwnR w0 q s a e w' := by
  subst hn
  obtain ⟨S, h1, h2⟩ := h.get
  refine (left_any S q s a e w h1).mono ?_
  rintro x w' ⟨rfl, k, rfl⟩
  exact ⟨rfl, h.upon0 (objR _ _ _ _) (upon_drewN _ _ _)⟩
theorem back_text (L : List Bool) : ∃ s : ByteArray, (⟨(pack L).toArray⟩ : ByteArray) = s ∧ s.data.toList = pack L ∧ s.size = nb L.length ∧ ends s (L.length : Int) = L.length := by
  refine ⟨_, rfl, rfl, ?_, ?_⟩
  · show (pack L).toArray.size = _
    rw [List.size_toArray, pack_length]
  · have e : (⟨(pack L).toArray⟩ : ByteArray).size = nb L.length := by
      show (pack L).toArray.size = _
      rw [List.size_toArray, pack_length]
    unfold ends; rw [e]; unfold nb; omega
def backK (ps : List (Int × Int)) : Nat := min ps.length 100

set_option maxRecDepth 100000 in
set_option maxHeartbeats 3200000 in
theorem back_any (ps : List (Int × Int)) (A : Option Addr) (c : Nat) (hmax : ps.length ≤ maxLen) (w : World) (hp : PairsAt .u64 .i64 ps A w) :
    Calls Try.prog 5 #[.slice A ps.length c] w fun e w' => e = .returned (.bool true) ∧ Below w.heap.size w w' := by
  replace hmax : ps.length ≤ 9223372036854775807 := by unfold maxLen at hmax; omega
  replace hp := Lib.hid hp
  go_enter Try.func5, Try.ntmps5
  go_wp2_with fail
  refine (works_true w).mono ?_
  rintro x w1 ⟨rfl, hb⟩
  replace hb := Lib.hid hb
  go_wp2_with fail
  refine (newWriter_any w1).mono ?_
  intro x w2 hx
  obtain ⟨q, rfl, h1⟩ := WMade.own hb.out hx
  clear hx hb
  replace h1 := Lib.hid h1
  go_wp2_with fail
  go_loopw [4, 5] (fun sum i wr => ∃ k : Nat, k ≤ backK ps ∧ i = .int .i64 k ∧ sum = .int .i64 ((opL (ps.take k)).length : Int) ∧ OwnW w q (opL (ps.take k)) wr) (fun _ i _ => ps.length - (intOf i).toNat)
  case atStart => exact ⟨0, Nat.zero_le _, rfl, rfl, h1.out⟩
  case round =>
    obtain ⟨k, hk, rfl, rfl, hst⟩ := hrel
    have hbk : backK ps = min ps.length 100 := rfl
    by_cases hlt : k < ps.length ∧ k < 100
    · obtain ⟨hlt, hlt2⟩ := hlt
      obtain ⟨b, off, rfl, _, hall⟩ := (hp.out.below hst.bel) (by omega)
      obtain ⟨c0, c1, w0, w1'⟩ := hall k hlt
      clear hall hbk
      have hsn := Lib.hid (opL_snoc ps k hlt)
      have hle := opL_le ps k
      have hml := mm_le ps[k].2
      have hmg := mm_go ps[k].2
      obtain ⟨V, hV⟩ := Int.eq_ofNat_of_zero_le (wf_u64 w0).1
      have hVl : V < 18446744073709551616 := by have := (wf_u64 w0).2; omega
      have hVn : ps[k].1.toNat = V := by omega
      have hsn' : Hid (opL (ps.take k) ++ bitsOf V (cnt (mm ps[k].2 : Nat)) = opL (ps.take (k + 1))) := Lib.hid (by
        rw [hsn.out, hVn, cnt_in hml])
      rw [hV] at c0
      clear hsn hV hVn w0 w1'
      replace hst := Lib.hid hst
      have hput := Lib.hid (OwnW.put hst.out V (mm ps[k].2 : Nat) (by omega) hVl hsn'.out)
      have hln : Hid ((opL (ps.take (k + 1))).length = (opL (ps.take k)).length + mm ps[k].2) := Lib.hid (by rw [← hsn'.out, List.length_append, bitsOf_length, cnt_in hml])
      generalize mm ps[k].2 = M at *
      clear hst hsn' hVl
      go_wp2_with fail
      refine hput.out.mono ?_
      rintro x w3 ⟨rfl, h3⟩
      replace h3 := Lib.hid h3
      clear hput c0 c1
      go_wp2_with fail
      go_roundw
      case rel => exact ⟨k + 1, by unfold backK; omega, by go_num, by rw [hln.out]; first | rfl | go_num, h3.out⟩
      case measure => simp [intOf]; omega
    · obtain rfl : k = backK ps := by rw [hbk] at hk ⊢; omega
      have hL := opL_le ps (backK ps)
      have hL2 : (opL (ps.take (backK ps))).length ≤ 6400 := by omega
      clear h1 hL
      have hcond : decide (backK ps < ps.length) = false ∨ (decide (backK ps < ps.length) = true ∧ decide ((backK ps : Int) < 100) = false) := by
        rw [hbk]
        by_cases h : ps.length ≤ 100
        · left; simp; omega
        · right; simp; omega
      replace hst := Lib.hid hst
      have hbk2 := Lib.hid hbk
      clear hbk hlt hk
      generalize backK ps = K at *
      obtain ⟨L, hLe⟩ : ∃ L, L = opL (ps.take K) := ⟨_, rfl⟩
      rw [← hLe] at hst hL2 ⊢
      replace hLe := Lib.hid hLe
      rcases hcond with hc1 | ⟨hc1, hc2⟩
      all_goals
        go_wp2_with fail
        refine (OwnW.len hst.out (n := L.length) rfl).mono ?_
        rintro x w3 ⟨rfl, rfl⟩
        go_wp2_with fail
        obtain ⟨s, hs, hsd, hsz, hend⟩ := back_text L
        replace hsd := Lib.hid hsd
        replace hend := Lib.hid hend
        have hsz2 : (s.size : Int) = ((L.length : Int) + 7) / 8 := by unfold nb at hsz; omega
        have hs6 : s.size ≤ 801 := by unfold nb at hsz; omega
        replace hsz := Lib.hid hsz
        refine (OwnW.text hst.out hs).mono ?_
        rintro x w3 ⟨rfl, rfl⟩
        clear hs
        go_wp2_with fail
        clear hsz2
        refine (OwnW.text hst.out (s := s) (by rw [← hsd.out])).mono ?_
        rintro x w3 ⟨rfl, rfl⟩
        go_wp2_with fail
        refine (OwnW.len hst.out (n := L.length) rfl).mono ?_
        rintro x w3 ⟨rfl, rfl⟩
        go_wp2_with fail
        refine (newReader_any s (L.length : Int) (by omega) (by omega) wr).mono ?_
        intro x w4 hx
        rw [hend.out] at hx
        obtain ⟨p, rfl, h4⟩ := RMade.own hst.out.bel hx
        clear hx hst
        replace h4 := Lib.hid h4
        go_wp2_with fail
        clear hc1
        try clear hc2
        go_loopw [8] (fun i wr => ∃ k : Nat, k ≤ K ∧ i = .int .i64 k ∧ OwnR w p s (opL (ps.take k)).length L.length wr) (fun i _ => K - (intOf i).toNat)
        case atStart => exact ⟨0, Nat.zero_le _, rfl, h4.out⟩
        case round =>
          obtain ⟨k, hk, rfl, hst⟩ := hrel
          by_cases hlt : k < K
          · have hps : k < ps.length ∧ k < 100 := by have := hbk2.out; omega
            obtain ⟨hlt1, hlt2⟩ := hps
            obtain ⟨b, off, rfl, hbw, hall⟩ := hp.out (by omega)
            obtain ⟨cw0, cw1, w0, w1'⟩ := hall k hlt1
            have c1 := (hst.bel.cell (p := ⟨b, off + k * 2 + 1, none⟩) hbw).trans cw1
            clear hall cw1
            obtain ⟨r1, r2, r3⟩ := opL_read ps k K hlt1 hlt
            rw [← hLe.out, ← hsd.out] at r1
            rw [← hLe.out] at r3
            have hml := mm_le ps[k].2
            have hmg := mm_go ps[k].2
            obtain ⟨V, hV⟩ := Int.eq_ofNat_of_zero_le (wf_u64 w0).1
            have hVl : V < 18446744073709551616 := by have := (wf_u64 w0).2; omega
            have hVn : ps[k].1.toNat = V := by omega
            rw [hV] at cw0
            rw [hVn] at r1
            replace cw0 := Lib.hid cw0
            have hget := Lib.hid (OwnR.get_ok hst (mm ps[k].2) hml (by omega) (x := V % 2 ^ mm ps[k].2) (by rw [r1, numOf_bitsOf]) r2)
            clear hst r1 r2 r3 hV hVn w0 w1'
            generalize mm ps[k].2 = M at *
            by_cases hM : M < 64
            · go_wp2_with fail
              refine hget.out.mono ?_
              rintro x w5 ⟨rfl, h5⟩
              replace h5 := Lib.hid h5
              clear hget
              have c0 := (h5.out.bel.cell (p := ⟨b, off + k * 2, none⟩) hbw).trans cw0.out
              clear cw0
              have g1 : IntKind.u64.wrap ((2 : Int) ^ M) = 2 ^ M := two_pow_u64 hM
              have g0 : ¬ ((2 : Int) ^ M = 0) := Int.ne_of_gt (Int.pow_pos (by decide))
              go_wp2_with fail
              go_roundw
              case rel => exact ⟨k + 1, by omega, by go_num, h5.out⟩
              case measure => simp [intOf]; omega
            · obtain rfl : M = 64 := by omega
              rw [Nat.mod_eq_of_lt (show V < 2 ^ 64 by omega)] at hget
              go_wp2_with fail
              refine hget.out.mono ?_
              rintro x w5 ⟨rfl, h5⟩
              replace h5 := Lib.hid h5
              clear hget
              have c0 := (h5.out.bel.cell (p := ⟨b, off + k * 2, none⟩) hbw).trans cw0.out
              clear cw0
              go_wp2_with fail
              go_roundw
              case rel => exact ⟨k + 1, by omega, by go_num, h5.out⟩
              case measure => simp [intOf]; omega
          · obtain rfl : k = K := by omega
            rw [← hLe.out] at hst
            replace hst := Lib.hid hst
            have hleft := Lib.hid (OwnR.left0 hst.out (n := 0) (Nat.sub_self _))
            have hcond : decide (k < ps.length) = false ∨ (decide (k < ps.length) = true ∧ decide ((k : Int) < 100) = false) := by
              have hbk := hbk2.out
              by_cases h : ps.length ≤ 100
              · left; simp; omega
              · right; simp; omega
            rcases hcond with hc1 | ⟨hc1, hc2⟩
            all_goals
              go_wp2_with fail
              refine hleft.out.mono ?_
              rintro x w5 ⟨rfl, h5⟩
              replace h5 := Lib.hid h5
              go_wp2_with fail
              go_ret
              exact ⟨rfl, h5.out.bel⟩
theorem back_true (w : World) (v : Value) (hv : IsPairs .u64 .i64 v w) :
    Calls Try.prog 5 #[v] w fun e w' => e = .returned (.bool true) ∧ Below w.heap.size w w' := by
  obtain ⟨ps, A, c, rfl, hm, hp⟩ := hv
  exact back_any ps A c hm w hp
theorem open_ops {H : Type} {enc : TypeId × Value → H} {W : World} {base : Nat} {v : Value} {d : DataW H} {p : List MemPlace} (hv : Value.okWide Try.prog W .any base 22 v)
    (h : DataW.Trod enc Try.prog W 0 (fun _ => true) true 22 v d p) : IsPairs .u64 .i64 v W :=
  open_pairs Try.underlying22 Try.underlying32 (by kernel_rfl) (by kernel_rfl) (by kernel_rfl) (by kernel_rfl) (by kernel_rfl) Try.underlying30 Try.underlying3 hv h
end Bit
end Go.Proofs.Ytblfhmajonnceaa
