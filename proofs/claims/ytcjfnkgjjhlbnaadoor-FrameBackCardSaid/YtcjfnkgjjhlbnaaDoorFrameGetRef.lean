/- What the document's own Get returns for frames: of any bytes the frame at their front, or an error. It leaves alone what was there before. Conditions: texts no longer than a text can be. -/
import Derived.Test.YtcjfnkgjjhlbnaaDoorFrameGet
namespace Go.Proofs.YtcjfnkgjjhlbnaaDoor
open Go.RowKit
namespace Frm
open Dig Crc

set_option maxHeartbeats 400000 in
theorem refgot_nothing (s : ByteArray) (he : s.toList.isEmpty = true) (w : World) :
    Calls Tryd.prog 11 #[.string s] w fun e w' => e = .returned (.tuple #[.agg #[.int .i64 0, .string ⟨#[]⟩], .int .i64 0, .int .i64 1]) ∧ Below w.heap.size w w' := by
  go_enter Tryd.func11, Tryd.ntmps11
  go_wp2
  go_returns
  exact ⟨rfl, by go_grown⟩
set_option maxHeartbeats 400000 in
theorem refgot_kind (s : ByteArray) (h0 : 0 < s.size) (he : s.toList.isEmpty = false) (hk : ((s[0].toNat : Int) == 0) = true) (w : World) :
    Calls Tryd.prog 11 #[.string s] w fun e w' => e = .returned (.tuple #[.agg #[.int .i64 0, .string ⟨#[]⟩], .int .i64 0, .int .i64 5]) ∧ Below w.heap.size w w' := by
  have hlt := s[0].toNat_lt
  go_enter Tryd.func11, Tryd.ntmps11
  go_wp2
  go_returns
  exact ⟨rfl, by go_grown⟩
set_option maxHeartbeats 400000 in
theorem refgot_text (s : ByteArray) (hs : s.size ≤ 140737488351232) (h0 : 0 < s.size) (he : s.toList.isEmpty = false) (hk : ((s[0].toNat : Int) == 0) = false) (x : Nat) (hx : ((x : Int) != 0) = true) (D : ByteArray) (m : Int)
    (hG : Hid (∀ w, Calls Tryd.prog 23 #[.string (s.extract 1 s.size), .int .i64 65536] w fun e w' => e = .returned (.tuple #[.string D, .int .i64 m, .int .i64 (x : Int)]) ∧ Below w.heap.size w w')) (w : World) :
    Calls Tryd.prog 11 #[.string s] w fun e w' => e = .returned (.tuple #[.agg #[.int .i64 0, .string ⟨#[]⟩], .int .i64 0, .int .i64 (x : Int)]) ∧ Below w.heap.size w w' := by
  have hlt := s[0].toNat_lt
  go_enter Tryd.func11, Tryd.ntmps11
  go_wp2_with fail
  refine (hG.out _).mono ?_
  rintro e w1 ⟨rfl, hb⟩
  obtain ⟨c0, c1, f0, f1, hz, hbel⟩ := box2 hb
  clear hb
  go_wp2
  obtain ⟨e0, e1, e2⟩ := set2 c0 c1
  refine bodyPost_ret (v := .tuple #[.agg #[.int .i64 0, .string ⟨#[]⟩], .int .i64 0, .int .i64 (x : Int)]) (by simp [results, Tryd.results11, go_sem, e0, e1]) rfl ⟨rfl, (hbel.setCell (Nat.le_refl _) _).setCell (Nat.le_refl _) _⟩
set_option maxHeartbeats 400000 in
theorem refgot_short (s : ByteArray) (hs : s.size ≤ 140737488351232) (h0 : 0 < s.size) (he : s.toList.isEmpty = false) (hk : ((s[0].toNat : Int) == 0) = false) (D : ByteArray) (m : Nat) (hm : m ≤ 140737488351232) (hl : s.size < 5 + m)
    (hG : Hid (∀ w, Calls Tryd.prog 23 #[.string (s.extract 1 s.size), .int .i64 65536] w fun e w' => e = .returned (.tuple #[.string D, .int .i64 (m : Int), .int .i64 0]) ∧ Below w.heap.size w w')) (w : World) :
    Calls Tryd.prog 11 #[.string s] w fun e w' => e = .returned (.tuple #[.agg #[.int .i64 0, .string ⟨#[]⟩], .int .i64 0, .int .i64 1]) ∧ Below w.heap.size w w' := by
  have hlt := s[0].toNat_lt
  go_enter Tryd.func11, Tryd.ntmps11
  go_wp2_with fail
  refine (hG.out _).mono ?_
  rintro e w1 ⟨rfl, hb⟩
  obtain ⟨c0, c1, f0, f1, hz, hbel⟩ := box2 hb
  clear hb
  go_wp2
  obtain ⟨e0, e1, e2⟩ := set2 c0 c1
  refine bodyPost_ret (v := .tuple #[.agg #[.int .i64 0, .string ⟨#[]⟩], .int .i64 0, .int .i64 1]) (by simp [results, Tryd.results11, go_sem, e0, e1]) rfl ⟨rfl, (hbel.setCell (Nat.le_refl _) _).setCell (Nat.le_refl _) _⟩
theorem refof_grown {w0 : World} (s : ByteArray) (hs : s.size ≤ 9223372036854775807) (d : Nat) (os : Array Obj) :
    Calls Tryd.prog 21 #[.string s] (Sort.grow (redrawn w0 d) os) fun e w' => e = .returned (.int .u32 (more 0 s.data.toList : Nat)) ∧ ∃ p : Regrown, w' = Sort.grow (redrawn w0 p.d) p.os :=
  Calls.regrown_of ((refof_any s hs _).mono fun _ _ ⟨he, hw⟩ => ⟨he, hw ▸ Below.refl _ _⟩)
set_option maxHeartbeats 400000 in
theorem refgot_ok (s : ByteArray) (hs : s.size ≤ 140737488351232) (h0 : 0 < s.size) (he : s.toList.isEmpty = false) (hk : ((s[0].toNat : Int) == 0) = false) (D : ByteArray) (m : Nat) (hm : m ≤ 140737488351232) (hl : 5 + m ≤ s.size)
    (hG : Hid (∀ w, Calls Tryd.prog 23 #[.string (s.extract 1 s.size), .int .i64 65536] w fun e w' => e = .returned (.tuple #[.string D, .int .i64 (m : Int), .int .i64 0]) ∧ Below w.heap.size w w'))
    (heq : s.extract (m + 1) (m + 5) = sumB (more 0 (s.extract 0 (m + 1)).data.toList)) (w : World) :
    Calls Tryd.prog 11 #[.string s] w fun e w' => e = .returned (.tuple #[.agg #[.int .i64 (s[0].toNat : Int), .string D], .int .i64 ((5 + m : Nat) : Int), .int .i64 0]) ∧ Below w.heap.size w w' := by
  have hlt := s[0].toNat_lt
  have hz := len_of s 0 (m + 1) (by omega)
  have hml := more_lt 0 (s.extract 0 (m + 1)).data.toList
  have hof := fun (w0 : World) (d : Nat) (os : Array Obj) => refof_grown (w0 := w0) (s.extract 0 (m + 1)) (by omega) d os
  have hby := ref_bytes (more 0 (s.extract 0 (m + 1)).data.toList) hml
  generalize more 0 (s.extract 0 (m + 1)).data.toList = c at *
  have hfin := Lib.hid (show ((m : Int) + 5) = ((5 + m : Nat) : Int) by omega)
  replace hof := Lib.hid hof
  replace hby := Lib.hid hby
  clear hml hz
  go_enter Tryd.func11, Tryd.ntmps11
  go_wp2_with fail
  refine (hG.out _).mono ?_
  rintro e w1 ⟨rfl, hb⟩
  go_wp2_with fail
  have i1 : IntKind.i64.wrap ((m : Int) + 1) = (m : Int) + 1 := IntWalk.i64_in _ (by omega)
  have i2 : IntKind.i64.wrap ((m : Int) + 5) = (m : Int) + 5 := IntWalk.i64_in _ (by omega)
  have j1 : ((m : Int) + 1).toNat = m + 1 := by omega
  have j2 : ((m : Int) + 5).toNat = m + 5 := by omega
  have j3 : 0 ≤ (m : Int) + 1 := by omega
  have j4 : (m : Int) + 1 ≤ (m : Int) + 5 := by omega
  have j5 : (m : Int) + 5 ≤ (s.size : Int) := by omega
  have j6 : (m : Int) + 1 ≤ (s.size : Int) := by omega
  refine wp_region_quiet_below (by kernel_rfl) (by kernel_rfl) ?_
  repeat (go_big_quiet_step (first | exact hof.out _ _ _ | exact Calls.regrown_of (hby.out _)))
  refine wpQuiet_nil ?_
  intro _ hw'
  obtain ⟨⟨dq, osq⟩, hw''⟩ := hw'
  subst hw''
  have hbq := below_regrown w1 dq osq
  generalize Sort.grow (redrawn w1 dq) osq = w2 at *
  obtain ⟨c0, c1, f0, f1, hz, hbel⟩ := box2 (chain2 hb hbq)
  clear hb hbq hof hby i1 i2 j1 j2 j3 j4 j5 j6
  go_wp2
  obtain ⟨e0, e1, e2⟩ := set2 c0 c1
  refine bodyPost_ret (v := .tuple #[.agg #[.int .i64 (s[0].toNat : Int), .string D], .int .i64 ((m : Int) + 5), .int .i64 0]) (by simp [results, Tryd.results11, go_sem, e0, e1]) rfl ⟨by rw [hfin.out], (hbel.setCell (Nat.le_refl _) _).setCell (Nat.le_refl _) _⟩
set_option maxHeartbeats 400000 in
theorem refgot_sum (s : ByteArray) (hs : s.size ≤ 140737488351232) (h0 : 0 < s.size) (he : s.toList.isEmpty = false) (hk : ((s[0].toNat : Int) == 0) = false) (D : ByteArray) (m : Nat) (hm : m ≤ 140737488351232) (hl : 5 + m ≤ s.size)
    (hG : Hid (∀ w, Calls Tryd.prog 23 #[.string (s.extract 1 s.size), .int .i64 65536] w fun e w' => e = .returned (.tuple #[.string D, .int .i64 (m : Int), .int .i64 0]) ∧ Below w.heap.size w w'))
    (hne : s.extract (m + 1) (m + 5) ≠ sumB (more 0 (s.extract 0 (m + 1)).data.toList)) (w : World) :
    Calls Tryd.prog 11 #[.string s] w fun e w' => e = .returned (.tuple #[.agg #[.int .i64 0, .string ⟨#[]⟩], .int .i64 0, .int .i64 10]) ∧ Below w.heap.size w w' := by
  have hlt := s[0].toNat_lt
  have hz := len_of s 0 (m + 1) (by omega)
  have hml := more_lt 0 (s.extract 0 (m + 1)).data.toList
  have hof := fun (w0 : World) (d : Nat) (os : Array Obj) => refof_grown (w0 := w0) (s.extract 0 (m + 1)) (by omega) d os
  have hby := ref_bytes (more 0 (s.extract 0 (m + 1)).data.toList) hml
  generalize more 0 (s.extract 0 (m + 1)).data.toList = c at *
  have hnb := neq_lists hne
  clear hne
  generalize sumB c = B at *
  replace hof := Lib.hid hof
  replace hby := Lib.hid hby
  clear hml hz
  go_enter Tryd.func11, Tryd.ntmps11
  go_wp2_with fail
  refine (hG.out _).mono ?_
  rintro e w1 ⟨rfl, hb⟩
  go_wp2_with fail
  have i1 : IntKind.i64.wrap ((m : Int) + 1) = (m : Int) + 1 := IntWalk.i64_in _ (by omega)
  have i2 : IntKind.i64.wrap ((m : Int) + 5) = (m : Int) + 5 := IntWalk.i64_in _ (by omega)
  have j1 : ((m : Int) + 1).toNat = m + 1 := by omega
  have j2 : ((m : Int) + 5).toNat = m + 5 := by omega
  have j3 : 0 ≤ (m : Int) + 1 := by omega
  have j4 : (m : Int) + 1 ≤ (m : Int) + 5 := by omega
  have j5 : (m : Int) + 5 ≤ (s.size : Int) := by omega
  have j6 : (m : Int) + 1 ≤ (s.size : Int) := by omega
  refine wp_region_quiet_below (by kernel_rfl) (by kernel_rfl) ?_
  repeat (go_big_quiet_step (first | exact hof.out _ _ _ | exact Calls.regrown_of (hby.out _)))
  refine wpQuiet_nil ?_
  intro _ hw'
  obtain ⟨⟨dq, osq⟩, hw''⟩ := hw'
  subst hw''
  have hbq := below_regrown w1 dq osq
  generalize Sort.grow (redrawn w1 dq) osq = w2 at *
  obtain ⟨c0, c1, f0, f1, hz, hbel⟩ := box2 (chain2 hb hbq)
  clear hb hbq hof hby i1 i2 j1 j2 j3 j4 j5 j6
  go_wp2
  obtain ⟨e0, e1, e2⟩ := set2 c0 c1
  refine bodyPost_ret (v := .tuple #[.agg #[.int .i64 0, .string ⟨#[]⟩], .int .i64 0, .int .i64 10]) (by simp [results, Tryd.results11, go_sem, e0, e1]) rfl ⟨rfl, (hbel.setCell (Nat.le_refl _) _).setCell (Nat.le_refl _) _⟩

/-- Get, of any bytes. -/
theorem refgot_any (s : ByteArray) (hs : s.size ≤ 140737488351232) (w : World) :
    Calls Tryd.prog 11 #[.string s] w fun e w' => e = .returned (.tuple #[.agg #[.int .i64 ((gotF s).kind : Int), .string (gotF s).data], .int .i64 ((gotF s).size : Int), .int .i64 ((gotF s).err : Int)]) ∧ Below w.heap.size w w' := by
  have he : s.toList = s.data.toList := ByteArray.toList_eq s
  unfold gotF
  cases h : s.data.toList with
  | nil => exact refgot_nothing s (by rw [he, h]; rfl) w
  | cons c r =>
    have hsz := size_cons s h
    have hc : s[0]'(by omega) = c := byte_at s 0 (by omega) (by rw [h]; rfl)
    have he' : s.toList.isEmpty = false := by rw [he, h]; rfl
    have htl : (s.extract 1 s.size).data.toList = r := by rw [tail_list, h]; rfl
    have hgt := refgettext_any (s.extract 1 s.size) 65536 (by rw [← size_list, htl]; omega) (by omega)
    rw [htl] at hgt
    have hlt := gotT_lt r 65536
    simp only
    generalize gotT r 65536 = g at *
    obtain ⟨n, k, x⟩ := g
    simp only at hgt hlt ⊢
    by_cases h1 : c.toNat = 0
    · rw [if_pos h1]
      exact refgot_kind s (by omega) he' (by rw [hc, beq_iff_eq]; omega) w
    · rw [if_neg h1]
      by_cases h2 : x = 0
      · subst h2
        rw [if_neg (by omega)]
        have hG : Hid (∀ w, Calls Tryd.prog 23 #[.string (s.extract 1 s.size), .int .i64 65536] w fun e w' => e = .returned (.tuple #[.string ((s.extract 1 s.size).extract k (k + n)), .int .i64 ((k + n : Nat) : Int), .int .i64 0]) ∧ Below w.heap.size w w') := Lib.hid hgt
        by_cases h3 : s.size < 5 + (k + n)
        · rw [if_pos h3]
          exact refgot_short s hs (by omega) he' (by rw [hc, beq_eq_false_iff_ne]; omega) _ (k + n) (by omega) h3 hG w
        · rw [if_neg h3]
          have e5 : 5 + (k + n) = k + n + 5 := by omega
          by_cases h4 : s.extract (1 + (k + n)) (5 + (k + n)) = sumB (more 0 (s.extract 0 (1 + (k + n))).data.toList)
          · rw [if_pos h4]
            rw [e5, show 1 + (k + n) = k + n + 1 by omega] at h4
            have := refgot_ok s hs (by omega) he' (by rw [hc, beq_eq_false_iff_ne]; omega) _ (k + n) (by omega) (by omega) hG h4 w
            rw [hc] at this
            exact this
          · rw [if_neg h4]
            rw [e5, show 1 + (k + n) = k + n + 1 by omega] at h4
            exact refgot_sum s hs (by omega) he' (by rw [hc, beq_eq_false_iff_ne]; omega) _ (k + n) (by omega) (by omega) hG h4 w
      · rw [if_pos h2]
        exact refgot_text s hs (by omega) he' (by rw [hc, beq_eq_false_iff_ne]; omega) x (by rw [bne_iff_ne]; omega) _ _ (Lib.hid hgt) w
end Frm
end Go.Proofs.YtcjfnkgjjhlbnaaDoor
