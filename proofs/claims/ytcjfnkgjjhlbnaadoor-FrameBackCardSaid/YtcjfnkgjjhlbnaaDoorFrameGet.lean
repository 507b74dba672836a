/- What frame.Get returns, and the document's own: of any bytes the frame at their front, or an error. They leave alone what was there before. Conditions: the table's two cells, texts no longer than a text can be. -/
import Derived.Test.YtcjfnkgjjhlbnaaDoorFramePut
namespace Go.Proofs.YtcjfnkgjjhlbnaaDoor
open Go.RowKit
namespace Frm
open Dig Crc

set_option maxHeartbeats 400000 in
theorem get_nothing (s : ByteArray) (he : s.toList.isEmpty = true) (w : World) :
    Calls Tryd.prog 10 #[.string s] w fun e w' => e = .returned (.tuple #[.agg #[.int .i64 0, .string ⟨#[]⟩], .int .i64 0, .int .i64 1]) ∧ Below w.heap.size w w' := by
  go_enter Tryd.func10, Tryd.ntmps10
  go_wp2
  go_returns
  exact ⟨rfl, by go_grown⟩
set_option maxHeartbeats 400000 in
theorem get_kind (s : ByteArray) (h0 : 0 < s.size) (he : s.toList.isEmpty = false) (hk : (s[0].toNat : Int) < 1) (w : World) :
    Calls Tryd.prog 10 #[.string s] w fun e w' => e = .returned (.tuple #[.agg #[.int .i64 0, .string ⟨#[]⟩], .int .i64 0, .int .i64 5]) ∧ Below w.heap.size w w' := by
  go_enter Tryd.func10, Tryd.ntmps10
  go_wp2
  go_returns
  exact ⟨rfl, by go_grown⟩

/-- A new block of two cells, behind what leaves alone what was there. -/
theorem box2 {w w1 : World} {a b : Value} {t : TypeId} (hb : Below (w.alloc (.cells #[a, b] t)).heap.size (w.alloc (.cells #[a, b] t)) w1) :
    w1.cell? ⟨w.heap.size, 0, none⟩ = some a ∧ w1.cell? ⟨w.heap.size, 1, none⟩ = some b ∧ w1.frozen? ⟨w.heap.size, 0, none⟩ = false ∧ w1.frozen? ⟨w.heap.size, 1, none⟩ = false ∧ w.heap.size < w1.heap.size ∧ Below w.heap.size w w1 := by
  have hz : w.heap.size < (w.alloc (.cells #[a, b] t)).heap.size := by simp
  refine ⟨?_, ?_, ?_, ?_, Nat.lt_of_lt_of_le hz hb.size, chain2 ((Below.refl _ w).alloc (Nat.le_refl _) _) hb⟩
  · rw [hb.cell (p := ⟨w.heap.size, 0, none⟩) hz]; simp [go_sem]
  · rw [hb.cell (p := ⟨w.heap.size, 1, none⟩) hz]; simp [go_sem]
  · rw [hb.frozen (p := ⟨w.heap.size, 0, none⟩) hz]; simp [go_sem]
  · rw [hb.frozen (p := ⟨w.heap.size, 1, none⟩) hz]; simp [go_sem]

theorem set2 {w1 : World} {g : Nat} {x y : Value} (c0 : w1.cell? ⟨g, 0, none⟩ = some x) (c1 : w1.cell? ⟨g, 1, none⟩ = some y) :
    (∀ a, (w1.setCell ⟨g, 0, none⟩ a).cell? ⟨g, 0, none⟩ = some a) ∧ (∀ a b, ((w1.setCell ⟨g, 0, none⟩ a).setCell ⟨g, 1, none⟩ b).cell? ⟨g, 1, none⟩ = some b) ∧
    (∀ a b, ((w1.setCell ⟨g, 0, none⟩ a).setCell ⟨g, 1, none⟩ b).cell? ⟨g, 0, none⟩ = some a) := by
  have hne : (⟨g, 0, none⟩ : Addr) ≠ ⟨g, 1, none⟩ := by simp
  have h0 : ∀ a, (w1.setCell ⟨g, 0, none⟩ a).cell? ⟨g, 0, none⟩ = some a := fun a => World.cell?_setCell_same w1 _ _ c0
  refine ⟨h0, fun a b => ?_, fun a b => ?_⟩
  · exact World.cell?_setCell_same _ _ _ ((World.cell?_setCell_other w1 _ _ _ hne).trans c1)
  · exact (World.cell?_setCell_other _ _ _ _ hne.symm).trans (h0 a)

theorem of_grown {w0 : World} (ht : Tab w0) (s : ByteArray) (hs : s.size ≤ 9223372036854775807) (d : Nat) (os : Array Obj) :
    Calls Tryd.prog 18 #[.string s] (Sort.grow (redrawn w0 d) os) fun e w' => e = .returned (.int .u32 (more 0 s.data.toList : Nat)) ∧ ∃ p : Regrown, w' = Sort.grow (redrawn w0 p.d) p.os :=
  Calls.regrown_of ((of_any s hs _ (ht.below (below_regrown w0 d os))).mono fun _ _ ⟨he, hw⟩ => ⟨he, hw ▸ Below.refl _ _⟩)

set_option maxHeartbeats 400000 in
theorem get_text (s : ByteArray) (hs : s.size ≤ 9223372036854775807) (h0 : 0 < s.size) (he : s.toList.isEmpty = false) (hk : (1 : Int) ≤ (s[0].toNat : Int)) (x : Nat) (hx : ((x : Int) != 0) = true) (D : ByteArray) (m : Int)
    (hG : Hid (∀ w, Calls Tryd.prog 22 #[.string (s.extract 1 s.size), .int .i64 65536] w fun e w' => e = .returned (.tuple #[.string D, .int .i64 m, .int .i64 (x : Int)]) ∧ Below w.heap.size w w')) (w : World) :
    Calls Tryd.prog 10 #[.string s] w fun e w' => e = .returned (.tuple #[.agg #[.int .i64 0, .string ⟨#[]⟩], .int .i64 0, .int .i64 (x : Int)]) ∧ Below w.heap.size w w' := by
  have hlt := s[0].toNat_lt
  go_enter Tryd.func10, Tryd.ntmps10
  go_wp2_with fail
  refine (hG.out _).mono ?_
  rintro e w1 ⟨rfl, hb⟩
  obtain ⟨c0, c1, f0, f1, hz, hbel⟩ := box2 hb
  clear hb
  go_wp2
  obtain ⟨e0, e1, e2⟩ := set2 c0 c1
  refine bodyPost_ret (v := .tuple #[.agg #[.int .i64 0, .string ⟨#[]⟩], .int .i64 0, .int .i64 (x : Int)]) (by simp [results, Tryd.results10, go_sem, e0, e1]) rfl ⟨rfl, (hbel.setCell (Nat.le_refl _) _).setCell (Nat.le_refl _) _⟩

theorem neq_lists {a b : ByteArray} (h : a ≠ b) : (a.toList == b.toList) = false := by
  rw [beq_eq_false_iff_ne]
  intro e
  rw [ByteArray.toList_eq, ByteArray.toList_eq] at e
  exact h (bytes_ext e)
theorem len_of (s : ByteArray) (a b : Nat) (h : b ≤ s.size) : (s.extract a b).size = b - a := by rw [ByteArray.size_extract, Nat.min_eq_left h]

set_option maxHeartbeats 400000 in
theorem get_short (s : ByteArray) (hs : s.size ≤ 140737488351232) (h0 : 0 < s.size) (he : s.toList.isEmpty = false) (hk : (1 : Int) ≤ (s[0].toNat : Int)) (D : ByteArray) (m : Nat) (hm : m ≤ 140737488351232) (hl : s.size < 5 + m)
    (hG : Hid (∀ w, Calls Tryd.prog 22 #[.string (s.extract 1 s.size), .int .i64 65536] w fun e w' => e = .returned (.tuple #[.string D, .int .i64 (m : Int), .int .i64 0]) ∧ Below w.heap.size w w')) (w : World) :
    Calls Tryd.prog 10 #[.string s] w fun e w' => e = .returned (.tuple #[.agg #[.int .i64 0, .string ⟨#[]⟩], .int .i64 0, .int .i64 1]) ∧ Below w.heap.size w w' := by
  have hlt := s[0].toNat_lt
  go_enter Tryd.func10, Tryd.ntmps10
  go_wp2_with fail
  refine (hG.out _).mono ?_
  rintro e w1 ⟨rfl, hb⟩
  obtain ⟨c0, c1, f0, f1, hz, hbel⟩ := box2 hb
  clear hb
  go_wp2
  obtain ⟨e0, e1, e2⟩ := set2 c0 c1
  refine bodyPost_ret (v := .tuple #[.agg #[.int .i64 0, .string ⟨#[]⟩], .int .i64 0, .int .i64 1]) (by simp [results, Tryd.results10, go_sem, e0, e1]) rfl ⟨rfl, (hbel.setCell (Nat.le_refl _) _).setCell (Nat.le_refl _) _⟩

set_option maxHeartbeats 400000 in
theorem get_ok (s : ByteArray) (hs : s.size ≤ 140737488351232) (h0 : 0 < s.size) (he : s.toList.isEmpty = false) (hk : (1 : Int) ≤ (s[0].toNat : Int)) (D : ByteArray) (m : Nat) (hm : m ≤ 140737488351232) (hl : 5 + m ≤ s.size)
    (hG : Hid (∀ w, Calls Tryd.prog 22 #[.string (s.extract 1 s.size), .int .i64 65536] w fun e w' => e = .returned (.tuple #[.string D, .int .i64 (m : Int), .int .i64 0]) ∧ Below w.heap.size w w'))
    (heq : s.extract (1 + m) (1 + m + 4) = sumB (more 0 (s.extract 0 (1 + m)).data.toList)) (w : World) (ht : Tab w) :
    Calls Tryd.prog 10 #[.string s] w fun e w' => e = .returned (.tuple #[.agg #[.int .i64 (s[0].toNat : Int), .string D], .int .i64 ((5 + m : Nat) : Int), .int .i64 0]) ∧ Below w.heap.size w w' := by
  have hlt := s[0].toNat_lt
  have hz := len_of s 0 (1 + m) (by omega)
  have hml := more_lt 0 (s.extract 0 (1 + m)).data.toList
  have hof := fun (w0 : World) (ht : Tab w0) (d : Nat) (os : Array Obj) => of_grown ht (s.extract 0 (1 + m)) (by omega) d os
  have hby := sum_bytes (more 0 (s.extract 0 (1 + m)).data.toList) hml
  generalize more 0 (s.extract 0 (1 + m)).data.toList = c at *
  replace hof := Lib.hid hof
  replace hby := Lib.hid hby
  replace ht := Lib.hid ht
  clear hml hz
  have i1 : IntKind.i64.wrap (1 + (m : Int)) = 1 + (m : Int) := IntWalk.i64_in _ (by omega)
  have hfin : (1 + (m : Int) + 4) = ((5 + m : Nat) : Int) := by omega
  replace hfin := Lib.hid hfin
  go_enter Tryd.func10, Tryd.ntmps10
  go_wp2_with fail
  refine (hG.out _).mono ?_
  rintro e w1 ⟨rfl, hb⟩
  go_wp2_with fail
  have ht1 : Tab w1 := ht.out.below (box2 hb).2.2.2.2.2
  have i2 : IntKind.i64.wrap (1 + (m : Int) + 4) = 1 + (m : Int) + 4 := IntWalk.i64_in _ (by omega)
  refine wp_region_quiet_below (by kernel_rfl) (by kernel_rfl) ?_
  repeat (go_big_quiet_step (first | exact hof.out _ ht1 _ _ | exact Calls.regrown_of (hby.out _)))
  refine wpQuiet_nil ?_
  intro _ hw'
  obtain ⟨⟨dq, osq⟩, hw''⟩ := hw'
  subst hw''
  have hbq := below_regrown w1 dq osq
  generalize Sort.grow (redrawn w1 dq) osq = w2 at *
  obtain ⟨c0, c1, f0, f1, hz, hbel⟩ := box2 (chain2 hb hbq)
  clear hb hbq hof hby ht1 i1 i2
  go_wp2
  obtain ⟨e0, e1, e2⟩ := set2 c0 c1
  refine bodyPost_ret (v := .tuple #[.agg #[.int .i64 (s[0].toNat : Int), .string D], .int .i64 (1 + (m : Int) + 4), .int .i64 0]) (by simp [results, Tryd.results10, go_sem, e0, e1]) rfl ⟨by rw [hfin.out], (hbel.setCell (Nat.le_refl _) _).setCell (Nat.le_refl _) _⟩

set_option maxHeartbeats 400000 in
theorem get_sum (s : ByteArray) (hs : s.size ≤ 140737488351232) (h0 : 0 < s.size) (he : s.toList.isEmpty = false) (hk : (1 : Int) ≤ (s[0].toNat : Int)) (D : ByteArray) (m : Nat) (hm : m ≤ 140737488351232) (hl : 5 + m ≤ s.size)
    (hG : Hid (∀ w, Calls Tryd.prog 22 #[.string (s.extract 1 s.size), .int .i64 65536] w fun e w' => e = .returned (.tuple #[.string D, .int .i64 (m : Int), .int .i64 0]) ∧ Below w.heap.size w w'))
    (hne : s.extract (1 + m) (1 + m + 4) ≠ sumB (more 0 (s.extract 0 (1 + m)).data.toList)) (w : World) (ht : Tab w) :
    Calls Tryd.prog 10 #[.string s] w fun e w' => e = .returned (.tuple #[.agg #[.int .i64 0, .string ⟨#[]⟩], .int .i64 0, .int .i64 10]) ∧ Below w.heap.size w w' := by
  have hlt := s[0].toNat_lt
  have hz := len_of s 0 (1 + m) (by omega)
  have hml := more_lt 0 (s.extract 0 (1 + m)).data.toList
  have hof := fun (w0 : World) (ht : Tab w0) (d : Nat) (os : Array Obj) => of_grown ht (s.extract 0 (1 + m)) (by omega) d os
  have hby := sum_bytes (more 0 (s.extract 0 (1 + m)).data.toList) hml
  generalize more 0 (s.extract 0 (1 + m)).data.toList = c at *
  generalize sumB c = B at *
  replace hof := Lib.hid hof
  replace hby := Lib.hid hby
  replace ht := Lib.hid ht
  have hnb := neq_lists hne
  clear hne
  clear hml hz
  have i1 : IntKind.i64.wrap (1 + (m : Int)) = 1 + (m : Int) := IntWalk.i64_in _ (by omega)
  go_enter Tryd.func10, Tryd.ntmps10
  go_wp2_with fail
  refine (hG.out _).mono ?_
  rintro e w1 ⟨rfl, hb⟩
  go_wp2_with fail
  have ht1 : Tab w1 := ht.out.below (box2 hb).2.2.2.2.2
  have i2 : IntKind.i64.wrap (1 + (m : Int) + 4) = 1 + (m : Int) + 4 := IntWalk.i64_in _ (by omega)
  refine wp_region_quiet_below (by kernel_rfl) (by kernel_rfl) ?_
  repeat (go_big_quiet_step (first | exact hof.out _ ht1 _ _ | exact Calls.regrown_of (hby.out _)))
  refine wpQuiet_nil ?_
  intro _ hw'
  obtain ⟨⟨dq, osq⟩, hw''⟩ := hw'
  subst hw''
  have hbq := below_regrown w1 dq osq
  generalize Sort.grow (redrawn w1 dq) osq = w2 at *
  obtain ⟨c0, c1, f0, f1, hz, hbel⟩ := box2 (chain2 hb hbq)
  clear hb hbq hof hby ht1 i1 i2
  go_wp2
  obtain ⟨e0, e1, e2⟩ := set2 c0 c1
  refine bodyPost_ret (v := .tuple #[.agg #[.int .i64 0, .string ⟨#[]⟩], .int .i64 0, .int .i64 10]) (by simp [results, Tryd.results10, go_sem, e0, e1]) rfl ⟨rfl, (hbel.setCell (Nat.le_refl _) _).setCell (Nat.le_refl _) _⟩

/-- Get, of any bytes. -/
theorem get_any (s : ByteArray) (hs : s.size ≤ 140737488351232) (w : World) (ht : Tab w) :
    Calls Tryd.prog 10 #[.string s] w fun e w' => e = .returned (.tuple #[.agg #[.int .i64 ((gotF s).kind : Int), .string (gotF s).data], .int .i64 ((gotF s).size : Int), .int .i64 ((gotF s).err : Int)]) ∧ Below w.heap.size w w' := by
  have he : s.toList = s.data.toList := ByteArray.toList_eq s
  unfold gotF
  cases h : s.data.toList with
  | nil => exact get_nothing s (by rw [he, h]; rfl) w
  | cons c r =>
    have hsz := size_cons s h
    have hc : s[0]'(by omega) = c := byte_at s 0 (by omega) (by rw [h]; rfl)
    have he' : s.toList.isEmpty = false := by rw [he, h]; rfl
    have htl : (s.extract 1 s.size).data.toList = r := by rw [tail_list, h]; rfl
    have hgt := gettext_any (s.extract 1 s.size) 65536 (by rw [← size_list, htl]; omega) (by omega)
    rw [htl] at hgt
    have hlt := gotT_lt r 65536
    simp only
    generalize gotT r 65536 = g at *
    obtain ⟨n, k, x⟩ := g
    simp only at hgt hlt ⊢
    by_cases h1 : c.toNat = 0
    · rw [if_pos h1]
      exact get_kind s (by omega) he' (by rw [hc]; omega) w
    · rw [if_neg h1]
      by_cases h2 : x = 0
      · subst h2
        rw [if_neg (by omega)]
        have hG : Hid (∀ w, Calls Tryd.prog 22 #[.string (s.extract 1 s.size), .int .i64 65536] w fun e w' => e = .returned (.tuple #[.string ((s.extract 1 s.size).extract k (k + n)), .int .i64 ((k + n : Nat) : Int), .int .i64 0]) ∧ Below w.heap.size w w') := Lib.hid hgt
        by_cases h3 : s.size < 5 + (k + n)
        · rw [if_pos h3]
          exact get_short s hs (by omega) he' (by rw [hc]; omega) _ (k + n) (by omega) h3 hG w
        · rw [if_neg h3]
          have e5 : 5 + (k + n) = 1 + (k + n) + 4 := by omega
          by_cases h4 : s.extract (1 + (k + n)) (5 + (k + n)) = sumB (more 0 (s.extract 0 (1 + (k + n))).data.toList)
          · rw [if_pos h4]
            rw [e5] at h4
            have := get_ok s hs (by omega) he' (by rw [hc]; omega) _ (k + n) (by omega) (by omega) hG h4 w ht
            rw [hc] at this
            exact this
          · rw [if_neg h4]
            rw [e5] at h4
            exact get_sum s hs (by omega) he' (by rw [hc]; omega) _ (k + n) (by omega) (by omega) hG h4 w ht
      · rw [if_pos h2]
        exact get_text s (by omega) (by omega) he' (by rw [hc]; omega) x (by rw [bne_iff_ne]; omega) _ _ (Lib.hid hgt) w
end Frm
end Go.Proofs.YtcjfnkgjjhlbnaaDoor
