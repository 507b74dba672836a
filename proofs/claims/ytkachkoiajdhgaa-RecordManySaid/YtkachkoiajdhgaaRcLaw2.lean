/- Layer 12: works; the law RecordReads. -/
import Derived.Test.YtkachkoiajdhgaaRcProg
import Derived.Test.YtkachkoiajdhgaaRcLaw1
import Derived.Test.YtkachkoiajdhgaaRcBack
set_option maxRecDepth 100000
namespace Go.Proofs.Ytkachkoiajdhgaa
open Go.RowKit Go.Sort
namespace Rc
open Bit Dsk Ob Dig Lb
set_option linter.unusedVariables false

theorem dec_few (s : List UInt8) : (dec s).1.smp.length ≤ 32 := by
  obtain ⟨⟨r, e⟩, h⟩ : ∃ x, dec s = x := ⟨_, rfl⟩
  rw [h]
  by_cases he : e = 0
  · subst he
    obtain ⟨h1, -, -⟩ := Rc.dec_back h
    rcases Rc.chk_zero.1 h1 with h2 | h2
    · exact h2.few
    · show r.smp.length ≤ 32
      rw [h2.smp]; simp
  · rw [Rc.dec_none h he]; simp [zero]
theorem dec_of (w : World) (s : ByteArray) (hs : s.size ≤ 140737488355328) {r : R} {e : Nat} (h : dec s.data.toList = (r, e)) :
    Calls Try.prog 17 #[.string s] w fun x w' => ∃ v, x = .returned (.tuple #[v, .int .i64 (e : Int)]) ∧ RView w' All v r ∧ Rng r ∧ New0 w w' := by
  have := dec_any w s hs
  unfold DecE at this
  rw [h] at this
  exact this
set_option maxHeartbeats 1600000 in
theorem reads_true (s : ByteArray) (hs : s.size ≤ 140737488351232) (W : World) :
    Calls Try.prog 4 #[.string s] W fun e W' => e = .returned (.bool true) ∧ Below W.heap.size W W' := by
  by_cases hbig : 20000 < s.size
  · have d : (20000 : Int) < (s.size : Int) := by omega
    go_enter Try.func4, Try.ntmps4
    go_wp2_with fail
    go_ret
    exact ⟨rfl, Below.refl _ _⟩
  · have d : ¬ (20000 : Int) < (s.size : Int) := by omega
    have HD := Lib.hid (fun w => dec_any w s (by omega))
    have HR := Lib.hid (fun w => refdec_any w s (by omega))
    have hfew := dec_few s.data.toList
    unfold DecE at HD HR
    obtain ⟨r, hr⟩ : ∃ r, (dec s.data.toList).1 = r := ⟨_, rfl⟩
    obtain ⟨x, hx⟩ : ∃ x : Int, ((dec s.data.toList).2 : Int) = x := ⟨_, rfl⟩
    rw [hr, hx] at HD HR
    rw [hr] at hfew
    have HS := Lib.hid (fun w v1 v2 (h1 : RView w All v1 r) (h2 : RView w All v2 r) => same_any w All All v1 v2 r h1 h2 (by omega))
    obtain ⟨k, l, ms, a, b⟩ := r
    clear hr hx hbig hfew
    go_enter Try.func4, Try.ntmps4
    go_wp2_with fail
    refine (HD.out _).mono ?_
    rintro e w1 ⟨v, rfl, hv, -, hu1⟩
    obtain ⟨A, c, A', c', rfl, -, -⟩ := RView.shape hv
    simp only at hv ⊢
    have hX := box5 w1 k (.slice A l.length c) (.slice A' ms.length c') a b
    have ux := (Upon.refl (fun _ => False) w1).alloc (.cells #[.int .i64 k, .slice A l.length c, .slice A' ms.length c', .int .i64 a, .int .i64 b] 25 (0, 0))
    obtain ⟨wx, hwx⟩ : ∃ wx, w1.alloc (.cells #[.int .i64 k, .slice A l.length c, .slice A' ms.length c', .int .i64 a, .int .i64 b] 25 (0, 0)) = wx := ⟨_, rfl⟩
    rw [hwx] at hX ux
    have hV := Lib.hid (hv.new ux)
    have hUx := Lib.hid (hu1.trans ux)
    replace hX := Lib.hid hX
    replace hwx := Lib.hid hwx
    clear HD hv ux hu1
    go_wp2_with fail
    rw [hwx.out]
    refine (HR.out _).mono ?_
    rintro e w2 ⟨v2, rfl, hv2, -, hu⟩
    obtain ⟨B, c2, B', c2', rfl, -, -⟩ := RView.shape hv2
    simp only at hv2 ⊢
    have hY := box5 w2 k (.slice B l.length c2) (.slice B' ms.length c2') a b
    have uy := (Upon.refl (fun _ => False) w2).alloc (.cells #[.int .i64 k, .slice B l.length c2, .slice B' ms.length c2', .int .i64 a, .int .i64 b] 25 (0, 0))
    obtain ⟨x0, x1, x2, x3, x4⟩ := hX.out.new (hu.trans uy)
    obtain ⟨y0, y1, y2, y3, y4⟩ := hY
    obtain ⟨wy, hwy⟩ : ∃ wy, w2.alloc (.cells #[.int .i64 k, .slice B l.length c2, .slice B' ms.length c2', .int .i64 a, .int .i64 b] 25 (0, 0)) = wy := ⟨_, rfl⟩
    rw [hwy] at uy
    have HT := Lib.hid (HS.out wy _ _ (hV.out.new (hu.trans uy)) (hv2.new uy))
    have hu2 := Lib.hid (hUx.out.trans (hu.trans uy))
    replace hwy := Lib.hid hwy
    clear HR HS hv2 hV uy hu hX hUx hwx
    go_wp2_with fail
    rw [hwy.out]
    refine HT.out.mono ?_
    rintro e w3 ⟨rfl, hu3⟩
    have hend := Lib.hid (belowOf (hu2.out.trans hu3))
    clear HT hu2 hu3 hwy x0 x1 x2 x3 x4 y0 y1 y2 y3 y4
    go_wp2_with fail
    go_ret
    exact ⟨ret_b (by simp), hend.out⟩

/-! ### works -/
abbrev rD : R := ⟨2, [], [], -1, 1⟩
abbrev rC : R := ⟨1, [], [], 0, 0⟩
abbrev eD : ByteArray := { data := #[1, 2, 0, 1, 1, 1, 2] }
theorem chkD : chk rD = 0 := chk_zero.2 (.inr ⟨rfl, rfl, by decide +kernel, by decide⟩)
theorem chkC : chk rC = 2 := chk_range (by rintro ⟨h, -⟩; exact h rfl) (by rintro (⟨-, h | h | h⟩ | ⟨h, -⟩) <;> exact h rfl) ⟨rfl, .inl (by decide)⟩
theorem encD : (⟨(encB rD).toArray⟩ : ByteArray) = eD := by decide +kernel
theorem rngD : Rng rD := ⟨fun x hx => (by cases hx), ⟨by decide, by decide⟩, ⟨by decide, by decide⟩⟩
theorem bndD : Bnd rD := bnd_of chkD rngD
theorem bndC : Bnd rC := ⟨⟨by decide, by decide⟩, fun x hx => (by cases hx), fun x hx => (by cases hx), ⟨by decide, by decide⟩, ⟨by decide, by decide⟩⟩
theorem view_D (w : World) : RView w All (.agg #[.int .i64 2, .slice none 0 0, .slice none 0 0, .int .i64 (-1), .int .i64 1]) rD := ⟨⟨none, 0, 0⟩, ⟨none, 0, 0⟩, rfl, Rw.DView.noth _ _ _ _, Rw.View.noth _ _ _⟩
theorem view_C (w : World) : RView w All (.agg #[.int .i64 1, .slice none 0 0, .slice none 0 0, .int .i64 0, .int .i64 0]) rC := ⟨⟨none, 0, 0⟩, ⟨none, 0, 0⟩, rfl, Rw.DView.noth _ _ _ _, Rw.View.noth _ _ _⟩
set_option maxHeartbeats 1600000 in
theorem works_true (W : World) : Calls Try.prog 19 #[] W fun e W' => e = .returned (.bool true) ∧ New0 W W' := by
  have HE := Lib.hid (by have := enc_any W All _ rD (view_D W) bndD; rw [encR_ok chkD, encD] at this; exact this)
  have HD := Lib.hid (fun w => dec_of w eD (by decide) (r := rD) (e := 0) (by have := dec_enc chkD rngD; rw [← encD]; exact this))
  have HC := Lib.hid (fun w => by have := check_any w All _ rC (view_C w) bndC; rw [chkC] at this; exact this)
  go_enter Try.func19, Try.ntmps19
  go_wp2_with fail
  refine HE.out.mono ?_
  rintro e w1 ⟨rfl, hu1⟩
  replace hu1 := Lib.hid hu1
  clear HE
  go_wp2_with fail
  refine (HD.out _).mono ?_
  rintro e w2 ⟨v, rfl, hv, -, hu⟩
  obtain ⟨A, c, A', c', rfl, -, -⟩ := RView.shape hv
  simp only [List.length_nil]
  have hX := box5 w2 2 (.slice A 0 c) (.slice A' 0 c') (-1) 1
  have ux := (Upon.refl (fun _ => False) w2).alloc (.cells #[.int .i64 2, .slice A 0 c, .slice A' 0 c', .int .i64 (-1), .int .i64 1] 25 (0, 0))
  obtain ⟨x0, x1, x2, x3, x4⟩ := hX
  obtain ⟨wx, hwx⟩ : ∃ wx, w2.alloc (.cells #[.int .i64 2, .slice A 0 c, .slice A' 0 c', .int .i64 (-1), .int .i64 1] 25 (0, 0)) = wx := ⟨_, rfl⟩
  rw [hwx] at ux
  have hu2 := Lib.hid ((hu1.out.trans hu).trans ux)
  replace hwx := Lib.hid hwx
  clear HD hv hu ux hu1
  go_wp2_with fail
  rw [hwx.out]
  refine (HC.out _).mono ?_
  rintro e w3 ⟨rfl, hu3⟩
  have hend := Lib.hid (hu2.out.trans hu3)
  clear HC hu2 hu3 x0 x1 x2 x3 x4 hwx
  go_wp2_with fail
  go_ret
  exact ⟨rfl, hend.out⟩
end Rc
end Go.Proofs.Ytkachkoiajdhgaa
