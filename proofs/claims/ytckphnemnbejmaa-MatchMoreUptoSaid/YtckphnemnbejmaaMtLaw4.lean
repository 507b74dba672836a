/- Layer 11: the laws MatchMore (where the two rows have room side by side), MatchKinds. -/
import Derived.Test.YtckphnemnbejmaaMtLaw3
set_option maxRecDepth 100000
namespace Go.Proofs.Ytckphnemnbejmaa
open Go.RowKit Go.Sort Go.ChangeShapes Go.WideShapes
namespace Mt
open Bit Dsk Ob Dig Lb
set_option linter.unusedVariables false

set_option maxHeartbeats 6400000 in
/-- The second half of MatchMore: a matcher and its opposite. -/
theorem opp_pair {n v : ByteArray} {a : List Lb.Pr} (h : right ((1 : Int), n, v) = 0) : ∃ b, is [((1 : Int), n, v)] a = b ∧ is [((2 : Int), n, v)] a = !b := by
  refine ⟨_, rfl, ?_⟩
  rw [opposite h]; simp
theorem right_no {k : Int} {n v : ByteArray} {a : List Lb.Pr} (h : right (k, n, v) ≠ 0) : is [(k, n, v)] a = false := is_no (by rw [chk_one]; exact h)
set_option maxHeartbeats 6400000 in
theorem more_true (W : World) (v1 v2 v3 : Value) (n v : ByteArray) (o1 : IsMsN 70368744177664 v1 W) (o2 : IsMsN 70368744177664 v2 W) (o3 : IsPrs v3 W) (hn : n.size ≤ 140737488351232) (hv : v.size ≤ 140737488351232) :
    Calls Try.prog 6 #[v1, v2, v3, .string n, .string v] W fun e W' => e = .returned (.bool true) ∧ Below W.heap.size W W' := by
  obtain ⟨l, h1, hb1, hl1⟩ := o1
  obtain ⟨m, h2, hb2, hl2⟩ := o2
  obtain ⟨a, h3, -, -⟩ := o3
  have hbx : Bnd [((1 : Int), n, v)] := fun x hx => by rw [List.mem_singleton.1 hx]; exact ⟨by simp only; omega, by simp only; omega, by simp only; omega, by simp only; omega⟩
  have hby : Bnd [((2 : Int), n, v)] := fun x hx => by rw [List.mem_singleton.1 hx]; exact ⟨by simp only; omega, by simp only; omega, by simp only; omega, by simp only; omega⟩
  have hbl : Bnd (l ++ m) := fun x hx => by
    rcases List.mem_append.1 hx with hx | hx
    · exact hb1 x hx
    · exact hb2 x hx
  have HW := Lib.hid (worksB W)
  have HO1 := Lib.hid (fun w (hu : New0 W w) => own_any w All v1 l (Rw.View.new h1 hu) (by omega))
  have HO2 := Lib.hid (fun w (hu : New0 W w) => own_any w All v2 m (Rw.View.new h2 hu) (by omega))
  obtain ⟨z, hz⟩ : ∃ z, is (l ++ m) a = z := ⟨_, rfl⟩
  have HI := Lib.hid (fun w u S (hu : New0 W w) (hv : View w S u (l ++ m)) => by have := is_any w S All u v3 _ a hv hbl (Rw.View.new h3 hu); rw [hz] at this; exact this)
  have hml : Hid (z = true → is l a = true ∧ is m a = true) := Lib.hid (fun h => is_more (by rw [hz]; exact h))
  have HI1 := Lib.hid (fun w u S (hu : New0 W w) (hv : View w S u l) => is_any w S All u v3 _ a hv hb1 (Rw.View.new h3 hu))
  have HI2 := Lib.hid (fun w u S (hu : New0 W w) (hv : View w S u m) => is_any w S All u v3 _ a hv hb2 (Rw.View.new h3 hu))
  have HX := Lib.hid (fun w u (hu : New0 W w) (hv : View w All u [((1 : Int), n, v)]) => is_any w All All u v3 _ a hv hbx (Rw.View.new h3 hu))
  have HY := Lib.hid (fun w u (hu : New0 W w) (hv : View w All u [((2 : Int), n, v)]) => is_any w All All u v3 _ a hv hby (Rw.View.new h3 hu))
  obtain ⟨q, hq⟩ : ∃ q, right ((1 : Int), n, v) = q := ⟨_, rfl⟩
  have HC := Lib.hid (fun w u (hv : View w All u [((1 : Int), n, v)]) => by have := check_any w All u _ hv hbx; rw [chk_one, hq] at this; exact this)
  have hopp : Hid (if q = 0 then ∃ b, is [((1 : Int), n, v)] a = b ∧ is [((2 : Int), n, v)] a = !b else is [((1 : Int), n, v)] a = false ∧ is [((2 : Int), n, v)] a = false) := Lib.hid (by
    by_cases h : q = 0
    · rw [if_pos h]; exact opp_pair (by rw [hq]; exact h)
    · rw [if_neg h]; exact ⟨right_no (by rw [hq]; exact h), right_no (by rw [← right_12, hq]; exact h)⟩)
  obtain ⟨A1, c1, rfl, -, -⟩ := Rw.View.shape h1
  obtain ⟨A2, c2, rfl, -, -⟩ := Rw.View.shape h2
  obtain ⟨A3, c3, rfl, -, -⟩ := Rw.View.shape h3
  have hlm : (l.length + m.length) * 40 ≤ 140737488355328 := by omega
  replace h2 := Lib.hid h2
  clear h1 h3 hbx hby hbl hb1 hb2 hz hq hl1 hl2 hn hv
  go_enter Try.func6, Try.ntmps6
  go_wp2_with fail
  refine HW.out.mono ?_
  rintro e w1 ⟨rfl, hu1⟩
  replace hu1 := Lib.hid hu1
  clear HW
  go_wp2_with fail
  refine (HO1.out _ hu1.out).mono ?_
  rintro e w2 ⟨u, rfl, hm, hf, hu⟩
  replace hm := Lib.hid hm
  have hu2 := Lib.hid (hu1.out.trans hu)
  have hf2 : Hid (∀ g, u.ownBlock = some g → W.heap.size ≤ g) := Lib.hid fun g h => Nat.le_trans hu1.out.size (hf g h)
  clear hu1 hu hf
  go_wp2_with (at_builtin; refine Rw.wpList_append typM rfl _ _ rfl _ _ l m All rfl rfl hm.out (Rw.View.new h2.out hu2.out) hlm (by omega) ?_)
  intro v' w4 hown hgr hbl
  have hm4 := Lib.hid hown
  have hu4 : Hid (New0 W w4) := Lib.hid (Rw.grown_new (v' := v') hgr (B := W.heap.size) (fun g hk => hf2.out g hk) W (Nat.le_refl _) hu2.out)
  clear hown hgr hbl hm hf2 hu2 h2 hlm
  go_wp2_with fail
  refine (HI.out _ _ _ hu4.out hm4.out.view).mono ?_
  rintro e w5 ⟨rfl, hu⟩
  have hu5 := Lib.hid (hu4.out.trans hu)
  clear HI hu hu4 hm4
  cases z with
  | true =>
    obtain ⟨t1, t2⟩ := hml.out rfl
    rw [t1] at HI1
    rw [t2] at HI2
    clear t1 t2 hml
    go_wp2_with fail
    refine (HO1.out _ hu5.out).mono ?_
    rintro e w6 ⟨u6, rfl, hm6, -, hu⟩
    have hu6 := Lib.hid (hu5.out.trans hu)
    have HI1' := Lib.hid (HI1.out _ _ _ hu6.out hm6.view)
    clear HO1 HI1 hu hu5 hm6
    go_wp2_with fail
    refine HI1'.out.mono ?_
    rintro e w7 ⟨rfl, hu⟩
    have hu7 := Lib.hid (hu6.out.trans hu)
    clear HI1' hu hu6
    go_wp2_with fail
    refine (HO2.out _ hu7.out).mono ?_
    rintro e w8 ⟨u8, rfl, hm8, -, hu⟩
    have hu8 := Lib.hid (hu7.out.trans hu)
    have HI2' := Lib.hid (HI2.out _ _ _ hu8.out hm8.view)
    clear HO2 HI2 hu hu7 hm8
    go_wp2_with fail
    refine HI2'.out.mono ?_
    rintro e w9 ⟨rfl, hu⟩
    have hu9 := Lib.hid (hu8.out.trans hu)
    clear HI2' hu hu8
    obtain ⟨wx, hwx⟩ : ∃ wx, w9.alloc (.cells #[.int .i64 1, .string n, .string v] 37 (0, 0)) = wx := ⟨_, rfl⟩
    obtain ⟨wy, hwy⟩ : ∃ wy, wx.alloc (.cells #[.int .i64 2, .string n, .string v] 37 (0, 0)) = wy := ⟨_, rfl⟩
    have kx := Mt.view_two w9 1 n v
    have ky := Mt.view_two wx 2 n v
    have ux : New0 w9 wx := by rw [← hwx]; exact (Upon.refl _ _).alloc _
    have uy : New0 wx wy := by rw [← hwy]; exact (Upon.refl _ _).alloc _
    have sx : wx.heap.size = w9.heap.size + 1 := by rw [← hwx]; simp
    rw [hwx] at kx
    rw [hwy, sx] at ky
    replace kx := Lib.hid (Rw.View.new kx uy)
    replace ky := Lib.hid ky
    have huy := Lib.hid ((hu9.out.trans ux).trans uy)
    have hw : Hid ((w9.alloc (.cells #[.int .i64 1, .string n, .string v] 37 (0, 0))).alloc (.cells #[.int .i64 2, .string n, .string v] 37 (0, 0)) = wy) := Lib.hid (by rw [hwx, hwy])
    have HCx := Lib.hid (HC.out _ _ kx.out)
    clear hwx hwy ux uy sx HC hu9
    go_wp2_with fail
    rw [hw.out]
    clear hw
    refine HCx.out.mono ?_
    rintro e w20 ⟨rfl, hu⟩
    have hu20 := Lib.hid (huy.out.trans hu)
    have kx2 := Lib.hid (Rw.View.new kx.out hu)
    have ky2 := Lib.hid (Rw.View.new ky.out hu)
    have HX2 := Lib.hid (HX.out _ _ hu20.out kx2.out)
    clear HCx huy hu kx ky HX
    by_cases hq : q = 0
    · subst hq
      obtain ⟨b, hb1, hb2⟩ := (show ∃ b, is [((1 : Int), n, v)] a = b ∧ is [((2 : Int), n, v)] a = !b by have := hopp.out; rwa [if_pos rfl] at this)
      rw [hb1] at HX2
      clear hopp hb1
      go_wp2_with fail
      refine HX2.out.mono ?_
      rintro e w21 ⟨rfl, hu⟩
      have hu21 := Lib.hid (hu20.out.trans hu)
      have HY2 := Lib.hid (HY.out _ _ hu21.out (Rw.View.new ky2.out hu))
      rw [hb2] at HY2
      clear HX2 HY hu hu20 hb2 kx2 ky2
      go_wp2_with fail
      refine HY2.out.mono ?_
      rintro e w22 ⟨rfl, hu⟩
      have hend := Lib.hid (belowOf (hu21.out.trans hu))
      clear HY2 hu hu21
      go_wp2_with fail
      go_ret
      exact ⟨by cases b <;> rfl, hend.out⟩
    · have hoo := (show is [((1 : Int), n, v)] a = false ∧ is [((2 : Int), n, v)] a = false by have := hopp.out; rwa [if_neg hq] at this)
      rw [hoo.1] at HX2
      have dq : ((q : Int) != 0) = true := by rw [bne_iff_ne]; omega
      clear hopp hq
      go_wp2_with fail
      refine HX2.out.mono ?_
      rintro e w21 ⟨rfl, hu⟩
      have hu21 := Lib.hid (hu20.out.trans hu)
      have HY2 := Lib.hid (HY.out _ _ hu21.out (Rw.View.new ky2.out hu))
      rw [hoo.2] at HY2
      clear HX2 HY hu hu20 hoo kx2 ky2
      go_wp2_with fail
      refine HY2.out.mono ?_
      rintro e w22 ⟨rfl, hu⟩
      have hend := Lib.hid (belowOf (hu21.out.trans hu))
      clear HY2 hu hu21
      go_wp2_with fail
      go_ret
      exact ⟨rfl, hend.out⟩
  | false =>
    clear hml HO1 HO2 HI1 HI2
    obtain ⟨wx, hwx⟩ : ∃ wx, w5.alloc (.cells #[.int .i64 1, .string n, .string v] 37 (0, 0)) = wx := ⟨_, rfl⟩
    obtain ⟨wy, hwy⟩ : ∃ wy, wx.alloc (.cells #[.int .i64 2, .string n, .string v] 37 (0, 0)) = wy := ⟨_, rfl⟩
    have kx := Mt.view_two w5 1 n v
    have ky := Mt.view_two wx 2 n v
    have ux : New0 w5 wx := by rw [← hwx]; exact (Upon.refl _ _).alloc _
    have uy : New0 wx wy := by rw [← hwy]; exact (Upon.refl _ _).alloc _
    have sx : wx.heap.size = w5.heap.size + 1 := by rw [← hwx]; simp
    rw [hwx] at kx
    rw [hwy, sx] at ky
    replace kx := Lib.hid (Rw.View.new kx uy)
    replace ky := Lib.hid ky
    have huy := Lib.hid ((hu5.out.trans ux).trans uy)
    have hw : Hid ((w5.alloc (.cells #[.int .i64 1, .string n, .string v] 37 (0, 0))).alloc (.cells #[.int .i64 2, .string n, .string v] 37 (0, 0)) = wy) := Lib.hid (by rw [hwx, hwy])
    have HCx := Lib.hid (HC.out _ _ kx.out)
    clear hwx hwy ux uy sx HC hu5
    go_wp2_with fail
    rw [hw.out]
    clear hw
    refine HCx.out.mono ?_
    rintro e w20 ⟨rfl, hu⟩
    have hu20 := Lib.hid (huy.out.trans hu)
    have kx2 := Lib.hid (Rw.View.new kx.out hu)
    have ky2 := Lib.hid (Rw.View.new ky.out hu)
    have HX2 := Lib.hid (HX.out _ _ hu20.out kx2.out)
    clear HCx huy hu kx ky HX
    by_cases hq : q = 0
    · subst hq
      obtain ⟨b, hb1, hb2⟩ := (show ∃ b, is [((1 : Int), n, v)] a = b ∧ is [((2 : Int), n, v)] a = !b by have := hopp.out; rwa [if_pos rfl] at this)
      rw [hb1] at HX2
      clear hopp hb1
      go_wp2_with fail
      refine HX2.out.mono ?_
      rintro e w21 ⟨rfl, hu⟩
      have hu21 := Lib.hid (hu20.out.trans hu)
      have HY2 := Lib.hid (HY.out _ _ hu21.out (Rw.View.new ky2.out hu))
      rw [hb2] at HY2
      clear HX2 HY hu hu20 hb2 kx2 ky2
      go_wp2_with fail
      refine HY2.out.mono ?_
      rintro e w22 ⟨rfl, hu⟩
      have hend := Lib.hid (belowOf (hu21.out.trans hu))
      clear HY2 hu hu21
      go_wp2_with fail
      go_ret
      exact ⟨by cases b <;> rfl, hend.out⟩
    · have hoo := (show is [((1 : Int), n, v)] a = false ∧ is [((2 : Int), n, v)] a = false by have := hopp.out; rwa [if_neg hq] at this)
      rw [hoo.1] at HX2
      have dq : ((q : Int) != 0) = true := by rw [bne_iff_ne]; omega
      clear hopp hq
      go_wp2_with fail
      refine HX2.out.mono ?_
      rintro e w21 ⟨rfl, hu⟩
      have hu21 := Lib.hid (hu20.out.trans hu)
      have HY2 := Lib.hid (HY.out _ _ hu21.out (Rw.View.new ky2.out hu))
      rw [hoo.2] at HY2
      clear HX2 HY hu hu20 hoo kx2 ky2
      go_wp2_with fail
      refine HY2.out.mono ?_
      rintro e w22 ⟨rfl, hu⟩
      have hend := Lib.hid (belowOf (hu21.out.trans hu))
      clear HY2 hu hu21
      go_wp2_with fail
      go_ret
      exact ⟨rfl, hend.out⟩
theorem open_msB {H : Type} {enc : TypeId × Value → H} {W : World} {base : Nat} {v : Value} {d : DataW H} {p : List MemPlace}
    (hv : Value.okWide Try.prog W .any base 22 v) (h : DataW.Trod enc Try.prog W 0 (fun _ => true) true 22 v d p)
    (hz : ∀ e s, d = .slice e s → (e.length + s.length) * Try.prog.bytesOf 37 ≤ 70368744177664) : IsMsN 70368744177664 v W := open_msN hv h hz
end Mt
end Go.Proofs.Ytckphnemnbejmaa
