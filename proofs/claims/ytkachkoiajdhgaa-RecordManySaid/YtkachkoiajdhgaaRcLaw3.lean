/- Layer 12: the law RecordChecks. -/
import Derived.Test.YtkachkoiajdhgaaRcLaw2
import Derived.Lib.QuietBelow
set_option maxRecDepth 100000
namespace Go.Proofs.Ytkachkoiajdhgaa
open Go.RowKit Go.Sort
namespace Rc
open Bit Dsk Ob Dig Lb
set_option linter.unusedVariables false

theorem encR_form (r : R) : ∃ (s : ByteArray) (e : Int), encR r = .returned (.tuple #[.string s, .int .i64 e]) := by
  by_cases h : chk r = 0
  · exact ⟨_, _, encR_ok h⟩
  · exact ⟨_, _, encR_no h⟩
theorem newGet (w : World) (d : Nat) (os : Array Go.Obj) : New0 w (grow (redrawn w d) os) := newOf (below_regrown w d os)
set_option maxHeartbeats 6400000 in
theorem checks_true (W : World) (v : Value) (o : IsRec v W) :
    Calls Try.prog 3 #[v] W fun e W' => e = .returned (.bool true) ∧ Below W.heap.size W W' := by
  obtain ⟨r, hv, hb, hl1, hl2⟩ := o
  have hfew : r.smp.length ≤ 9223372036854775807 := by omega
  have HG := Lib.hid (fun w (hu : New0 W w) => great_any w v r (hv.new hu) hb hl1 hl2)
  have HO := Lib.hid (fun w (hu : New0 W w) => own_any w v r (hv.new hu) hb hl1 hl2)
  obtain ⟨es, ee, hE⟩ := encR_form r
  have HE := Lib.hid (fun w S u (hv : RView w S u r) => by have := enc_any w S u r hv hb; rw [hE] at this; exact this)
  have HF := Lib.hid (fun w (hu : New0 W w) => by have := refenc_any w All v r (hv.new hu) hb; rw [hE] at this; exact this)
  obtain ⟨⟨p1, p2⟩, hp⟩ : ∃ p, span r = p := ⟨_, rfl⟩
  have HP := Lib.hid (fun w S u (hv : RView w S u r) => by have := span_any w S u r hv hb; rw [hp] at this; unfold ret2 at this; exact this)
  have HQ := Lib.hid (fun w (hu : New0 W w) => by have := refspan_any w All v r (hv.new hu) hb; rw [hp] at this; unfold ret2 at this; exact this)
  obtain ⟨q, hq⟩ : ∃ q : Int, (chk r : Int) = q := ⟨_, rfl⟩
  have HC := Lib.hid (fun w S u (hv : RView w S u r) => by have := (check_any w S u r hv hb).mono fun e w' h => And.imp id belowOf h; rw [hq] at this; exact this)
  have HD := Lib.hid (fun w (hu : New0 W w) => by have := (refcheck_any w All v r (hv.new hu) hb).mono fun e w' h => And.imp id belowOf h; rw [hq] at this; exact this)
  have HS := Lib.hid (fun w S u (hu : New0 W w) (hv2 : RView w S u r) => (same_any w S All u v r hv2 (hv.new hu) hfew).mono fun e w' h => And.imp id belowOf h)
  obtain ⟨A, c, A', c', rfl, -, -⟩ := RView.shape hv
  obtain ⟨k, l, ms, a, b⟩ := r
  simp only at *
  have hX := box5 W k (.slice A l.length c) (.slice A' ms.length c') a b
  have ux := (Upon.refl (fun _ => False) W).alloc (.cells #[.int .i64 k, .slice A l.length c, .slice A' ms.length c', .int .i64 a, .int .i64 b] 25 (0, 0))
  obtain ⟨wx, hwx⟩ : ∃ wx, W.alloc (.cells #[.int .i64 k, .slice A l.length c, .slice A' ms.length c', .int .i64 a, .int .i64 b] 25 (0, 0)) = wx := ⟨_, rfl⟩
  rw [hwx] at hX ux
  obtain ⟨x0, x1, x2, x3, x4⟩ := hX
  have hX := Lib.hid (fun w' (hu : New0 wx w') => (⟨x0, x1, x2, x3, x4⟩ : Box5 W.heap.size k (.slice A l.length c) (.slice A' ms.length c') a b wx).new hu)
  have hux := Lib.hid ux
  replace hwx := Lib.hid hwx
  clear hv hb hl1 hl2 hfew hE hp hq ux
  go_enter Try.func3, Try.ntmps3
  go_wp2_with fail
  rw [hwx.out]
  refine (HG.out _ hux.out).mono ?_
  rintro e w1 ⟨bg, rfl, hu1, -⟩
  obtain ⟨x0, x1, x2, x3, x4⟩ := hX.out _ hu1
  replace hu1 := Lib.hid hu1
  clear HG hwx
  cases bg with
  | true =>
    go_wp2_with fail
    go_ret
    exact ⟨rfl, belowOf (hux.out.trans hu1.out)⟩
  | false =>
    go_wp2_with fail
    refine (HO.out _ (hux.out.trans hu1.out)).mono ?_
    rintro e w2 ⟨u, rfl, hu, hn2⟩
    replace hu := hu.all
    obtain ⟨B, c2, B', c2', rfl, -, -⟩ := RView.shape hu
    simp only at hu ⊢
    have hY := box5 w2 k (.slice B l.length c2) (.slice B' ms.length c2') a b
    have uy := (Upon.refl (fun _ => False) w2).alloc (.cells #[.int .i64 k, .slice B l.length c2, .slice B' ms.length c2', .int .i64 a, .int .i64 b] 25 (0, 0))
    obtain ⟨X0, X1, X2, X3, X4⟩ := hX.out _ (hu1.out.trans (hn2.trans uy))
    obtain ⟨Y0, Y1, Y2, Y3, Y4⟩ := hY
    have hY := box5 w2 k (.slice B l.length c2) (.slice B' ms.length c2') a b
    obtain ⟨wy, hwy⟩ : ∃ wy, w2.alloc (.cells #[.int .i64 k, .slice B l.length c2, .slice B' ms.length c2', .int .i64 a, .int .i64 b] 25 (0, 0)) = wy := ⟨_, rfl⟩
    rw [hwy] at hY uy
    have hxy : Hid (New0 wx wy) := Lib.hid (hu1.out.trans (hn2.trans uy))
    have hU := Lib.hid (hu.new uy)
    have hYf := Lib.hid (fun w' (hn : New0 wy w') => And.intro (hX.out _ (hxy.out.trans hn)) (hY.new hn))
    replace hwy := Lib.hid hwy
    clear HO hX hn2 uy hu1 hu
    go_wp2_with fail
    rw [hwy.out]
    clear X0 X1 X2 X3 X4 Y0 Y1 Y2 Y3 Y4
    refine (HE.out _ _ _ hU.out).mono ?_
    rintro e w3 ⟨rfl, hu3⟩
    obtain ⟨⟨x0, x1, x2, x3, x4⟩, ⟨y0, y1, y2, y3, y4⟩⟩ := hYf.out _ hu3
    replace hu3 := Lib.hid hu3
    clear HE hwy
    go_wp2_with fail
    refine (HF.out _ (hux.out.trans (hxy.out.trans hu3.out))).mono ?_
    rintro e w4 ⟨rfl, hn⟩
    have hu4 := Lib.hid (hu3.out.trans hn)
    obtain ⟨⟨x0, x1, x2, x3, x4⟩, ⟨y0, y1, y2, y3, y4⟩⟩ := hYf.out _ hu4.out
    clear HF hn hu3
    go_wp2_with fail
    refine (HP.out _ _ _ (hU.out.new hu4.out)).mono ?_
    rintro e w5 ⟨rfl, hn⟩
    have hu5 := Lib.hid (hu4.out.trans hn)
    obtain ⟨⟨x0, x1, x2, x3, x4⟩, ⟨y0, y1, y2, y3, y4⟩⟩ := hYf.out _ hu5.out
    clear HP hn hu4
    go_wp2_with fail
    refine (HQ.out _ (hux.out.trans (hxy.out.trans hu5.out))).mono ?_
    rintro e w6 ⟨rfl, hn⟩
    have hu6 := Lib.hid (hu5.out.trans hn)
    obtain ⟨⟨x0, x1, x2, x3, x4⟩, ⟨y0, y1, y2, y3, y4⟩⟩ := hYf.out _ hu6.out
    clear HQ hn hu5
    have HC6 := Lib.hid (fun d os => HC.out _ _ _ (hU.out.new (hu6.out.trans (newGet w6 d os))))
    have HD6 := Lib.hid (fun d os => HD.out _ (hux.out.trans (hxy.out.trans (hu6.out.trans (newGet w6 d os)))))
    have HS6 := Lib.hid (fun d os => HS.out _ _ _ (hux.out.trans (hxy.out.trans (hu6.out.trans (newGet w6 d os)))) (hU.out.new (hu6.out.trans (newGet w6 d os))))
    have g0 := fun d os => cell_regrown x0 d os
    have g1 := fun d os => cell_regrown x1 d os
    have g2 := fun d os => cell_regrown x2 d os
    have g3 := fun d os => cell_regrown x3 d os
    have g4 := fun d os => cell_regrown x4 d os
    have h0 := fun d os => cell_regrown y0 d os
    have h1 := fun d os => cell_regrown y1 d os
    have h2 := fun d os => cell_regrown y2 d os
    have h3 := fun d os => cell_regrown y3 d os
    have h4 := fun d os => cell_regrown y4 d os
    clear HC HD HS hYf hU
    go_wp2_with fail
    refine wp_region_quiet_below (by kernel_rfl) (by kernel_rfl) ?_
    repeat (go_big_quiet_step (first
      | exact Calls.regrown_of (HC6.out _ _)
      | exact Calls.regrown_of (HD6.out _ _)
      | exact Calls.regrown_of (HS6.out _ _)))
    refine wpQuiet_nil ?_
    intro _ hw'
    obtain ⟨⟨dq, osq⟩, hw''⟩ := hw'
    subst hw''
    have hend := Lib.hid (belowOf (hux.out.trans (hxy.out.trans (hu6.out.trans (newGet w6 dq osq)))))
    clear HC6 HD6 HS6 g0 g1 g2 g3 g4 h0 h1 h2 h3 h4 x0 x1 x2 x3 x4 y0 y1 y2 y3 y4
    generalize grow (redrawn w6 dq) osq = w7 at *
    go_wp2_with fail
    go_ret
    exact ⟨ret_b (by simp), hend.out⟩
end Rc
end Go.Proofs.Ytkachkoiajdhgaa
