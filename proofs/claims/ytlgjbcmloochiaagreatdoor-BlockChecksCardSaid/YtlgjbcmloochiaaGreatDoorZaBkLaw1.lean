/- Blocks (layer 15): BlockChecks. -/
import Derived.Test.YtlgjbcmloochiaaGreatDoorZaBkLaw0
import Derived.Test.YtlgjbcmloochiaaGreatDoorZaBkSame
import Derived.Test.YtlgjbcmloochiaaGreatDoorZaBkTo
import Derived.Test.YtlgjbcmloochiaaGreatDoorZaBkEnc4
import Derived.Test.YtlgjbcmloochiaaGreatDoorZaBkOpen
set_option maxRecDepth 100000
namespace Go.Proofs.YtlgjbcmloochiaaGreatDoor
open Go.RowKit Go.Sort
namespace Bk
open Bit Dsk Ob Dig
set_option linter.unusedVariables false

theorem encR_form (b : B) : ∃ (s : ByteArray) (e : Int), encR b = .returned (.tuple #[.string s, .int .i64 e]) := ⟨_, _, rfl⟩
theorem few_of {b : B} (h1 : b.dels.length < 2000) (h2 : ∀ i (h : i < b.rows.length), FineB b.rows[i]) (h3 : (∀ r ∈ b.rows, 1 ≤ r.lab.length) → b.rows.length < 200) (hg : Good b) : Few b :=
  ⟨by have := h3 (fun r hr => (hg.lab r hr).one); omega, by omega, fun r hr => by
    obtain ⟨i, hi, rfl⟩ := List.mem_iff_getElem.1 hr
    have := (h2 i hi).pts; omega⟩
theorem refencF (w : World) (S : Nat → Prop) (v : Value) (b : B) (hv : BView w S v b) (hb : Bnd b) (hf : Good b → Few b) :
    Calls Tryz.prog 11 #[v] w fun e w' => e = encR b ∧ New0 w w' := by
  by_cases hz : chk b = 0
  · exact refenc_any w S v b hv hb (hf (chk_zero.1 hz))
  · exact refenc_no w S v b hv hb hz
theorem pencF (w : World) (S : Nat → Prop) (v : Value) (b : B) (hv : BView w S v b) (hb : Bnd b) (hf : Good b → Few b) (hT : TabA w) :
    Calls Tryz.prog 10 #[v] w fun e w' => e = encR b ∧ New0 w w' := by
  by_cases hz : chk b = 0
  · exact penc_any w S v b hv hb (hf (chk_zero.1 hz)) hT
  · exact penc_no w S v b hv hb hz
set_option maxHeartbeats 12800000 in
theorem checks_true (W : World) (v : Value) (o : IsBlk v W) (hT : TabA W) :
    Calls Tryz.prog 3 #[v] W fun e W' => e = .returned (.bool true) ∧ Below W.heap.size W W' := by
  obtain ⟨b, hv, hb⟩ := o
  have HG := Lib.hid (fun w (hu : New0 W w) => great_any w v b (hv.new hu) hb)
  have HO := Lib.hid (fun w (hu : New0 W w) => to_any w v b (hv.new hu) hb)
  obtain ⟨es, ee, hE⟩ := encR_form b
  have HE := Lib.hid (fun w (hu : New0 W w) S u (hf : Good b → Few b) (hv : BView w S u b) => by have := pencF w S u b hv hb hf (hT.new hu); rw [hE] at this; exact this)
  have HF := Lib.hid (fun w (hu : New0 W w) (hf : Good b → Few b) => by have := refencF w _ v b (hv.new hu) hb hf; rw [hE] at this; exact this)
  obtain ⟨q, hq⟩ : ∃ q : Nat, chk b = q := ⟨_, rfl⟩
  have HC := Lib.hid (fun w S u (hv : BView w S u b) => pcheckIs w S u b hv hb hq)
  have HD := Lib.hid (fun w (hu : New0 W w) => rcheckIs w _ v b (hv.new hu) hb hq)
  have HM := Lib.hid (fun w u (hu : BView w (fun _ => True) u b) => from_any w u b hu hb)
  have HS := Lib.hid (fun w u (hu : New0 W w) (hv2 : BView w (fun _ => True) u b) (hd : b.dels.length < 2000) (hs : ∀ r ∈ b.dels, SmallR r) => same_any w (fun _ => True) (fun _ => True) u v b hv2 (hv.new hu) (by have := hb.few; omega) (by omega) (fun r hr => by have := (hs r hr).2.1; omega))
  obtain ⟨A, c, A', c', rfl, -, -⟩ := BView.shape hv
  obtain ⟨f, t, l, ds⟩ := b
  simp only at *
  have hX := Lib.hid (box4 W f t (.slice A l.length c) (.slice A' ds.length c') 25)
  have hux := Lib.hid ((Upon.refl (fun _ => False) W).alloc (.cells #[.int .i64 f, .int .i64 t, .slice A l.length c, .slice A' ds.length c'] 25 (0, 0)))
  obtain ⟨wx, hwx⟩ : ∃ wx, W.alloc (.cells #[.int .i64 f, .int .i64 t, .slice A l.length c, .slice A' ds.length c'] 25 (0, 0)) = wx := ⟨_, rfl⟩
  rw [hwx] at hX hux
  obtain ⟨x0, x1, x2, x3⟩ := hX.out
  replace hwx := Lib.hid hwx
  clear hv hb hE hq hT
  go_enter Tryz.func3, Tryz.ntmps3
  go_wp2_with fail
  rw [hwx.out]
  refine (HG.out _ hux.out).mono ?_
  rintro e w1 ⟨bg, rfl, hu1, hbg⟩
  clear x0 x1 x2 x3
  obtain ⟨x0, x1, x2, x3⟩ := hX.out.new hu1
  replace hu1 := Lib.hid hu1
  replace hbg := Lib.hid hbg
  clear HG hwx
  cases bg with
  | true =>
    go_wp2_with fail
    go_ret
    exact ⟨rfl, belowOf (hux.out.trans hu1.out)⟩
  | false =>
    obtain ⟨hd, hfb, hsr, hrc⟩ := hbg.out rfl
    have hfw : Hid (Good (⟨f, t, l, ds⟩ : B) → Few ⟨f, t, l, ds⟩) := Lib.hid (fun hg => few_of (b := ⟨f, t, l, ds⟩) hd hfb hrc hg)
    replace HE := Lib.hid (fun w hu S u hv => HE.out w hu S u hfw.out hv)
    replace HF := Lib.hid (fun w hu => HF.out w hu hfw.out)
    replace HS := Lib.hid (fun w u hu hv2 => HS.out w u hu hv2 hd hsr)
    clear hbg hfb hsr hrc hd hfw
    go_wp2_with fail
    refine (HO.out _ (hux.out.trans hu1.out)).mono ?_
    rintro e w2 ⟨u, rfl, hu, hn2⟩
    have hu' := hu.mono (S' := fun _ => True) (fun _ _ _ => trivial)
    obtain ⟨B1, c2, B2, c3, rfl, -, -⟩ := BView.shape hu'
    simp only at hu' ⊢
    have uy := (Upon.refl (fun _ => False) w2).alloc (.cells #[.int .i64 f, .int .i64 t, .slice B1 l.length c2, .slice B2 ds.length c3] 29 (0, 0))
    obtain ⟨X0, X1, X2, X3⟩ := hX.out.new (hu1.out.trans (hn2.trans uy))
    obtain ⟨Y0, Y1, Y2, Y3⟩ := box4 w2 f t (.slice B1 l.length c2) (.slice B2 ds.length c3) 29
    have hY := Lib.hid (box4 w2 f t (.slice B1 l.length c2) (.slice B2 ds.length c3) 29)
    obtain ⟨wy, hwy⟩ : ∃ wy, w2.alloc (.cells #[.int .i64 f, .int .i64 t, .slice B1 l.length c2, .slice B2 ds.length c3] 29 (0, 0)) = wy := ⟨_, rfl⟩
    rw [hwy] at hY uy
    have hxy : Hid (New0 wx wy) := Lib.hid (hu1.out.trans (hn2.trans uy))
    have hU := Lib.hid (hu'.new uy)
    have hYf := Lib.hid (fun w' (hn : New0 wy w') => And.intro (hX.out.new (hxy.out.trans hn)) (hY.out.new hn))
    replace hwy := Lib.hid hwy
    clear HO hX hn2 uy hu1 hu hu' hY x0 x1 x2 x3
    go_wp2_with fail
    rw [hwy.out]
    clear X0 X1 X2 X3 Y0 Y1 Y2 Y3
    refine (HE.out _ (hux.out.trans hxy.out) _ _ hU.out).mono ?_
    rintro e w3 ⟨rfl, hu3⟩
    obtain ⟨⟨x0, x1, x2, x3⟩, ⟨y0, y1, y2, y3⟩⟩ := hYf.out _ hu3
    replace hu3 := Lib.hid hu3
    clear HE hwy
    go_wp2_with fail
    refine (HF.out _ (hux.out.trans (hxy.out.trans hu3.out))).mono ?_
    rintro e w4 ⟨rfl, hn⟩
    have hu4 := Lib.hid (hu3.out.trans hn)
    clear x0 x1 x2 x3 y0 y1 y2 y3
    obtain ⟨⟨x0, x1, x2, x3⟩, ⟨y0, y1, y2, y3⟩⟩ := hYf.out _ hu4.out
    clear HF hn hu3
    have hS9 : Hid (∀ w', New0 w4 w' → (w'.cell? ⟨w2.heap.size, 0, none⟩ = some (.int .i64 f) ∧ w'.cell? ⟨w2.heap.size, 1, none⟩ = some (.int .i64 t) ∧ w'.cell? ⟨w2.heap.size, 2, none⟩ = some (.slice B1 l.length c2) ∧ w'.cell? ⟨w2.heap.size, 3, none⟩ = some (.slice B2 ds.length c3)) ∧
        w'.cell? ⟨W.heap.size, 0, none⟩ = some (.int .i64 f) ∧ w'.cell? ⟨W.heap.size, 1, none⟩ = some (.int .i64 t) ∧ w'.cell? ⟨W.heap.size, 2, none⟩ = some (.slice A l.length c) ∧ w'.cell? ⟨W.heap.size, 3, none⟩ = some (.slice A' ds.length c')) := Lib.hid (fun w' hn => by
      obtain ⟨⟨x0, x1, x2, x3⟩, ⟨y0, y1, y2, y3⟩⟩ := hYf.out _ (hu4.out.trans hn)
      exact ⟨⟨y0, y1, y2, y3⟩, x0, x1, x2, x3⟩)
    have HC4 := Lib.hid (fun w' (hn : New0 w4 w') => HC.out w' _ _ (hU.out.new (hu4.out.trans hn)))
    have HD4 := Lib.hid (fun w' (hn : New0 w4 w') => HD.out w' (hux.out.trans (hxy.out.trans (hu4.out.trans hn))))
    have HM4 := Lib.hid (fun w' (hn : New0 w4 w') => HM.out w' _ (hU.out.new (hu4.out.trans hn)))
    have HS4 := Lib.hid (fun w' u (hn : New0 w4 w') hv => HS.out w' u (hux.out.trans (hxy.out.trans (hu4.out.trans hn))) hv)
    have hend := Lib.hid (fun w' (hn : New0 w4 w') => belowOf (hux.out.trans (hxy.out.trans (hu4.out.trans hn))))
    have hq1 : ((q : Int) == (q : Int)) = true := by simp
    have hq2 : (ee == ee) = true := by simp
    clear HC HD HM HS hYf hU x0 x1 x2 x3 y0 y1 y2 y3 hxy hux hu4
    go_wp2_with fail
    go_region_held3 (fun w' => (w'.cell? ⟨w2.heap.size, 0, none⟩ = some (.int .i64 f) ∧ w'.cell? ⟨w2.heap.size, 1, none⟩ = some (.int .i64 t) ∧ w'.cell? ⟨w2.heap.size, 2, none⟩ = some (.slice B1 l.length c2) ∧ w'.cell? ⟨w2.heap.size, 3, none⟩ = some (.slice B2 ds.length c3)) ∧
        w'.cell? ⟨W.heap.size, 0, none⟩ = some (.int .i64 f) ∧ w'.cell? ⟨W.heap.size, 1, none⟩ = some (.int .i64 t) ∧ w'.cell? ⟨W.heap.size, 2, none⟩ = some (.slice A l.length c) ∧ w'.cell? ⟨W.heap.size, 3, none⟩ = some (.slice A' ds.length c'))
      ((first | exact hS9.out _ nd | exact hS9.out _ nc | exact hS9.out _ nb | exact hS9.out _ na | exact hS9.out _ (upon_drewN _ w4 1)))
      (first
      | (go_at_call 12; refine (HC4.out _ (upon_drewN _ w4 1)).mono ?_; rintro e wa ⟨rfl, ha⟩; have na : New0 w4 wa := (upon_drewN _ w4 1).trans ha)
      | (go_at_call 13; refine (HD4.out _ na).mono ?_; rintro e wv ⟨rfl, hv⟩; have nb : New0 w4 wv := na.trans hv)
      | (go_at_call 15; refine (HM4.out _ nb).mono ?_; rintro e wc ⟨uf, rfl, hvf, hc⟩; have nc : New0 w4 wc := nb.trans hc)
      | (go_at_call 14; refine (HS4.out _ uf nc hvf).mono ?_; rintro e wd ⟨rfl, hd⟩; have nd : New0 w4 wd := nc.trans hd)
      | fail)
    all_goals
      go_wp2_with fail
      go_ret
      first
        | exact ⟨rfl, hend.out _ nd⟩
        | exact ⟨Lb.ret_b (by simp), hend.out _ nd⟩
end Bk
end Go.Proofs.YtlgjbcmloochiaaGreatDoor
