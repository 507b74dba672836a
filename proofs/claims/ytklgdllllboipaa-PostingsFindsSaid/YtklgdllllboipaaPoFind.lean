/- The program's Find (layer 14). -/
import Derived.Test.YtklgdllllboipaaPoNear2
set_option maxRecDepth 100000
namespace Go.Proofs.Ytklgdllllboipaa
open Go.RowKit Go.Sort
namespace Po
open Bit Dsk Ob Dig
set_option linter.unusedVariables false
theorem sel_none {f : Nat → Bool} {n : Nat} (h : ∀ i, i < n → f i = false) : sel f n = [] := List.eq_nil_iff_forall_not_mem.2 fun x hx => by
  obtain ⟨i, h1, h2, -⟩ := mem_sel.1 hx
  rw [h i h1] at h2; cases h2
theorem Idx.cell0 {w : World} {p : Nat} {x : Value} {rs : List (List Lb.Pr)} (h : Idx w p x rs) : w.cell? ⟨p, 0, none⟩ = some x := by
  rcases h.2 with h | ⟨b, f, -, h, -⟩
  · exact h.cells.1
  · exact h.cells.1
set_option maxHeartbeats 6400000 in
theorem find_any (w : World) (p : Nat) (x : Value) (rs : List (List Lb.Pr)) (lv : Value) (l : List Mt.M) (h : Idx w p x rs) (hF : Few rs) (hv : Mt.View w (fun b => b ≠ p) lv l) (hb : Mt.Bnd l) :
    Calls Try.prog 18 #[.pointer (some ⟨p, 0, none⟩), lv] w (AskE w p x rs (sel (asked rs l) rs.length)) := by
  obtain ⟨A, c, rfl, -, -⟩ := Rw.View.shape hv
  have hpw := h.lt
  have HC := Lib.hid (Mt.check_any w _ _ l hv hb)
  by_cases h0 : Mt.chk l = 0
  · have h8 := (Mt.chk_zero.1 h0).1
    rw [h0] at HC
    have HN := Lib.hid (fun w' (hu : New0 w w') => near_any w' p x rs _ l (h.new hu) hF (Rw.View.new hv hu) hb (by omega))
    have HI := Lib.hid (fun w' (hu : Upon (fun k => k = p) w w') S' (a : List Lb.Pr) (av : Value) (ha : Lb.View w' S' av a) => Mt.is_any w' _ _ _ av l a (Rw.View.upon hv hu (fun b h1 h2 => h1 h2)) hb ha)
    have hrn := hF.rows
    clear hv hb hF h
    go_enter Try.func18, Try.ntmps18
    go_wp2_with fail
    refine HC.out.mono ?_
    rintro e w2 ⟨rfl, hu2⟩
    have HQ := Lib.hid (HN.out w2 hu2)
    replace hu2 := Lib.hid hu2
    clear HC HN h0 h8
    go_wp2_with fail
    refine HQ.out.mono ?_
    rintro e w3 ⟨v3, N, rfl, k1, k2, k3, k4⟩
    have hu3 := Lib.hid ((hu2.out.mono (fun _ _ f => f.elim) : Upon (fun k => k = p) w w2).trans k4)
    have hN := Lib.hid k1
    have hNr := Lib.hid k2
    have hX := Lib.hid k3
    have hp3 := k3.lt
    have hNl := k2.len
    obtain ⟨A3, c3, hv3, -, -⟩ := Rw.View.shape k1
    subst hv3
    have hst : Hid (N.filter (fun y => asked rs l y.toNat) = sel (asked rs l) rs.length) := Lib.hid (filter_sel k2.up k2.row k2.all (fun i _ => by simp))
    clear HQ hu2 k1 k2 k3 k4
    go_wp2_with fail
    go_loopw [5, 15] (fun uv ov wr => ∃ (j : Nat), ov = .int .i64 (j : Int) ∧ j ≤ N.length ∧ Hid (OwnI w3 wr uv ((N.take j).filter (fun y => asked rs l y.toNat)))) (fun _ ov _ => N.length - (intOf ov).toNat)
    case atStart => exact ⟨0, rfl, Nat.zero_le _, Lib.hid (OwnI.none w3)⟩
    case round =>
      obtain ⟨j, rfl, hj, hg⟩ := hrel
      by_cases hlt : j < N.length
      · obtain ⟨g, o, rfl, -, -, hcN⟩ := IView.cells hN.out (by omega)
        have x0 := Lb.New0.cells hg.out.new (hcN j hlt)
        obtain ⟨i, hi, hNi⟩ := hNr.out.row _ (List.getElem_mem hlt)
        have hstep := Lib.hid (filter_take (g := fun y => asked rs l y.toNat) hlt)
        rw [hNi] at x0 hstep
        have hIx := hX.out.new hg.out.new
        have x1 := hIx.cell0
        obtain ⟨Ar, cr, hxr, -, -⟩ := Rw.DView.shape hIx.1
        have hV := hIx.1
        rw [hxr] at x1 hV
        obtain ⟨b2, o2, A', c', hAr, x2, hrow⟩ := PView.at hV hi
        rw [hAr] at x1
        have HQ := Lib.hid (HI.out wr (hu3.out.trans (hg.out.new.mono fun _ _ f => f.elim)) _ rs[i] _ hrow)
        rw [show Mt.is l rs[i] = asked rs l i from (asked_at hi).symm] at HQ
        have hlen : Hid (((N.take j).filter (fun y => asked rs l y.toNat)).length ≤ j) := Lib.hid (Nat.le_trans (List.length_filter_le _ _) (by rw [List.length_take]; omega))
        have hnat : ((i : Int)).toNat = i := by simp
        simp only [hnat] at hstep
        obtain ⟨q, hq⟩ : ∃ q, asked rs l i = q := ⟨_, rfl⟩
        obtain ⟨F, hFF⟩ : ∃ F, (N.take j).filter (fun y => asked rs l y.toNat) = F := ⟨_, rfl⟩
        obtain ⟨n2, hn2⟩ : ∃ n2, rs[i].length = n2 := ⟨_, rfl⟩
        rw [hq] at HQ hstep
        rw [hFF] at hg hlen hstep
        rw [hn2] at x2 HQ
        obtain ⟨A5, c5, hv5, -, -⟩ := Rw.View.shape hg.out.mine.view
        subst hv5
        clear hcN hNi hIx hxr hV hAr hrow hq hFF hn2 hnat
        cases q with
        | false =>
          go_wp2_with fail
          refine HQ.out.mono ?_
          rintro e w6 ⟨rfl, hn6⟩
          have hG : Hid (OwnI w3 w6 (.slice A5 F.length c5) ((N.take (j + 1)).filter (fun y => asked rs l y.toNat))) := Lib.hid (by rw [hstep.out]; simpa using hg.out.step hn6)
          clear HQ hn6 hg hstep hlen x0 x1 x2
          go_wp2_with fail
          go_roundw
          case rel => exact ⟨j + 1, by go_num, hlt, hG⟩
          case measure => simp [intOf]; omega
        | true =>
          have hst2 : Hid ((N.take (j + 1)).filter (fun y => asked rs l y.toNat) = F ++ [(i : Int)]) := Lib.hid (by rw [hstep.out]; simp)
          go_wp2_with fail
          refine HQ.out.mono ?_
          rintro e w6 ⟨rfl, hn6⟩
          have hM := Lib.hid ((hg.out.step hn6).step ((Upon.refl _ w6).alloc (.cells #[.int .i64 (i : Int)] 3 (0, 0))))
          have hX6 := Lib.hid (view_one w6 (i : Int))
          clear HQ hn6 hg hstep x0 x1 x2
          go_wp2_with (at_builtin; refine Rw.wpList_append typI rfl _ _ rfl _ _ F [(i : Int)] All rfl rfl hM.out.mine hX6.out (by have := hlen.out; rw [List.length_singleton]; omega) (by have := hlen.out; rw [List.length_singleton]; omega) ?_)
          intro v' w7 hown hgr hbl
          have hG := Lib.hid (hM.out.app hown hgr (hbl.imp id fun h => h.trans (by simp)))
          rw [← hst2.out] at hG
          clear hown hgr hbl hM hX6 hst2 hlen
          obtain ⟨A6, c6, hv6, -, -⟩ := Rw.View.shape hG.out.mine.view
          subst hv6
          go_wp2_with fail
          go_roundw
          case rel => exact ⟨j + 1, by go_num, hlt, hG⟩
          case measure => simp [intOf]; omega
      · have hg2 := hg.out
        rw [List.take_of_length_le (by omega), hst.out] at hg2
        obtain ⟨A6, c6, hv6, -, -⟩ := Rw.View.shape hg2.mine.view
        subst hv6
        have hE : Hid (AskE w p x rs (sel (asked rs l) rs.length) (.returned (.slice A6 (sel (asked rs l) rs.length).length c6)) wr) := Lib.hid ⟨_, rfl, Rw.View.mono hg2.mine.view (fun b _ hb => by have := hg2.base b hb; omega), hX.out.new hg2.new, hu3.out.trans (hg2.new.mono fun _ _ f => f.elim)⟩
        clear hg hg2 hX hN hNr HI
        go_wp2_with fail
        go_ret
        exact hE.out
  · have he : sel (asked rs l) rs.length = [] := sel_none fun i hi => by rw [asked_at hi]; exact Mt.is_no h0
    rw [he]
    obtain ⟨z, hz⟩ : ∃ z, Mt.chk l = z := ⟨_, rfl⟩
    rw [hz] at HC h0
    have d0 : ((z : Int) != 0) = true := by rw [bne_iff_ne]; omega
    replace h := Lib.hid h
    clear hv hb hF hz he
    go_enter Try.func18, Try.ntmps18
    go_wp2_with fail
    refine HC.out.mono ?_
    rintro e w2 ⟨rfl, hu2⟩
    have hE : Hid (AskE w p x rs [] (.returned nilS) w2) := Lib.hid ⟨_, rfl, Rw.View.noth _ _ _, h.out.new hu2, hu2.mono fun _ _ f => f.elim⟩
    clear HC hu2 h
    go_wp2_with fail
    go_ret
    exact hE.out
end Po
end Go.Proofs.Ytklgdllllboipaa
