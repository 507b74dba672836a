/- PostingsMore (layer 14). -/
import Derived.Test.YtklgdllllboipaaPoWorks
import Derived.Test.YtklgdllllboipaaPoOpen
set_option maxRecDepth 100000
namespace Go.Proofs.Ytklgdllllboipaa
open Go.RowKit Go.Sort
namespace Po
open Bit Dsk Ob Dig
set_option linter.unusedVariables false
theorem is_both {l m : List Mt.M} (h : l.length + m.length ≤ 8) (a : List Lb.Pr) : Mt.is (l ++ m) a = (Mt.is l a && Mt.is m a) := by
  have e : Mt.chk (l ++ m) = 0 ↔ Mt.chk l = 0 ∧ Mt.chk m = 0 := by
    rw [Mt.chk_zero, Mt.chk_zero, Mt.chk_zero, List.length_append]
    constructor
    · rintro ⟨h1, h2⟩
      exact ⟨⟨by omega, fun x hx => h2 x (List.mem_append_left _ hx)⟩, by omega, fun x hx => h2 x (List.mem_append_right _ hx)⟩
    · rintro ⟨⟨-, h1⟩, -, h2⟩
      exact ⟨h, fun x hx => (List.mem_append.1 hx).elim (h1 x) (h2 x)⟩
  have e2 : Mt.all (l ++ m) a = (Mt.all l a && Mt.all m a) := List.all_append
  rw [Bool.eq_iff_iff]
  simp only [Mt.is, e2, Bool.and_eq_true, decide_eq_true_eq, e]
  constructor
  · rintro ⟨⟨h1, h2⟩, h3, h4⟩; exact ⟨⟨h1, h3⟩, h2, h4⟩
  · rintro ⟨⟨h1, h3⟩, h2, h4⟩; exact ⟨⟨h1, h2⟩, h3, h4⟩
theorem asked_both {rs : List (List Lb.Pr)} {l m : List Mt.M} (h : l.length + m.length ≤ 8) (x : Int) : x ∈ sel (asked rs (l ++ m)) rs.length ↔ x ∈ sel (asked rs l) rs.length ∧ x ∈ sel (asked rs m) rs.length := by
  rw [mem_sel, mem_sel, mem_sel]
  constructor
  · rintro ⟨i, h1, h2, h3⟩
    unfold asked at h2
    rw [is_both h, Bool.and_eq_true] at h2
    exact ⟨⟨i, h1, h2.1, h3⟩, i, h1, h2.2, h3⟩
  · rintro ⟨⟨i, h1, h2, h3⟩, j, h4, h5, h6⟩
    obtain rfl : i = j := by omega
    refine ⟨i, h1, ?_, h3⟩
    unfold asked
    rw [is_both h, Bool.and_eq_true]
    exact ⟨h2, h5⟩
set_option maxHeartbeats 12800000 in
theorem more_true (w : World) (rv lv mv : Value) (hr : IsRows rv w) (hl : Mt.IsMs lv w) (hm : Mt.IsMs mv w) :
    Calls Try.prog 6 #[rv, lv, mv] w fun e w' => e = .returned (.bool true) ∧ Below w.heap.size w w' := by
  obtain ⟨rs, Vr, hz⟩ := hr
  obtain ⟨l, Vl, Bl, nl⟩ := hl
  obtain ⟨m, Vm, Bm, nm⟩ := hm
  obtain ⟨A, c, rfl, -, -⟩ := Rw.DView.shape Vr
  obtain ⟨A2, c2, rfl, -, -⟩ := Rw.View.shape Vl
  obtain ⟨A3, c3, rfl, -, -⟩ := Rw.View.shape Vm
  have HW := Lib.hid (works_any w)
  by_cases h0 : 60 < rs.length
  · have d0 : (60 : Int) < (rs.length : Int) := by omega
    clear Vr Vl Vm
    go_enter Try.func6, Try.ntmps6
    go_wp2_with fail
    refine HW.out.mono ?_
    rintro e z0 ⟨rfl, hN⟩
    have hE := Lib.hid (belowNew hN)
    clear HW hN
    go_wp2_with fail
    go_ret
    exact ⟨rfl, hE.out⟩
  have d0 : ¬ (60 : Int) < (rs.length : Int) := by omega
  by_cases h1 : 8 < l.length + m.length
  · have d1 : (8 : Int) < (l.length : Int) + (m.length : Int) := by omega
    clear Vr Vl Vm
    go_enter Try.func6, Try.ntmps6
    go_wp2_with fail
    refine HW.out.mono ?_
    rintro e z0 ⟨rfl, hN⟩
    have hE := Lib.hid (belowNew hN)
    clear HW hN
    go_wp2_with fail
    go_ret
    exact ⟨rfl, hE.out⟩
  have d1 : ¬ (8 : Int) < (l.length : Int) + (m.length : Int) := by omega
  replace Vr := Lib.hid Vr
  have Wl : Hid (Mt.View w (fun b => b < w.heap.size) (.slice A2 l.length c2) l) := Lib.hid (Rw.View.mono Vl fun b h _ => h)
  have Wm : Hid (Mt.View w (fun b => b < w.heap.size) (.slice A3 m.length c3) m) := Lib.hid (Rw.View.mono Vm fun b h _ => h)
  replace hz := Lib.hid hz
  clear Vl Vm
  go_enter Try.func6, Try.ntmps6
  go_wp2_with fail
  refine HW.out.mono ?_
  rintro e z0 ⟨rfl, hN⟩
  replace Vr := Lib.hid (Rw.DView.new Vr.out hN)
  replace Wl := Lib.hid (Rw.View.new Wl.out hN)
  replace Wm := Lib.hid (Rw.View.new Wm.out hN)
  have hU := Lib.hid hN
  clear HW hN
  go_wp2_with fail
  clear d0 d1
  go_loopw [7] (fun ov wr => ∃ j : Nat, ov = .int .i64 (j : Int) ∧ j ≤ rs.length ∧ Hid (∀ r ∈ rs.take j, r.length ≤ 50) ∧ wr = z0) (fun ov _ => rs.length - (intOf ov).toNat)
  case atStart => exact ⟨0, rfl, Nat.zero_le _, Lib.hid (fun r hr => absurd hr (by simp)), rfl⟩
  case round =>
    obtain ⟨j, rfl, hj, hg, rfl⟩ := hrel
    by_cases hlt : j < rs.length
    · obtain ⟨b, off, A', c', rfl, x0, -⟩ := PView.at Vr.out hlt
      have hnx := Lib.hid (fun (h : rs[j].length ≤ 50) => (show ∀ r ∈ rs.take (j + 1), r.length ≤ 50 from fun r hr => by
        rw [List.take_add_one, List.getElem?_eq_getElem hlt, List.mem_append] at hr
        rcases hr with hr | hr
        · exact hg.out r hr
        · rw [show r = rs[j] by simpa using hr]; exact h))
      obtain ⟨n, hn⟩ : ∃ n, rs[j].length = n := ⟨_, rfl⟩
      rw [hn] at x0 hnx
      clear hn
      by_cases h50 : 50 < n
      · have d5 : (50 : Int) < (n : Int) := by omega
        have hE := Lib.hid (belowNew hU.out)
        clear hnx hg hU Vr Wl Wm
        go_wp2_with fail
        go_ret
        exact ⟨rfl, hE.out⟩
      · have d5 : ¬ (50 : Int) < (n : Int) := by omega
        have hG := Lib.hid (hnx.out (by omega))
        clear hnx hg
        go_wp2_with fail
        go_roundw
        case rel => exact ⟨j + 1, by go_num, hlt, hG, by first | rfl | trivial⟩
        case measure => simp [intOf]; omega
    · have hF : Few rs := ⟨by omega, fun r hr => by have := hg.out r (by rw [List.take_of_length_le (by omega)]; exact hr); omega, hz.out⟩
      have HN := Lib.hid (new_any _ _ rs Vr.out (by have := hF.rows; omega) (fun r hr => by have := hF.row r hr; omega))
      have hws := hU.out.size
      clear hg Vr
      go_wp2_with fail
      refine HN.out.mono ?_
      rintro e z1 hNE
      obtain ⟨p, u, rfl, hp, hI, hN⟩ := hNE.idx
      have Vl : Hid (Mt.View z1 (fun b => b ≠ p) (.slice A2 l.length c2) l) := Lib.hid (Rw.View.mono (Rw.View.new Wl.out hN) fun b _ h => by omega)
      have Vm : Hid (Mt.View z1 (fun b => b ≠ p) (.slice A3 m.length c3) m) := Lib.hid (Rw.View.mono (Rw.View.new Wm.out hN) fun b _ h => by omega)
      have hpw : w.heap.size ≤ p := by omega
      have hp1 := hI.lt
      replace hU := Lib.hid (hU.out.trans hN)
      replace hI := Lib.hid hI
      clear hNE HN hN hp Wl Wm hws hlt hj
      have me := Lib.hid (fun W' : World => Rw.Mine.empty Mt.layM (T := 41) (cell_new W' (.cells #[] 41 (0, 0))))
      have u0 : Hid (New0 z1 (z1.alloc (.cells #[] 41 (0, 0)))) := Lib.hid ((Upon.refl _ z1).alloc _)
      go_wp2_with (at_builtin; refine Rw.wpList_append Mt.typM rfl _ _ rfl _ _ [] l _ rfl rfl (me.out z1) (Rw.View.new Vl.out u0.out) (by rw [List.length_nil]; omega) (by rw [List.length_nil]; omega) ?_)
      intro v1 z2 hm1 hg1 hb1
      have hn1 : New0 z1 z2 := Upon.grown u0.out hg1 (fun g hg => .inr (by have := Option.some.inj hg; simp at this; omega))
      have hf1 : Hid (∀ g, v1.ownBlock = some g → z1.heap.size ≤ g) := Lib.hid fun g hg => by
        rcases hb1 with hb1 | hb1
        · rw [hg] at hb1; have := Option.some.inj hb1; simp at this; omega
        · rw [hg] at hb1; have := Option.some.inj hb1; omega
      replace hm1 : Hid (Rw.Mine Mt.layM 41 z2 v1 ([] ++ l)) := Lib.hid hm1
      obtain ⟨A5, c5, hv1, -, -⟩ := Rw.View.shape hm1.out.view
      subst hv1
      have Vm2 := Lib.hid (Rw.View.new Vm.out hn1)
      replace hn1 := Lib.hid hn1
      clear hg1 hb1 u0 me
      go_wp2_with (at_builtin; refine Rw.wpList_append Mt.typM rfl _ _ rfl _ _ ([] ++ l) m _ rfl rfl hm1.out Vm2.out (by rw [List.nil_append]; omega) (by rw [List.nil_append]; omega) ?_)
      intro v2 z3 hm2 hg2 hb2
      have hN : New0 z1 z3 := Upon.grown hn1.out hg2 (fun g hg => .inr (hf1.out g hg))
      have Vk : Hid (Mt.View z3 (fun b => b ≠ p) v2 (l ++ m)) := Lib.hid (Rw.View.mono (Rw.Mine.view hm2) fun b _ hb => by
        rcases hb2 with hb2 | hb2
        · have := hf1.out b (hb2.symm.trans hb); omega
        · rw [hb] at hb2; have h1 := Option.some.inj hb2; have h2 := hn1.out.size; omega)
      replace Vl := Lib.hid (Rw.View.new Vl.out hN)
      replace Vm := Lib.hid (Rw.View.new Vm.out hN)
      replace hU := Lib.hid (hU.out.trans hN)
      replace hI := Lib.hid (hI.out.new hN)
      clear hm2 hg2 hb2 hN hm1 hf1 hn1 Vm2
      have Bk : Mt.Bnd (l ++ m) := fun x hx => (List.mem_append.1 hx).elim (Bl x) (Bm x)
      have s1 := sel_len (asked rs l) rs.length
      have s2 := sel_len (asked rs m) rs.length
      have HC := Lib.hid (find_any _ p u rs _ (l ++ m) hI.out hF Vk.out Bk)
      go_wp2_with fail
      refine HC.out.mono ?_
      rintro e z4 ⟨vf, rfl, Vf, hI, hN⟩
      replace Vl := Lib.hid (Rw.View.upon Vl.out hN (fun b h1 h2 => by first | exact h1 h2 | omega))
      replace Vm := Lib.hid (Rw.View.upon Vm.out hN (fun b h1 h2 => by first | exact h1 h2 | omega))
      replace Vk := Lib.hid (Rw.View.upon Vk.out hN (fun b h1 h2 => by first | exact h1 h2 | omega))
      replace hU := Lib.hid (hU.out.trans' hN (fun k h1 h2 => by omega))
      replace hI := Lib.hid hI
      replace Vf := Lib.hid Vf
      clear hN HC
      clear Vk
      have HC := Lib.hid (find_any _ p u rs _ l hI.out hF Vl.out Bl)
      go_wp2_with fail
      refine HC.out.mono ?_
      rintro e z5 ⟨vg, rfl, Vg, hI, hN⟩
      replace Vl := Lib.hid (Rw.View.upon Vl.out hN (fun b h1 h2 => by first | exact h1 h2 | omega))
      replace Vm := Lib.hid (Rw.View.upon Vm.out hN (fun b h1 h2 => by first | exact h1 h2 | omega))
      replace Vf := Lib.hid (Rw.View.upon Vf.out hN (fun b h1 h2 => by first | exact h1 h2 | omega))
      replace hU := Lib.hid (hU.out.trans' hN (fun k h1 h2 => by omega))
      replace hI := Lib.hid hI
      replace Vg := Lib.hid Vg
      clear hN HC
      clear Vl
      have HC := Lib.hid (find_any _ p u rs _ m hI.out hF Vm.out Bm)
      go_wp2_with fail
      refine HC.out.mono ?_
      rintro e z6 ⟨vh, rfl, Vh, hI, hN⟩
      replace Vm := Lib.hid (Rw.View.upon Vm.out hN (fun b h1 h2 => by first | exact h1 h2 | omega))
      replace Vf := Lib.hid (Rw.View.upon Vf.out hN (fun b h1 h2 => by first | exact h1 h2 | omega))
      replace Vg := Lib.hid (Rw.View.upon Vg.out hN (fun b h1 h2 => by first | exact h1 h2 | omega))
      replace hU := Lib.hid (hU.out.trans' hN (fun k h1 h2 => by omega))
      replace hI := Lib.hid hI
      replace Vh := Lib.hid Vh
      clear hN HC
      clear Vm
      have HC := Lib.hid (and_any _ _ _ _ _ _ _ Vg.out Vh.out (by first | omega | decide) (by first | omega | decide))
      go_wp2_with fail
      refine HC.out.mono ?_
      rintro e z7 ⟨vt, rt, rfl, Vt, Ut, Mt, Lt, hN⟩
      replace Vf := Lib.hid (Rw.View.new Vf.out hN)
      replace Vg := Lib.hid (Rw.View.new Vg.out hN)
      replace Vh := Lib.hid (Rw.View.new Vh.out hN)
      replace hU := Lib.hid (hU.out.trans hN)
      replace hI := Lib.hid (hI.out.new hN)
      clear hN HC
      (try dsimp only at Mt)
      replace Vt := Lib.hid Vt
      replace Ut := Lib.hid Ut
      replace Mt := Lib.hid Mt
      have HC := same_any _ _ _ _ _ _ _ Vf.out Vt.out
      rw [show decide (sel (asked rs (l ++ m)) rs.length = rt) = true from decide_eq_true (up_ext (sel_up _ _) Ut.out fun x => (asked_both (by omega) x).trans (Mt.out x).symm)] at HC
      replace HC := Lib.hid HC
      go_wp2_with fail
      refine HC.out.mono ?_
      rintro e z8 ⟨rfl, hN⟩
      replace Vf := Lib.hid (Rw.View.new Vf.out hN)
      replace Vg := Lib.hid (Rw.View.new Vg.out hN)
      replace Vh := Lib.hid (Rw.View.new Vh.out hN)
      replace Vt := Lib.hid (Rw.View.new Vt.out hN)
      replace hU := Lib.hid (hU.out.trans hN)
      replace hI := Lib.hid (hI.out.new hN)
      clear hN HC
      go_wp2_with fail
      go_ret
      exact ⟨rfl, belowNew hU.out⟩
end Po
end Go.Proofs.Ytklgdllllboipaa
