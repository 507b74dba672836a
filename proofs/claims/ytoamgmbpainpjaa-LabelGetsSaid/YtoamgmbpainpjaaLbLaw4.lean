/- Layer 10: the law LabelGets. -/
import Derived.Test.YtoamgmbpainpjaaLbLaw3
import Derived.Lib.QuietBelow
import Derived.Deep.RegionHeld3
set_option maxRecDepth 100000
namespace Go.Proofs.Ytoamgmbpainpjaa
open Go.RowKit Go.Sort
namespace Lb
open Bit Dsk Ob Dig
set_option linter.unusedVariables false
set_option linter.unusedSimpArgs false

theorem New0.get (w : World) (d : Nat) (os : Array Go.Obj) : New0 w (grow (redrawn w d) os) := newOf (below_regrown w d os)
/-- Is the name in, among the first j? -/
def Has (l : List Pr) (n : ByteArray) (j : Nat) (b : Bool) : Prop := b = true ↔ ∃ i, ∃ h : i < l.length, i < j ∧ l[i].1 = n
theorem Has.start (l : List Pr) (n : ByteArray) : Has l n 0 false := ⟨fun h => (by cases h), fun ⟨i, h, h2, _⟩ => absurd h2 (Nat.not_lt_zero i)⟩
theorem Has.next {l : List Pr} {n : ByteArray} {j : Nat} {b : Bool} (h : Has l n j b) (hj : j < l.length) : Has l n (j + 1) (b || decide (l[j].1 = n)) := by
  constructor
  · intro hb
    rcases Bool.or_eq_true_iff.1 hb with hb | hb
    · obtain ⟨i, h1, h2, h3⟩ := h.1 hb
      exact ⟨i, h1, by omega, h3⟩
    · exact ⟨j, hj, by omega, by simpa using hb⟩
  · rintro ⟨i, h1, h2, h3⟩
    rw [Bool.or_eq_true_iff]
    by_cases e : i = j
    · subst e; exact .inr (decide_eq_true h3)
    · exact .inl (h.2 ⟨i, h1, by omega, h3⟩)
theorem Has.none {l : List Pr} {n : ByteArray} {j : Nat} (h : Has l n j false) (hj : ¬ j < l.length) : ∀ p ∈ l, p.1 ≠ n := fun p hp e => by
  obtain ⟨i, hi, rfl⟩ := List.mem_iff_getElem.1 hp
  have := h.2 ⟨i, hi, by omega, e⟩
  cases this
theorem chk_more {l : List Pr} (h : Good l) (h1 : 1 ≤ l.length) : chk l = if l.length ≤ 8 then 0 else 16 := by
  by_cases h8 : l.length ≤ 8
  · rw [if_pos h8]; exact chk_ok ⟨h1, h8, h⟩
  · rw [if_neg h8]; exact chk_no fun k => h8 k.few
theorem getB' {w : World} {S : Nat → Prop} {v : Value} {l : List Pr} {n a : ByteArray} (hv : View w S v l) (h : get l n = a) (d : Nat) (os : Array Go.Obj) :
    Calls Try.prog 16 #[v, .string n] (grow (redrawn w d) os) fun e w' => e = .returned (.string a) ∧ Below (grow (redrawn w d) os).heap.size (grow (redrawn w d) os) w' := by
  subst h
  exact (get_any _ S v l (Rw.View.new hv (New0.get w d os)) n).mono fun e w' ⟨he, hu⟩ => ⟨he, belowOf hu⟩
set_option maxHeartbeats 12800000 in
theorem gets_ok (W : World) (v1 : Value) (n v : ByteArray) (l : List Pr) (h1 : View W All v1 l) (hok : Ok l) (hn : nm n = true) (hv : vl v = true) :
    Calls Try.prog 8 #[v1, .string n, .string v] W fun e W' => e = .returned (.bool true) ∧ Below W.heap.size W W' := by
  have HW := Lib.hid (worksB W)
  have hsm : Sml l := fun p hp => by have := hok.good.small p hp; omega
  have hone := hok.one
  have hfew := hok.few
  have HO := Lib.hid (fun w (hu : New0 W w) => own_any w All v1 l (Rw.View.new h1 hu) (by omega))
  have HC := Lib.hid (fun w S u (hv : View w S u l) => by have := check_any w S u l hv hsm; rw [chk_ok hok] at this; exact this)
  have hnz := (nm_size hn).2
  have hvz := (vl_size hv).2
  have HN := Lib.hid (fun w => by have := refname_any n (by omega) w; rw [hn] at this; exact this)
  have HV := Lib.hid (fun w => by have := refvalue_any v (by omega) w; rw [hv] at this; exact this)
  have HG := Lib.hid (fun w a (hu : New0 W w) (hno : get l n = a) => by have := get_any w All v1 l (Rw.View.new h1 hu) n; rw [hno] at this; exact this)
  obtain ⟨A, c, rfl, hc1, hc2⟩ := Rw.View.shape h1
  obtain ⟨b, off, rfl, -, -, hcells⟩ := View.cells h1 (by omega)
  replace hcells := Lib.hid hcells
  replace h1 := Lib.hid h1
  replace hok := Lib.hid hok
  replace hn := Lib.hid hn
  replace hv := Lib.hid hv
  clear hsm
  unfold maxLen at hc2
  go_enter Try.func8, Try.ntmps8
  go_wp2_with fail
  refine HW.out.mono ?_
  rintro e w1 ⟨rfl, hu1⟩
  replace hu1 := Lib.hid hu1
  clear HW
  go_wp2_with fail
  refine (HO.out _ hu1.out).mono ?_
  rintro e w2 ⟨u, rfl, hm, -, hu⟩
  have hu2 := Lib.hid (hu1.out.trans hu)
  replace hm := Lib.hid hm
  clear HO hu hu1
  go_wp2_with fail
  refine (HC.out _ _ _ hm.out.view).mono ?_
  rintro e w3 ⟨rfl, hu⟩
  have hu3 := Lib.hid (hu2.out.trans hu)
  clear HC hm hu hu2
  go_wp2_with fail
  refine (HN.out _).mono ?_
  rintro e w4 ⟨rfl, n4, rfl⟩
  have hu4 := Lib.hid (hu3.out.trans (upon_drewN _ w3 n4))
  clear HN hu3
  go_wp2_with fail
  refine (HV.out _).mono ?_
  rintro e w5 ⟨rfl, n5, rfl⟩
  have hu5 := Lib.hid (hu4.out.trans (upon_drewN _ _ n5))
  clear HV hu4
  go_wp2_with fail
  go_loopw [7, 8] (fun bv ov wr => ∃ (j : Nat) (x : Bool), bv = .bool x ∧ ov = .int .i64 (j : Int) ∧ j ≤ l.length ∧ Hid (Has l n j x) ∧ Hid (New0 W wr)) (fun _ ov _ => l.length - (intOf ov).toNat)
  case atStart => exact ⟨0, false, rfl, rfl, Nat.zero_le _, Lib.hid (Has.start l n), by first | exact hu5 | (have := hu5.out; rw [World.drewN_drewN] at this; exact Lib.hid this)⟩
  case round =>
    clear hu5
    obtain ⟨j, x, rfl, rfl, hj, hhas, hu⟩ := hrel
    by_cases hlt : j < l.length
    · obtain ⟨x0, x1⟩ := hcells.out j hlt
      have r0 := New0.cells hu.out x0
      have r1 := New0.cells hu.out x1
      have hg := get_own hok.out.good.rise j hlt
      have hnx := hhas.out.next hlt
      obtain ⟨a1, ha1⟩ : ∃ a1, l[j].1 = a1 := ⟨_, rfl⟩
      obtain ⟨a2, ha2⟩ : ∃ a2, l[j].2 = a2 := ⟨_, rfl⟩
      rw [ha1] at r0 hg hnx
      rw [ha2] at r1 hg
      have HG1 := Lib.hid (fun d os => getB' (Rw.View.new h1.out hu.out) hg d os)
      have y0 := fun d os => cell_regrown r0 d os
      have y1 := fun d os => cell_regrown r1 d os
      clear ha1 ha2 x0 x1 hhas hg
      replace hnx := Lib.hid hnx
      go_wp2_with fail
      refine wp_region_quiet_below (by kernel_rfl) (by kernel_rfl) ?_
      repeat (go_big_quiet_step (first
        | exact Calls.regrown_of (HG1.out _ _)))
      refine wpQuiet_nil ?_
      intro _ hw'
      obtain ⟨⟨dq, osq⟩, hw''⟩ := hw'
      subst hw''
      have hu6 := Lib.hid (hu.out.trans (New0.get wr dq osq))
      have q0 := New0.cells (New0.get wr dq osq) r0
      clear hu HG1 r0 r1 y0 y1
      generalize grow (redrawn wr dq) osq = w6 at *
      cases x with
      | true =>
        replace hnx : Hid (Has l n (j + 1) true) := Lib.hid (by have := hnx.out; rw [Bool.true_or] at this; exact this)
        go_wp2_with fail
        go_roundw
        case rel => exact ⟨j + 1, true, rfl, by go_num, hlt, hnx, hu6⟩
        case measure => simp [intOf]; omega
      | false =>
        have he : (a1.toList == n.toList) = decide (a1 = n) := toList_beq a1 n
        obtain ⟨y, hy⟩ : ∃ y, decide (a1 = n) = y := ⟨_, rfl⟩
        rw [hy] at he
        replace hnx : Hid (Has l n (j + 1) y) := Lib.hid (by have := hnx.out; rw [Bool.false_or, hy] at this; exact this)
        clear hy
        go_wp2_with fail
        go_roundw
        case rel => exact ⟨j + 1, y, rfl, by go_num, hlt, hnx, hu6⟩
        case measure => simp [intOf]; omega
    · cases x with
      | true =>
        have hend := Lib.hid (belowOf hu.out)
        clear hhas hu
        go_wp2_with fail
        go_ret
        exact ⟨rfl, hend.out⟩
      | false =>
        have hno := Lib.hid (hhas.out.none hlt)
        have HG2 := Lib.hid (HG.out _ _ hu.out (get_no hno.out))
        clear hhas HG
        go_wp2_with fail
        refine HG2.out.mono ?_
        rintro e w7 ⟨rfl, huu⟩
        have hu7 := Lib.hid (hu.out.trans huu)
        clear HG2 hu huu
        go_wp2_with fail
        go_loopw [9] (fun ov wr => ∃ k : Nat, ov = .int .i64 (k : Int) ∧ k ≤ l.length ∧ Hid (∀ i (hi : i < l.length), i < k → lt l[i].1 n = true) ∧ wr = w7) (fun ov _ => l.length - (intOf ov).toNat)
        case atStart => exact ⟨0, rfl, Nat.zero_le _, Lib.hid (fun i _ h => absurd h (Nat.not_lt_zero i)), rfl⟩
        case round =>
          obtain ⟨k, rfl, hk, hlow, rfl⟩ := hrel
          by_cases hgo : ∃ h : k < l.length, lt l[k].1 n = true
          · obtain ⟨hlt', hlo⟩ := hgo
            have r0 := New0.cells hu7.out (hcells.out k hlt').1
            have hnx : Hid (∀ i (hi : i < l.length), i < k + 1 → lt l[i].1 n = true) := Lib.hid fun i hi h => by
              by_cases e : i = k
              · subst e; exact hlo
              · exact hlow.out i hi (by omega)
            obtain ⟨a1, ha1⟩ : ∃ a1, l[k].1 = a1 := ⟨_, rfl⟩
            rw [ha1] at r0 hlo
            have d1 : Op.bytesLess a1.toList n.toList = true := hlo
            clear ha1 hlow hlo
            go_wp2_with fail
            go_roundw
            case rel => exact ⟨k + 1, by go_num, hlt', hnx, trivial⟩
            case measure => simp [intOf]; omega
          · have hstop : Hid (∀ h : k < l.length, lt n l[k].1 = true) := Lib.hid fun h => by
              cases h2 : lt n l[k].1 with
              | true => rfl
              | false =>
                have h3 : lt l[k].1 n = false := Bool.eq_false_iff.2 fun h3 => hgo ⟨h, h3⟩
                exact absurd (lt_tri h3 h2) (hno.out _ (List.getElem_mem h))
            have hgood := Lib.hid (good_more hok.out.good hn.out hv.out hk hlow.out hstop.out)
            have hget := Lib.hid (get_mid (m := l.drop k) (n := n) (v := v) (l := l.take k) (fun p hp => hno.out p (List.mem_of_mem_take hp)))
            have hsm : Hid (Sml (l.take k ++ (n, v) :: l.drop k)) := Lib.hid fun p hp => by
              have := hgood.out.small p hp
              omega
            have hlenm : (l.take k ++ (n, v) :: l.drop k).length = l.length + 1 := by
              rw [List.length_append, List.length_cons, List.length_take, List.length_drop]; omega
            have hchk := chk_more hgood.out (by rw [hlenm]; omega)
            rw [hlenm] at hchk
            obtain ⟨m, hm⟩ : ∃ m, l.take k ++ (n, v) :: l.drop k = m := ⟨_, rfl⟩
            have hmore : Hid (k = l.length → cmp l m = -1) := Lib.hid fun e => by
              rw [← hm, e, List.take_length, List.drop_length]; exact cmp_more l (n, v)
            have hV := h1.out.new hu7.out
            have hT : Hid (View wr All (.slice (some ⟨b, off, none⟩) k c) (l.take k)) := Lib.hid (hV.till rfl hk (by omega) (Nat.le_refl _))
            have hmm : Hid (∀ w' u, Mine w' u (l.take k ++ [(n, v)] ++ l.drop k) → Mine w' u m) := Lib.hid fun w' u h => by
              rw [← hm]; rw [List.append_assoc] at h; exact h
            rw [hm] at hget hsm hchk hlenm
            have hD : Hid (∀ A', (A' = some ⟨b, off + k * 2, none⟩ ∨ c = k ∧ A' = some ⟨b, off, none⟩) → View wr All (.slice A' (l.length - k) (c - k)) (l.drop k)) := Lib.hid fun A' hA' => by
              rcases hA' with rfl | ⟨e, rfl⟩
              · exact hV.from rfl hk
              · have e2 : k = l.length := by omega
                rw [e2, List.drop_length, Nat.sub_self]
                exact Rw.View.nil _ _ _ _ (by unfold maxLen; omega)
            have HO := Lib.hid (fun w (hu : New0 wr w) => own_any w All _ (l.take k) (Rw.View.new hT.out hu) (by rw [List.length_take]; omega))
            have pv := Lib.hid (fun W' : World => view_one (cell_new W' (.cells #[.string n, .string v] 39 (0, 0))))
            have htl : (l.take k).length = k := by rw [List.length_take]; omega
            have hdl : (l.drop k).length = l.length - k := List.length_drop
            by_cases hkl : k < l.length
            · have r0 := New0.cells hu7.out (hcells.out k hkl).1
              have d1 : Op.bytesLess l[k].1.toList n.toList = false := Bool.eq_false_iff.2 fun h3 => hgo ⟨hkl, h3⟩
              obtain ⟨a1, ha1⟩ : ∃ a1, l[k].1 = a1 := ⟨_, rfl⟩
              rw [ha1] at r0 d1
              have hck' : k < c := by omega
              have hkc : (k : Int) ≤ (c : Int) := by omega
              have hkl' : (k : Int) ≤ (l.length : Int) := by omega
              have hk0 : (0 : Int) ≤ (k : Int) := by omega
              replace hlenm := Lib.hid hlenm
              clear hgo hlow hstop hno hgood hV h1 hcells hok hn hv hm hT ha1
              go_wp2_with fail
              go_region_held3 (fun w' => New0 wr w')
                ((first | assumption | (repeat (first | assumption | exact Upon.refl _ _ | refine Upon.drew ?_ | refine Upon.alloc ?_ _))))
                (first
                | (go_at_call 9; refine (HO.out _ (by repeat (first | assumption | exact Upon.refl _ _ | refine Upon.drew ?_ | refine Upon.alloc ?_ _))).mono ?_; rintro e wo ⟨uo, rfl, hmo, hfo, huo⟩
                   have hnwo : New0 wr wo := Upon.trans (by repeat (first | assumption | exact Upon.refl _ _ | refine Upon.drew ?_ | refine Upon.alloc ?_ _)) huo
                   have hfo2 : ∀ g, uo.ownBlock = some g → wr.heap.size ≤ g := fun g h => Nat.le_trans (Upon.size (S := fun _ => False) (w := wr) (by repeat (first | assumption | exact Upon.refl _ _ | refine Upon.drew ?_ | refine Upon.alloc ?_ _))) (hfo g h)
                   first | (have hp2 := Rw.View.new (pv.out wr.drew) huo) | (have hp2 := Rw.View.new (Rw.View.new (pv.out wr.drew) ((Upon.refl _ _).drew)) huo) | skip
                   clear hfo huo)
                | (refine Rw.step_append typPr (o := ⟨some 85, _, _, _, _, _⟩) (by rfl) _ _ (by rfl) uo _ (l.take k) [(n, v)] All (by rfl) (by rfl) (hmo.new (by repeat (first | assumption | exact Upon.refl _ _ | refine Upon.drew ?_ | refine Upon.alloc ?_ _))) (by first | exact Rw.View.new (pv.out wo) (by repeat (first | assumption | exact Upon.refl _ _ | refine Upon.drew ?_ | refine Upon.alloc ?_ _)) | exact Rw.View.new (pv.out wo.drew) (by repeat (first | assumption | exact Upon.refl _ _ | refine Upon.drew ?_ | refine Upon.alloc ?_ _)) | exact Rw.View.new hp2 (by repeat (first | assumption | exact Upon.refl _ _ | refine Upon.drew ?_ | refine Upon.alloc ?_ _))) (by rw [htl, List.length_singleton]; omega) (by rw [htl, List.length_singleton]; omega) ?_
                   intro v3 x1 hm1 hg1 hb1
                   have hn1 : New0 wr x1 := Upon.grown (by repeat (first | assumption | exact Upon.refl _ _ | refine Upon.drew ?_ | refine Upon.alloc ?_ _)) hg1 (fun g h => .inr (hfo2 g h))
                   have hf1 : ∀ g, v3.ownBlock = some g → wr.heap.size ≤ g := fun g h => by
                     rcases hb1 with hb1 | hb1
                     · exact hfo2 g (by rw [← hb1]; exact h)
                     · rw [h] at hb1
                       have e1 := Option.some.inj hb1
                       have e2 := hnwo.size
                       try simp at e1
                       omega
                   clear hg1 hb1)
                | (refine Rw.step_append typPr (o := ⟨some 89, _, _, _, _, _⟩) (by rfl) _ _ (by rfl) v3 _ (l.take k ++ [(n, v)]) (l.drop k) All (by rfl) (by rfl) (hm1.new (by repeat (first | assumption | exact Upon.refl _ _ | refine Upon.drew ?_ | refine Upon.alloc ?_ _))) (Rw.View.new (hD.out _ (.inl rfl)) (by repeat (first | assumption | exact Upon.refl _ _ | refine Upon.drew ?_ | refine Upon.alloc ?_ _))) (by rw [List.length_append, htl, List.length_singleton, hdl]; omega) (by rw [List.length_append, htl, List.length_singleton, hdl]; omega) ?_
                   intro v4 x2 hm2 hg2 hb2
                   have hn2 : New0 wr x2 := Upon.grown (by repeat (first | assumption | exact Upon.refl _ _ | refine Upon.drew ?_ | refine Upon.alloc ?_ _)) hg2 (fun g h => .inr (hf1 g h))
                   have hm3 := hmm.out _ _ hm2
                   obtain ⟨A4, c4, rfl, -, -⟩ := Rw.View.shape hm3.view
                   clear hg2 hb2 hm2)
                | fail)
              all_goals
                have hu8 := Lib.hid (hu7.out.trans hn2)
                have HCk := Lib.hid (check_any _ _ _ m hm3.view hsm.out)
                have hm4 := Lib.hid hm3
                clear hm3 hm1 hmo hn1 hn2 hnwo hf1 hfo2 hD HO pv hmm r0
                by_cases h8 : l.length + 1 ≤ 8
                · have d8 : (m.length : Int) ≤ 8 := by have := hlenm.out; omega
                  rw [if_pos h8] at hchk
                  rw [hchk] at HCk
                  clear hchk h8
                  go_wp2_with fail
                  refine HCk.out.mono ?_
                  rintro e w9 ⟨rfl, hu9⟩
                  have HGm := Lib.hid (get_any _ _ _ m (hm4.out.new hu9).view n)
                  rw [hget.out] at HGm
                  have hu10 := Lib.hid (hu8.out.trans hu9)
                  clear HCk hu9 hm4 hu8
                  go_wp2_with fail
                  refine HGm.out.mono ?_
                  rintro e w10 ⟨rfl, hu11⟩
                  have hend := Lib.hid (belowOf (hu10.out.trans hu11))
                  clear HGm hu10 hu11
                  go_wp2_with fail
                  go_ret
                  exact ⟨rfl, hend.out⟩
                · have d8 : ¬ (m.length : Int) ≤ 8 := by have := hlenm.out; omega
                  rw [if_neg h8] at hchk
                  rw [hchk] at HCk
                  clear hchk h8
                  go_wp2_with fail
                  refine HCk.out.mono ?_
                  rintro e w9 ⟨rfl, hu9⟩
                  have HGm := Lib.hid (get_any _ _ _ m (hm4.out.new hu9).view n)
                  rw [hget.out] at HGm
                  have hu10 := Lib.hid (hu8.out.trans hu9)
                  clear HCk hu9 hm4 hu8
                  go_wp2_with fail
                  refine HGm.out.mono ?_
                  rintro e w10 ⟨rfl, hu11⟩
                  have hend := Lib.hid (belowOf (hu10.out.trans hu11))
                  clear HGm hu10 hu11
                  go_wp2_with fail
                  go_ret
                  exact ⟨ret_b (by rw [decide_eq_false (by omega)]; rfl), hend.out⟩
            · have hkeq : k = l.length := by omega
              have hcmp : Hid (cmp l m = -1) := Lib.hid (hmore.out hkeq)
              have hkc : (k : Int) ≤ (c : Int) := by omega
              have hkl' : (k : Int) ≤ (l.length : Int) := by omega
              have hk0 : (0 : Int) ≤ (k : Int) := by omega
              replace hlenm := Lib.hid hlenm
              by_cases hck : k < c
              · have hDk := Lib.hid (hD.out _ (.inl rfl))
                clear hkeq hgo hlow hstop hno hgood hV hcells hok hn hv hm hT hD hmore
                go_wp2_with fail
                go_region_held3 (fun w' => New0 wr w')
                  ((first | assumption | (repeat (first | assumption | exact Upon.refl _ _ | refine Upon.drew ?_ | refine Upon.alloc ?_ _))))
                  (first
                  | (go_at_call 9; refine (HO.out _ (by repeat (first | assumption | exact Upon.refl _ _ | refine Upon.drew ?_ | refine Upon.alloc ?_ _))).mono ?_; rintro e wo ⟨uo, rfl, hmo, hfo, huo⟩
                     have hnwo : New0 wr wo := Upon.trans (by repeat (first | assumption | exact Upon.refl _ _ | refine Upon.drew ?_ | refine Upon.alloc ?_ _)) huo
                     have hfo2 : ∀ g, uo.ownBlock = some g → wr.heap.size ≤ g := fun g h => Nat.le_trans (Upon.size (S := fun _ => False) (w := wr) (by repeat (first | assumption | exact Upon.refl _ _ | refine Upon.drew ?_ | refine Upon.alloc ?_ _))) (hfo g h)
                     first | (have hp2 := Rw.View.new (pv.out wr.drew) huo) | (have hp2 := Rw.View.new (Rw.View.new (pv.out wr.drew) ((Upon.refl _ _).drew)) huo) | skip
                     clear hfo huo)
                  | (refine Rw.step_append typPr (o := ⟨some 85, _, _, _, _, _⟩) (by rfl) _ _ (by rfl) uo _ (l.take k) [(n, v)] All (by rfl) (by rfl) (hmo.new (by repeat (first | assumption | exact Upon.refl _ _ | refine Upon.drew ?_ | refine Upon.alloc ?_ _))) (by first | exact Rw.View.new (pv.out wo) (by repeat (first | assumption | exact Upon.refl _ _ | refine Upon.drew ?_ | refine Upon.alloc ?_ _)) | exact Rw.View.new (pv.out wo.drew) (by repeat (first | assumption | exact Upon.refl _ _ | refine Upon.drew ?_ | refine Upon.alloc ?_ _)) | exact Rw.View.new hp2 (by repeat (first | assumption | exact Upon.refl _ _ | refine Upon.drew ?_ | refine Upon.alloc ?_ _))) (by rw [htl, List.length_singleton]; omega) (by rw [htl, List.length_singleton]; omega) ?_
                     intro v3 x1 hm1 hg1 hb1
                     have hn1 : New0 wr x1 := Upon.grown (by repeat (first | assumption | exact Upon.refl _ _ | refine Upon.drew ?_ | refine Upon.alloc ?_ _)) hg1 (fun g h => .inr (hfo2 g h))
                     have hf1 : ∀ g, v3.ownBlock = some g → wr.heap.size ≤ g := fun g h => by
                       rcases hb1 with hb1 | hb1
                       · exact hfo2 g (by rw [← hb1]; exact h)
                       · rw [h] at hb1
                         have e1 := Option.some.inj hb1
                         have e2 := hnwo.size
                         try simp at e1
                         omega
                     clear hg1 hb1)
                  | (refine Rw.step_append typPr (o := ⟨some 89, _, _, _, _, _⟩) (by rfl) _ _ (by rfl) v3 _ (l.take k ++ [(n, v)]) (l.drop k) All (by rfl) (by rfl) (hm1.new (by repeat (first | assumption | exact Upon.refl _ _ | refine Upon.drew ?_ | refine Upon.alloc ?_ _))) (Rw.View.new hDk.out (by repeat (first | assumption | exact Upon.refl _ _ | refine Upon.drew ?_ | refine Upon.alloc ?_ _))) (by rw [List.length_append, htl, List.length_singleton, hdl]; omega) (by rw [List.length_append, htl, List.length_singleton, hdl]; omega) ?_
                     intro v4 x2 hm2 hg2 hb2
                     have hn2 : New0 wr x2 := Upon.grown (by repeat (first | assumption | exact Upon.refl _ _ | refine Upon.drew ?_ | refine Upon.alloc ?_ _)) hg2 (fun g h => .inr (hf1 g h))
                     have hm3 := hmm.out _ _ hm2
                     obtain ⟨A4, c4, rfl, -, -⟩ := Rw.View.shape hm3.view
                     clear hg2 hb2 hm2)
                  | fail)
                all_goals
                  have hu8 := Lib.hid (hu7.out.trans hn2)
                  have HCk := Lib.hid (check_any _ _ _ m hm3.view hsm.out)
                  have hm4 := Lib.hid hm3
                  clear hm3 hm1 hmo hn1 hn2 hnwo hf1 hfo2 hDk HO pv hmm
                  by_cases h8 : l.length + 1 ≤ 8
                  · skip
                    have d8 : (m.length : Int) ≤ 8 := by have := hlenm.out; omega
                    rw [if_pos h8] at hchk
                    rw [hchk] at HCk
                    clear hchk h8
                    go_wp2_with fail
                    refine HCk.out.mono ?_
                    rintro e w9 ⟨rfl, hu9⟩
                    have HGm := Lib.hid (get_any _ _ _ m (hm4.out.new hu9).view n)
                    rw [hget.out] at HGm
                    have hm5 := Lib.hid (hm4.out.new hu9)
                    have hu10 := Lib.hid (hu8.out.trans hu9)
                    clear HCk hu9 hm4 hu8
                    go_wp2_with fail
                    refine HGm.out.mono ?_
                    rintro e w10 ⟨rfl, hu11⟩
                    have hm6 := Lib.hid (hm5.out.new hu11)
                    have hu12 := Lib.hid (hu10.out.trans hu11)
                    have HCm := Lib.hid (compare_any _ _ _ _ _ l m (Rw.View.new h1.out hu12.out) hm6.out.view)
                    rw [hcmp.out] at HCm
                    clear HGm hu10 hu11 hm5
                    go_wp2_with fail
                    refine HCm.out.mono ?_
                    rintro e w11 ⟨rfl, hu13⟩
                    have hend := Lib.hid (belowOf (hu12.out.trans hu13))
                    clear HCm hu12 hu13 hm6
                    go_wp2_with fail
                    go_ret
                    exact ⟨rfl, hend.out⟩
                  · skip
                    have d8 : ¬ (m.length : Int) ≤ 8 := by have := hlenm.out; omega
                    rw [if_neg h8] at hchk
                    rw [hchk] at HCk
                    clear hchk h8
                    go_wp2_with fail
                    refine HCk.out.mono ?_
                    rintro e w9 ⟨rfl, hu9⟩
                    have HGm := Lib.hid (get_any _ _ _ m (hm4.out.new hu9).view n)
                    rw [hget.out] at HGm
                    have hm5 := Lib.hid (hm4.out.new hu9)
                    have hu10 := Lib.hid (hu8.out.trans hu9)
                    clear HCk hu9 hm4 hu8
                    go_wp2_with fail
                    refine HGm.out.mono ?_
                    rintro e w10 ⟨rfl, hu11⟩
                    have hm6 := Lib.hid (hm5.out.new hu11)
                    have hu12 := Lib.hid (hu10.out.trans hu11)
                    have HCm := Lib.hid (compare_any _ _ _ _ _ l m (Rw.View.new h1.out hu12.out) hm6.out.view)
                    rw [hcmp.out] at HCm
                    clear HGm hu10 hu11 hm5
                    have d9 : decide ((m.length : Int) ≤ 8) = false := decide_eq_false (by omega)
                    go_wp2_with fail
                    refine HCm.out.mono ?_
                    rintro e w11 ⟨rfl, hu13⟩
                    have hend := Lib.hid (belowOf (hu12.out.trans hu13))
                    clear HCm hu12 hu13 hm6
                    go_wp2_with fail
                    go_ret
                    exact ⟨rfl, hend.out⟩
              · have hce : k = c := by omega
                subst hce
                have hDk : Hid (∀ (A' : Option Addr) (e e' : Nat), e = 0 → e' = 0 → View wr All (.slice A' e e') (l.drop k)) := Lib.hid fun A' e e' h h' => by
                  subst h; subst h'
                  rw [List.drop_eq_nil_of_le (by omega)]
                  exact Rw.View.nil _ _ _ _ (by unfold maxLen; omega)
                clear hkeq hgo hlow hstop hno hgood hV hcells hok hn hv hm hT hD hmore
                go_wp2_with fail
                go_region_held3 (fun w' => New0 wr w')
                  ((first | assumption | (repeat (first | assumption | exact Upon.refl _ _ | refine Upon.drew ?_ | refine Upon.alloc ?_ _))))
                  (first
                  | (go_at_call 9; refine (HO.out _ (by repeat (first | assumption | exact Upon.refl _ _ | refine Upon.drew ?_ | refine Upon.alloc ?_ _))).mono ?_; rintro e wo ⟨uo, rfl, hmo, hfo, huo⟩
                     have hnwo : New0 wr wo := Upon.trans (by repeat (first | assumption | exact Upon.refl _ _ | refine Upon.drew ?_ | refine Upon.alloc ?_ _)) huo
                     have hfo2 : ∀ g, uo.ownBlock = some g → wr.heap.size ≤ g := fun g h => Nat.le_trans (Upon.size (S := fun _ => False) (w := wr) (by repeat (first | assumption | exact Upon.refl _ _ | refine Upon.drew ?_ | refine Upon.alloc ?_ _))) (hfo g h)
                     first | (have hp2 := Rw.View.new (pv.out wr.drew) huo) | (have hp2 := Rw.View.new (Rw.View.new (pv.out wr.drew) ((Upon.refl _ _).drew)) huo) | skip
                     clear hfo huo)
                  | (refine Rw.step_append typPr (o := ⟨some 85, _, _, _, _, _⟩) (by rfl) _ _ (by rfl) uo _ (l.take k) [(n, v)] All (by rfl) (by rfl) (hmo.new (by repeat (first | assumption | exact Upon.refl _ _ | refine Upon.drew ?_ | refine Upon.alloc ?_ _))) (by first | exact Rw.View.new (pv.out wo) (by repeat (first | assumption | exact Upon.refl _ _ | refine Upon.drew ?_ | refine Upon.alloc ?_ _)) | exact Rw.View.new (pv.out wo.drew) (by repeat (first | assumption | exact Upon.refl _ _ | refine Upon.drew ?_ | refine Upon.alloc ?_ _)) | exact Rw.View.new hp2 (by repeat (first | assumption | exact Upon.refl _ _ | refine Upon.drew ?_ | refine Upon.alloc ?_ _))) (by rw [htl, List.length_singleton]; omega) (by rw [htl, List.length_singleton]; omega) ?_
                     intro v3 x1 hm1 hg1 hb1
                     have hn1 : New0 wr x1 := Upon.grown (by repeat (first | assumption | exact Upon.refl _ _ | refine Upon.drew ?_ | refine Upon.alloc ?_ _)) hg1 (fun g h => .inr (hfo2 g h))
                     have hf1 : ∀ g, v3.ownBlock = some g → wr.heap.size ≤ g := fun g h => by
                       rcases hb1 with hb1 | hb1
                       · exact hfo2 g (by rw [← hb1]; exact h)
                       · rw [h] at hb1
                         have e1 := Option.some.inj hb1
                         have e2 := hnwo.size
                         try simp at e1
                         omega
                     clear hg1 hb1)
                  | (refine Rw.step_append typPr (o := ⟨some 89, _, _, _, _, _⟩) (by rfl) _ _ (by rfl) v3 _ (l.take k ++ [(n, v)]) (l.drop k) All (by rfl) (by rfl) (hm1.new (by repeat (first | assumption | exact Upon.refl _ _ | refine Upon.drew ?_ | refine Upon.alloc ?_ _))) (Rw.View.new (hDk.out _ _ _ (by first | rfl | omega) (by first | rfl | omega)) (by repeat (first | assumption | exact Upon.refl _ _ | refine Upon.drew ?_ | refine Upon.alloc ?_ _))) (by rw [List.length_append, htl, List.length_singleton, hdl]; omega) (by rw [List.length_append, htl, List.length_singleton, hdl]; omega) ?_
                     intro v4 x2 hm2 hg2 hb2
                     have hn2 : New0 wr x2 := Upon.grown (by repeat (first | assumption | exact Upon.refl _ _ | refine Upon.drew ?_ | refine Upon.alloc ?_ _)) hg2 (fun g h => .inr (hf1 g h))
                     have hm3 := hmm.out _ _ hm2
                     obtain ⟨A4, c4, rfl, -, -⟩ := Rw.View.shape hm3.view
                     clear hg2 hb2 hm2)
                  | fail)
                all_goals
                  have hu8 := Lib.hid (hu7.out.trans hn2)
                  have HCk := Lib.hid (check_any _ _ _ m hm3.view hsm.out)
                  have hm4 := Lib.hid hm3
                  clear hm3 hm1 hmo hn1 hn2 hnwo hf1 hfo2 hDk HO pv hmm
                  by_cases h8 : l.length + 1 ≤ 8
                  · skip
                    have d8 : (m.length : Int) ≤ 8 := by have := hlenm.out; omega
                    rw [if_pos h8] at hchk
                    rw [hchk] at HCk
                    clear hchk h8
                    go_wp2_with fail
                    refine HCk.out.mono ?_
                    rintro e w9 ⟨rfl, hu9⟩
                    have HGm := Lib.hid (get_any _ _ _ m (hm4.out.new hu9).view n)
                    rw [hget.out] at HGm
                    have hm5 := Lib.hid (hm4.out.new hu9)
                    have hu10 := Lib.hid (hu8.out.trans hu9)
                    clear HCk hu9 hm4 hu8
                    go_wp2_with fail
                    refine HGm.out.mono ?_
                    rintro e w10 ⟨rfl, hu11⟩
                    have hm6 := Lib.hid (hm5.out.new hu11)
                    have hu12 := Lib.hid (hu10.out.trans hu11)
                    have HCm := Lib.hid (compare_any _ _ _ _ _ l m (Rw.View.new h1.out hu12.out) hm6.out.view)
                    rw [hcmp.out] at HCm
                    clear HGm hu10 hu11 hm5
                    go_wp2_with fail
                    refine HCm.out.mono ?_
                    rintro e w11 ⟨rfl, hu13⟩
                    have hend := Lib.hid (belowOf (hu12.out.trans hu13))
                    clear HCm hu12 hu13 hm6
                    go_wp2_with fail
                    go_ret
                    exact ⟨rfl, hend.out⟩
                  · skip
                    have d8 : ¬ (m.length : Int) ≤ 8 := by have := hlenm.out; omega
                    rw [if_neg h8] at hchk
                    rw [hchk] at HCk
                    clear hchk h8
                    go_wp2_with fail
                    refine HCk.out.mono ?_
                    rintro e w9 ⟨rfl, hu9⟩
                    have HGm := Lib.hid (get_any _ _ _ m (hm4.out.new hu9).view n)
                    rw [hget.out] at HGm
                    have hm5 := Lib.hid (hm4.out.new hu9)
                    have hu10 := Lib.hid (hu8.out.trans hu9)
                    clear HCk hu9 hm4 hu8
                    go_wp2_with fail
                    refine HGm.out.mono ?_
                    rintro e w10 ⟨rfl, hu11⟩
                    have hm6 := Lib.hid (hm5.out.new hu11)
                    have hu12 := Lib.hid (hu10.out.trans hu11)
                    have HCm := Lib.hid (compare_any _ _ _ _ _ l m (Rw.View.new h1.out hu12.out) hm6.out.view)
                    rw [hcmp.out] at HCm
                    clear HGm hu10 hu11 hm5
                    have d9 : decide ((m.length : Int) ≤ 8) = false := decide_eq_false (by omega)
                    go_wp2_with fail
                    refine HCm.out.mono ?_
                    rintro e w11 ⟨rfl, hu13⟩
                    have hend := Lib.hid (belowOf (hu12.out.trans hu13))
                    clear HCm hu12 hu13 hm6
                    go_wp2_with fail
                    go_ret
                    exact ⟨rfl, hend.out⟩
end Lb
end Go.Proofs.Ytoamgmbpainpjaa
