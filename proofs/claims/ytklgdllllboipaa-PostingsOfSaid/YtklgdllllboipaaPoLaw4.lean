/- PostingsOf (layer 14). -/
import Derived.Test.YtklgdllllboipaaPoWorks
import Derived.Test.YtklgdllllboipaaPoOpen
set_option maxRecDepth 100000
namespace Go.Proofs.Ytklgdllllboipaa
open Go.RowKit Go.Sort
namespace Po
open Bit Dsk Ob Dig
set_option linter.unusedVariables false
/-- The names rise, as far as k. -/
def Rise (row : List Lb.Pr) (k : Nat) : Prop := ∀ i, i + 1 < k → ∀ (h : i + 1 < row.length), Lb.lt (row[i]'(by omega)).1 row[i + 1].1 = true
theorem rise_all {row : List Lb.Pr} {k : Nat} (h : Rise row k) (hk : row.length ≤ k) : row.Pairwise (fun p q => Lb.lt p.1 q.1 = true) := by
  refine List.pairwise_iff_getElem.2 fun i j hi hj hij => ?_
  induction j with
  | zero => omega
  | succ j ih =>
    have h1 := h j (by omega) hj
    by_cases e : i = j
    · subst e; exact h1
    · exact Lb.lt_trans (ih (by omega) (by omega)) h1
/-- Of labels whose names rise those that have a pair are those that a matcher for it asks for. -/
theorem has_asked {rs : List (List Lb.Pr)} {s1 s2 : ByteArray} (hs : s2.size ≠ 0) (hr : ∀ r ∈ rs, r.Pairwise (fun p q => Lb.lt p.1 q.1 = true)) (hc : Mt.chk [((1 : Int), s1, s2)] = 0) : sel (has rs (s1, s2)) rs.length = sel (asked rs [((1 : Int), s1, s2)]) rs.length := by
  refine sel_congr fun i hi => ?_
  rw [has_at hi, asked_at hi, Mt.is_all hc, Bool.eq_iff_iff, inR_yes]
  have e : Mt.all [((1 : Int), s1, s2)] rs[i] = Mt.holds ((1 : Int), s1, s2) (Lb.get rs[i] s1) := by unfold Mt.all; simp
  rw [e, Mt.holds_1, decide_eq_true_eq]
  constructor
  · intro h
    obtain ⟨j, hj, h2⟩ := List.mem_iff_getElem.1 h
    have h3 := Lb.get_own (hr _ (List.getElem_mem hi)) j hj
    rw [h2] at h3
    exact h3
  · exact fun h => get_mem h hs
theorem asked_one {s1 s2 : ByteArray} : asked [[(s1, s2)]] [((1 : Int), s1, s2)] 0 = decide (Mt.chk [((1 : Int), s1, s2)] = 0) := by
  show Mt.is [((1 : Int), s1, s2)] [(s1, s2)] = _
  unfold Mt.is
  have e : Mt.all [((1 : Int), s1, s2)] [(s1, s2)] = true := by
    unfold Mt.all
    simp [Mt.holds_1, Lb.get]
  rw [e, Bool.and_true]
set_option maxHeartbeats 12800000 in
theorem oflaw_true (w : World) (rv qv : Value) (hr : IsRows rv w) (hq : IsPair qv w) :
    Calls Try.prog 7 #[rv, qv] w fun e w' => e = .returned (.bool true) ∧ Below w.heap.size w w' := by
  obtain ⟨rs, Vr, hz⟩ := hr
  obtain ⟨⟨s1, s2⟩, rfl, hsz⟩ := hq
  obtain ⟨A, c, rfl, -, -⟩ := Rw.DView.shape Vr
  unfold prV
  simp only
  have hU : Hid (New0 w (w.alloc (.cells #[.string s1, .string s2] 28 (0, 0)))) := Lib.hid ((Upon.refl _ w).alloc _)
  have hc : Hid (∀ W', New0 (w.alloc (.cells #[.string s1, .string s2] 28 (0, 0))) W' → W'.cell? ⟨w.heap.size, 0, none⟩ = some (.string s1) ∧ W'.cell? ⟨w.heap.size, 1, none⟩ = some (.string s2)) := Lib.hid fun W' hu =>
    have cA := cell_new w (.cells #[.string s1, .string s2] 28 (0, 0))
    ⟨Lb.New0.cells hu (by rw [World.cell?, cA]; rfl), Lb.New0.cells hu (by rw [World.cell?, cA]; rfl)⟩
  have HW := Lib.hid (works_any (w.alloc (.cells #[.string s1, .string s2] 28 (0, 0))))
  by_cases h0 : 60 < rs.length
  · have d0 : (60 : Int) < (rs.length : Int) := by omega
    clear Vr
    go_enter Try.func7, Try.ntmps7
    go_wp2_with fail
    refine HW.out.mono ?_
    rintro e z0 ⟨rfl, hN⟩
    obtain ⟨c0, c1⟩ := hc.out _ hN
    replace hU := Lib.hid (hU.out.trans hN)
    clear HW
    have hE := Lib.hid (belowNew hU.out)
    clear hN hU
    go_wp2_with fail
    go_ret
    exact ⟨rfl, hE.out⟩
  have d0 : ¬ (60 : Int) < (rs.length : Int) := by omega
  by_cases h1 : s2.size = 0
  · have d1 := Mt.emp_yes h1
    clear Vr
    go_enter Try.func7, Try.ntmps7
    go_wp2_with fail
    refine HW.out.mono ?_
    rintro e z0 ⟨rfl, hN⟩
    obtain ⟨c0, c1⟩ := hc.out _ hN
    replace hU := Lib.hid (hU.out.trans hN)
    clear HW
    have hE := Lib.hid (belowNew hU.out)
    clear hN hU
    go_wp2_with fail
    go_ret
    exact ⟨rfl, hE.out⟩
  have d1 := Mt.emp_no h1
  replace Vr := Lib.hid (Rw.DView.new Vr hU.out)
  replace hz := Lib.hid hz
  go_enter Try.func7, Try.ntmps7
  go_wp2_with fail
  refine HW.out.mono ?_
  rintro e z0 ⟨rfl, hN⟩
  obtain ⟨c0, c1⟩ := hc.out _ hN
  replace hU := Lib.hid (hU.out.trans hN)
  clear HW
  replace hc := Lib.hid (fun W' (hu : New0 z0 W') => hc.out W' (hN.trans hu))
  replace Vr := Lib.hid (Rw.DView.new Vr.out hN)
  clear hN
  go_wp2_with fail
  clear d0 d1 c0 c1
  go_loopw [5] (fun ov wr => ∃ j : Nat, ov = .int .i64 (j : Int) ∧ j ≤ rs.length ∧ Hid (∀ r ∈ rs.take j, r.length ≤ 50 ∧ r.Pairwise (fun p q => Lb.lt p.1 q.1 = true)) ∧ Hid (New0 z0 wr)) (fun ov _ => rs.length - (intOf ov).toNat)
  case atStart => exact ⟨0, rfl, Nat.zero_le _, Lib.hid (fun r hr => absurd hr (by simp)), Lib.hid (Upon.refl _ _)⟩
  case round =>
    obtain ⟨j, rfl, hj, hg, hw⟩ := hrel
    by_cases hlt : j < rs.length
    · obtain ⟨b, off, A', c', rfl, x0, hrow⟩ := PView.at Vr.out hlt
      have x1 := Lb.New0.cells hw.out x0
      have hnx := Lib.hid (fun (h : rs[j].length ≤ 50) (h2 : rs[j].Pairwise (fun p q => Lb.lt p.1 q.1 = true)) => (show ∀ r ∈ rs.take (j + 1), r.length ≤ 50 ∧ r.Pairwise (fun p q => Lb.lt p.1 q.1 = true) from fun r hr => by
        rw [List.take_add_one, List.getElem?_eq_getElem hlt, List.mem_append] at hr
        rcases hr with hr | hr
        · exact hg.out r hr
        · rw [show r = rs[j] by simpa using hr]; exact ⟨h, h2⟩))
      obtain ⟨row, hrw⟩ : ∃ r, rs[j] = r := ⟨_, rfl⟩
      rw [hrw] at x0 x1 hnx hrow
      replace hrow := Lib.hid hrow
      clear hrw hg
      by_cases h50 : 50 < row.length
      · have d5 : (50 : Int) < (row.length : Int) := by omega
        have hE := Lib.hid (belowNew (hU.out.trans hw.out))
        clear hnx hU Vr
        go_wp2_with fail
        go_ret
        exact ⟨rfl, hE.out⟩
      · have d5 : ¬ (50 : Int) < (row.length : Int) := by omega
        obtain ⟨wo, hwo⟩ : ∃ wo, wo = wr := ⟨_, rfl⟩
        subst hwo
        go_wp2_with fail
        clear x1
        go_loopw [6] (fun ov wr => ∃ k : Nat, ov = .int .i64 (k : Int) ∧ 1 ≤ k ∧ k ≤ 51 ∧ Hid (Rise row k) ∧ Hid (New0 z0 wr)) (fun ov _ => row.length - (intOf ov).toNat)
        case atStart => exact ⟨1, rfl, Nat.le_refl _, by omega, Lib.hid (fun i h => by omega), hw⟩
        case round =>
          clear hw
          obtain ⟨k, rfl, hk1, hk5, hg, hw⟩ := hrel
          have x1 := Lb.New0.cells hw.out x0
          by_cases hlk : k < row.length
          · obtain ⟨br, offr, rfl, -, -, hrc⟩ := Lb.View.cells hrow.out (by omega)
            have y1 := Lb.New0.cells hw.out (hrc k hlk).1
            have y2 := Lb.New0.cells hw.out (hrc (k - 1) (by omega)).1
            have hw1 : wrap64 ((k : Int) - 1) = ((k - 1 : Nat) : Int) := by unfold wrap64; omega
            have hstep := Lib.hid (fun (h : Lb.lt (row[k - 1]'(by omega)).1 row[k].1 = true) => (show Rise row (k + 1) from fun i hi h2 => by
              by_cases e : i + 1 = k
              · subst e; exact h
              · exact hg.out i (by omega) h2))
            obtain ⟨t1, ht1⟩ : ∃ t, (row[k - 1]'(by omega)).1 = t := ⟨_, rfl⟩
            obtain ⟨t2, ht2⟩ : ∃ t, row[k].1 = t := ⟨_, rfl⟩
            rw [ht1] at y2 hstep
            rw [ht2] at y1 hstep
            clear hrc ht1 ht2 hg
            cases hlt2 : Lb.lt t1 t2 with
            | true =>
              have hG := Lib.hid (hstep.out hlt2)
              have d6 : Op.bytesLess t2.toList t1.toList = false := Lb.lt_asym hlt2
              have d7 : (t2.toList == t1.toList) = false := beq_eq_false_iff_ne.2 (fun e => Lb.lt_ne hlt2 (ba_inj e).symm)
              clear hstep hlt2
              go_wp2_with fail
              go_quiet (fail)
              have hw2 := Lib.hid (hw.out.trans (upon_drewN (fun _ => False) wr nq))
              clear y1 y2 hw x1
              go_wp2_with fail
              go_roundw
              case rel => exact ⟨k + 1, by go_num, by omega, by omega, hG, hw2⟩
              case measure => simp [intOf]; omega
            | false =>
              cases hlt3 : Lb.lt t2 t1 with
              | true =>
                have d6 : Op.bytesLess t2.toList t1.toList = true := hlt3
                clear hlt3
                clear hstep hlt2
                go_wp2_with fail
                go_quiet (fail)
                have hE := Lib.hid (belowNew (hU.out.trans (hw.out.trans (upon_drewN (fun _ => False) wr nq))))
                clear y1 y2 hw x1
                go_wp2_with fail
                go_ret
                exact ⟨rfl, hE.out⟩
              | false =>
                obtain rfl : t1 = t2 := Lb.lt_tri hlt2 hlt3
                have d6 : Op.bytesLess t1.toList t1.toList = false := hlt3
                have d7 : (t1.toList == t1.toList) = true := by simp
                clear hlt3
                clear hstep hlt2
                go_wp2_with fail
                go_quiet (fail)
                have hE := Lib.hid (belowNew (hU.out.trans (hw.out.trans (upon_drewN (fun _ => False) wr nq))))
                clear y1 y2 hw x1
                go_wp2_with fail
                go_ret
                exact ⟨rfl, hE.out⟩
          · have hG := Lib.hid (hnx.out (by omega) (rise_all hg.out (by omega)))
            clear hg hnx hrow
            go_wp2_with fail
            go_roundw
            case rel => exact ⟨j + 1, by go_num, hlt, hG, hw⟩
            case measure => simp [intOf]; omega
    · have hF : Few rs := ⟨by omega, fun r hr => by have := (hg.out r (by rw [List.take_of_length_le (by omega)]; exact hr)).1; omega, hz.out⟩
      have hrise : Hid (∀ r ∈ rs, r.Pairwise (fun p q => Lb.lt p.1 q.1 = true)) := Lib.hid fun r hr => (hg.out r (by rw [List.take_of_length_le (by omega)]; exact hr)).2
      have HN := Lib.hid (new_any _ _ rs (Rw.DView.new Vr.out hw.out) (by have := hF.rows; omega) (fun r hr => by have := hF.row r hr; omega))
      have hc1 := Lib.hid (fun W' (hu : New0 wr W') => hc.out W' (hw.out.trans hu))
      have hws := (hU.out.trans hw.out).size
      have hcl : w.heap.size < wr.heap.size := by
        have h1 := hU.out.size
        have h2 := World.block_lt_of_cell? _ _ (hc.out wr hw.out).1
        exact h2
      replace hU := Lib.hid (hU.out.trans hw.out)
      clear hg Vr hc hw
      go_wp2_with fail
      refine HN.out.mono ?_
      rintro e z1 hNE
      obtain ⟨p, u, rfl, hp, hI, hN⟩ := hNE.idx
      obtain ⟨c0, c1⟩ := hc1.out _ hN
      have hpw : w.heap.size ≤ p := by omega
      have hp1 := hI.lt
      have hpc : ¬ w.heap.size = p := by omega
      replace hU := Lib.hid (hU.out.trans hN)
      have hbn : Mt.Bnd [((1 : Int), s1, s2)] := fun m hm => by
        rw [List.mem_singleton.1 hm]
        obtain ⟨k1, k2⟩ := hsz
        unfold maxLen at k1 k2
        exact ⟨(by decide : (-9223372036854775808 : Int) ≤ 1), (by decide : (1 : Int) ≤ 9223372036854775807), by simpa using k1, by simpa using k2⟩
      replace hI := Lib.hid hI
      clear hNE HN hN hp hc1 hws hcl hlt hj
      have sl := sel_len (has rs (s1, s2)) rs.length
      have sm := sel_len (asked rs [((1 : Int), s1, s2)]) rs.length
      have Vk : Hid (Mt.View (z1.alloc (.cells #[.int .i64 1, .string s1, .string s2] 41 (0, 0))) (fun b => b ≠ p) (.slice (some ⟨z1.heap.size, 0, none⟩) 1 1) [((1 : Int), s1, s2)]) := Lib.hid (Rw.View.mono (mine_lit (L := Mt.layM) (T := 41) _ [((1 : Int), s1, s2)] _ rfl (by simp)).view (fun b _ hb => by have := hI.out.lt; have := Option.some.inj hb; simp at this; omega))
      have hN : New0 z1 (z1.alloc (.cells #[.int .i64 1, .string s1, .string s2] 41 (0, 0))) := (Upon.refl _ z1).alloc _
      replace hU := Lib.hid (hU.out.trans hN)
      replace hI := Lib.hid (hI.out.new hN)
      clear hN
      have HC := Lib.hid (find_any _ p u rs _ [((1 : Int), s1, s2)] hI.out hF Vk.out hbn)
      go_wp2_with fail
      refine HC.out.mono ?_
      rintro e z2 ⟨vf, rfl, Vf, hI, hN⟩
      replace Vk := Lib.hid (Rw.View.upon Vk.out hN (fun b h1 h2 => by first | exact h1 h2 | omega))
      replace hU := Lib.hid (hU.out.trans' hN (fun k h1 h2 => by omega))
      replace hI := Lib.hid hI
      replace Vf := Lib.hid Vf
      obtain ⟨c0, c1⟩ : z2.cell? ⟨w.heap.size, 0, none⟩ = some (.string s1) ∧ z2.cell? ⟨w.heap.size, 1, none⟩ = some (.string s2) := ⟨cell_upon hN (Lb.New0.cells ((Upon.refl _ z1).alloc _) c0) (by show ¬ w.heap.size = p; exact hpc), cell_upon hN (Lb.New0.cells ((Upon.refl _ z1).alloc _) c1) (by show ¬ w.heap.size = p; exact hpc)⟩
      clear hN HC
      obtain ⟨Af, cf, hvf, -, -⟩ := Rw.View.shape Vf.out
      subst hvf
      have E1 : (z2.alloc (.cells #[.string s1, .string s2] 28 (0, 0))).heap.size = z2.heap.size + 1 := by simp
      have P1 : Lb.View (z2.alloc (.cells #[.string s1, .string s2] 28 (0, 0))) All (.slice (some ⟨z2.heap.size, 0, none⟩) 1 1) [(s1, s2)] := (mine_lit (L := Lb.layPr) (T := 28) _ [(s1, s2)] _ rfl (by simp)).view.all
      have R1 : PView ((z2.alloc (.cells #[.string s1, .string s2] 28 (0, 0))).alloc (.cells #[.slice (some ⟨z2.heap.size, 0, none⟩) 1 1] 29 (0, 0))) All (.slice (some ⟨z2.heap.size + 1, 0, none⟩) 1 1) [[(s1, s2)]] := by
        refine ⟨[⟨some ⟨z2.heap.size, 0, none⟩, 1, 1⟩], ?_, rfl, fun i h1 h2 => ?_⟩
        · rw [← E1]
          exact (mine_lit (L := layS) (T := 29) _ [⟨some ⟨z2.heap.size, 0, none⟩, 1, 1⟩] _ rfl (by simp)).view.all
        · have hi : i = 0 := by simp at h1; omega
          subst hi
          exact Rw.View.new P1 ((Upon.refl _ _).alloc _)
      have hN : New0 z2 (z2.alloc (.cells #[.string s1, .string s2] 28 (0, 0))) := (Upon.refl _ z2).alloc _
      replace Vk := Lib.hid (Rw.View.new Vk.out hN)
      replace Vf := Lib.hid (Rw.View.new Vf.out hN)
      replace hU := Lib.hid (hU.out.trans hN)
      replace hI := Lib.hid (hI.out.new hN)
      clear hN
      have hN : New0 (z2.alloc (.cells #[.string s1, .string s2] 28 (0, 0))) ((z2.alloc (.cells #[.string s1, .string s2] 28 (0, 0))).alloc (.cells #[.slice (some ⟨z2.heap.size, 0, none⟩) 1 1] 29 (0, 0))) := (Upon.refl _ (z2.alloc (.cells #[.string s1, .string s2] 28 (0, 0)))).alloc _
      replace Vk := Lib.hid (Rw.View.new Vk.out hN)
      replace Vf := Lib.hid (Rw.View.new Vf.out hN)
      replace hU := Lib.hid (hU.out.trans hN)
      replace hI := Lib.hid (hI.out.new hN)
      clear hN
      have HC := Lib.hid (reffind_any _ _ _ _ _ [[(s1, s2)]] [((1 : Int), s1, s2)] R1 (by simp) Vk.out hbn)
      clear E1 P1 R1
      go_wp2_with fail
      refine HC.out.mono ?_
      rintro e z3 ⟨vx, rfl, hox⟩
      have hN := hox.new
      replace c0 := Lb.New0.cells ((((Upon.refl _ z2).alloc _).alloc _).trans hN) c0
      replace c1 := Lb.New0.cells ((((Upon.refl _ z2).alloc _).alloc _).trans hN) c1
      replace Vk := Lib.hid (Rw.View.new Vk.out hN)
      replace Vf := Lib.hid (Rw.View.new Vf.out hN)
      replace hU := Lib.hid (hU.out.trans hN)
      replace hI := Lib.hid (hI.out.new hN)
      clear hN HC
      clear Vk
      replace hox := Lib.hid hox.mine
      obtain ⟨Ax, cx, hvx, -, -⟩ := Rw.View.shape hox.out.view
      subst hvx
      clear hox
      by_cases hch : Mt.chk [((1 : Int), s1, s2)] = 0
      · have e1 : sel (asked [[(s1, s2)]] [((1 : Int), s1, s2)]) [[(s1, s2)]].length = [0] := by
          show sel _ 1 = [0]
          rw [sel_yes (asked_one.trans (decide_eq_true hch))]; rfl
        rw [e1]
        have hsame := Lib.hid (has_asked h1 hrise.out hch)
        clear e1 hch hrise
        have HC := Lib.hid (of_any _ p u rs (s1, s2) hI.out hF hsz)
        unfold prV at HC
        simp only at HC
        go_wp2_with fail
        refine HC.out.mono ?_
        rintro e z4 ⟨vo, rfl, Vo, hI, hN⟩
        replace Vf := Lib.hid (Rw.View.upon Vf.out hN (fun b h1 h2 => by first | exact h1 h2 | omega))
        replace hU := Lib.hid (hU.out.trans' hN (fun k h1 h2 => by omega))
        replace hI := Lib.hid hI
        replace Vo := Lib.hid Vo
        clear hN HC
        have HC := same_any _ _ _ _ _ _ _ Vo.out Vf.out
        rw [show decide (sel (has rs (s1, s2)) rs.length = sel (asked rs [((1 : Int), s1, s2)]) rs.length) = true from decide_eq_true (hsame.out)] at HC
        replace HC := Lib.hid HC
        go_wp2_with fail
        refine HC.out.mono ?_
        rintro e z5 ⟨rfl, hN⟩
        replace Vf := Lib.hid (Rw.View.new Vf.out hN)
        replace Vo := Lib.hid (Rw.View.new Vo.out hN)
        replace hU := Lib.hid (hU.out.trans hN)
        replace hI := Lib.hid (hI.out.new hN)
        clear hN HC
        go_wp2_with fail
        go_ret
        exact ⟨rfl, belowNew hU.out⟩
      · have e1 : sel (asked [[(s1, s2)]] [((1 : Int), s1, s2)]) [[(s1, s2)]].length = [] := sel_none fun i hi => by
          have hi0 : i = 0 := by simp at hi; omega
          subst hi0
          exact asked_one.trans (decide_eq_false hch)
        have e2 : sel (asked rs [((1 : Int), s1, s2)]) rs.length = [] := sel_none fun i hi => by rw [asked_at hi]; exact Mt.is_no hch
        rw [e1, e2]
        have hE := Lib.hid (belowNew hU.out)
        clear e1 e2 Vf hI hU c0 c1 hrise
        go_wp2_with fail
        go_ret
        exact ⟨rfl, hE.out⟩
end Po
end Go.Proofs.Ytklgdllllboipaa
