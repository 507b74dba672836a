/- The document's own Of and Find (layer 14). -/
import Derived.Test.YtklgdllllboipaaPoFind
import Derived.Laws.StructEq
set_option maxRecDepth 100000
namespace Go.Proofs.Ytklgdllllboipaa
open Go.RowKit Go.Sort
namespace Po
open Bit Dsk Ob Dig
set_option linter.unusedVariables false
theorem ba_inj {a b : ByteArray} (h : a.toList = b.toList) : a = b := by
  rw [ByteArray.toList_eq, ByteArray.toList_eq] at h
  cases a; cases b
  simp only [ByteArray.mk.injEq]
  exact Array.toList_inj.1 h
theorem pr_eql (w : World) (a1 a2 b1 b2 : ByteArray) : (binOp .eql 28 (.agg #[.string a1, .string a2]) (.agg #[.string b1, .string b2])).run Try.prog w = .ok (.bool (decide ((a1, a2) = (b1, b2)))) w := by
  rw [run_eql_struct, show (10000 : Nat) = 9998 + 1 + 1 from rfl, run_equalIn_agg w _ _ _ _ (by kernel_rfl) (by kernel_rfl)]
  by_cases h : a1 = b1
  · subst h
    by_cases h2 : a2 = b2
    · simp [go_sem, h2, Try.underlying28, Try.underlying9]
    · have h3 : ¬ a2.toList = b2.toList := fun e => h2 (ba_inj e)
      simp [go_sem, h2, h3, Try.underlying28, Try.underlying9]
  · have h3 : ¬ a1.toList = b1.toList := fun e => h (ba_inj e)
    simp [go_sem, h, h3, Try.underlying28, Try.underlying9]
theorem inR_step {row : List Lb.Pr} {k : Nat} (hk : k < row.length) (q : Lb.Pr) : inR (row.take (k + 1)) q = (inR (row.take k) q || decide (row[k] = q)) := by
  unfold inR
  rw [List.take_add_one, List.getElem?_eq_getElem hk, List.any_append]
  simp
/-- What the document's Of and Find give. -/
def SelE (w : World) (L : List Int) (e : Ending) (w' : World) : Prop := ∃ v, e = .returned v ∧ OwnI w w' v L
set_option maxHeartbeats 6400000 in
theorem refof_any (w : World) (S : Nat → Prop) (v : Value) (rs : List (List Lb.Pr)) (q : Lb.Pr) (hv : PView w S v rs) (hF : Few rs) :
    Calls Try.prog 17 #[v, prV q] w (SelE w (sel (has rs q) rs.length)) := by
  obtain ⟨A, c, rfl, -, -⟩ := Rw.DView.shape hv
  obtain ⟨s1, s2⟩ := q
  have hn := hF.rows
  have u0 : Hid (New0 w (w.alloc (.cells #[.string s1, .string s2] 28 (0, 0)))) := Lib.hid ((Upon.refl _ w).alloc _)
  have c0 : Hid (∀ W', New0 (w.alloc (.cells #[.string s1, .string s2] 28 (0, 0))) W' → W'.cell? ⟨w.heap.size, 0, none⟩ = some (.string s1) ∧ W'.cell? ⟨w.heap.size, 1, none⟩ = some (.string s2)) := Lib.hid fun W' hu =>
    have cA := cell_new w (.cells #[.string s1, .string s2] 28 (0, 0))
    ⟨Lb.New0.cells hu (by rw [World.cell?, cA]; rfl), Lb.New0.cells hu (by rw [World.cell?, cA]; rfl)⟩
  replace hv := Lib.hid (Rw.DView.new hv u0.out)
  have hl := Lib.hid hF.row
  clear hF
  unfold prV
  simp only
  go_enter Try.func17, Try.ntmps17
  go_wp2_with fail
  generalize w.alloc (.cells #[.string s1, .string s2] 28 (0, 0)) = w1 at *
  go_loopw [5, 6] (fun uv ov wr => ∃ (j : Nat), ov = .int .i64 (j : Int) ∧ j ≤ rs.length ∧ Hid (OwnI w1 wr uv (sel (has rs (s1, s2)) j))) (fun _ ov _ => rs.length - (intOf ov).toNat)
  case atStart => exact ⟨0, rfl, Nat.zero_le _, Lib.hid (OwnI.none w1)⟩
  case round =>
    obtain ⟨j, rfl, hj, hg⟩ := hrel
    obtain ⟨Au, cu, hu1, -, -⟩ := Rw.View.shape hg.out.mine.view
    subst hu1
    by_cases hlt : j < rs.length
    · obtain ⟨b, off, A', c', rfl, x0, hrow⟩ := PView.at hv.out hlt
      have hrl : rs[j].length ≤ 1000 := hl.out _ (List.getElem_mem hlt)
      have hyes := Lib.hid (fun h => sel_yes (f := has rs (s1, s2)) (n := j) ((has_at hlt).trans h))
      have hno := Lib.hid (fun h => sel_no (f := has rs (s1, s2)) (n := j) ((has_at hlt).trans h))
      have hsl : Hid ((sel (has rs (s1, s2)) j).length ≤ j) := Lib.hid (sel_len _ _)
      obtain ⟨row, hrw⟩ : ∃ r, rs[j] = r := ⟨_, rfl⟩
      rw [hrw] at x0 hrow hrl hyes hno
      obtain ⟨L, hL⟩ : ∃ L, sel (has rs (s1, s2)) j = L := ⟨_, rfl⟩
      rw [hL] at hg hyes hno hsl ⊢
      replace hrow := Lib.hid hrow
      have x1 := Lb.New0.cells hg.out.new x0
      clear hrw hL
      obtain ⟨wo, hwo⟩ : ∃ wo, wo = wr := ⟨_, rfl⟩
      subst hwo
      go_wp2_with fail
      go_loopw [7, 8] (fun bv ov wr => ∃ (k : Nat), bv = .bool (inR (row.take k) (s1, s2)) ∧ ov = .int .i64 (k : Int) ∧ k ≤ row.length ∧ Hid (New0 wo wr)) (fun _ ov _ => row.length - (intOf ov).toNat)
      case atStart => exact ⟨0, rfl, rfl, Nat.zero_le _, Lib.hid (Upon.refl _ _)⟩
      case round =>
        clear x1
        obtain ⟨k, rfl, rfl, hk, hw⟩ := hrel
        have y0 := Lb.New0.cells (hg.out.new.trans hw.out) x0
        by_cases hkl : k < row.length
        · obtain ⟨br, offr, rfl, -, -, hrc⟩ := Lb.View.cells hrow.out (by omega)
          obtain ⟨y1, y2⟩ := hrc k hkl
          replace y1 := Lb.New0.cells (hg.out.new.trans hw.out) y1
          replace y2 := Lb.New0.cells (hg.out.new.trans hw.out) y2
          obtain ⟨y3, y4⟩ := c0.out wr (hg.out.new.trans hw.out)
          have hst := Lib.hid (inR_step hkl (s1, s2))
          obtain ⟨⟨t1, t2⟩, ht⟩ : ∃ m, row[k] = m := ⟨_, rfl⟩
          rw [ht] at y1 y2 hst
          simp only at y1 y2
          have heq := fun W => pr_eql W t1 t2 s1 s2
          obtain ⟨e, he⟩ : ∃ e, decide ((t1, t2) = (s1, s2)) = e := ⟨_, rfl⟩
          rw [he] at heq hst
          obtain ⟨x, hx⟩ : ∃ x, inR (row.take k) (s1, s2) = x := ⟨_, rfl⟩
          rw [hx] at hst ⊢
          clear hrc ht he hx
          have hnx : Hid (New0 wo wr.drew) := Lib.hid hw.out.drew
          cases x with
          | true =>
            go_wp2_with fail
            go_quiet (fail)
            have hw2 := Lib.hid (hw.out.trans (upon_drewN (fun _ => False) wr nq))
            clear y0 y1 y2 y3 y4 hw
            go_wp2_with fail
            go_roundw
            case rel => exact ⟨k + 1, by rw [hst.out]; rfl, by go_num, hkl, hw2⟩
            case measure => simp [intOf]; omega
          | false =>
            go_wp2_with fail
            go_quiet (fail)
            have hw2 := Lib.hid (hw.out.trans (upon_drewN (fun _ => False) wr nq))
            clear y0 y1 y2 y3 y4 hw
            go_wp2_with fail
            go_roundw
            case rel => exact ⟨k + 1, by rw [hst.out]; rfl, by go_num, hkl, hw2⟩
            case measure => simp [intOf]; omega
        · have hkk : k = row.length := by omega
          subst hkk
          rw [List.take_length] at *
          obtain ⟨x, hx⟩ : ∃ x, inR row (s1, s2) = x := ⟨_, rfl⟩
          rw [hx] at hyes hno ⊢
          clear hx
          cases x with
          | false =>
            have hG : Hid (OwnI w1 wr (.slice Au L.length cu) (sel (has rs (s1, s2)) (j + 1))) := Lib.hid (by rw [hno.out rfl]; exact hg.out.step hw.out)
            clear hyes hno hg hw hsl hrow
            go_wp2_with fail
            go_roundw
            case rel => exact ⟨j + 1, by go_num, hlt, hG⟩
            case measure => simp [intOf]; omega
          | true =>
            have hst2 := Lib.hid (hyes.out rfl)
            have hM := Lib.hid ((hg.out.step hw.out).step ((Upon.refl _ wr).alloc (.cells #[.int .i64 (j : Int)] 3 (0, 0))))
            have hX6 := Lib.hid (view_one wr (j : Int))
            clear hyes hno hg hw hrow
            go_wp2_with (at_builtin; refine Rw.wpList_append typI rfl _ _ rfl _ _ L [(j : Int)] All rfl rfl hM.out.mine hX6.out (by have := hsl.out; rw [List.length_singleton]; omega) (by have := hsl.out; rw [List.length_singleton]; omega) ?_)
            intro v' w7 hown hgr hbl
            have hG := Lib.hid (hM.out.app hown hgr (hbl.imp id fun h => h.trans (by simp)))
            rw [← hst2.out] at hG
            clear hown hgr hbl hM hX6 hst2 hsl
            obtain ⟨A6, c6, hv6, -, -⟩ := Rw.View.shape hG.out.mine.view
            subst hv6
            go_wp2_with fail
            go_roundw
            case rel => exact ⟨j + 1, by go_num, hlt, hG⟩
            case measure => simp [intOf]; omega
    · obtain rfl : j = rs.length := by omega
      have hE : Hid (SelE w (sel (has rs (s1, s2)) rs.length) (.returned (.slice Au (sel (has rs (s1, s2)) rs.length).length cu)) wr) := Lib.hid ⟨_, rfl, hg.out.mine, fun g hk => Nat.le_trans u0.out.size (hg.out.base g hk), u0.out.trans hg.out.new⟩
      clear hg hv hl
      go_wp2_with fail
      go_ret
      exact hE.out
set_option maxHeartbeats 6400000 in
theorem reffind_any (w : World) (S S' : Nat → Prop) (v lv : Value) (rs : List (List Lb.Pr)) (l : List Mt.M) (hv : PView w S v rs) (hn : rs.length ≤ 1000) (hl : Mt.View w S' lv l) (hb : Mt.Bnd l) :
    Calls Try.prog 19 #[v, lv] w (SelE w (sel (asked rs l) rs.length)) := by
  obtain ⟨A, c, rfl, -, -⟩ := Rw.DView.shape hv
  have HI := Lib.hid (fun w' (hu : New0 w w') S2 (a : List Lb.Pr) (av : Value) (ha : Lb.View w' S2 av a) => Mt.refis_any w' _ _ _ av l a (Rw.View.new hl hu) hb ha)
  obtain ⟨A2, c2, rfl, -, -⟩ := Rw.View.shape hl
  replace hv := Lib.hid hv
  clear hl hb
  go_enter Try.func19, Try.ntmps19
  go_wp2_with fail
  go_loopw [5, 6] (fun uv ov wr => ∃ (j : Nat), ov = .int .i64 (j : Int) ∧ j ≤ rs.length ∧ Hid (OwnI w wr uv (sel (asked rs l) j))) (fun _ ov _ => rs.length - (intOf ov).toNat)
  case atStart => exact ⟨0, rfl, Nat.zero_le _, Lib.hid (OwnI.none w)⟩
  case round =>
    obtain ⟨j, rfl, hj, hg⟩ := hrel
    obtain ⟨Au, cu, hu1, -, -⟩ := Rw.View.shape hg.out.mine.view
    subst hu1
    by_cases hlt : j < rs.length
    · obtain ⟨b, off, A', c', rfl, x0, hrow⟩ := PView.at (Rw.DView.new hv.out hg.out.new) hlt
      have HQ := Lib.hid (HI.out wr hg.out.new _ rs[j] _ hrow)
      rw [show Mt.is l rs[j] = asked rs l j from (asked_at hlt).symm] at HQ
      have hyes := Lib.hid (fun h => sel_yes (f := asked rs l) (n := j) h)
      have hno := Lib.hid (fun h => sel_no (f := asked rs l) (n := j) h)
      have hsl : Hid ((sel (asked rs l) j).length ≤ j) := Lib.hid (sel_len _ _)
      obtain ⟨L, hL⟩ : ∃ L, sel (asked rs l) j = L := ⟨_, rfl⟩
      obtain ⟨x, hx⟩ : ∃ x, asked rs l j = x := ⟨_, rfl⟩
      obtain ⟨n2, hn2⟩ : ∃ n2, rs[j].length = n2 := ⟨_, rfl⟩
      rw [hL] at hg hyes hno hsl ⊢
      rw [hx] at HQ hyes hno
      rw [hn2] at x0 HQ
      clear hrow hL hx hn2
      cases x with
      | false =>
        have hst2 := Lib.hid (hno.out rfl)
        clear hyes hno
        go_wp2_with fail
        refine HQ.out.mono ?_
        rintro e w6 ⟨rfl, hn6⟩
        have hG : Hid (OwnI w w6 (.slice Au L.length cu) (sel (asked rs l) (j + 1))) := Lib.hid (by rw [hst2.out]; exact hg.out.step hn6)
        clear HQ hn6 hg hst2 hsl x0
        go_wp2_with fail
        go_roundw
        case rel => exact ⟨j + 1, by go_num, hlt, hG⟩
        case measure => simp [intOf]; omega
      | true =>
        have hst2 := Lib.hid (hyes.out rfl)
        clear hyes hno
        go_wp2_with fail
        refine HQ.out.mono ?_
        rintro e w6 ⟨rfl, hn6⟩
        have hM := Lib.hid ((hg.out.step hn6).step ((Upon.refl _ w6).alloc (.cells #[.int .i64 (j : Int)] 3 (0, 0))))
        have hX6 := Lib.hid (view_one w6 (j : Int))
        clear HQ hn6 hg x0
        go_wp2_with (at_builtin; refine Rw.wpList_append typI rfl _ _ rfl _ _ L [(j : Int)] All rfl rfl hM.out.mine hX6.out (by have := hsl.out; rw [List.length_singleton]; omega) (by have := hsl.out; rw [List.length_singleton]; omega) ?_)
        intro v' w7 hown hgr hbl
        have hG := Lib.hid (hM.out.app hown hgr (hbl.imp id fun h => h.trans (by simp)))
        rw [← hst2.out] at hG
        clear hown hgr hbl hM hX6 hst2 hsl
        obtain ⟨A6, c6, hv6, -, -⟩ := Rw.View.shape hG.out.mine.view
        subst hv6
        go_wp2_with fail
        go_roundw
        case rel => exact ⟨j + 1, by go_num, hlt, hG⟩
        case measure => simp [intOf]; omega
    · obtain rfl : j = rs.length := by omega
      have hE : Hid (SelE w (sel (asked rs l) rs.length) (.returned (.slice Au (sel (asked rs l) rs.length).length cu)) wr) := Lib.hid ⟨_, rfl, hg.out⟩
      clear hg hv HI
      go_wp2_with fail
      go_ret
      exact hE.out
end Po
end Go.Proofs.Ytklgdllllboipaa
