/- TimesBack, walked. -/
import Derived.Test.YtjoaccfjjihleaaDoorTmLaw2
namespace Go.Proofs.YtjoaccfjjihleaaDoor
open Go.RowKit Go.Sort
namespace Tm
open Bit Dsk Ob Arg
set_option linter.unusedVariables false

theorem rrLeft0 {I : Ob.Rel} {w0 w : World} {q p : Nat} {c : Cd} (hI : Thing I) (H : Own (Tens I (PR q c p [])) w0 w) :
    Calls Tryd.prog 20 #[.pointer (some ⟨p, 0, none⟩)] w fun e w' => e = .returned (.int .i64 0) ∧ Below w0.heap.size w0 w' := by
  obtain ⟨A, h⟩ := H.seeR
  obtain ⟨_, B, _, h2, _⟩ := h
  refine (rkLeft B p [] w h2).mono ?_
  rintro e w' ⟨rfl, n, rfl⟩
  exact ⟨rfl, below_of_upon H.bel (upon_drewN _ _ _)⟩
def backK (zs : List Int) : Nat := min zs.length 100

/-! ### TimesBack -/
set_option maxRecDepth 100000 in
set_option maxHeartbeats 3200000 in
theorem back_any (zs : List Int) (A : Option Addr) (c : Nat) (hmax : zs.length ≤ maxLen) (w : World) (hT : Tab w) (hp : NumsAt .i64 zs A w) :
    Calls Tryd.prog 5 #[.slice A zs.length c] w fun e w' => e = .returned (.bool true) ∧ Below w.heap.size w w' := by
  replace hmax : zs.length ≤ 9223372036854775807 := by unfold maxLen at hmax; omega
  have hU := Lib.hid (nats_i64 (nums_wf hp))
  replace hp := Lib.hid hp
  have hwk := Lib.hid (works_true w hT)
  replace hT := Lib.hid hT
  go_enter Tryd.func5, Tryd.ntmps5
  go_wp2_with fail
  refine hwk.out.mono ?_
  rintro x w0 ⟨rfl, hb0⟩
  replace hb0 := Lib.hid hb0
  clear hwk
  go_wp2_with fail
  refine (new_any w0 (hT.out.own hb0.out)).mono ?_
  intro x w1 hx
  obtain ⟨q, rfl, h1⟩ := CMade.own hb0.out hx
  replace h1 := Lib.hid h1
  clear hx hb0
  go_wp2_with fail
  refine (newWriter_any w1).mono ?_
  intro x w2 hx
  obtain ⟨p, rfl, h2⟩ := WMade.beside (objCd _ _) h1.out hx
  have h2' : Hid (Own (RW q p []) w w2) := Lib.hid h2
  clear hx h1 h2
  go_wp2_with fail
  go_loopw [5] (fun i wr => ∃ k : Nat, k ≤ backK zs ∧ i = .int .i64 k ∧ Own (RW q p (zs.take k)) w wr) (fun i _ => zs.length - (intOf i).toNat)
  case atStart => exact ⟨0, Nat.zero_le _, rfl, h2'.out⟩
  case round =>
    obtain ⟨k, hk, rfl, hst⟩ := hrel
    have hbk : backK zs = min zs.length 100 := rfl
    by_cases hlt : k < zs.length ∧ k < 100
    · obtain ⟨hlt, hlt2⟩ := hlt
      obtain ⟨b, off, rfl, hbw, hall⟩ := hp.out (by omega)
      obtain ⟨cw0, w0⟩ := hall k hlt
      obtain ⟨V, hV⟩ : ∃ V, zs[k] = V := ⟨_, rfl⟩
      have hVl : In V := by rw [← hV]; exact wf_i64 w0
      have hsn := Lib.hid (nats_at hlt hV)
      rw [hV] at cw0
      have c0 := (hst.bel.cell (p := ⟨b, off + k, none⟩) hbw).trans cw0
      have hlen : Hid ((zs.take k).length ≤ 1000) := Lib.hid (by rw [List.length_take]; omega)
      have hUk := Lib.hid (nats_take_i64 hU.out k)
      have hk1 : k + 1 ≤ backK zs := by omega
      obtain ⟨l', hl'⟩ : ∃ l', l' = zs.take (k + 1) := ⟨_, rfl⟩
      rw [← hl'] at hsn
      have hE' := Lib.hid hl'
      generalize zs.take k = l at *
      have hput := Lib.hid (ownW hst fun A hA h => rwPut hT.out hst.bel hUk.out hlen.out hVl hsn.out A hA h)
      replace hVl := Lib.hid hVl
      clear hall hV w0 hst h2' hl' cw0 hbk
      go_wp2_with fail
      refine hput.out.mono ?_
      rintro x w5 ⟨rfl, h5⟩
      replace h5 := Lib.hid h5
      clear hput c0
      go_wp2_with fail
      go_roundw
      case rel => exact ⟨k + 1, hk1, by go_num, hE'.out ▸ h5.out⟩
      case measure => simp [intOf]; omega
    · obtain rfl : k = backK zs := by rw [hbk] at hk ⊢; omega
      have hcond : decide (backK zs < zs.length) = false ∨ (decide (backK zs < zs.length) = true ∧ decide ((backK zs : Int) < 100) = false) := by
        rw [hbk]
        by_cases h : zs.length ≤ 100
        · left; simp; omega
        · right; simp; omega
      replace hst := Lib.hid hst
      have hbk2 := Lib.hid hbk
      have hlK : (zs.take (backK zs)).length = backK zs := by rw [List.length_take]; omega
      have hn77 : (putsB newC (zs.take (backK zs))).length ≤ 77000 := puts_len (by rw [hlK]; omega)
      have hget : Hid (∀ j, j < backK zs → ∃ h : j < (zs.take (backK zs)).length, (zs.take (backK zs))[j] = zs.getD j 0) := Lib.hid fun j hj => ⟨by omega, by
        rw [List.getElem_take, List.getD_eq_getElem?_getD, List.getElem?_eq_getElem (by omega)]; rfl⟩
      have hUl := Lib.hid (nats_take_i64 hU.out (backK zs))
      clear hbk hlt hk h2'
      generalize backK zs = K at *
      generalize zs.take K = l at *
      replace hlK := Lib.hid hlK
      rcases hcond with hc1 | ⟨hc1, hc2⟩
      all_goals
        go_wp2_with fail
        refine (new_any wr (hT.out.own hst.out.bel)).mono ?_
        intro x w3 hx
        obtain ⟨q2, rfl, h3⟩ := CMade.beside (thingRW _ _ _) hst.out hx
        replace h3 := Lib.hid h3
        clear hx hst
        go_wp2_with fail
        obtain ⟨s, hs, hsd, hsz, hend⟩ := back_text (putsB newC l)
        replace hsd := Lib.hid hsd
        replace hend := Lib.hid hend
        have hs2 : Hid (s.size ≤ 140737488355328) := Lib.hid (by rw [hsz]; unfold nb; omega)
        replace hs := Lib.hid hs
        clear hsz
        refine (rwText h3.out hs.out).mono ?_
        rintro x w8 ⟨rfl, rfl⟩
        go_wp2_with fail
        refine (rwLen h3.out rfl).mono ?_
        rintro x w8 ⟨rfl, rfl⟩
        go_wp2_with fail
        have hrm := newReader_any s ((putsB newC l).length : Int) hs2.out (by omega) w3
        rw [hend.out] at hrm
        refine hrm.mono ?_
        intro x w8 hx
        obtain ⟨p2, rfl, h8⟩ := RMade.beside (Tens.ob (thingRW _ _ _) (objCd _ _)) hsd.out h3.out hx
        have h8' : Hid (Own (Tens (RW q p l) (RR q2 p2 l 0)) w w8) := Lib.hid h8.assoc
        clear hx h3 h8 hrm hs hend hs2 hn77 hsd
        go_wp2_with fail
        clear hc1
        try clear hc2
        go_loopw [8] (fun i wr => ∃ k : Nat, k ≤ K ∧ i = .int .i64 k ∧ Own (Tens (RW q p l) (RR q2 p2 l k)) w wr) (fun i _ => K - (intOf i).toNat)
        case atStart => exact ⟨0, Nat.zero_le _, rfl, h8'.out⟩
        case round =>
          obtain ⟨k, hk, rfl, hst⟩ := hrel
          by_cases hlt : k < K
          · have hps : k < zs.length ∧ k < 100 := by have := hbk2.out; omega
            obtain ⟨hlt1, hlt2⟩ := hps
            obtain ⟨b, off, rfl, hbw, hall⟩ := hp.out (by omega)
            obtain ⟨cw0, w0⟩ := hall k hlt1
            obtain ⟨V, hV⟩ : ∃ V, zs[k] = V := ⟨_, rfl⟩
            rw [hV] at cw0
            have hVk : zs.getD k 0 = V := by
              rw [List.getD_eq_getElem?_getD, List.getElem?_eq_getElem hlt1]; simp [hV]
            have hG := Lib.hid (ownR (thingRW q p l) hst fun A hA h => rrGet hT.out hst.bel hUl.out (hget.out k hlt).1 ((hget.out k hlt).2.trans hVk) A hA h)
            replace cw0 := Lib.hid cw0
            clear hall hV w0 hst h8' hVk
            go_wp2_with fail
            refine hG.out.mono ?_
            rintro x w5 ⟨rfl, h5⟩
            have c0 := (h5.bel.cell (p := ⟨b, off + k, none⟩) hbw).trans cw0.out
            replace h5 := Lib.hid h5
            clear hG cw0
            go_wp2_with fail
            go_roundw
            case rel => exact ⟨k + 1, by omega, by go_num, h5.out⟩
            case measure => simp [intOf]; omega
          · obtain rfl : k = K := by omega
            have hcond : decide (k < zs.length) = false ∨ (decide (k < zs.length) = true ∧ decide ((k : Int) < 100) = false) := by
              have hbk := hbk2.out
              by_cases h : zs.length ≤ 100
              · left; simp; omega
              · right; simp; omega
            have hst2 : Hid (Own (Tens (RW q p l) (PR q2 (putsC newC (l.take k)) p2 [])) w wr) := Lib.hid (by
              have e : putsB (putsC newC (l.take k)) (l.drop k) = [] := by rw [List.drop_eq_nil_of_le (by rw [hlK.out]; exact Nat.le_refl _)]; rfl
              have hst3 : Own (Tens (RW q p l) (PR q2 (putsC newC (l.take k)) p2 (putsB (putsC newC (l.take k)) (l.drop k)))) w wr := hst
              rwa [e] at hst3)
            have hG := Lib.hid (ownR (Q := fun e => e = .returned (.tuple #[.int .i64 0, .bool false])) (thingRW q p l) hst2.out fun A hA h => cdGet_nil A q2 p2 _ wr h (I64.ok fun v hv => hUl.out v (List.mem_of_mem_take hv)) (hT.out.beside hst2.out.bel hA))
            clear hst hst2 h8'
            rcases hcond with hc1 | ⟨hc1, hc2⟩
            all_goals
              go_wp2_with fail
              refine hG.out.mono ?_
              rintro x w5 ⟨rfl, h5⟩
              have hL := Lib.hid (rrLeft0 (thingRW q p l) h5)
              clear hG h5
              go_wp2_with fail
              refine hL.out.mono ?_
              rintro x w6 ⟨rfl, h6⟩
              replace h6 := Lib.hid h6
              clear hL
              go_wp2_with fail
              go_ret
              exact ⟨rfl, h6.out⟩
theorem back_true (w : World) (v : Value) (hv : IsNums .i64 v w) (hT : Tab w) :
    Calls Tryd.prog 5 #[v] w fun e w' => e = .returned (.bool true) ∧ Below w.heap.size w w' := by
  obtain ⟨zs, A, c, rfl, hm, hp⟩ := hv
  exact back_any zs A c hm w hT hp
end Tm
end Go.Proofs.YtjoaccfjjihleaaDoor
