/- The program's near, walked (layer 14). -/
import Derived.Test.YtklgdllllboipaaPoNear
set_option maxRecDepth 100000
namespace Go.Proofs.Ytklgdllllboipaa
open Go.RowKit Go.Sort
namespace Po
open Bit Dsk Ob Dig
set_option linter.unusedVariables false
theorem SView.cells {w : World} {S : Nat → Prop} {A : Option Addr} {n c : Nat} {l : List Rw.Sl} (h : Rw.View layS w S (.slice A n c) l) (hp : 0 < l.length) : ∃ b off, A = some ⟨b, off, none⟩ ∧ ∀ i (hi : i < l.length), w.cell? ⟨b, off + i, none⟩ = some l[i].v := by
  obtain ⟨b, off, h1, h2, h3, h4⟩ := Rw.View.open h hp
  exact ⟨b, off, h1, fun i hi => by have := h4 i hi 0 _ rfl; simpa [layS] using this⟩
theorem view_slT (w : World) (T : TypeId) (s : Rw.Sl) : Rw.View layS (w.alloc (.cells #[s.v] T (0, 0))) All (.slice (some ⟨w.heap.size, 0, none⟩) 1 1) [s] := by
  refine ⟨_, 1, rfl, Nat.le_refl _, by unfold maxLen; omega, fun _ => ⟨_, 0, rfl, trivial, fun i hi t u ht => ?_⟩⟩
  have hi' : i = 0 := by simp at hi; omega
  subst hi'
  have ht' : t = 0 := by have := (List.getElem?_eq_some_iff.1 ht).1; simp [layS] at this; omega
  subst ht'
  have ht2 : u = s.v := by simpa [layS] using ht.symm
  rw [ht2]
  have hc := cell_new w (.cells #[s.v] T (0, 0))
  have h2 : (w.alloc (.cells #[s.v] T (0, 0))).cell? ⟨w.heap.size, 0, none⟩ = some s.v := by unfold World.cell?; rw [hc]; rfl
  exact h2
theorem slice_fromS {w : World} {S : Nat → Prop} {A : Option Addr} {c : Nat} {l : List Rw.Sl} (h : Rw.View layS w S (.slice A l.length c) l) {j : Nat} (hj : j ≤ l.length) :
    ∃ A', (∀ W, (Instr.slice 72 (.slice A l.length c) (some (.int .i64 (j : Int))) none none).run Try.prog W = .ok (.slice A' (l.length - j) (c - j)) W) ∧ Rw.View layS w S (.slice A' (l.length - j) (c - j)) (l.drop j) := by
  obtain ⟨A0, c0, h0, hlc, hcm⟩ := Rw.View.shape h
  injection h0 with _ _ h0
  subst h0
  refine ⟨if c = j then A else A.map (·.add (j * 1)), fun W => ?_, ?_⟩
  · have h1 : (0 : Int) ≤ (j : Int) := by omega
    have h2 : (j : Int) ≤ (l.length : Int) := by omega
    rw [run_slice_l (w := W) 72 A l.length c Try.underlying72 .i64 (j : Int) h1 h2]
    simp [go_sem, sliced, Try.sizeOf22]
  · by_cases hp : j < l.length
    · obtain ⟨b, off, rfl, -⟩ := SView.cells h (by omega)
      have e : (if c = j then some (⟨b, off, none⟩ : Addr) else (some (⟨b, off, none⟩ : Addr)).map (·.add (j * 1))) = some ⟨b, off + j * 1, none⟩ := by
        rw [if_neg (by omega)]
        simp [Addr.add]
      rw [e]
      exact h.from rfl hj
    · have e : l.drop j = [] := List.drop_eq_nil_of_le (by omega)
      have e2 : l.length - j = 0 := by omega
      rw [e, e2]
      exact Rw.View.nil _ _ _ _ (by omega)
/-- What near gives. -/
def NearE (w : World) (p : Nat) (x : Value) (rs : List (List Lb.Pr)) (l : List Mt.M) (e : Ending) (w' : World) : Prop := ∃ v N, e = .returned v ∧ IView w' All v N ∧ Nr rs l N ∧ Idx w' p x rs ∧ Upon (fun k => k = p) w w'
set_option maxHeartbeats 6400000 in
theorem near_any (w : World) (p : Nat) (x : Value) (rs : List (List Lb.Pr)) (lv : Value) (l : List Mt.M) (h : Idx w p x rs) (hF : Few rs) (hv : Mt.View w (fun b => b ≠ p) lv l) (hb : Mt.Bnd l) (hn : l.length ≤ 1000) :
    Calls Try.prog 30 #[.pointer (some ⟨p, 0, none⟩), lv] w (NearE w p x rs l) := by
  obtain ⟨A, c, rfl, -, -⟩ := Rw.View.shape hv
  have hpw := h.lt
  have hV := Lib.hid h.1
  have h0 := Lib.hid (Gth.none l h)
  replace hv := Lib.hid hv
  replace hb := Lib.hid hb
  have hrn := hF.rows
  have HA := Lib.hid (fun W (k : Idx W p x rs) => all_any W p x rs k hF)
  have HR := Lib.hid (fun W (k : Idx W p x rs) q hq => rowsOf_any W p x rs q k hF hq)
  clear h
  go_enter Try.func30, Try.ntmps30
  go_wp2_with fail
  go_loopw [5, 13] (fun uv ov wr => ∃ (i : Nat) (ss : List Rw.Sl), ov = .int .i64 (i : Int) ∧ i ≤ l.length ∧ ss.length ≤ i ∧ Hid (Gth w wr p x rs l uv ss)) (fun _ ov _ => l.length - (intOf ov).toNat)
  case atStart => exact ⟨0, [], rfl, Nat.zero_le _, Nat.le_refl _, h0⟩
  case round =>
    clear h0
    obtain ⟨i, ss, rfl, hi, hsi, hg⟩ := hrel
    obtain ⟨Au, cu, hu1, hsc, hscm⟩ := Rw.View.shape hg.out.mine.view
    subst hu1
    by_cases hlt : i < l.length
    · obtain ⟨bb, off, rfl, hSb, -, hcells⟩ := Mt.View.cells hv.out (by omega)
      obtain ⟨x0, x1, x2⟩ := hcells i hlt
      have y0 := cell_upon hg.out.up x0 (by show ¬ bb = p; exact hSb)
      have y1 := cell_upon hg.out.up x1 (by show ¬ bb = p; exact hSb)
      have y2 := cell_upon hg.out.up x2 (by show ¬ bb = p; exact hSb)
      have hbm := hb.out _ (List.getElem_mem hlt)
      have hmem := Lib.hid (List.getElem_mem hlt)
      obtain ⟨⟨k, n, v⟩, hm⟩ : ∃ m, l[i] = m := ⟨_, rfl⟩
      rw [hm] at y0 y1 y2 hbm hmem
      simp only at y0 y1 y2
      have hsz : Hid (Sz (n, v)) := Lib.hid ⟨by have := hbm.2.2.1; unfold maxLen; simpa using this, by have := hbm.2.2.2; unfold maxLen; simpa using this⟩
      have hvs := hbm.2.2.2
      simp only at hvs
      clear x0 x1 x2 hcells hm hbm
      by_cases hk : k = 1
      · subst hk
        by_cases hv0 : v.size = 0
        · have d0 := Mt.emp_yes hv0
          have hG := Lib.hid (hg.out.new hpw ((Upon.refl _ wr).alloc (.cells #[.int .i64 1, .string n, .string v] 41 (0, 0))))
          clear hg hmem hsz
          go_wp2_with fail
          go_roundw
          case rel => exact ⟨i + 1, ss, by go_num, hlt, by omega, hG⟩
          case measure => simp [intOf]; omega
        · have d0 := Mt.emp_no hv0
          have hGA := hg.out.new hpw ((Upon.refl _ wr).alloc (.cells #[.int .i64 1, .string n, .string v] 41 (0, 0)))
          have HQ := Lib.hid (HR.out _ hGA.idx (n, v) hsz.out)
          have hNr := Lib.hid (Nr.pair (rs := rs) hmem.out hv0)
          replace hGA := Lib.hid hGA
          unfold prV at HQ
          simp only at HQ
          obtain ⟨M, hM⟩ : ∃ M, sel (has rs (n, v)) rs.length = M := ⟨_, rfl⟩
          rw [hM] at HQ hNr
          clear hg hmem hM HR HA hsz
          go_wp2_with fail
          refine HQ.out.mono ?_
          rintro e w2 ⟨v2, rfl, k1, k2, k3, k4⟩
          obtain ⟨A2, c2, hv2, -, -⟩ := Rw.View.shape k1.view
          subst hv2
          have u3 : New0 w2 (w2.alloc (.cells #[.slice A2 M.length c2] 22 (0, 0))) := (Upon.refl _ w2).alloc _
          have hG3 := Lib.hid ((hGA.out.turn hpw k3 k4).new hpw u3)
          have hX := Lib.hid (view_slT w2 22 ⟨A2, M.length, c2⟩)
          have hs3 : Hid (∃ N, IMine (w2.alloc (.cells #[.slice A2 M.length c2] 22 (0, 0))) (Rw.Sl.v ⟨A2, M.length, c2⟩) N ∧ (∀ g, (Rw.Sl.v ⟨A2, M.length, c2⟩).ownBlock = some g → p < g) ∧ Nr rs l N) := Lib.hid ⟨M, k1.new u3, k2, hNr.out⟩
          clear HQ k1 k2 k3 k4 u3 hGA hNr y0 y1 y2
          go_wp2_with (at_builtin; refine Rw.wpList_append typL rfl _ _ rfl _ _ ss [⟨A2, M.length, c2⟩] All rfl rfl hG3.out.mine hX.out (by rw [List.length_singleton]; omega) (by rw [List.length_singleton]; omega) ?_)
          intro v' w5 hown hgr hbl
          have hG := Lib.hid (hG3.out.app hpw hV.out hs3.out hown hgr (hbl.imp id fun h => h.trans (by simp)))
          clear hown hgr hbl hG3 hX hs3
          obtain ⟨A6, c6, hv6, -, -⟩ := Rw.View.shape hG.out.mine.view
          subst hv6
          go_wp2_with fail
          go_roundw
          case rel => exact ⟨i + 1, _, by go_num, hlt, by simp; omega, hG⟩
          case measure => simp [intOf]; omega
      · have d0 : (k == 1) = false := beq_eq_false_iff_ne.2 hk
        have hG := Lib.hid (hg.out.new hpw ((Upon.refl _ wr).alloc (.cells #[.int .i64 k, .string n, .string v] 41 (0, 0))))
        clear hg hmem hsz
        go_wp2_with fail
        go_roundw
        case rel => exact ⟨i + 1, ss, by go_num, hlt, by omega, hG⟩
        case measure => simp [intOf]; omega
    · by_cases hp : 0 < ss.length
      · obtain ⟨g, o, rfl, hc⟩ := SView.cells hg.out.mine.view hp
        have x0 := hc 0 hp
        rw [Nat.add_zero] at x0
        obtain ⟨N0, e1, e2, e3⟩ := hg.out.els _ (List.getElem_mem hp)
        obtain ⟨A', hrun, hT⟩ := slice_fromS hg.out.mine.view (j := 1) hp
        have hrun1 : ∀ W, (Instr.slice 72 (.slice (some ⟨g, o, none⟩) ss.length cu) (some (.int .i64 1)) none none).run Try.prog W = .ok (.slice A' (ss.length - 1) (cu - 1)) W := hrun
        have hTl : (ss.drop 1).length = ss.length - 1 := List.length_drop
        have hels : Hid (∀ s ∈ ss.drop 1, ∃ N, IMine wr s.v N ∧ (∀ g, s.v.ownBlock = some g → p < g) ∧ Nr rs l N) := Lib.hid fun s hs => hg.out.els s (List.mem_of_mem_drop hs)
        obtain ⟨A0, c0, hs0, -, -⟩ := Rw.View.shape e1.view
        rw [hs0] at x0 e1
        have hN0 := Lib.hid e3
        have hv0 := Lib.hid (Rw.View.all e1.view)
        have hI := Lib.hid hg.out.idx
        have hU := Lib.hid hg.out.up
        have d0 : ((ss.length : Int) == 0) = false := by rw [beq_eq_false_iff_ne]; omega
        obtain ⟨T, hTT⟩ : ∃ T, ss.drop 1 = T := ⟨_, rfl⟩
        obtain ⟨m, hm⟩ : ∃ m, ss.length - 1 = m := ⟨_, rfl⟩
        rw [hTT] at hT hTl hels
        rw [hm] at hT hTl hrun1
        have hm1 : m ≤ 1000 := by omega
        replace hT := Lib.hid hT
        replace hTl := Lib.hid hTl
        have hss : ss.length = m + 1 := by omega
        rw [hss] at hrun1 d0
        clear hg hc e1 e2 e3 hs0 hTT hrun hv hb HR HA
        obtain ⟨wo, hwo⟩ : ∃ wo, wo = wr := ⟨_, rfl⟩
        subst hwo
        rw [hss]
        clear hss hm hp hsi hsc
        go_wp2_with fail
        clear x0 d0 hrun1 hi hlt
        go_loopw [8, 47] (fun nv ov wr => ∃ (j : Nat) (N : List Int), ov = .int .i64 (j : Int) ∧ j ≤ m ∧ Hid (IView wr All nv N) ∧ Hid (Nr rs l N) ∧ Hid (New0 wo wr)) (fun _ ov _ => m - (intOf ov).toNat)
        case atStart => exact ⟨0, N0, rfl, Nat.zero_le _, hv0, hN0, Lib.hid (Upon.refl _ _)⟩
        case round =>
          clear hv0 hN0
          obtain ⟨j, N, rfl, hj, hN, hNr, hw⟩ := hrel
          obtain ⟨An, cn, hnv, -, -⟩ := Rw.View.shape hN.out
          subst hnv
          by_cases hlt : j < m
          · have hjT : j < T.length := by have := hTl.out; omega
            obtain ⟨g2, o2, rfl, hc2⟩ := SView.cells hT.out (by omega)
            have z0 := Lb.New0.cells hw.out (hc2 j hjT)
            obtain ⟨M, f1, f2, f3⟩ := hels.out _ (List.getElem_mem hjT)
            obtain ⟨A3, c3, hs3, -, -⟩ := Rw.View.shape f1.view
            have f4 := Rw.View.all (f1.new hw.out).view
            rw [hs3] at z0 f4
            have hNl := hNr.out.len
            have hMl := f3.len
            have HC := Lib.hid (and_any wr All All _ _ N M hN.out f4 (by omega) (by omega))
            have hM := Lib.hid f3
            clear hc2 f1 f2 f3 f4 hs3 hjT hN
            go_wp2_with fail
            refine HC.out.mono ?_
            rintro e w6 ⟨v6, r, rfl, q1, q2, q3, q4, q5⟩
            have hN6 := Lib.hid q1
            have hNr6 := Lib.hid (hNr.out.both hM.out q2 q3 q4)
            have hw6 := Lib.hid (hw.out.trans q5)
            clear HC q1 q2 q3 q4 q5 hNr hM hw z0
            obtain ⟨A7, c7, hv7, -, -⟩ := Rw.View.shape hN6.out
            subst hv7
            go_wp2_with fail
            go_roundw
            case rel =>
              refine ⟨_, _, _, _, _, _, _, _, _, _, ⟨j + 1, r, ?_, hlt, hN6, hNr6, hw6⟩, rfl⟩
              go_num
            case measure => simp [intOf]; omega
          · have hE : Hid (NearE w p x rs l (.returned (.slice An N.length cn)) wr) := Lib.hid ⟨_, N, rfl, hN.out, hNr.out, hI.out.new hw.out, hU.out.trans (hw.out.mono fun _ _ f => f.elim)⟩
            clear hN hNr hw hI hU hT hels
            go_wp2_with fail
            go_ret
            exact hE.out
      · obtain rfl : ss = [] := List.length_eq_zero_iff.1 (by omega)
        have HC := Lib.hid (HA.out _ hg.out.idx)
        have hI := Lib.hid hg.out.idx
        have hU := Lib.hid hg.out.up
        clear hg hv hb HR HA hp
        go_wp2_with fail
        refine HC.out.mono ?_
        rintro e w6 ⟨v6, rfl, ho⟩
        have hE : Hid (NearE w p x rs l (.returned v6) w6) := Lib.hid ⟨v6, _, rfl, Rw.View.all ho.mine.view, Nr.whole rs l, hI.out.new ho.new, hU.out.trans (ho.new.mono fun _ _ f => f.elim)⟩
        clear HC ho hI hU
        go_wp2_with fail
        go_ret
        exact hE.out
end Po
end Go.Proofs.Ytklgdllllboipaa
