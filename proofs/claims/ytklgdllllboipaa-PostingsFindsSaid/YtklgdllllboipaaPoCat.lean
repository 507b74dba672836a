/- Rows of slices; the library's Grow and Concat over lists of numbers; the program's Or (layer 14). -/
import Derived.Test.YtklgdllllboipaaPoSets
import Derived.Lib.AppendZeros
set_option maxRecDepth 100000
namespace Go.Proofs.Ytklgdllllboipaa
open Go.RowKit Go.Sort
namespace Po
open Bit Dsk Ob Dig
set_option linter.unusedVariables false
/-- A slice, in one cell. -/
def layS : Rw.Lay Rw.Sl := ⟨1, by decide, fun s => [s.v], fun _ => rfl, fun s u hu => by rw [List.mem_singleton.1 hu]; rfl⟩
def innI : Rw.Inner Rw.Sl (List Int) := ⟨fun w S s l => IView w S s.v l, fun h hu hd => Rw.View.upon h hu hd, fun h hS => Rw.View.mono h hS⟩
abbrev LView := Rw.DView layS innI
theorem typL : Rw.Typ layS 72 22 24 := Rw.Typ.mk' (z := .slice none 0 0) Try.underlying72 (by kernel_rfl) rfl
theorem LView.at {w : World} {S : Nat → Prop} {A : Option Addr} {n c : Nat} {L : List (List Int)} (h : LView w S (.slice A n c) L) {i : Nat} (hi : i < L.length) :
    ∃ b off A' c', A = some ⟨b, off, none⟩ ∧ w.cell? ⟨b, off + i, none⟩ = some (.slice A' L[i].length c') ∧ IView w S (.slice A' L[i].length c') L[i] := by
  obtain ⟨b, off, h1, -, h3⟩ := Rw.DView.open h (by omega)
  obtain ⟨r, h4, h5⟩ := h3 i hi
  have h6 := h5 0 _ rfl
  obtain ⟨A', c', h7, -, -⟩ := Rw.View.shape h4
  have h8 : IView w S r.v L[i] := h4
  rw [h7] at h8
  refine ⟨b, off, A', c', h1, ?_, h8⟩
  rw [← h7]
  simpa [layS] using h6
/-- A row of the call's own, made since w0. -/
structure OwnI (w0 w : World) (u : Value) (l : List Int) : Prop where
  mine : IMine w u l
  base : ∀ g, u.ownBlock = some g → w0.heap.size ≤ g
  new : New0 w0 w
theorem OwnI.step {w0 w w' : World} {u : Value} {l : List Int} (h : OwnI w0 w u l) (hu : New0 w w') : OwnI w0 w' u l := ⟨h.mine.new hu, h.base, h.new.trans hu⟩
theorem OwnI.app {w0 w w' : World} {u u' : Value} {l m : List Int} (h : OwnI w0 w u l) (hown : IMine w' u' m) (hg : w.grownBy w' u.ownBlock) (hb : u'.ownBlock = u.ownBlock ∨ u'.ownBlock = some w.heap.size) : OwnI w0 w' u' m := by
  refine ⟨hown, fun g hk => ?_, Upon.grown h.new hg (fun g hk => .inr (h.base g hk))⟩
  rcases hb with hb | hb
  · exact h.base g (hb.symm.trans hk)
  · rw [hb] at hk
    injection hk with hk
    have := h.new.size
    omega
theorem OwnI.none (w : World) : OwnI w w (.slice none 0 0) [] := ⟨Rw.Mine.nil _ _ _, fun g h => (by cases h), Upon.refl _ _⟩

theorem grow_any (w : World) (n : Nat) (hn : n ≤ 10000000) :
    Calls Try.prog 38 #[.slice none 0 0, .int .i64 (n : Int)] w fun e w' => ∃ v, e = .returned v ∧ OwnI w w' v [] := by
  by_cases h0 : n = 0
  · subst h0
    have hE : Hid (∃ v, Ending.returned (.slice none 0 0) = .returned v ∧ OwnI w w v []) := Lib.hid ⟨_, rfl, OwnI.none w⟩
    go_enter Try.func38, Try.ntmps38
    go_wp2_with fail
    go_ret
    exact hE.out
  · obtain ⟨i0, z0, hi, hz0, hz1, hz2, hz3⟩ := typI.info
    replace hz1 : i0.size = 1 := hz1
    replace hz3 : z0.cells.size = 1 := hz3
    have hrun := Lib.hid (fun ty => Lib.run_append_nil_zeros w 22 3 ty 3 i0 z0 .i64 .i64 Try.underlying22 Try.underlying3 hi hz0 n (by omega) (by omega) (by omega) (by rw [hz2]; omega))
    have hG1 := grownCap_ge w n 0 3
    have hG2 := grownCap_le_maxLen w n 0 3 (by unfold maxLen; omega)
    generalize grownCap w n 0 3 = G at hrun hG1 hG2
    have hE : Hid (∀ A, A = some (⟨w.heap.size, 0, none⟩ : Addr) → ∃ v, Ending.returned (.slice A 0 G) = .returned v ∧ OwnI w (w.drew.alloc (.cells (Builtin.zeroCells z0.cells n ++ Builtin.zeroCells z0.cells (G - n)) 3)) v []) := Lib.hid fun A hA => by
      subst hA
      refine ⟨_, rfl, ⟨⟨by simp [Rw.cells], .inr ⟨w.heap.size, G, _, rfl, Nat.zero_le _, cell_new w.drew _, Nat.zero_le _, hG2, ?_, by simp [Rw.cells]⟩⟩, fun g hg => ?_, ((Upon.refl _ w).drew).alloc _⟩⟩
      · simp only [Array.size_append, Builtin.zeroCells, hz3]
        show _ = G * 1
        simp
        omega
      · have := Option.some.inj hg
        simp at this
        omega
    have hGn : ¬ G = 0 := by omega
    have hGi : (0 : Int) ≤ (G : Int) := by omega
    have hpos : decide ((n : Int) > 0) = true := decide_eq_true (by omega)
    unfold maxLen at hG2
    generalize (Builtin.zeroCells z0.cells n ++ Builtin.zeroCells z0.cells (G - n)) = cs at hrun hE
    clear hi hz0 hz1 hz2 hz3
    go_enter Try.func38, Try.ntmps38
    go_wp2_with (at_builtin; refine Lib.wpList_append_run _ rfl _ _ _ _ rfl _ _ rfl rfl _ _ (hrun.out _) ?_)
    go_ret
    exact hE.out _ rfl
theorem flat_step {L : List (List Int)} {j : Nat} (h : j < L.length) : (L.take (j + 1)).flatten = (L.take j).flatten ++ L[j] := by
  rw [List.take_add_one, List.getElem?_eq_getElem h, List.flatten_append]
  simp only [Option.toList_some, List.flatten_cons, List.flatten_nil, List.append_nil]
theorem flat_le (L : List (List Int)) (j : Nat) : (L.take j).flatten.length ≤ L.flatten.length := by
  have e : L.flatten = (L.take j).flatten ++ (L.drop j).flatten := by rw [← List.flatten_append, List.take_append_drop]
  rw [e, List.length_append]; omega
set_option maxHeartbeats 1600000 in
theorem concat_any (w : World) (v : Value) (L : List (List Int)) (hv : LView w All v L) (hn : L.length ≤ 1000000) (hl : L.flatten.length ≤ 5000000) :
    Calls Try.prog 25 #[v] w fun e w' => ∃ v', e = .returned v' ∧ OwnI w w' v' L.flatten := by
  obtain ⟨A, c, rfl, -, -⟩ := Rw.DView.shape hv
  replace hv := Lib.hid hv
  have hle := Lib.hid (flat_le L)
  obtain ⟨T, hT⟩ : ∃ T, L.flatten.length = T := ⟨_, rfl⟩
  rw [hT] at hl hle
  replace hT := Lib.hid hT
  have HG := Lib.hid (grow_any w T (by omega))
  go_enter Try.func25, Try.ntmps25
  go_wp2_with fail
  go_loopw [3, 11] (fun nv ov wr => ∃ (j k : Nat), nv = .int .i64 (k : Int) ∧ ov = .int .i64 (j : Int) ∧ j ≤ L.length ∧ Hid (k = (L.take j).flatten.length) ∧ wr = w) (fun _ ov _ => L.length - (intOf ov).toNat)
  case atStart => exact ⟨0, 0, rfl, rfl, Nat.zero_le _, Lib.hid (by simp), rfl⟩
  case round =>
    obtain ⟨j, k, rfl, rfl, hj, hk, rfl⟩ := hrel
    by_cases hlt : j < L.length
    · obtain ⟨b, off, A', c', rfl, x0, -⟩ := LView.at hv.out hlt
      have hk1 : Hid (k + L[j].length = (L.take (j + 1)).flatten.length) := Lib.hid (by rw [flat_step hlt, List.length_append, hk.out])
      have hk2 : k + L[j].length ≤ 5000000 := by have h1 := hle.out (j + 1); rw [← hk1.out] at h1; omega
      obtain ⟨m, hm⟩ : ∃ m, L[j].length = m := ⟨_, rfl⟩
      rw [hm] at x0 hk1 hk2
      have hkm : ¬ ((k : Int) + (m : Int) < 0) := by omega
      clear hm hk
      go_wp2_with fail
      go_roundw
      case rel => exact ⟨j + 1, k + m, by go_num, by go_num, hlt, hk1, by first | rfl | trivial⟩
      case measure => simp [intOf]; omega
    · have hk1 : k = T := by rw [hk.out, List.take_of_length_le (by omega)]; exact hT.out
      subst hk1
      clear hk
      obtain ⟨wo, ho⟩ : ∃ wo, wo = wr := ⟨_, rfl⟩
      subst ho
      go_wp2_with fail
      refine HG.out.mono ?_
      rintro e w2 ⟨v2, rfl, ho⟩
      have h0 : Hid (OwnI wo w2 v2 (L.take 0).flatten) := Lib.hid (by simpa using ho)
      obtain ⟨A2, c2, hv2, -, -⟩ := Rw.View.shape ho.mine.view
      subst hv2
      clear HG ho
      go_wp2_with fail
      go_loopw [6, 27] (fun uv ov w3 => ∃ (j : Nat), ov = .int .i64 (j : Int) ∧ j ≤ L.length ∧ Hid (OwnI wo w3 uv (L.take j).flatten)) (fun _ ov _ => L.length - (intOf ov).toNat)
      case atStart => exact ⟨0, rfl, Nat.zero_le _, h0⟩
      case round =>
        clear h0
        obtain ⟨i, rfl, hi, hg⟩ := hrel
        by_cases hlt2 : i < L.length
        · obtain ⟨b, off, A', c', rfl, x0, hX⟩ := LView.at (Rw.DView.new hv.out hg.out.new) hlt2
          replace hX := Lib.hid hX
          have hb1 : Hid ((L.take i).flatten.length + L[i].length ≤ 5000000) := Lib.hid (by have := hle.out (i + 1); rw [flat_step hlt2, List.length_append] at this; omega)
          have hst := Lib.hid (flat_step hlt2)
          obtain ⟨m, hm⟩ : ∃ m, L[i] = m := ⟨_, rfl⟩
          obtain ⟨M, hM⟩ : ∃ M, (L.take i).flatten = M := ⟨_, rfl⟩
          rw [hm] at x0 hX hb1 hst
          rw [hM] at hb1 hst hg
          obtain ⟨A4, c4, hv4, -, -⟩ := Rw.View.shape hg.out.mine.view
          subst hv4
          clear hm hM
          go_wp2_with (at_builtin; refine Rw.wpList_append typI rfl _ _ rfl _ _ M m All rfl rfl hg.out.mine hX.out (by have := hb1.out; omega) (by have := hb1.out; omega) ?_)
          intro v5 w5 hown hgr hbl
          have hG := Lib.hid (hst.out ▸ hg.out.app hown hgr hbl : OwnI wo w5 v5 (L.take (i + 1)).flatten)
          clear hown hgr hbl hg hX x0 hst hb1
          obtain ⟨A5, c5, hv5, -, -⟩ := Rw.View.shape hG.out.mine.view
          subst hv5
          go_wp2_with fail
          go_roundw
          case rel => exact ⟨i + 1, by go_num, hlt2, hG⟩
          case measure => simp [intOf]; omega
        · obtain ⟨A5, c5, hv5, -, -⟩ := Rw.View.shape hg.out.mine.view
          subst hv5
          have hE : Hid (∃ v', Ending.returned (.slice A5 (L.take i).flatten.length c5) = .returned v' ∧ OwnI wo wr v' L.flatten) := Lib.hid ⟨_, rfl, by have := hg.out; rw [List.take_of_length_le (by omega)] at this ⊢; exact this⟩
          clear hg hv
          go_wp2_with fail
          go_ret
          exact hE.out
theorem view_two {w : World} {A A' : Option Addr} {c c' : Nat} {l m : List Int} (h : IView w All (.slice A l.length c) l) (k : IView w All (.slice A' m.length c') m) :
    LView (w.alloc (.cells #[.slice A l.length c, .slice A' m.length c'] 22 (0, 0))) All (.slice (some ⟨w.heap.size, 0, none⟩) 2 2) [l, m] := by
  have hu := (Upon.refl (fun _ => False) w).alloc (.cells #[.slice A l.length c, .slice A' m.length c'] 22 (0, 0))
  have hc := cell_new w (.cells #[.slice A l.length c, .slice A' m.length c'] 22 (0, 0))
  refine ⟨[⟨A, l.length, c⟩, ⟨A', m.length, c'⟩], ⟨_, 2, rfl, Nat.le_refl _, by unfold maxLen; omega, fun _ => ⟨_, 0, rfl, trivial, fun i hi t u ht => ?_⟩⟩, rfl, fun i h1 h2 => ?_⟩
  · have ht' : t = 0 := by have := (List.getElem?_eq_some_iff.1 ht).1; simp [layS] at this; omega
    subst ht'
    simp only [World.cell?, hc]
    have hi' : i = 0 ∨ i = 1 := by simp at hi; omega
    rcases hi' with rfl | rfl
    · simpa [layS] using ht
    · simpa [layS] using ht
  · have hi' : i = 0 ∨ i = 1 := by simp at h1; omega
    rcases hi' with rfl | rfl
    · exact Rw.View.new h hu
    · exact Rw.View.new k hu
theorem or_any (w : World) (S S' : Nat → Prop) (v u : Value) (l m : List Int) (hv : IView w S v l) (hu : IView w S' u m) (hl : l.length ≤ 400000) (hm : m.length ≤ 400000) :
    Calls Try.prog 11 #[v, u] w fun e w' => SetE w (fun x => x ∈ l ∨ x ∈ m) (l.length + m.length) e w' := by
  obtain ⟨A, c, rfl, -, -⟩ := Rw.View.shape hv
  obtain ⟨A', c', rfl, -, -⟩ := Rw.View.shape hu
  have hfl : [l, m].flatten = l ++ m := by simp
  have HC := Lib.hid (concat_any _ _ [l, m] (view_two (Rw.View.all hv) (Rw.View.all hu)) (by simp) (by rw [hfl, List.length_append]; omega))
  have u1 : Hid (New0 w (w.alloc (.cells #[.slice A l.length c, .slice A' m.length c'] 22 (0, 0)))) := Lib.hid ((Upon.refl _ w).alloc _)
  rw [hfl] at HC
  clear hv hu hfl
  go_enter Try.func11, Try.ntmps11
  go_wp2_with fail
  refine HC.out.mono ?_
  rintro e w2 ⟨v2, rfl, ho⟩
  have HR := Lib.hid (rising_any w2 All v2 (l ++ m) (Rw.View.all (Rw.Mine.view ho.mine)) (by rw [List.length_append]; omega))
  have u2 := Lib.hid (u1.out.trans ho.new)
  clear HC u1 ho
  go_wp2_with fail
  refine HR.out.mono ?_
  rintro e w3 ⟨v3, r, rfl, k1, -, k2, k3, k4, k5⟩
  have hF : Hid (SetE w (fun x => x ∈ l ∨ x ∈ m) (l.length + m.length) (.returned v3) w3) := Lib.hid ⟨v3, r, rfl, (Rw.Mine.view k1).all, k2, fun x => by rw [k3, List.mem_append], by rw [List.length_append] at k4; exact k4, u2.out.trans k5⟩
  clear HR k1 k2 k3 k4 k5
  go_wp2_with fail
  go_ret
  exact hF.out
end Po
end Go.Proofs.Ytklgdllllboipaa
