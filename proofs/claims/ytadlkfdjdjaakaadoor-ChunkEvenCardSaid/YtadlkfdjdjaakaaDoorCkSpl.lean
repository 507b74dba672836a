/- The program's Split (layer 9). -/
import Derived.Test.YtadlkfdjdjaakaaDoorCkRef2
set_option maxRecDepth 100000
namespace Go.Proofs.YtadlkfdjdjaakaaDoor
open Go.RowKit Go.Sort
namespace Ck
open Bit Dsk Ob Dig
set_option linter.unusedVariables false

set_option maxHeartbeats 1600000 in
theorem clone_any (w : World) (S : Nat → Prop) (v : Value) (l : List Pt) (hv : View w S v l) (hn : l.length ≤ 500) :
    Calls Tryd.prog 26 #[v] w fun e w' => ∃ u, e = .returned u ∧ OwnPts w' u l ∧ (∀ b, u.ownBlock = some b → w.heap.size ≤ b) ∧ New0 w w' := by
  obtain ⟨A, c, rfl, -, -⟩ := hv.shape
  cases A with
  | none =>
    have h0 : Hid (l = []) := Lib.hid (by
      obtain ⟨A', c', h1, h2, h3, h4⟩ := hv
      by_cases hp : 0 < l.length
      · obtain ⟨b, off, k1, -⟩ := h4 hp
        injection h1 with h1
        rw [← h1] at k1; cases k1
      · exact List.length_eq_zero_iff.1 (by omega))
    have hq := fun W => Lib.run_eql_slice_nil (P := Tryd.prog) W 22 36 none l.length c 0 0 Tryd.underlying22
    clear hv
    go_enter Tryd.func26, Tryd.ntmps26
    go_wp2_with fail
    go_ret
    exact ⟨_, rfl, (by rw [h0.out]; exact OwnPts.nil _), (fun b h => (by cases h)), Upon.refl _ _⟩
  | some a =>
    have hq := fun W => Lib.run_eql_slice_nil (P := Tryd.prog) W 22 36 (some a) l.length c 0 0 Tryd.underlying22
    replace hv := Lib.hid (hv.new ((Upon.refl _ w).alloc (.cells #[] 36 (0, 0))))
    go_enter Tryd.func26, Tryd.ntmps26
    go_wp2_with (at_builtin; refine wpList_append_pts rfl _ _ rfl _ _ [] l S rfl rfl (OwnPts.empty (cell_new w _)) hv.out (by rw [List.length_nil]; omega) ?_)
    intro v' w2 hown hg hb
    have hu2 : New0 w w2 := Upon.grown ((Upon.refl (fun _ => False) w).alloc _) hg (fun k hk => .inr (by
      have hk' : w.heap.size = k := by simpa [Value.ownBlock] using hk
      omega))
    have hmine : ∀ g, v'.ownBlock = some g → w.heap.size ≤ g := fun g hk => by
      rw [hk] at hb
      rcases hb with hb | hb
      · have : g = w.heap.size := by simpa [Value.ownBlock] using hb
        omega
      · have : g = w.heap.size + 1 := by simpa using hb
        omega
    replace hown := Lib.hid hown
    replace hu2 := Lib.hid hu2
    replace hmine := Lib.hid hmine
    clear hg hb hv
    go_wp2_with fail
    go_ret
    exact ⟨v', rfl, hown.out, hmine.out, hu2.out⟩
/-! ### beginnings and ends of a view -/
theorem View.till {w : World} {S : Nat → Prop} {A : Option Addr} {c e n : Nat} {l : List Pt} (h : View w S (.slice A n c) l) (hn : n = l.length) (he : e ≤ l.length) : View w S (.slice A e e) (l.take e) := by
  subst hn
  obtain ⟨A', c', h1, h2, h3, h4⟩ := h
  injection h1 with h1 _ h1c
  subst h1 h1c
  have hpl : (l.take e).length = e := by rw [List.length_take]; omega
  refine ⟨A, e, by rw [hpl], by omega, by omega, fun hp => ?_⟩
  obtain ⟨b, off, k1, k2, k3⟩ := h4 (by omega)
  refine ⟨b, off, k1, k2, fun k hk => ?_⟩
  rw [List.getElem_take]
  exact k3 k (by omega)
theorem View.from {w : World} {S : Nat → Prop} {b off c e n : Nat} {l : List Pt} (h : View w S (.slice (some ⟨b, off, none⟩) n c) l) (hn : n = l.length) (he : e ≤ l.length) : View w S (.slice (some ⟨b, off + e * 2, none⟩) (n - e) (c - e)) (l.drop e) := by
  subst hn
  obtain ⟨A', c', h1, h2, h3, h4⟩ := h
  injection h1 with h1 _ h1c
  subst h1 h1c
  have hpl : (l.drop e).length = l.length - e := List.length_drop
  refine ⟨_, c - e, by rw [hpl], by omega, by omega, fun hp => ?_⟩
  obtain ⟨b', off', k1, k2, k3⟩ := h4 (by omega)
  injection k1 with k1
  injection k1 with e1 e2
  subst e1 e2
  refine ⟨b, off + e * 2, rfl, k2, fun k hk => ?_⟩
  rw [List.getElem_drop, show off + e * 2 + k * 2 = off + (e + k) * 2 by omega]
  exact k3 (e + k) (by omega)
theorem part_is (l : List Pt) (j e : Nat) (he : e = min (l.length - 64 * j) 64) : (l.drop (64 * j)).take e = part l j := by
  unfold part
  rw [List.take_eq_take_iff, List.length_drop]
  omega
def lenV : Value → Nat
  | .slice _ n _ => n
  | _ => 0
abbrev Low (w : World) : Nat → Prop := fun b => b < w.heap.size
theorem nparts_zero {l : List Pt} {j n : Nat} (hn : n = l.length - 64 * j) : 0 < n ↔ j < nparts l := by rw [← nparts_iff]; omega
set_option maxHeartbeats 6400000 in
theorem split_any (w : World) (S : Nat → Prop) (v : Value) (l : List Pt) (hv : View w S v l) (hn : l.length ≤ 500) :
    Calls Tryd.prog 9 #[v] w fun e w' => ∃ u, e = .returned u ∧ Parts w' u l ∧ New0 w w' := by
  have HC := Lib.hid (clone_any w S v l hv hn)
  obtain ⟨A0, c0, rfl, -, -⟩ := hv.shape
  clear hv
  obtain ⟨i0, hi, hz0, hz1, hz2⟩ := info_parts infoRow
  go_enter Tryd.func9, Tryd.ntmps9
  go_wp2_with fail
  refine HC.out.mono ?_
  rintro e w1 ⟨u, rfl, hown, hnew, hu1⟩
  have hv1 : Hid (View w1 (Low w1) u l) := Lib.hid (hown.view.mono fun b h _ => h)
  obtain ⟨A, c, rfl, hc1, hc2⟩ := hown.view.shape
  replace hu1 := Lib.hid hu1
  clear HC hown hnew
  unfold maxLen at hc2
  go_wp2_with fail
  go_loopw [3, 4] (fun pv rv wr => ∃ (j n c : Nat) (A : Option Addr) (vs : List Value), rv = .slice A n c ∧ n ≤ c ∧ c ≤ 2 ^ 63 - 1 ∧ n ≤ 500 ∧ Hid (n = l.length - 64 * j) ∧ Hid (j ≤ nparts l) ∧ Hid (View wr (Low w1) (.slice A n c) (l.drop (64 * j))) ∧ Hid (Outs w1 wr pv l j vs)) (fun _ rv _ => lenV rv)
  case atStart => exact ⟨0, l.length, c, A, [], rfl, hc1, hc2, hn, Lib.hid (by omega), Lib.hid (Nat.zero_le _), hv1, Lib.hid (Outs.start w1 l)⟩
  case round =>
    clear hv1 hc1 hc2
    obtain ⟨j, n, c, A, vs, rfl, hc1, hc2, hn5, hnj, hj, hvr, ho⟩ := hrel
    by_cases hlt : 0 < n
    · have hjn : Hid (j < nparts l) := Lib.hid ((nparts_zero hnj.out).1 hlt)
      have hdl : Hid (n = (l.drop (64 * j)).length) := Lib.hid (by rw [List.length_drop]; exact hnj.out)
      obtain ⟨b, off, rfl⟩ : ∃ b off, A = some ⟨b, off, none⟩ := by
        obtain ⟨A', c', h1, h2, h3, h4⟩ := hvr.out
        injection h1 with h1
        obtain ⟨b, off, k1, -⟩ := h4 (by rw [← hdl.out]; exact hlt)
        exact ⟨b, off, by rw [h1, k1]⟩
      obtain ⟨e, he⟩ : ∃ e, e = min n 64 := ⟨_, rfl⟩
      have he1 : 0 < e ∧ e ≤ n ∧ e ≤ 64 := by omega
      have dm : min (n : Int) 64 = (e : Int) := by omega
      have hpart : Hid (View wr (Low w1) (.slice (some ⟨b, off, none⟩) e e) (part l j)) := Lib.hid (by
        rw [← part_is l j e (by rw [← hnj.out]; exact he)]
        exact hvr.out.till hdl.out (by rw [← hdl.out]; exact he1.2.1))
      have hrest : Hid (∀ A' n' c', n' = n - e → c' = c - e → (n' = 0 ∨ A' = some ⟨b, off + e * 2, none⟩) → View wr (Low w1) (.slice A' n' c') (l.drop (64 * (j + 1)))) := Lib.hid fun A' n' c' hn' hc' hA' => by
        subst hn' hc'
        by_cases h0 : n - e = 0
        · have hz : l.drop (64 * (j + 1)) = [] := List.drop_eq_nil_of_le (by have := hnj.out; omega)
          rw [hz, h0]
          exact ⟨A', c - e, rfl, Nat.zero_le _, by unfold maxLen; omega, fun h => absurd h (by simp)⟩
        · have h := hvr.out.from hdl.out (e := e) (by rw [← hdl.out]; exact he1.2.1)
          rw [List.drop_drop, show 64 * j + e = 64 * (j + 1) by omega] at h
          rcases hA' with hA' | rfl
          · exact absurd hA' h0
          · exact h
      replace he := Lib.hid he
      obtain ⟨he1, he2, he3⟩ := he1
      clear hvr
      have hjl : j ≤ 8 := by have := hjn.out; unfold nparts at this; omega
      have hrow := Lib.hid (fun o => ownsRow_kept ho.out.row (fun b hb => ((Upon.refl (fun _ => False) wr).alloc o).block b (World.ownsRow.lt ho.out.row b hb).2 fun f => f))
      have hstep := Lib.hid (fun o w' g cap (h1 : w'.ownsRow 0 22 1 (.slice (some ⟨g, 0, none⟩) (j + 1) cap) (j + 1) (vs ++ [.slice (some ⟨b, off, none⟩) e e])) (h2 : (wr.alloc o).grownBy w' u3.ownBlock) (h3 : u3.ownBlock = some g ∨ g = (wr.alloc o).heap.size) =>
        And.intro (ho.out.step ((Upon.refl _ wr).alloc o) (hpart.out.new ((Upon.refl _ wr).alloc o)) (fun b hb he => Nat.lt_irrefl _ (Nat.lt_of_lt_of_le hb (ho.out.mine b he))) h1 h2 h3)
          (fun A' n' c' hn' hc' hA' => ((hrest.out A' n' c' hn' hc' hA').new ((Upon.refl _ wr).alloc o)).upon (Upon.grown (Upon.refl (fun b => u3.ownBlock = some b) (wr.alloc o)) h2 (fun k hk => .inl hk)) (fun b hb he => Nat.lt_irrefl _ (Nat.lt_of_lt_of_le hb (ho.out.mine b he)))))
      clear hpart hrest ho hdl
      by_cases hec : c = e
      · have hne : n = e := by omega
        subst hec hne
        go_wp2_with (at_builtin; refine wpList_append_lies _ rfl _ _ 26 rfl 0 22 i0 (.slice none 0 0) 1 24 Tryd.underlying26 hi hz0 hz1 hz2 rfl (by decide) _ j vs rfl (hrow.out _) ⟨wr.heap.size, 0, none⟩ 1 1 [.slice (some ⟨b, off, none⟩) n n] rfl rfl ?c1 ?c2 (by decide) ?c3 ?c4 ?c5 _ rfl ?_)
        case c1 => exact World.news_of_block (cell_new wr _)
        case c2 => intro u hu; rw [List.mem_singleton.1 hu]; rfl
        case c3 => unfold maxLen; omega
        case c4 => omega
        case c5 => exact Nat.zero_le _
        intro g cap w' h1 h2 h3 h4
        obtain ⟨hO, hR⟩ := hstep.out _ _ _ _ h1 h2 (h3.imp id fun h => h.trans (by simp))
        replace hO := Lib.hid hO
        replace hR := Lib.hid hR
        clear hstep hrow h1 h2 h3 h4
        go_wp2_with fail
        go_roundw
        case rel => exact ⟨j + 1, _, _, _, _, rfl, by omega, by omega, by omega, Lib.hid (by have := hnj.out; omega), Lib.hid hjn.out, Lib.hid (hR.out _ _ _ (by omega) (by omega) (.inl rfl)), hO⟩
        case measure => simp [lenV]; omega
      · have hce : e < c := by omega
        go_wp2_with (at_builtin; refine wpList_append_lies _ rfl _ _ 26 rfl 0 22 i0 (.slice none 0 0) 1 24 Tryd.underlying26 hi hz0 hz1 hz2 rfl (by decide) _ j vs rfl (hrow.out _) ⟨wr.heap.size, 0, none⟩ 1 1 [.slice (some ⟨b, off, none⟩) e e] rfl rfl ?c1 ?c2 (by decide) ?c3 ?c4 ?c5 _ rfl ?_)
        case c1 => exact World.news_of_block (cell_new wr _)
        case c2 => intro u hu; rw [List.mem_singleton.1 hu]; rfl
        case c3 => unfold maxLen; omega
        case c4 => omega
        case c5 => exact Nat.zero_le _
        intro g cap w' h1 h2 h3 h4
        obtain ⟨hO, hR⟩ := hstep.out _ _ _ _ h1 h2 (h3.imp id fun h => h.trans (by simp))
        replace hO := Lib.hid hO
        replace hR := Lib.hid hR
        clear hstep hrow h1 h2 h3 h4
        go_wp2_with fail
        go_roundw
        case rel => exact ⟨j + 1, _, _, _, _, rfl, by omega, by omega, by omega, Lib.hid (by have := hnj.out; omega), Lib.hid hjn.out, Lib.hid (hR.out _ _ _ (by omega) (by omega) (.inr rfl)), hO⟩
        case measure => simp [lenV]; omega
    · have hjn : Hid (j = nparts l) := Lib.hid (by
        have h1 := hj.out
        have h2 : ¬ j < nparts l := fun h => hlt ((nparts_zero hnj.out).2 h)
        omega)
      have hP := Lib.hid (ho.out.parts hjn.out)
      have hN := Lib.hid (hu1.out.trans ho.out.new)
      have hn0 : n = 0 := by omega
      subst hn0
      clear ho hvr hnj hj hjn hlt
      go_wp2_with fail
      go_ret
      exact ⟨u3, rfl, hP.out, hN.out⟩
end Ck
end Go.Proofs.YtadlkfdjdjaakaaDoor
