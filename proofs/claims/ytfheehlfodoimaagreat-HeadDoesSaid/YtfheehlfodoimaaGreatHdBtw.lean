/- The program's head (layer 13): a series' points from one time to another one. -/
import Derived.Test.YtfheehlfodoimaaGreatHdRem
set_option maxRecDepth 100000
namespace Go.Proofs.YtfheehlfodoimaaGreat
open Go.RowKit Go.Sort
namespace Hd
open Bit Dsk Ob Dig Nm
set_option linter.unusedVariables false
theorem view_sub {α : Type} {L : Rw.Lay α} {w : World} {S : Nat → Prop} {b off c : Nat} {l : List α} (h : Rw.View L w S (.slice (some ⟨b, off, none⟩) l.length c) l) {i e : Nat} (hi : i ≤ e) (he : e ≤ l.length) :
    Rw.View L w S (.slice (some ⟨b, off + i * L.k, none⟩) (e - i) (c - i)) ((l.drop i).take (e - i)) := by
  obtain ⟨A, c', h1, h2, h3, h4⟩ := h
  injection h1 with h1 _ h1c
  subst h1 h1c
  have hpl : ((l.drop i).take (e - i)).length = e - i := by rw [List.length_take, List.length_drop]; omega
  refine ⟨_, c - i, by rw [hpl], by omega, by omega, fun hp => ?_⟩
  obtain ⟨b', off', k1, k2, k3⟩ := h4 (by omega)
  injection k1 with k1
  injection k1 with e1 e2
  subst e1 e2
  refine ⟨b, off + i * L.k, rfl, k2, fun k hk t u hu => ?_⟩
  have hk2 : i + k < l.length := by omega
  have e : ((l.drop i).take (e - i))[k] = l[i + k] := by simp
  rw [e] at hu
  have := k3 (i + k) hk2 t u hu
  rw [Nat.add_mul, ← Nat.add_assoc] at this
  exact this
set_option maxHeartbeats 3200000 in
theorem between_any (w : World) (s : Nat) (pa : Option Addr) (pc : Nat) (pts : List Pt) (a c : Int) (h : PtsAt w s pa pc pts) (hr : pts.Pairwise fun x y => x.1 < y.1) (hn : pts.length ≤ 1000000000) :
    Calls Tryz.prog 49 #[.pointer (some ⟨s, 0, none⟩), .int .i64 a, .int .i64 c] w fun e w' => ∃ u : Rw.Sl, e = .returned u.v ∧ Rw.View layP w' Rw.All u.v (within pts a c) ∧ New0 w w' := by
  have HS := Lib.hid (span_any w s pa pc pts a c h hr hn)
  have HP := Lib.hid (fun w1 (hu : New0 w w1) => h.new hu)
  have hsh := h.mine.shape
  obtain ⟨-, hc1, hc2⟩ : True ∧ pts.length ≤ pc ∧ pc ≤ maxLen := by
    obtain ⟨A1, c1, e1, e2, e3⟩ := Rw.View.shape h.mine.view
    injection e1 with _ _ e1
    subst e1
    exact ⟨trivial, e2, e3⟩
  clear h hr
  go_enter Tryz.func49, Tryz.ntmps49
  go_wp2_with fail
  refine HS.out.mono ?_
  rintro e w2 ⟨b, d, rfl, hsp, hu2⟩
  have hP := HP.out w2 hu2
  have c1 := hP.cell
  have hle := hsp.le
  have hmx := hsp.max
  unfold maxLen at hc2
  have hw := Lib.hid hsp.within
  have hv := Lib.hid hP.mine.view
  replace hu2 := Lib.hid hu2
  clear hP HS HP hsp
  rcases hsh with ⟨h1, h2⟩ | ⟨g, c', h1, -⟩
  · subst h2
    injection h1 with h1 h3 h4
    subst h1 h4
    have hb0 : b = 0 := by simp at hmx; omega
    have hd0 : d = 0 := by simp at hmx; omega
    subst hb0 hd0
    go_wp2_with fail
    go_ret
    exact ⟨⟨none, 0, 0⟩, rfl, by rw [hw.out]; simpa using (Rw.Mine.nil layP 81 w2).view.mono (fun _ _ _ => trivial), hu2.out⟩
  · injection h1 with h1 h3 h4
    subst h1 h4
    have hq := Lib.hid (view_sub hv.out hle hmx)
    have hz : Hid (pc = b → Rw.View layP w2 Rw.All (.slice (some ⟨g, 0, none⟩) (d - b) 0) ((pts.drop b).take (d - b))) := Lib.hid (fun e => by
      have : d - b = 0 := by omega
      rw [this, List.take_zero]
      exact ⟨some ⟨g, 0, none⟩, 0, rfl, by simp, by unfold maxLen; omega, fun hp => absurd hp (by simp)⟩)
    go_wp2_with fail
    all_goals go_ret
    · exact ⟨⟨some ⟨g, 0, none⟩, d - b, 0⟩, rfl, by rw [hw.out]; exact hz.out (by assumption), hu2.out⟩
    · exact ⟨⟨some ⟨g, b * 2, none⟩, d - b, pc - b⟩, rfl, by rw [hw.out]; have := hq.out.mono (S' := Rw.All) (fun _ _ _ => trivial); rw [Nat.zero_add] at this; exact this, hu2.out⟩
end Hd
end Go.Proofs.YtfheehlfodoimaaGreat
