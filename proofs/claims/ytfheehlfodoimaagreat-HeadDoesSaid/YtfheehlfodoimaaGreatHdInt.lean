/- The program's head (layer 13): newSeries, intern. -/
import Derived.Test.YtfheehlfodoimaaGreatHdSPut
set_option maxRecDepth 100000
namespace Go.Proofs.YtfheehlfodoimaaGreat
open Go.RowKit Go.Sort
namespace Hd
open Bit Dsk Ob Dig Nm
set_option linter.unusedVariables false
set_option linter.unusedSimpArgs false
set_option maxHeartbeats 1600000 in
theorem newS_any (w : World) (S : Nat → Prop) (v : Value) (l : List Lb.Pr) (hv : Lb.View w S v l) (hn : l.length * 32 ≤ 140737488355328) :
    Calls Tryz.prog 60 #[v] w fun e w' => ∃ (s : Nat) (u : Rw.Sl), e = .returned (.pointer (some ⟨s, 0, none⟩)) ∧ Rw.Blk3 86 s u.v (.slice none 0 0) (.int .i64 0) w' ∧ w.heap.size ≤ s ∧ Lb.Mine w' u.v l ∧ (∀ k, u.v.ownBlock = some k → w.heap.size ≤ k) ∧ New0 w w' := by
  have HC := Lib.hid (clonePr_any w S v l hv hn)
  obtain ⟨A, c, rfl, -, -⟩ := Rw.View.shape hv
  clear hv
  go_enter Tryz.func60, Tryz.ntmps60
  go_wp2_with fail
  refine HC.out.mono ?_
  rintro e w2 ⟨⟨ua, un, uc⟩, rfl, h1, h2, h3⟩
  have hfin : Hid (Rw.Blk3 86 w2.heap.size (.slice ua un uc) (.slice none 0 0) (.int .i64 0) (w2.alloc (.cells #[.slice ua un uc, .slice none 0 0, .int .i64 0] 86 (0, 0)))) := Lib.hid (cell_new w2 _)
  have hm := Lib.hid (h1.new ((Upon.refl _ w2).alloc (.cells #[.slice ua un uc, .slice none 0 0, .int .i64 0] 86 (0, 0))))
  have hu := Lib.hid (h3.trans ((Upon.refl _ w2).alloc (.cells #[.slice ua un uc, .slice none 0 0, .int .i64 0] 86 (0, 0))))
  have hsz := Lib.hid h3.size
  replace h2 := Lib.hid h2
  clear HC h1 h3
  go_wp2_with fail
  go_ret
  exact ⟨_, ⟨ua, un, uc⟩, rfl, hfin.out, hsz.out, hm.out, h2.out, hu.out⟩
/-- What intern leaves. -/
def InE (w w' : World) (A R : Nat → Prop) (p b : Nat) (h : H) (l : List Lb.Pr) (s : Nat) : Prop :=
  ∃ A' R' N' bs' rs', HeadP w' A' R' p b N' bs' rs' (room h l) ∧ (∃ hb : ix h l < bs'.length, bs'[ix h l] = s) ∧ (∀ k, A k → A' k) ∧ (∀ k, A' k → A k ∨ w.heap.size ≤ k) ∧ (∀ k, R' k → R k ∨ w.heap.size ≤ k) ∧ Upon A w w'
theorem Inv.insert {h : H} (hi : Inv h) {l : List Lb.Pr} (hl : Lb.Ok l) : Inv (room h l) := by
  have k : ∀ r ∈ room h l, r ∈ h ∨ r = ⟨l, [], 0⟩ := fun r hr => room_mem hr
  refine ⟨fun r hr => ?_, fun r hr => ?_, fun r hr => ?_, fun r hr => ?_⟩
  · rcases k r hr with h1 | rfl
    · exact hi.ok r h1
    · exact hl
  · rcases k r hr with h1 | rfl
    · exact hi.rise r h1
    · exact List.Pairwise.nil
  · rcases k r hr with h1 | rfl
    · exact hi.most r h1
    · intro x hx; cases hx
  · rcases k r hr with h1 | rfl
    · exact hi.wf r h1
    · show -9223372036854775808 ≤ (0 : Int) ∧ (0 : Int) ≤ 9223372036854775807
      omega
section
variable {A R : Nat → Prop} {p b : Nat} {N : Nms} {bs : List Nat} {rs : List RR} {h : H}
set_option maxHeartbeats 3200000 in
theorem intern_any (w : World) (hh : HeadP w A R p b N bs rs h) (hs : Srt h) (hfew : h.length ≤ 1000000000) (S : Nat → Prop) (v : Value) (l : List Lb.Pr) (hv : Lb.View w S v l) (hsm : Lb.Sml l) (hl : Lb.Ok l) :
    Calls Tryz.prog 41 #[.pointer (some ⟨p, 0, none⟩), v] w fun e w' => ∃ s, e = .returned (.pointer (some ⟨s, 0, none⟩)) ∧ InE w w' A R p b h l s := by
  have HK := Lib.hid (keyOf_any w S v l hv hsm)
  have HN := Lib.hid (fun w1 (hu : New0 w w1) => newS_any w1 S v l (Rw.View.new hv hu) (by have := hl.few; omega))
  have hkl : keyP l = Lb.encB l := keyP_ok hl
  obtain ⟨K, hK⟩ : ∃ K, keyV (keyP l) = K := ⟨_, rfl⟩
  have hkd : Hid (K.data.toList = Lb.encB l) := Lib.hid (by rw [← hK, keyV_list]; exact hkl)
  have hks : K.size ≤ 1000 := by rw [← hK, keyV_size]; exact keyP_few l
  rw [hK] at HK
  have HH := Lib.hid (fun w1 (hu : New0 w w1) => hh.new hu)
  obtain ⟨a, c, rfl, -, -⟩ := Rw.View.shape hv
  have hnl := hh.nlen
  cases hin : isIn h l with
  | true =>
    obtain ⟨i, hi, hb, e1, e2, e3⟩ := hh.look_in hin
    obtain ⟨s, hse⟩ : ∃ s, bs[i] = s := ⟨_, rfl⟩
    rw [hse, hkl] at e3
    have e3' := Lib.hid e3
    have hfin : Hid (∀ w1, New0 w w1 → InE w w1 A R p b h l s) := Lib.hid (fun w1 hu => by
      subst e1
      exact ⟨A, R, N, bs, rs, by rw [room_in hin]; exact hh.new hu, ⟨hb, hse⟩, fun k hk => hk, fun k hk => .inl hk, fun k hk => .inl hk, hu.mono fun _ _ f => f.elim⟩)
    clear hv hsm hh hs hl hin hkl hK e1 e2 e3 HN hse
    go_enter Tryz.func41, Tryz.ntmps41
    go_wp2_with fail
    refine HK.out.mono ?_
    rintro e w2 ⟨rfl, hu⟩
    have b0 := (HH.out w2 hu).box0
    have HM := Lib.hid (HH.out w2 hu).map
    replace hu := Lib.hid hu
    clear HK
    go_wp2_with (at_lookup; refine wpList_lookS_some _ rfl _ _ rfl b N rfl HM.out K rfl (by unfold maxLen; omega) s (by rw [hkd.out]; exact e3'.out) ?_)
    go_ret
    exact ⟨s, rfl, hfin.out _ hu.out⟩
  | false =>
    have e3 := hh.look_out hs hin
    rw [hkl] at e3
    have hix := ix_le h l
    have e3' := Lib.hid e3
    have hno := Lib.hid hin
    have hinv := Lib.hid (hh.inv.insert hl)
    replace hh := Lib.hid hh
    clear hv hsm hs hl hin hkl hK e3
    go_enter Tryz.func41, Tryz.ntmps41
    go_wp2_with fail
    refine HK.out.mono ?_
    rintro e w2 ⟨rfl, hu⟩
    have b0 := (HH.out w2 hu).box0
    have HM := Lib.hid (HH.out w2 hu).map
    have HN2 := Lib.hid (HN.out w2 hu)
    replace hu := Lib.hid hu
    clear HK HN
    go_wp2_with (at_lookup; refine wpList_lookS_none _ rfl _ _ rfl b N rfl HM.out K rfl (by unfold maxLen; omega) (by rw [hkd.out]; exact e3'.out) ?_)
    refine HN2.out.mono ?_
    rintro e w3 ⟨s, u, rfl, hblk, hs1, hlab, hln, hu3⟩
    have hn3 := Lib.hid (hu.out.trans hu3)
    have HM3 := Lib.hid (HH.out w3 hn3.out).map
    have b3 := (HH.out w3 hn3.out).box0
    have hP : Hid (∀ x', MapS x' b (putN N (Lb.encB l) (s : Int)) → w3.grownBy x' (some b) → InE w x' A R p b h l s) := Lib.hid (fun x' hmap hg => by
      have hr : room h l = h.take (ix h l) ++ [⟨l, [], 0⟩] ++ h.drop (ix h l) := room_new hno.out
      have hsz := hu.out.size
      obtain ⟨A', R', g1, g2, g3, g4, g5⟩ := hh.out.insert hn3.out hix (s := s) (t := ⟨u, ⟨none, 0, 0⟩, 0⟩) (r := ⟨l, [], 0⟩) hblk (Nat.le_trans hsz hs1) hlab (fun k hk => Nat.le_trans hsz (hln k hk)) (Rw.Mine.nil _ _ _) (fun k hk => (by cases hk)) rfl e3'.out hmap hg (by rw [← hr]; exact hinv.out)
      rw [← hr] at g1
      have hbl := hh.out.blen
      refine ⟨A', R', _, _, _, g1, ⟨by simp; omega, ?_⟩, g2, g3, g4, g5⟩
      rw [List.getElem_append_left (by simp; omega), List.getElem_append_right (by simp; omega)]
      simp)
    clear hblk hs1 hlab hln hu3 HN2 HM b0 hu
    go_wp2_with (at_mapUpdate; refine wpList_putS _ rfl _ _ _ rfl b N rfl HM3.out (by unfold maxLen; omega) K rfl (by unfold maxLen; omega) s rfl ?_)
    intro x' hmap hg
    rw [hkd.out] at hmap
    have hfin := Lib.hid (hP.out x' hmap hg)
    clear hmap hg hP b3 HM3
    go_wp2_with fail
    go_ret
    exact ⟨s, rfl, hfin.out⟩
end
end Hd
end Go.Proofs.YtfheehlfodoimaaGreat
