/- The program's head (layer 13): tryCommit. -/
import Derived.Test.YtfheehlfodoimaaGreatPHd5
import Derived.Test.YtfheehlfodoimaaGreatPRc1
set_option maxRecDepth 100000
namespace Go.Proofs.YtfheehlfodoimaaGreat
open Go.RowKit Go.Sort
namespace Hd
open Bit Dsk Ob Dig Nm
set_option linter.unusedVariables false
/-- What tryCommit tells. -/
def trc (h : H) (l : List Rc.Smp) : Nat := match puts h l with
  | none => 14
  | some g => if 256 < g.length then 4 else 0
section
variable {A R : Nat → Prop} {p b : Nat} {N : Nms} {bs : List Nat} {rs : List RR} {h : H}
/-- A round of it. -/
structure Rnd (w wr : World) (h : H) (smp : List Rc.Smp) (m j : Nat) (g : H) (M : Nms) : Prop where
  puts : puts h (smp.take j) = some g
  lst : Lst h g M j
  map : MapL wr m M
  new : New0 w wr
  base : w.heap.size ≤ m
set_option maxHeartbeats 6400000 in
theorem tryc_any (w : World) (hh : HeadP w A R p b N bs rs h) (hs : Srt h) (T : Nat → Prop) (v : Value) (smp : List Rc.Smp) (hv : Rc.SView w T v smp) (hb : ∀ x ∈ smp, Rc.BndS x) (hok : ∀ x ∈ smp, Lb.Ok x.1) (hsl : h.length + smp.length ≤ 1000000000) :
    Calls Tryz.prog 15 #[.pointer (some ⟨p, 0, none⟩), v] w fun e w' => e = .returned (.int .i64 (trc h smp : Int)) ∧ New0 w w' := by
  obtain ⟨As, cs, rfl, -, -⟩ := Rw.DView.shape hv
  have hmm := @run_makeMap Tryz.prog
  have b0 := hh.box0
  have hu1 := (Upon.refl (fun _ => False) w).alloc (.map #[] 0)
  have b1 := (hh.new hu1).box0
  have HM := Lib.hid ((hh.new hu1).map)
  have HH := Lib.hid (fun w1 (hu : New0 w w1) => hh.new hu)
  have HV := Lib.hid (fun w1 (hu : New0 w w1) => (Rw.DView.upon hv hu (fun _ _ f => f) : Rc.SView w1 T (.slice As smp.length cs) smp))
  have HN := Lib.hid hh.nlen
  have hR0 : Hid (Rnd w (w.alloc (.map #[] 0)) h smp w.heap.size 0 h []) := Lib.hid ⟨rfl, Lst.start h, MapL.made w, hu1, Nat.le_refl _⟩
  have hlen : (Builtin.len_ #[48] 3 #[.map (some b)]).run Tryz.prog (w.alloc (.map #[] 0)) = .ok (.int .i64 (h.length : Int)) (w.alloc (.map #[] 0)) := by
    have := World.ownsMap.len HM.out Tryz.underlying48 3
    rw [toD_size, HN.out] at this
    exact this
  replace hs := Lib.hid hs
  replace hok := Lib.hid hok
  replace hb := Lib.hid hb
  clear hh hv hu1
  go_enter Tryz.func15, Tryz.ntmps15
  go_wp2_with fail
  clear b0 b1 HM hmm hlen
  go_loopw [6, 20] (fun cv iv wr => ∃ (j : Nat) (g : H) (M : Nms), iv = .int .i64 (j : Int) ∧ cv = .int .i64 (g.length : Int) ∧ j ≤ smp.length ∧ g.length ≤ h.length + j ∧ Hid (Rnd w wr h smp w.heap.size j g M)) (fun _ iv _ => smp.length - (intOf iv).toNat)
  case atStart => exact ⟨0, h, [], rfl, rfl, Nat.zero_le _, Nat.le_refl _, hR0⟩
  case round =>
    clear hR0
    obtain ⟨j, g, M, rfl, rfl, hj, hgl, hr⟩ := hrel
    by_cases hlt : j < smp.length
    · obtain ⟨bq, off, hAs, hbl, hcells⟩ := Rc.SView.cells (HV.out wr hr.out.new) (by omega)
      obtain ⟨⟨la, ln, lc⟩, hlv, d0, d1, d2⟩ := hcells j hlt
      subst hAs
      have hbx := hb.out _ (List.getElem_mem hlt)
      have hox := hok.out _ (List.getElem_mem hlt)
      have htk := List.take_succ_eq_append_getElem hlt
      have hdr : smp = smp.take (j + 1) ++ smp.drop (j + 1) := (List.take_append_drop _ _).symm
      obtain ⟨⟨l, t, qq⟩, hsj⟩ : ∃ s, smp[j] = s := ⟨_, rfl⟩
      rw [hsj] at hlv d1 d2 hbx hox htk
      simp only at hlv d1 d2 hox
      replace d0 : wr.cell? ⟨bq, off + j * 3, none⟩ = some (.slice la ln lc) := d0
      have hln : ln = l.length := by
        obtain ⟨A2, c2, e2, -, -⟩ := Rw.View.shape hlv
        injection e2
      subst hln
      obtain ⟨hsm, -, ht1, ht2, -⟩ := hbx
      have ux := (Upon.refl (fun _ => False) wr).alloc (.cells #[.slice la l.length lc, .int .i64 t, .int .u64 (qq : Int)] 42 (0, 0))
      have hX : Rw.Blk3 42 wr.heap.size (.slice la l.length lc) (.int .i64 t) (.int .u64 (qq : Int)) (wr.alloc (.cells #[.slice la l.length lc, .int .i64 t, .int .u64 (qq : Int)] 42 (0, 0))) := cell_new wr _
      obtain ⟨x0, x1, x2⟩ := hX.cells
      have HK := Lib.hid (keyOf_any _ T (.slice la l.length lc) l (Rw.View.new hlv ux) hsm)
      have HX := Lib.hid hX
      have hrn := Lib.hid (hr.out.new.trans ux)
      have HPN := Lib.hid (show puts h (smp.take (j + 1)) = if old g (l, t, qq) = true then none else some (add g (l, t, qq)) by rw [htk, puts_snoc, hr.out.puts])
      have hgs := Lib.hid (hs.out.puts hr.out.puts)
      have hLS := Lib.hid hr.out.lst
      obtain ⟨K, hK⟩ : ∃ K, keyV (keyP l) = K := ⟨_, rfl⟩
      have hkd : Hid (K.data.toList = Lb.encB l) := Lib.hid (by rw [← hK, keyV_list]; exact keyP_ok hox)
      have hkp : Hid (K.data.toList = keyP l) := Lib.hid (by rw [← hK, keyV_list])
      have hkf : K.size ≤ 1000 := by rw [← hK, keyV_size]; exact keyP_few l
      rw [hK] at HK
      clear hK
      have hM1 := Lib.hid (hr.out.map.kept (ux.block _ hr.out.map.lt (fun f => f)))
      have hbs := Lib.hid hr.out.base
      replace hdr := Lib.hid hdr
      replace hox := Lib.hid hox
      replace hr := Lib.hid (show Rnd w wr h smp w.heap.size j g M from hr.out)
      clear hlv hcells htk hsj ux hX hsm
      go_wp2_with fail
      refine HK.out.mono ?_
      rintro e w2 ⟨rfl, hu2⟩
      have hM2 := Lib.hid (hM1.out.kept (hu2.block _ hM1.out.lt (fun f => f)))
      have hX2 := HX.out.new hu2
      obtain ⟨y0, y1, y2⟩ := hX2.cells
      have hn2 := Lib.hid (hrn.out.trans hu2)
      have HL := Lib.hid (lastOf_any w2 (HH.out w2 hn2.out) hs.out l K hkp.out hkf)
      clear hu2 x0 x1 x2 HX hM1 HK hrn hX2
      have hks : K.size ≤ maxLen := by unfold maxLen; omega
      cases e : lookN M (Lb.encB l) with
      | some tt =>
        have hlk : (Instr.lookup 73 (.map (some w.heap.size)) (.string K) true).run Tryz.prog w2 = .ok (.tuple #[.int .i64 tt, .bool true]) w2 := run_lookL_some hM2.out hks (by rw [hkd.out]; exact e)
        have hg1 := Lib.hid (hLS.out.some hox.out e)
        clear e
        have hold : Hid (old g (l, t, qq) = true ↔ t ≤ tt) := Lib.hid (by
          rw [old_lk hgs.out]
          show (∃ t', lk g l = some t' ∧ t ≤ t') ↔ _
          rw [hg1.out]; simp)
        by_cases hlt2 : t ≤ tt
        · have hfin : Hid (trc h smp = 14) := Lib.hid (by rw [trc, hdr.out, puts_none h _ _ (by rw [HPN.out, if_pos (hold.out.2 hlt2)])])
          clear HL hold HPN hM2 hdr
          go_wp2_with fail
          go_ret
          exact ⟨by rw [hfin.out]; rfl, hn2.out⟩
        · have ho : old g (l, t, qq) = false := by
            cases e : old g (l, t, qq) with
            | false => rfl
            | true => exact absurd (hold.out.1 e) hlt2
          have hin : isIn g l = true := by rw [← lk_in, hg1.out]; rfl
          have hgl2 : Hid ((add g (l, t, qq)).length = g.length) := Lib.hid (by rw [add_len_in, if_pos hin])
          have HP2 : Hid (puts h (smp.take (j + 1)) = some (add g (l, t, qq))) := Lib.hid (by rw [HPN.out, if_neg (by rw [ho]; decide)])
          have HL2 : Hid (Lst h (add g (l, t, qq)) (putN M (Lb.encB l) t) (j + 1)) := Lib.hid (hLS.out.put hgs.out (s := (l, t, qq)) hox.out)
          have hml := Nat.le_trans hLS.out.len hj
          clear HL hold HPN hdr ho hin hg1 hLS hgs hr
          go_wp2_with (at_mapUpdate; refine wpList_putL _ rfl _ _ _ rfl w.heap.size M rfl hM2.out (by unfold maxLen; omega) _ rfl hks t (lit64 ⟨ht1, ht2⟩) rfl ?_)
          intro w3 hm3 hg3
          rw [hkd.out] at hm3
          have HR3 : Hid (Rnd w w3 h smp w.heap.size (j + 1) (add g (l, t, qq)) (putN M (Lb.encB l) t)) := Lib.hid ⟨HP2.out, HL2.out, hm3, Upon.grown hn2.out hg3 (fun k e => by cases e; exact .inr (Nat.le_refl _)), Nat.le_refl _⟩
          clear hm3 hg3 HP2 HL2 hM2 y0 y1 y2 d0 d1 d2 hlk hn2
          go_wp2_with fail
          go_roundw
          case rel => exact ⟨j + 1, _, _, by go_num, by rw [hgl2.out], hlt, by rw [hgl2.out]; omega, HR3⟩
          case measure => simp [intOf]; omega
      | none =>
        have hlk : (Instr.lookup 73 (.map (some w.heap.size)) (.string K) true).run Tryz.prog w2 = .ok (.tuple #[.int .i64 0, .bool false]) w2 := run_lookL_none hM2.out hks (by rw [hkd.out]; exact e)
        have hgn := hLS.out.none hox.out e
        rw [lk_last] at HL
        clear e
        cases e2 : lk h l with
        | some tt =>
          rw [e2] at hgn HL
          simp only [Option.getD_some, Option.isSome_some] at HL
          have hg1 := Lib.hid hgn
          clear e2 hgn
          go_wp2_with fail
          refine HL.out.mono ?_
          rintro e w3 ⟨rfl, rfl⟩
          clear hlk
          have hold : Hid (old g (l, t, qq) = true ↔ t ≤ tt) := Lib.hid (by
            rw [old_lk hgs.out]
            show (∃ t', lk g l = some t' ∧ t ≤ t') ↔ _
            rw [hg1.out]; simp)
          by_cases hlt2 : t ≤ tt
          · have hfin : Hid (trc h smp = 14) := Lib.hid (by rw [trc, hdr.out, puts_none h _ _ (by rw [HPN.out, if_pos (hold.out.2 hlt2)])])
            clear HL hold HPN hM2 hdr
            go_wp2_with fail
            go_ret
            exact ⟨by rw [hfin.out]; rfl, hn2.out⟩
          · have ho : old g (l, t, qq) = false := by
              cases e : old g (l, t, qq) with
              | false => rfl
              | true => exact absurd (hold.out.1 e) hlt2
            have hin : isIn g l = true := by rw [← lk_in, hg1.out]; rfl
            have hgl2 : Hid ((add g (l, t, qq)).length = g.length) := Lib.hid (by rw [add_len_in, if_pos hin])
            have HP2 : Hid (puts h (smp.take (j + 1)) = some (add g (l, t, qq))) := Lib.hid (by rw [HPN.out, if_neg (by rw [ho]; decide)])
            have HL2 : Hid (Lst h (add g (l, t, qq)) (putN M (Lb.encB l) t) (j + 1)) := Lib.hid (hLS.out.put hgs.out (s := (l, t, qq)) hox.out)
            have hml := Nat.le_trans hLS.out.len hj
            clear HL hold HPN hdr ho hin hg1 hLS hgs hr
            go_wp2_with (at_mapUpdate; refine wpList_putL _ rfl _ _ _ rfl w.heap.size M rfl hM2.out (by unfold maxLen; omega) _ rfl hks t (lit64 ⟨ht1, ht2⟩) rfl ?_)
            intro w3 hm3 hg3
            rw [hkd.out] at hm3
            have HR3 : Hid (Rnd w w3 h smp w.heap.size (j + 1) (add g (l, t, qq)) (putN M (Lb.encB l) t)) := Lib.hid ⟨HP2.out, HL2.out, hm3, Upon.grown hn2.out hg3 (fun k e => by cases e; exact .inr (Nat.le_refl _)), Nat.le_refl _⟩
            clear hm3 hg3 HP2 HL2 hM2 y0 y1 y2 d0 d1 d2 hn2
            go_wp2_with fail
            go_roundw
            case rel => exact ⟨j + 1, _, _, by go_num, by rw [hgl2.out], hlt, by rw [hgl2.out]; omega, HR3⟩
            case measure => simp [intOf]; omega

        | none =>
          rw [e2] at hgn HL
          simp only [Option.getD_none, Option.isSome_none] at HL
          have ho : old g (l, t, qq) = false := by
            cases e : old g (l, t, qq) with
            | false => rfl
            | true =>
              obtain ⟨t', h1, -⟩ := (old_lk hgs.out).1 e
              rw [show lk g (l, t, qq).1 = lk g l from rfl, hgn] at h1; cases h1
          have hin : isIn g l = false := by rw [← lk_in, hgn]; rfl
          have hgl2 : Hid ((add g (l, t, qq)).length = g.length + 1) := Lib.hid (by rw [add_len_in, if_neg (by rw [hin]; decide)])
          have HP2 : Hid (puts h (smp.take (j + 1)) = some (add g (l, t, qq))) := Lib.hid (by rw [HPN.out, if_neg (by rw [ho]; decide)])
          have HL2 : Hid (Lst h (add g (l, t, qq)) (putN M (Lb.encB l) t) (j + 1)) := Lib.hid (hLS.out.put hgs.out (s := (l, t, qq)) hox.out)
          have hml := Nat.le_trans hLS.out.len hj
          clear HPN hdr ho hin hLS hgs hr e2 hgn
          go_wp2_with fail
          refine HL.out.mono ?_
          rintro e w3 ⟨rfl, rfl⟩
          clear HL hlk
          go_wp2_with (at_mapUpdate; refine wpList_putL _ rfl _ _ _ rfl w.heap.size M rfl hM2.out (by unfold maxLen; omega) _ rfl hks t (lit64 ⟨ht1, ht2⟩) rfl ?_)
          intro w4 hm3 hg3
          rw [hkd.out] at hm3
          have HR3 : Hid (Rnd w w4 h smp w.heap.size (j + 1) (add g (l, t, qq)) (putN M (Lb.encB l) t)) := Lib.hid ⟨HP2.out, HL2.out, hm3, Upon.grown hn2.out hg3 (fun k e => by cases e; exact .inr (Nat.le_refl _)), Nat.le_refl _⟩
          clear hm3 hg3 HP2 HL2 hM2 y0 y1 y2 d0 d1 d2 hn2
          go_wp2_with fail
          go_roundw
          case rel => exact ⟨j + 1, _, _, by go_num, by rw [hgl2.out]; go_num, hlt, by rw [hgl2.out]; omega, HR3⟩
          case measure => simp [intOf]; omega
    · have hje : j = smp.length := by omega
      have hpe : puts h smp = some g := by rw [← hr.out.puts, hje, List.take_length]
      have ht : Hid (trc h smp = if 256 < g.length then 4 else 0) := Lib.hid (by rw [trc, hpe])
      have hN := Lib.hid hr.out.new
      clear hpe hje hr
      by_cases h256 : 256 < g.length
      · go_wp2_with fail
        go_ret
        exact ⟨by rw [ht.out, if_pos h256]; rfl, hN.out⟩
      · go_wp2_with fail
        go_ret
        exact ⟨by rw [ht.out, if_neg h256]; rfl, hN.out⟩
end
end Hd
end Go.Proofs.YtfheehlfodoimaaGreat
