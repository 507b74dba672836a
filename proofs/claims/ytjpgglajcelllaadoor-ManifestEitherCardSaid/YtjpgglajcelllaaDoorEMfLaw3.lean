/- Manifests (layer 17): ManifestEither. Written by wip/tools/mflaw3.py. -/
import Derived.Test.YtjpgglajcelllaaDoorEMfWorks
import Derived.Test.YtjpgglajcelllaaDoorEMfSameG
import Derived.Test.YtjpgglajcelllaaDoorEMfLaw1
import Derived.Test.YtjpgglajcelllaaDoorEArgRows
set_option maxRecDepth 100000
namespace Go.Proofs.YtjpgglajcelllaaDoor
open Go.RowKit Go.Sort
namespace Mf
open Bit Dsk Ob Dig
set_option linter.unusedVariables false
theorem crash_keep {a b c : World} {S : Nat → Prop} {p : Nat} {st : St} (hs : Step S p st a b) (hu : New0 b c) {v : Value} {ks : List Int} {db : Nat} (hk : KeepAt c v ks db) (hd : ks ≠ [] → b.heap.size ≤ db ∧ db < c.heap.size) {k : Nat} (hg : Gro.Grew k st) (hk' : k ≤ 1000) :
    Calls Tryd.prog 24 #[.pointer (some ⟨p, 0, none⟩), v] c fun e w' => e = .returned (.tuple #[]) ∧ Step S p (Dsk.crash st ks) a w' := by
  obtain ⟨⟨S', h1, h2, h3⟩, hu1⟩ := hs
  have hD := h1.upon hu fun _ _ h => h
  have hsm := hg.small h1.fine hk' (z := 0) (by omega)
  exact (crash_any S' p st ks v db c hD hk (fun hn => ⟨(hd hn).2, fun hS => by have := h1.lt _ hS; have := (hd hn).1; omega⟩) (fun f hf => by have := hsm.file f hf; omega) hsm.chs).mono fun e w' ⟨he, hs⟩ =>
    ⟨he, Been.step ⟨h2, fun b hb => h3 b hb, hu1.trans' hu fun _ _ h => h.elim⟩ hs⟩
theorem fuse_step {a b : World} {S : Nat → Prop} {p : Nat} {st : St} (hs : Step S p st a b) (n : Int) (hn : -9223372036854775808 ≤ n ∧ n ≤ 9223372036854775807) :
    Calls Tryd.prog 23 #[.pointer (some ⟨p, 0, none⟩), .int .i64 n] b fun e w' => e = .returned (.tuple #[]) ∧ Step S p (Dsk.fuse st n) a w' :=
  step_more hs fun S' hD => fuse_any S' p st n hn b hD
/-- Plainly: what is there behind the crash. -/
theorem either_plain {m n : M} (hm : Good m) (hn : Good n) : (pubA m (new 1048576)).2 = 0 ∧ ∀ (k : Int) (keep : List Int), 0 ≤ k →
    ((pubA n (Dsk.fuse (pubA m (new 1048576)).1 k)).2 = 0 ∧ Held 1048576 (-1) (some (txt n)) (Dsk.crash (pubA n (Dsk.fuse (pubA m (new 1048576)).1 k)).1 keep)) ∨
    ((pubA n (Dsk.fuse (pubA m (new 1048576)).1 k)).2 = 11 ∧ (Held 1048576 (-1) (some (txt m)) (Dsk.crash (pubA n (Dsk.fuse (pubA m (new 1048576)).1 k)).1 keep) ∨ Held 1048576 (-1) (some (txt n)) (Dsk.crash (pubA n (Dsk.fuse (pubA m (new 1048576)).1 k)).1 keep))) := by
  have h0 := (only_new 1048576).held
  have zm := txt_len hm
  have zn := txt_len hn
  have em : ∀ st, pubA m st = pub (txt m) st := fun st => pubA_ok (chk_zero.2 hm) st
  have en : ∀ st, pubA n st = pub (txt n) st := fun st => pubA_ok (chk_zero.2 hn) st
  rw [em]
  rcases h0.pub (s := txt m) (by omega) (by show ((0 : Nat) : Int) + _ ≤ _; omega) with ⟨h1, l', h2, h3⟩ | ⟨_, h1, _⟩
  · refine ⟨h1, fun k keep hk => ?_⟩
    rw [en]
    have h4 := (h2.held).fuse hk
    rcases h4.pub (s := txt n) (by omega) (by show ((1000 : Nat) : Int) + _ ≤ _; omega) with ⟨h5, l2, h6, -⟩ | ⟨h5, -, h6⟩
    · exact .inl ⟨h5, (h6.crash keep).held⟩
    · exact .inr ⟨h5, h6.crash keep⟩
  · omega
theorem k_of (d : Int) : ∃ K : Int, (0 ≤ K ∧ K ≤ 7) ∧ wrap64 ((IntKind.u64.wrap d).tmod 8) = K := by
  have h0 : 0 ≤ d % 18446744073709551616 := Int.emod_nonneg _ (by decide)
  refine ⟨d % 18446744073709551616 % 8, ⟨by omega, by omega⟩, ?_⟩
  rw [IntKind.wrap_u64, Int.tmod_eq_emod_of_nonneg h0, show wrap64 (d % 18446744073709551616 % 8) = d % 18446744073709551616 % 8 from IntWalk.wrap64_in _ (by omega)]
set_option maxHeartbeats 25600000 in
theorem either_true (W : World) (v v' : Value) (cut : Int) (kv : Value) (o : IsM v W) (o' : IsM v' W) (hc1 : -9223372036854775808 ≤ cut) (hc2 : cut ≤ 9223372036854775807) (hk : IsIntsZ kv W) (hT : Crc.Tab W) :
    Calls Tryd.prog 4 #[v, v', .int .i64 cut, kv] W fun e W' => e = .returned (.bool true) ∧ Below W.heap.size W W' := by
  obtain ⟨m, hv, hb⟩ := o
  obtain ⟨n, hv', hb'⟩ := o'
  obtain ⟨A, c, rfl, hn⟩ := hv.shape
  obtain ⟨A', c', rfl, hn'⟩ := hv'.shape
  obtain ⟨ks, db, hkp, hdb, hkz⟩ := hk
  obtain ⟨kA, kc, rfl, -, -, -⟩ := id hkp
  have hV := Lib.hid (fun w (hu : New0 W w) => (show MView w All (.agg #[.int .i64 m.epoch, .int .i64 m.base, .int .i64 m.promise, .int .i64 m.mark, .int .i64 m.check, .slice A m.blocks.length c]) m from hv.new hu))
  have hV' := Lib.hid (fun w (hu : New0 W w) => (show MView w All (.agg #[.int .i64 n.epoch, .int .i64 n.base, .int .i64 n.promise, .int .i64 n.mark, .int .i64 n.check, .slice A' n.blocks.length c']) n from hv'.new hu))
  have hK := Lib.hid (fun w (hu : New0 W w) => (show KeepAt w (.slice kA ks.length kc) ks db from hkp.kept fun h => hu.block db (hdb h) fun f => f))
  obtain ⟨w0, hw0⟩ : ∃ w0, W.alloc (.cells #[.int .i64 m.epoch, .int .i64 m.base, .int .i64 m.promise, .int .i64 m.mark, .int .i64 m.check, .slice A m.blocks.length c] 24 (0, 0)) = w0 := ⟨_, rfl⟩
  obtain ⟨w1, hw1⟩ : ∃ w1, w0.alloc (.cells #[.int .i64 n.epoch, .int .i64 n.base, .int .i64 n.promise, .int .i64 n.mark, .int .i64 n.check, .slice A' n.blocks.length c'] 24 (0, 0)) = w1 := ⟨_, rfl⟩
  have s0 : w0.heap.size = W.heap.size + 1 := by rw [← hw0]; simp
  have n0 : New0 W w0 := by rw [← hw0]; exact (Upon.refl _ W).alloc _
  have n01 : New0 w0 w1 := by rw [← hw1]; exact (Upon.refl _ w0).alloc _
  have hX1 : Six 24 W.heap.size ⟨.int .i64 m.epoch, .int .i64 m.base, .int .i64 m.promise, .int .i64 m.mark, .int .i64 m.check, .slice A m.blocks.length c⟩ w1 := Six.new (by rw [← hw0]; exact six_new _ W ⟨.int .i64 m.epoch, .int .i64 m.base, .int .i64 m.promise, .int .i64 m.mark, .int .i64 m.check, .slice A m.blocks.length c⟩) n01
  have hY1 : Six 24 (W.heap.size + 1) ⟨.int .i64 n.epoch, .int .i64 n.base, .int .i64 n.promise, .int .i64 n.mark, .int .i64 n.check, .slice A' n.blocks.length c'⟩ w1 := by rw [← hw1, ← s0]; exact six_new _ w0 ⟨.int .i64 n.epoch, .int .i64 n.base, .int .i64 n.promise, .int .i64 n.mark, .int .i64 n.check, .slice A' n.blocks.length c'⟩
  have n1 := n0.trans n01
  have hTb := Lib.hid (fun w (hu : New0 W w) => hT.below (belowOf hu))
  have HW := Lib.hid (works_true w1 (hTb.out _ n1))
  rw [← hw0] at hw1
  replace n1 := Lib.hid n1
  replace hX1 := Lib.hid hX1
  replace hY1 := Lib.hid hY1
  replace hw1 := Lib.hid hw1
  replace hb := Lib.hid hb
  replace hb' := Lib.hid hb'
  replace hT := Lib.hid hT
  clear hv hn hv' hn' hw0 s0 n0 n01 hkp hdb
  go_enter Tryd.func4, Tryd.ntmps4
  go_wp2_with fail
  rw [hw1.out]
  go_wp2_with fail
  refine HW.out.mono ?_
  rintro e w2 ⟨rfl, hu2⟩
  have n2 := Lib.hid (n1.out.trans hu2)
  have hX2 := Lib.hid (hX1.out.new hu2)
  have hY2 := Lib.hid (hY1.out.new hu2)
  clear HW hw1 n1 hX1 hY1 hu2
  obtain ⟨k0, k1, k2, k3, k4, k5⟩ := hX2.out.cells
  obtain ⟨l0, l1, l2, l3, l4, l5⟩ := hY2.out.cells
  dsimp only at k0 k1 k2 k3 k4 k5 l0 l1 l2 l3 l4 l5
  go_upto_region 3 with fail
  go_cut [35] from 15 to 35 (fun cv wx => ∃ b : Bool, cv = .bool b ∧ Hid (New0 w2 wx) ∧ Hid (b = false → SmallM m ∧ SmallM n ∧ chk m = 0 ∧ chk n = 0 ∧ ks.length ≤ 100))
  case first =>
    have HG := Lib.hid (great_any w2 _ _ m (hV.out w2 n2.out) hb.out)
    unfold GreatE at HG
    have hyes : ∀ wx, New0 w2 wx → ∃ b : Bool, Value.bool true = .bool b ∧ Hid (New0 w2 wx) ∧ Hid (b = false → SmallM m ∧ SmallM n ∧ chk m = 0 ∧ chk n = 0 ∧ ks.length ≤ 100) := fun wx h => ⟨true, rfl, Lib.hid h, Lib.hid (fun h => by cases h)⟩
    replace hyes := Lib.hid hyes
    go_wp2_with fail
    refine HG.out.mono ?_
    rintro e w3 ⟨B, rfl, hu3, hsm⟩
    clear HG k0 k1 k2 k3 k4 k5 l0 l1 l2 l3 l4 l5
    cases B with
    | true =>
      replace hu3 := Lib.hid hu3
      clear hX2 hY2 hsm
      go_wp2_with fail
      go_meet
      exact hyes.out _ hu3.out
    | false =>
      replace hsm := Lib.hid (hsm rfl)
      obtain ⟨l0, l1, l2, l3, l4, l5⟩ := (hY2.out.new hu3).cells
      dsimp only at l0 l1 l2 l3 l4 l5
      replace hu3 := Lib.hid hu3
      have HG := Lib.hid (great_any w3 _ _ n (hV'.out w3 (n2.out.trans hu3.out)) hb'.out)
      unfold GreatE at HG
      go_wp2_with fail
      refine HG.out.mono ?_
      rintro e w4 ⟨B, rfl, hu4, hsn⟩
      have h24 := hu3.out.trans hu4
      clear HG l0 l1 l2 l3 l4 l5 hu4 hu3
      cases B with
      | true =>
        replace h24 := Lib.hid h24
        clear hX2 hY2 hsm hsn
        go_wp2_with fail
        go_meet
        exact hyes.out _ h24.out
      | false =>
        replace hsn := Lib.hid (hsn rfl)
        obtain ⟨k0, k1, k2, k3, k4, k5⟩ := (hX2.out.new h24).cells
        dsimp only at k0 k1 k2 k3 k4 k5
        replace h24 := Lib.hid h24
        have HC := Lib.hid (refcheck_any w4 _ _ m (hV.out w4 (n2.out.trans h24.out)) hb.out)
        go_wp2_with fail
        refine HC.out.mono ?_
        rintro e w5 ⟨rfl, hu5⟩
        have h25 := h24.out.trans hu5
        clear HC k0 k1 k2 k3 k4 k5 hu5 h24
        by_cases hzm : chk m = 0
        · obtain ⟨l0, l1, l2, l3, l4, l5⟩ := (hY2.out.new h25).cells
          dsimp only at l0 l1 l2 l3 l4 l5
          replace h25 := Lib.hid h25
          rw [hzm]
          replace hzm := Lib.hid hzm
          have HC := Lib.hid (refcheck_any w5 _ _ n (hV'.out w5 (n2.out.trans h25.out)) hb'.out)
          go_wp2_with fail
          refine HC.out.mono ?_
          rintro e w6 ⟨rfl, hu6⟩
          have h26 := Lib.hid (h25.out.trans hu6)
          clear HC l0 l1 l2 l3 l4 l5 hu6 h25 hX2 hY2
          by_cases hzn : chk n = 0
          · rw [hzn]
            replace hzn := Lib.hid hzn
            by_cases hkl : 100 < ks.length
            · have d1 : decide ((100 : Int) < (ks.length : Int)) = true := decide_eq_true (by omega)
              go_wp2_with fail
              go_meet
              exact hyes.out _ h26.out
            · have d1 : decide ((100 : Int) < (ks.length : Int)) = false := decide_eq_false (by omega)
              go_wp2_with fail
              go_meet
              exact ⟨false, rfl, h26, Lib.hid (fun _ => ⟨hsm.out, hsn.out, hzm.out, hzn.out, by omega⟩)⟩
          · have d1 : (chk n != 0) = true := bne_iff_ne.2 hzn
            clear hzn hsm hsn
            go_wp2_with fail
            go_meet
            exact hyes.out _ h26.out
        · have d1 : (chk m != 0) = true := bne_iff_ne.2 hzm
          replace h25 := Lib.hid h25
          clear hzm hsm hsn hX2 hY2
          go_wp2_with fail
          go_meet
          exact hyes.out _ h25.out
  case rest =>
    obtain ⟨B, rfl, hn3, hB⟩ := hcut
    have n3 := Lib.hid (n2.out.trans hn3.out)
    have hX3 := Lib.hid (hX2.out.new hn3.out)
    have hY3 := Lib.hid (hY2.out.new hn3.out)
    clear hX2 hY2 hn3 n2 k0 k1 k2 k3 k4 k5 l0 l1 l2 l3 l4 l5
    cases B with
    | true =>
      have hend := Lib.hid (belowOf n3.out)
      clear hX3 hY3 n3 hB
      go_wp2_with fail
      go_ret
      exact ⟨rfl, hend.out⟩
    | false =>
      have hsm := Lib.hid (hB.out rfl)
      clear hB
      obtain ⟨hs1, hs2, hz1, hz2, hkl⟩ := hsm.out
      have hgm := Lib.hid (chk_zero.1 hz1)
      have hgn := Lib.hid (chk_zero.1 hz2)
      have hkm := Lib.hid hb.out.rng.k
      have hkn := Lib.hid hb'.out.rng.k
      have hf1 := Lib.hid (show m.blocks.length ≤ 1000 by have := hs1.1; omega)
      have hf2 := Lib.hid (show n.blocks.length ≤ 1000 by have := hs2.1; omega)
      replace hkl := Lib.hid hkl
      clear hs1 hs2 hz1 hz2 hsm
      go_wp2_with fail
      refine (new_any 1048576 (by decide) _).mono ?_
      rintro e w1 ⟨S, p, rfl, hd, hS, hu⟩
      have n4 := Lib.hid (n3.out.trans hu)
      have ha : Hid (At W S w1) := Lib.hid ⟨belowOf n4.out, fun b hb => Nat.le_trans n3.out.size (hS b hb), hT.out⟩
      have hs1 := Lib.hid (Step.same hd)
      have hX4 := hX3.out.new hu
      have hY4 := Lib.hid (hY3.out.new hu)
      have hnX : Hid (∀ b, b ≤ W.heap.size + 1 → ¬ S b) := Lib.hid (fun b hb h => by have := hS b h; have := hY3.out.lt; omega)
      have hP := Lib.hid (either_plain hgm.out hgn.out)
      have HT := Lib.hid (to_any w1 _ _ m (hV.out w1 n4.out) hf1.out)
      clear hd hS hu hX3 hY3 n3
      obtain ⟨k0, k1, k2, k3, k4, k5⟩ := hX4.cells
      dsimp only at k0 k1 k2 k3 k4 k5
      replace hX4 := Lib.hid hX4
      go_wp2_with fail
      refine HT.out.mono ?_
      rintro e w2 ⟨⟨uA, un, uc⟩, rfl, hVu, hu2⟩
      have s2 := Lib.hid (hs1.out.then hu2)
      have HP1 := Lib.hid (publish_step ha.out s2.out (Gro.grew_new 1048576) (by omega) (m := m) ⟨⟨uA, un, uc⟩, rfl, hVu⟩ hb.out)
      rw [hP.out.1] at HP1
      clear HT hVu hs1 k0 k1 k2 k3 k4 k5 hu2
      go_wp2_with fail
      refine HP1.out.mono ?_
      rintro e w3 ⟨rfl, s3, g3⟩
      replace s3 := Lib.hid s3
      replace g3 := Lib.hid g3
      have HF := Lib.hid (fun K hK => fuse_step s3.out K hK)
      clear HP1 s2
      go_wp2_with fail
      obtain ⟨K, ⟨hK0, hK7⟩, hKe⟩ := k_of cut
      rw [hKe]
      have HF1 := Lib.hid (HF.out K (by omega))
      replace hP := Lib.hid (hP.out.2 K ks hK0)
      clear hKe
      replace hK0 := Lib.hid hK0
      replace hK7 := Lib.hid hK7
      refine HF1.out.mono ?_
      rintro e w4 ⟨rfl, s4⟩
      replace s4 := Lib.hid s4
      have g4 := Lib.hid (Gro.grew_fuse g3.out K)
      have n5 := Lib.hid (newOf (ha.out.below s4.out))
      obtain ⟨l0, l1, l2, l3, l4, l5⟩ := (hY4.out.upon s4.out.upon (hnX.out _ (Nat.le_refl _))).cells
      dsimp only at l0 l1 l2 l3 l4 l5
      have HT := Lib.hid (to_any w4 _ _ n (hV'.out w4 n5.out) hf2.out)
      clear HF HF1 s3 g3 n5
      go_wp2_with fail
      refine HT.out.mono ?_
      rintro e w5 ⟨⟨uA, un, uc⟩, rfl, hVu, hu5⟩
      have s5 := Lib.hid (s4.out.then hu5)
      have HP1 := Lib.hid (publish_step ha.out s5.out g4.out (by omega) (m := n) ⟨⟨uA, un, uc⟩, rfl, hVu⟩ hb'.out)
      obtain ⟨q, hq⟩ : ∃ q, pubA n (Dsk.fuse (pubA m (new 1048576)).1 K) = q := ⟨_, rfl⟩
      simp only [hq] at HP1 hP
      clear HT hVu s4 l0 l1 l2 l3 l4 l5 hu5 hq g4
      go_wp2_with fail
      refine HP1.out.mono ?_
      rintro e w6 ⟨rfl, s6, g6⟩
      replace s6 := Lib.hid s6
      replace g6 := Lib.hid g6
      have n6 := Lib.hid (newOf (ha.out.below s6.out))
      have HKG := Lib.hid (hK.out (w6.alloc (.cells #[] 3 (0, 0))) (n6.out.alloc _))
      have hk100 := hkl.out
      clear HP1 s5
      go_wp2_with (at_builtin; refine wpList_copy _ rfl _ _ rfl w6.heap.size (cell_new w6 _) _ ks db rfl rfl HKG.out (by omega) ?_)
      intro v' db' wk hkk hup hnew
      have HC := Lib.hid (crash_keep s6.out (Upon.trans (Upon.alloc (Upon.refl _ _) _) hup) hkk (fun hn => by have := (hnew hn).1; have := (hnew hn).2; simp at *; omega) g6.out (by omega))
      obtain ⟨va, vn, vc, rfl⟩ : ∃ a n c, v' = .slice a n c := by obtain ⟨a, c, e, _⟩ := hkk; exact ⟨a, _, c, e⟩
      clear hkk hup hnew HKG n6 s6 g6
      go_wp2_with fail
      refine HC.out.mono ?_
      rintro e w7 ⟨rfl, s7⟩
      replace s7 := Lib.hid s7
      clear HC
      obtain ⟨st, hst⟩ : ∃ st, Dsk.crash q.1 ks = st := ⟨_, rfl⟩
      obtain ⟨E, hE⟩ : ∃ E, q.2 = E := ⟨_, rfl⟩
      simp only [hst, hE] at hP s7
      try rw [hE]
      clear hst hE
      have hshort : (readA st mN).length ≤ 5000 := by rcases hP.out with ⟨-, h⟩ | ⟨-, h | h⟩ <;> exact h.short
      have HL := Lib.hid (load_step ha.out s7.out hshort)
      clear s7 hshort hK hkl hk100
      rcases hP.out with ⟨rfl, hH⟩ | ⟨rfl, hH | hH⟩
      · have hH := Lib.hid hH
        clear hP
        go_wp2_with fail
        refine HL.out.mono ?_
        rintro e w8 ⟨l, x, ⟨lA, ln, lc⟩, rfl, hl, hVl, -, s8⟩
        obtain ⟨hll, rfl⟩ := Held.some hgn.out hkn.out hH.out hl
        rw [hll] at hVl hl ⊢
        clear hll
        obtain rfl := view_at hVl
        obtain ⟨w9, hw9⟩ : ∃ w9, w8.alloc (.cells #[.int .i64 n.epoch, .int .i64 n.base, .int .i64 n.promise, .int .i64 n.mark, .int .i64 n.check, .slice lA n.blocks.length lc] 26 (0, 0)) = w9 := ⟨_, rfl⟩
        have u9 : New0 w8 w9 := by rw [← hw9]; exact (Upon.refl _ w8).alloc _
        have n9 : New0 W w9 := (newOf (ha.out.below s8)).trans u9
        have hZ : Six 26 w8.heap.size ⟨.int .i64 n.epoch, .int .i64 n.base, .int .i64 n.promise, .int .i64 n.mark, .int .i64 n.check, .slice lA n.blocks.length lc⟩ w9 := by rw [← hw9]; exact six_new _ w8 ⟨.int .i64 n.epoch, .int .i64 n.base, .int .i64 n.promise, .int .i64 n.mark, .int .i64 n.check, .slice lA n.blocks.length lc⟩
        obtain ⟨g8, hg8⟩ : ∃ g, w8.heap.size = g := ⟨_, rfl⟩
        rw [hg8] at hZ
        obtain ⟨k0, k1, k2, k3, k4, k5⟩ := ((hX4.out.upon s8.upon (hnX.out _ (by omega))).new u9).cells
        obtain ⟨l0, l1, l2, l3, l4, l5⟩ := ((hY4.out.upon s8.upon (hnX.out _ (Nat.le_refl _))).new u9).cells
        obtain ⟨i0, i1, i2, i3, i4, i5⟩ := hZ.cells
        dsimp only at k0 k1 k2 k3 k4 k5 l0 l1 l2 l3 l4 l5 i0 i1 i2 i3 i4 i5
        have hVx : ∀ w, New0 w9 w → MView w All (.agg #[.int .i64 n.epoch, .int .i64 n.base, .int .i64 n.promise, .int .i64 n.mark, .int .i64 n.check, .slice lA n.blocks.length lc]) n := fun w hu => ⟨⟨lA, n.blocks.length, lc⟩, rfl, Rw.View.all (Rw.View.new hVl (u9.trans hu))⟩
        have HF := Lib.hid (fun d os => belowC (from_any (grow (redrawn w9 d) os) _ _ n (hVx _ (newGet w9 d os))))
        have HS := Lib.hid (fun d os => belowC (same_one (grow (redrawn w9 d) os) _ _ _ _ n (hVx _ (newGet w9 d os)) (hV'.out _ (n9.trans (newGet w9 d os)))))
        have y0 := fun d os => cell_regrown k0 d os
        have y1 := fun d os => cell_regrown k1 d os
        have y2 := fun d os => cell_regrown k2 d os
        have y3 := fun d os => cell_regrown k3 d os
        have y4 := fun d os => cell_regrown k4 d os
        have y5 := fun d os => cell_regrown k5 d os
        have z0 := fun d os => cell_regrown l0 d os
        have z1 := fun d os => cell_regrown l1 d os
        have z2 := fun d os => cell_regrown l2 d os
        have z3 := fun d os => cell_regrown l3 d os
        have z4 := fun d os => cell_regrown l4 d os
        have z5 := fun d os => cell_regrown l5 d os
        have a0 := fun d os => cell_regrown i0 d os
        have a1 := fun d os => cell_regrown i1 d os
        have a2 := fun d os => cell_regrown i2 d os
        have a3 := fun d os => cell_regrown i3 d os
        have a4 := fun d os => cell_regrown i4 d os
        have a5 := fun d os => cell_regrown i5 d os
        replace hw9 := Lib.hid hw9
        replace hg8 := Lib.hid hg8
        replace n9 := Lib.hid n9
        clear HL hl hVl s8 u9 hZ hVx hX4 hY4 hnX hH hgm hgn hkm hkn hf1 hf2 ha hV hV' hTb hT hb hb' n4
        go_upto_region 15 with fail
        try rw [hw9.out, hg8.out]
        go_wp2_with fail
        refine wp_region_quiet_below (by kernel_rfl) (by kernel_rfl) ?_
        iterate 2 (go_big_quiet_step (exact Calls.regrown_of (HF.out _ _)))
        iterate 3 (go_big_quiet_step (exact Calls.regrown_of (HS.out _ _)))
        refine wpQuiet_nil ?_
        intro _ hw'
        obtain ⟨⟨dq, osq⟩, hw''⟩ := hw'
        subst hw''
        have hend := Lib.hid (belowOf (n9.out.trans (newGet w9 dq osq)))
        clear HF HS y0 y1 y2 y3 y4 y5 z0 z1 z2 z3 z4 z5 a0 a1 a2 a3 a4 a5 k0 k1 k2 k3 k4 k5 l0 l1 l2 l3 l4 l5 i0 i1 i2 i3 i4 i5 hw9 hg8 n9
        go_wp2_with fail
        go_ret
        exact ⟨rfl, hend.out⟩
      · have hH := Lib.hid hH
        clear hP
        go_wp2_with fail
        refine HL.out.mono ?_
        rintro e w8 ⟨l, x, ⟨lA, ln, lc⟩, rfl, hl, hVl, -, s8⟩
        obtain ⟨hll, rfl⟩ := Held.some hgm.out hkm.out hH.out hl
        rw [hll] at hVl hl ⊢
        clear hll
        obtain rfl := view_at hVl
        obtain ⟨w9, hw9⟩ : ∃ w9, w8.alloc (.cells #[.int .i64 m.epoch, .int .i64 m.base, .int .i64 m.promise, .int .i64 m.mark, .int .i64 m.check, .slice lA m.blocks.length lc] 26 (0, 0)) = w9 := ⟨_, rfl⟩
        have u9 : New0 w8 w9 := by rw [← hw9]; exact (Upon.refl _ w8).alloc _
        have n9 : New0 W w9 := (newOf (ha.out.below s8)).trans u9
        have hZ : Six 26 w8.heap.size ⟨.int .i64 m.epoch, .int .i64 m.base, .int .i64 m.promise, .int .i64 m.mark, .int .i64 m.check, .slice lA m.blocks.length lc⟩ w9 := by rw [← hw9]; exact six_new _ w8 ⟨.int .i64 m.epoch, .int .i64 m.base, .int .i64 m.promise, .int .i64 m.mark, .int .i64 m.check, .slice lA m.blocks.length lc⟩
        obtain ⟨g8, hg8⟩ : ∃ g, w8.heap.size = g := ⟨_, rfl⟩
        rw [hg8] at hZ
        obtain ⟨k0, k1, k2, k3, k4, k5⟩ := ((hX4.out.upon s8.upon (hnX.out _ (by omega))).new u9).cells
        obtain ⟨l0, l1, l2, l3, l4, l5⟩ := ((hY4.out.upon s8.upon (hnX.out _ (Nat.le_refl _))).new u9).cells
        obtain ⟨i0, i1, i2, i3, i4, i5⟩ := hZ.cells
        dsimp only at k0 k1 k2 k3 k4 k5 l0 l1 l2 l3 l4 l5 i0 i1 i2 i3 i4 i5
        have hVx : ∀ w, New0 w9 w → MView w All (.agg #[.int .i64 m.epoch, .int .i64 m.base, .int .i64 m.promise, .int .i64 m.mark, .int .i64 m.check, .slice lA m.blocks.length lc]) m := fun w hu => ⟨⟨lA, m.blocks.length, lc⟩, rfl, Rw.View.all (Rw.View.new hVl (u9.trans hu))⟩
        have HF := Lib.hid (fun d os => belowC (from_any (grow (redrawn w9 d) os) _ _ m (hVx _ (newGet w9 d os))))
        have HS := Lib.hid (fun d os => belowC (same_one (grow (redrawn w9 d) os) _ _ _ _ m (hVx _ (newGet w9 d os)) (hV.out _ (n9.trans (newGet w9 d os)))))
        have y0 := fun d os => cell_regrown k0 d os
        have y1 := fun d os => cell_regrown k1 d os
        have y2 := fun d os => cell_regrown k2 d os
        have y3 := fun d os => cell_regrown k3 d os
        have y4 := fun d os => cell_regrown k4 d os
        have y5 := fun d os => cell_regrown k5 d os
        have z0 := fun d os => cell_regrown l0 d os
        have z1 := fun d os => cell_regrown l1 d os
        have z2 := fun d os => cell_regrown l2 d os
        have z3 := fun d os => cell_regrown l3 d os
        have z4 := fun d os => cell_regrown l4 d os
        have z5 := fun d os => cell_regrown l5 d os
        have a0 := fun d os => cell_regrown i0 d os
        have a1 := fun d os => cell_regrown i1 d os
        have a2 := fun d os => cell_regrown i2 d os
        have a3 := fun d os => cell_regrown i3 d os
        have a4 := fun d os => cell_regrown i4 d os
        have a5 := fun d os => cell_regrown i5 d os
        replace hw9 := Lib.hid hw9
        replace hg8 := Lib.hid hg8
        replace n9 := Lib.hid n9
        clear HL hl hVl s8 u9 hZ hVx hX4 hY4 hnX hH hgm hgn hkm hkn hf1 hf2 ha hV hV' hTb hT hb hb' n4
        go_upto_region 16 with fail
        try rw [hw9.out, hg8.out]
        go_wp2_with fail
        refine wp_region_quiet_below (by kernel_rfl) (by kernel_rfl) ?_
        iterate 5 (go_big_quiet_step (exact Calls.regrown_of (HF.out _ _)))
        iterate 10 (go_big_quiet_step (exact Calls.regrown_of (HS.out _ _)))
        refine wpQuiet_nil ?_
        intro _ hw'
        obtain ⟨⟨dq, osq⟩, hw''⟩ := hw'
        subst hw''
        have hend := Lib.hid (belowOf (n9.out.trans (newGet w9 dq osq)))
        clear HF HS y0 y1 y2 y3 y4 y5 z0 z1 z2 z3 z4 z5 a0 a1 a2 a3 a4 a5 k0 k1 k2 k3 k4 k5 l0 l1 l2 l3 l4 l5 i0 i1 i2 i3 i4 i5 hw9 hg8 n9
        go_wp2_with fail
        go_ret
        exact ⟨rfl, hend.out⟩
      · by_cases hnm : n = m
        · subst hnm
          have hH := Lib.hid hH
          clear hP
          go_wp2_with fail
          refine HL.out.mono ?_
          rintro e w8 ⟨l, x, ⟨lA, ln, lc⟩, rfl, hl, hVl, -, s8⟩
          obtain ⟨hll, rfl⟩ := Held.some hgn.out hkn.out hH.out hl
          rw [hll] at hVl hl ⊢
          clear hll
          obtain rfl := view_at hVl
          obtain ⟨w9, hw9⟩ : ∃ w9, w8.alloc (.cells #[.int .i64 n.epoch, .int .i64 n.base, .int .i64 n.promise, .int .i64 n.mark, .int .i64 n.check, .slice lA n.blocks.length lc] 26 (0, 0)) = w9 := ⟨_, rfl⟩
          have u9 : New0 w8 w9 := by rw [← hw9]; exact (Upon.refl _ w8).alloc _
          have n9 : New0 W w9 := (newOf (ha.out.below s8)).trans u9
          have hZ : Six 26 w8.heap.size ⟨.int .i64 n.epoch, .int .i64 n.base, .int .i64 n.promise, .int .i64 n.mark, .int .i64 n.check, .slice lA n.blocks.length lc⟩ w9 := by rw [← hw9]; exact six_new _ w8 ⟨.int .i64 n.epoch, .int .i64 n.base, .int .i64 n.promise, .int .i64 n.mark, .int .i64 n.check, .slice lA n.blocks.length lc⟩
          obtain ⟨g8, hg8⟩ : ∃ g, w8.heap.size = g := ⟨_, rfl⟩
          rw [hg8] at hZ
          obtain ⟨k0, k1, k2, k3, k4, k5⟩ := ((hX4.out.upon s8.upon (hnX.out _ (by omega))).new u9).cells
          obtain ⟨l0, l1, l2, l3, l4, l5⟩ := ((hY4.out.upon s8.upon (hnX.out _ (Nat.le_refl _))).new u9).cells
          obtain ⟨i0, i1, i2, i3, i4, i5⟩ := hZ.cells
          dsimp only at k0 k1 k2 k3 k4 k5 l0 l1 l2 l3 l4 l5 i0 i1 i2 i3 i4 i5
          have hVx : ∀ w, New0 w9 w → MView w All (.agg #[.int .i64 n.epoch, .int .i64 n.base, .int .i64 n.promise, .int .i64 n.mark, .int .i64 n.check, .slice lA n.blocks.length lc]) n := fun w hu => ⟨⟨lA, n.blocks.length, lc⟩, rfl, Rw.View.all (Rw.View.new hVl (u9.trans hu))⟩
          have HF := Lib.hid (fun d os => belowC (from_any (grow (redrawn w9 d) os) _ _ n (hVx _ (newGet w9 d os))))
          have HS := Lib.hid (fun d os => belowC (same_one (grow (redrawn w9 d) os) _ _ _ _ n (hVx _ (newGet w9 d os)) (hV.out _ (n9.trans (newGet w9 d os)))))
          have y0 := fun d os => cell_regrown k0 d os
          have y1 := fun d os => cell_regrown k1 d os
          have y2 := fun d os => cell_regrown k2 d os
          have y3 := fun d os => cell_regrown k3 d os
          have y4 := fun d os => cell_regrown k4 d os
          have y5 := fun d os => cell_regrown k5 d os
          have z0 := fun d os => cell_regrown l0 d os
          have z1 := fun d os => cell_regrown l1 d os
          have z2 := fun d os => cell_regrown l2 d os
          have z3 := fun d os => cell_regrown l3 d os
          have z4 := fun d os => cell_regrown l4 d os
          have z5 := fun d os => cell_regrown l5 d os
          have a0 := fun d os => cell_regrown i0 d os
          have a1 := fun d os => cell_regrown i1 d os
          have a2 := fun d os => cell_regrown i2 d os
          have a3 := fun d os => cell_regrown i3 d os
          have a4 := fun d os => cell_regrown i4 d os
          have a5 := fun d os => cell_regrown i5 d os
          replace hw9 := Lib.hid hw9
          replace hg8 := Lib.hid hg8
          replace n9 := Lib.hid n9
          clear HL hl hVl s8 u9 hZ hVx hX4 hY4 hnX hH hgm hgn hkm hkn hf1 hf2 ha hV hV' hTb hT hb hb' n4
          go_upto_region 16 with fail
          try rw [hw9.out, hg8.out]
          go_wp2_with fail
          refine wp_region_quiet_below (by kernel_rfl) (by kernel_rfl) ?_
          iterate 5 (go_big_quiet_step (exact Calls.regrown_of (HF.out _ _)))
          iterate 10 (go_big_quiet_step (exact Calls.regrown_of (HS.out _ _)))
          refine wpQuiet_nil ?_
          intro _ hw'
          obtain ⟨⟨dq, osq⟩, hw''⟩ := hw'
          subst hw''
          have hend := Lib.hid (belowOf (n9.out.trans (newGet w9 dq osq)))
          clear HF HS y0 y1 y2 y3 y4 y5 z0 z1 z2 z3 z4 z5 a0 a1 a2 a3 a4 a5 k0 k1 k2 k3 k4 k5 l0 l1 l2 l3 l4 l5 i0 i1 i2 i3 i4 i5 hw9 hg8 n9
          go_wp2_with fail
          go_ret
          exact ⟨rfl, hend.out⟩
        · have hH := Lib.hid hH
          clear hP
          go_wp2_with fail
          refine HL.out.mono ?_
          rintro e w8 ⟨l, x, ⟨lA, ln, lc⟩, rfl, hl, hVl, -, s8⟩
          obtain ⟨hll, rfl⟩ := Held.some hgn.out hkn.out hH.out hl
          rw [hll] at hVl hl ⊢
          clear hll
          obtain rfl := view_at hVl
          obtain ⟨w9, hw9⟩ : ∃ w9, w8.alloc (.cells #[.int .i64 n.epoch, .int .i64 n.base, .int .i64 n.promise, .int .i64 n.mark, .int .i64 n.check, .slice lA n.blocks.length lc] 26 (0, 0)) = w9 := ⟨_, rfl⟩
          have u9 : New0 w8 w9 := by rw [← hw9]; exact (Upon.refl _ w8).alloc _
          have n9 : New0 W w9 := (newOf (ha.out.below s8)).trans u9
          have hZ : Six 26 w8.heap.size ⟨.int .i64 n.epoch, .int .i64 n.base, .int .i64 n.promise, .int .i64 n.mark, .int .i64 n.check, .slice lA n.blocks.length lc⟩ w9 := by rw [← hw9]; exact six_new _ w8 ⟨.int .i64 n.epoch, .int .i64 n.base, .int .i64 n.promise, .int .i64 n.mark, .int .i64 n.check, .slice lA n.blocks.length lc⟩
          obtain ⟨g8, hg8⟩ : ∃ g, w8.heap.size = g := ⟨_, rfl⟩
          rw [hg8] at hZ
          obtain ⟨k0, k1, k2, k3, k4, k5⟩ := ((hX4.out.upon s8.upon (hnX.out _ (by omega))).new u9).cells
          obtain ⟨l0, l1, l2, l3, l4, l5⟩ := ((hY4.out.upon s8.upon (hnX.out _ (Nat.le_refl _))).new u9).cells
          obtain ⟨i0, i1, i2, i3, i4, i5⟩ := hZ.cells
          dsimp only at k0 k1 k2 k3 k4 k5 l0 l1 l2 l3 l4 l5 i0 i1 i2 i3 i4 i5
          have hVx : ∀ w, New0 w9 w → MView w All (.agg #[.int .i64 n.epoch, .int .i64 n.base, .int .i64 n.promise, .int .i64 n.mark, .int .i64 n.check, .slice lA n.blocks.length lc]) n := fun w hu => ⟨⟨lA, n.blocks.length, lc⟩, rfl, Rw.View.all (Rw.View.new hVl (u9.trans hu))⟩
          have HF := Lib.hid (fun d os => belowC (from_any (grow (redrawn w9 d) os) _ _ n (hVx _ (newGet w9 d os))))
          have HD := Lib.hid (fun d os => belowC (same_diff (grow (redrawn w9 d) os) _ _ _ _ n m (hVx _ (newGet w9 d os)) (hV.out _ (n9.trans (newGet w9 d os))) hnm))
          have HS := Lib.hid (fun d os => belowC (same_one (grow (redrawn w9 d) os) _ _ _ _ n (hVx _ (newGet w9 d os)) (hV'.out _ (n9.trans (newGet w9 d os)))))
          have y0 := fun d os => cell_regrown k0 d os
          have y1 := fun d os => cell_regrown k1 d os
          have y2 := fun d os => cell_regrown k2 d os
          have y3 := fun d os => cell_regrown k3 d os
          have y4 := fun d os => cell_regrown k4 d os
          have y5 := fun d os => cell_regrown k5 d os
          have z0 := fun d os => cell_regrown l0 d os
          have z1 := fun d os => cell_regrown l1 d os
          have z2 := fun d os => cell_regrown l2 d os
          have z3 := fun d os => cell_regrown l3 d os
          have z4 := fun d os => cell_regrown l4 d os
          have z5 := fun d os => cell_regrown l5 d os
          have a0 := fun d os => cell_regrown i0 d os
          have a1 := fun d os => cell_regrown i1 d os
          have a2 := fun d os => cell_regrown i2 d os
          have a3 := fun d os => cell_regrown i3 d os
          have a4 := fun d os => cell_regrown i4 d os
          have a5 := fun d os => cell_regrown i5 d os
          replace hw9 := Lib.hid hw9
          replace hg8 := Lib.hid hg8
          replace n9 := Lib.hid n9
          clear HL hl hVl s8 u9 hZ hVx hX4 hY4 hnX hH hgm hgn hkm hkn hf1 hf2 ha hV hV' hTb hT hb hb' n4
          go_upto_region 16 with fail
          try rw [hw9.out, hg8.out]
          go_wp2_with fail
          refine wp_region_quiet_below (by kernel_rfl) (by kernel_rfl) ?_
          iterate 5 (go_big_quiet_step (exact Calls.regrown_of (HF.out _ _)))
          iterate 2 (go_big_quiet_step (exact Calls.regrown_of (HD.out _ _)))
          iterate 3 (go_big_quiet_step (exact Calls.regrown_of (HF.out _ _)))
          iterate 5 (go_big_quiet_step (exact Calls.regrown_of (HS.out _ _)))
          refine wpQuiet_nil ?_
          intro _ hw'
          obtain ⟨⟨dq, osq⟩, hw''⟩ := hw'
          subst hw''
          have hend := Lib.hid (belowOf (n9.out.trans (newGet w9 dq osq)))
          clear HF HD HS y0 y1 y2 y3 y4 y5 z0 z1 z2 z3 z4 z5 a0 a1 a2 a3 a4 a5 k0 k1 k2 k3 k4 k5 l0 l1 l2 l3 l4 l5 i0 i1 i2 i3 i4 i5 hw9 hg8 n9
          go_wp2_with fail
          go_ret
          exact ⟨rfl, hend.out⟩
end Mf
end Go.Proofs.YtjpgglajcelllaaDoor
