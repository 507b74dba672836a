/- Layer 13: do two heads tell the same? -/
import Derived.Test.YtfheehlfodoimaaGreatHdLaw4
import Derived.Test.YtfheehlfodoimaaGreatPHdL
set_option maxRecDepth 100000
namespace Go.Proofs.YtfheehlfodoimaaGreat
open Go.RowKit Go.Sort
namespace Hd
open Bit Dsk Ob Dig
set_option linter.unusedVariables false
set_option linter.unusedSimpArgs false

theorem rh_new {q : Nat} {g : H} {w w' : World} {S : Nat → Prop} (h : IsRH q g w S) (hu : New0 w w') : IsRH q g w' S := (thingRH q g).kept w w' S h (fun b hb => hu.block b ((thingRH q g).lt w S h b hb) (fun f => f)) hu.size
set_option maxHeartbeats 12800000 in
theorem same_heads (w : World) {p q : Nat} {g : H} {S S' : Nat → Prop} (hp : IsPH p g w S) (hq : IsRH q g w S') (hs : Srt g) {k : Nat} (hsn : SaneN k g) (T T' : Nat → Prop) (m : Rw.Sl) (ms : List Mt.M) (qa qb : Int) (hmv : Mt.View w T m.v ms) (hmb : Mt.Bnd ms) (hqa : -9223372036854775808 ≤ qa ∧ qa ≤ 9223372036854775807) (hqb : -9223372036854775808 ≤ qb ∧ qb ≤ 9223372036854775807)
    (lv : Value) (ls : List Lb.Pr) (hlv : Lb.View w T' lv ls) (hlb : Lb.Sml ls) (hll : ls.length * 32 ≤ 140737488351232) :
    Calls Tryz.prog 12 #[.pointer (some ⟨p, 0, none⟩), .pointer (some ⟨q, 0, none⟩), .agg #[m.v, .int .i64 qa, .int .i64 qb], lv] w fun e w' => e = .returned (.bool true) ∧ New0 w w' := by
  obtain ⟨ma, mn, mc⟩ := m
  obtain ⟨_, _, em, -, -⟩ := Rw.View.shape hmv
  injection em with em1 em2 em3
  subst em2
  clear em1 em3
  obtain ⟨la, lc, rfl, -, -⟩ := Rw.View.shape hlv
  obtain ⟨wx, hwx⟩ : ∃ wx, w.alloc (.cells #[.slice ma ms.length mc, .int .i64 qa, .int .i64 qb] 44 (0, 0)) = wx := ⟨_, rfl⟩
  have ux := (Upon.refl (fun _ => False) w).alloc (.cells #[.slice ma ms.length mc, .int .i64 qa, .int .i64 qb] 44 (0, 0))
  have hbx := askB w (.slice ma ms.length mc) qa qb
  rw [hwx] at ux hbx
  have hX := Lib.hid (fun w1 (hu : New0 wx w1) => hbx.new hu)
  have hsane := hsn.sane
  have hpt : points g ≤ 4611686018427387904 := Nat.le_trans (pts_ok hsn) (by decide)
  obtain ⟨t, ht⟩ : ∃ t, (top g).1 = t := ⟨_, rfl⟩
  obtain ⟨tb, htb⟩ : ∃ t, (top g).2 = t := ⟨_, rfl⟩
  obtain ⟨u, hu1⟩ : ∃ t, (last g ls).1 = t := ⟨_, rfl⟩
  obtain ⟨ub, hu2⟩ : ∃ t, (last g ls).2 = t := ⟨_, rfl⟩
  obtain ⟨P, hP⟩ : ∃ P : Int, (points g : Int) = P := ⟨_, rfl⟩
  obtain ⟨Q, hQ⟩ : ∃ Q, query g ms qa qb = Q := ⟨_, rfl⟩
  have HC1 : Hid (∀ w1, New0 wx w1 → Calls Tryz.prog 25 #[.pointer (some ⟨p, 0, none⟩)] w1 fun e w' => e = .returned (.tuple #[.int .i64 (g.length : Int), .int .i64 P]) ∧ New0 w1 w') := Lib.hid (fun w1 hu => by rw [← hP]; exact pcounts_any w1 (ph_new hp (ux.trans hu)) hs hsane hpt)
  have HC2 : Hid (∀ w1, New0 wx w1 → Calls Tryz.prog 26 #[.pointer (some ⟨q, 0, none⟩)] w1 fun e w' => e = .returned (.tuple #[.int .i64 (g.length : Int), .int .i64 P]) ∧ New0 w1 w') := Lib.hid (fun w1 hu => by rw [← hP]; exact rcounts_any (rh_new hq (ux.trans hu)) hpt)
  have HT1 : Hid (∀ w1, New0 wx w1 → Calls Tryz.prog 27 #[.pointer (some ⟨p, 0, none⟩)] w1 fun e w' => e = .returned (.tuple #[.int .i64 t, .bool tb]) ∧ New0 w1 w') := Lib.hid (fun w1 hu => by rw [← ht, ← htb]; exact ptop_any w1 (ph_new hp (ux.trans hu)) hs hsane)
  have HT2 : Hid (∀ w1, New0 wx w1 → Calls Tryz.prog 28 #[.pointer (some ⟨q, 0, none⟩)] w1 fun e w' => e = .returned (.tuple #[.int .i64 t, .bool tb]) ∧ New0 w1 w') := Lib.hid (fun w1 hu => by rw [← ht, ← htb]; exact rtop_any (rh_new hq (ux.trans hu)))
  have HL1 : Hid (∀ w1, New0 wx w1 → Calls Tryz.prog 29 #[.pointer (some ⟨p, 0, none⟩), .slice la ls.length lc] w1 fun e w' => e = .returned (.tuple #[.int .i64 u, .bool ub]) ∧ New0 w1 w') := Lib.hid (fun w1 hu => by rw [← hu1, ← hu2]; exact plast_any w1 (ph_new hp (ux.trans hu)) hs T' _ ls (Rw.View.new hlv (ux.trans hu)) hlb hll)
  have HL2 : Hid (∀ w1, New0 wx w1 → Calls Tryz.prog 30 #[.pointer (some ⟨q, 0, none⟩), .slice la ls.length lc] w1 fun e w' => e = .returned (.tuple #[.int .i64 u, .bool ub]) ∧ New0 w1 w') := Lib.hid (fun w1 hu => by rw [← hu1, ← hu2]; exact rlast_any (rh_new hq (ux.trans hu)) T' _ ls (Rw.View.new hlv (ux.trans hu)))
  have HQ1 : Hid (∀ w1, New0 wx w1 → Calls Tryz.prog 32 #[.pointer (some ⟨p, 0, none⟩), .slice ma ms.length mc, .int .i64 qa, .int .i64 qb] w1 fun e w' => ∃ u, e = .returned u ∧ QView w' (Lb.Nw w1) u Q ∧ New0 w1 w') := Lib.hid (fun w1 hu => by rw [← hQ]; exact pquery_any w1 (ph_new hp (ux.trans hu)) hs hsane T _ ms (Rw.View.new hmv (ux.trans hu)) hmb qa qb hqa hqb)
  have HQ2 : Hid (∀ w1, New0 wx w1 → Calls Tryz.prog 33 #[.pointer (some ⟨q, 0, none⟩), .slice ma ms.length mc, .int .i64 qa, .int .i64 qb] w1 fun e w' => ∃ u, e = .returned u ∧ QView w' All u Q ∧ New0 w1 w') := Lib.hid (fun w1 hu => by rw [← hQ]; exact rquery_any (rh_new hq (ux.trans hu)) hsane T _ ms (Rw.View.new hmv (ux.trans hu)) hmb qa qb)
  replace hwx := Lib.hid hwx
  have ux' := Lib.hid ux
  clear hp hq hs hsn hsane hpt hmv hmb hqa hqb hlv hlb hll ht htb hu1 hu2 hP hQ hbx ux
  go_enter Tryz.func12, Tryz.ntmps12
  go_wp2_with fail
  rw [hwx.out]
  refine (HC1.out _ (Upon.refl _ _)).mono ?_
  rintro e w1 ⟨rfl, n1⟩
  have C2 := Lib.hid (HC2.out _ n1)
  replace n1 := Lib.hid n1
  clear HC1 HC2 hwx
  go_wp2_with fail
  refine C2.out.mono ?_
  rintro e w2 ⟨rfl, n2⟩
  replace n2 := Lib.hid (n1.out.trans n2)
  have T1 := Lib.hid (HT1.out _ n2.out)
  clear C2 n1 HT1
  go_wp2_with fail
  refine T1.out.mono ?_
  rintro e w3 ⟨rfl, n3⟩
  replace n3 := Lib.hid (n2.out.trans n3)
  have T2 := Lib.hid (HT2.out _ n3.out)
  clear T1 n2 HT2
  go_wp2_with fail
  refine T2.out.mono ?_
  rintro e w4 ⟨rfl, n4⟩
  replace n4 := Lib.hid (n3.out.trans n4)
  have L1 := Lib.hid (HL1.out _ n4.out)
  clear T2 n3 HL1
  go_wp2_with fail
  refine L1.out.mono ?_
  rintro e w5 ⟨rfl, n5⟩
  replace n5 := Lib.hid (n4.out.trans n5)
  have L2 := Lib.hid (HL2.out _ n5.out)
  clear L1 n4 HL2
  go_wp2_with fail
  refine L2.out.mono ?_
  rintro e w6 ⟨rfl, n6⟩
  replace n6 := Lib.hid (n5.out.trans n6)
  have hX6 := Lib.hid (fun W (hu : New0 w6 W) => hX.out W (n6.out.trans hu))
  have HQ1' := Lib.hid (fun W (hu : New0 w6 W) => HQ1.out W (n6.out.trans hu))
  have HQ2' := Lib.hid (fun W (hu : New0 w6 W) => HQ2.out W (n6.out.trans hu))
  obtain ⟨k0, k1, k2⟩ := hX6.out w6 (Upon.refl _ _)
  clear L2 n5 HQ1 HQ2 hX
  go_wp2_with fail
  go_region_held3 (fun w' => w'.cell? ⟨w.heap.size, 0, none⟩ = some (.slice ma ms.length mc) ∧ w'.cell? ⟨w.heap.size, 1, none⟩ = some (.int .i64 qa) ∧ w'.cell? ⟨w.heap.size, 2, none⟩ = some (.int .i64 qb))
    ((first | exact hX6.out _ (nb2.trans (upon_drewN _ _ _)) | exact hX6.out _ (by repeat (first | assumption | exact Upon.refl _ _ | refine Upon.drew ?_))))
    (first
    | (go_at_call 33; refine (HQ2'.out wa na).mono ?_; rintro e wb ⟨ub', rfl, qvb, nb⟩; have nb2 : New0 w6 wb := na.trans nb; have qva2 := Rw.DView.new qva nb; clear nb)
    | (go_at_call 32; refine (HQ1'.out _ (by repeat (first | assumption | exact Upon.refl _ _ | refine Upon.drew ?_))).mono ?_; rintro e wa ⟨ua, rfl, qva, na0⟩; have na : New0 w6 wa := Upon.trans (by repeat (first | assumption | exact Upon.refl _ _ | refine Upon.drew ?_) : New0 w6 _) na0; clear na0)
    | (go_at_call 31; refine (qsame_any _ _ _ _ _ Q Q qva2 qvb).mono ?_; rintro e wc ⟨rfl, kc, rfl⟩; rw [decide_eq_true rfl])
    | fail)
  all_goals
    go_wp2_with fail
    go_ret
    exact ⟨rfl, ux'.out.trans (n6.out.trans (nb2.trans (upon_drewN _ _ _)))⟩
end Hd
end Go.Proofs.YtfheehlfodoimaaGreat
