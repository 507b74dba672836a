/- Parts: BkBytes, BkRef1, BkRefE. -/
import Derived.Test.YtgmnhodajngchaaGreatDoorSBkRow
import Derived.Test.YtgmnhodajngchaaGreatDoorSPRc4
import Derived.Test.YtgmnhodajngchaaGreatDoorSPCk1
import Derived.Test.YtgmnhodajngchaaGreatDoorSPSum
import Derived.Test.YtgmnhodajngchaaGreatDoorSPFrame
set_option maxRecDepth 100000
set_option linter.unusedVariables false
namespace Go.Proofs.YtgmnhodajngchaaGreatDoor
section
open Go.RowKit
namespace Bk
open Bit Dsk Ob Dig
structure Few (b : B) : Prop where
 rows : b.rows.length <= 100000
 dels : b.dels.length <= 100000
 pts : ∀ r ∈ b.rows, r.pts.length <= 100000
abbrev numA := Mt.numA
theorem bts_eq {s : ByteArray} {l : List UInt8} (h : s.data.toList = l) : s = bts l := Lb.data_inj (h.trans (bts_list l).symm)
theorem numA_l (n : Nat) : (numA n).data.toList = numL n := Rc.numA_list n
theorem app_l (a b : ByteArray) : (a ++ b).data.toList = a.data.toList ++ b.data.toList := Rc.app_list a b
theorem textA_l (l : List UInt8) : (textA (bts l)).data.toList = txtL l := by rw [textA_list, bts_list, bts_size]; rfl
theorem headA (b : B) : numA b.first.toNat ++ numA b.til.toNat ++ numA b.rows.length ++ numA b.dels.length = bts (headL b) := by
 apply bts_eq
 simp only [app_l, numA_l, headL, List.append_assoc]
def RowTo (r : Row) (k : Nat) (d : ByteArray) : Prop := d.data.toList = txtL (Lb.encB r.lab) ++ (numL (zig r.last) ++ ((parts r.pts).take k).flatMap partL)
theorem RowTo.start (r : Row) : RowTo r 0 (textA (bts (Lb.encB r.lab)) ++ numA (zig r.last)) := by
 unfold RowTo
 rw [app_l, textA_l, numA_l]; simp
theorem parts_len (l : List Pt) : (parts l).length = Ck.nparts l := by simp [parts]
theorem parts_at {l : List Pt} {k : Nat} (h : k < Ck.nparts l) : (parts l).take (k + 1) = (parts l).take k ++ [Ck.part l k] := by
 rw [List.take_succ_eq_append_getElem (by rw [parts_len]; exact h)]
 congr 2
 simp [parts]
theorem RowTo.step {r : Row} {k : Nat} {d : ByteArray} (h : RowTo r k d) (hk : k < Ck.nparts r.pts) : RowTo r (k + 1) (d ++ textA (bts (Ck.code (Ck.part r.pts k)))) := by
 unfold RowTo at *
 rw [app_l, h, parts_at hk, List.flatMap_append, textA_l]
 simp [partL, List.append_assoc]
theorem RowTo.last {r : Row} {k : Nat} {d : ByteArray} (h : RowTo r k d) (hk : ¬ k < Ck.nparts r.pts) : d = bts (rowL r) := by
 apply bts_eq
 rw [h, List.take_of_length_le (by rw [parts_len]; omega)]
 rfl
theorem parts_size : ∀ (ps : List (List Pt)), (∀ p ∈ ps, p.length <= 64) -> (ps.flatMap partL).length <= 2009 * ps.length
 | [], _ => by simp
 | p :: ps, h => by
  have h1 := Ck.code_size (h p (by simp))
  have h2 := parts_size ps fun q hq => h q (by simp [hq])
  have h3 := nd_le (Ck.code p).length
  simp only [List.flatMap_cons, List.length_append, List.length_cons, partL, txtL, numL_length] at h2 ⊢
  omega
theorem RowTo.size {r : Row} {k : Nat} {d : ByteArray} (h : RowTo r k d) (hl : Lb.Ok r.lab) (hp : r.pts.length <= 100000) : d.size <= 4000000 := by
 have h1 := Rc.encL_len hl
 have h2 := nd_le (zig r.last)
 have h3 := nd_le (Lb.encB r.lab).length
 have h4 : (((parts r.pts).take k).flatMap partL).length <= 2009 * ((parts r.pts).take k).length := parts_size _ fun p hp => by
  obtain ⟨i, hi, rfl⟩ := mem_parts (List.mem_of_mem_take hp)
  exact (Ck.part_len hi).2
 have h5 : ((parts r.pts).take k).length <= 1563 := by rw [List.length_take, parts_len]; unfold Ck.nparts; omega
 have h6 := congrArg List.length h
 rw [Frm.size_list, List.length_append, List.length_append, txtL, List.length_append, numL_length, numL_length] at h6
 omega
theorem putS_ok {k : Nat} {s : ByteArray} (h1 : 1 <= k) (h2 : k <= 255) (h : s.size <= 65536) : Frm.putS (k : Int) s = Frm.putA k s /\ Frm.putE (k : Int) s = 0 := by
 unfold Frm.putS Frm.putE
 have h0 : ¬ ((k : Int) < 1 \/ 255 < (k : Int)) := by omega
 have h9 : ¬ 65536 < s.size := by omega
 rw [if_neg h0, if_neg h0, if_neg h9, if_neg h9]
 exact ⟨by rw [Int.toNat_natCast], rfl⟩
theorem putS_long {k : Nat} {s : ByteArray} (h1 : 1 <= k) (h2 : k <= 255) (h : 65536 < s.size) : Frm.putS (k : Int) s = ⟨#[]⟩ /\ Frm.putE (k : Int) s = 8 := by
 unfold Frm.putS Frm.putE
 have h0 : ¬ ((k : Int) < 1 \/ 255 < (k : Int)) := by omega
 rw [if_neg h0, if_neg h0, if_pos h, if_pos h]
 exact ⟨rfl, rfl⟩
theorem putA_few (k : Nat) {s : ByteArray} (h : s.size <= 65536) : (Frm.putA k s).size <= 65600 := by
 rw [Frm.putA_size]
 have := nd_le s.size
 omega
structure SoR (b : B) (j : Nat) (s : ByteArray) : Prop where
 is : s.data.toList = Frm.allA (headF b :: (b.rows.take j).map rowF)
 few : ∀ i (h : i < b.rows.length), i < j -> (rowL b.rows[i]).length <= 65536
 size : s.size <= 65600 * (j + 1)
theorem SoR.start (b : B) : SoR b 0 (Frm.putA 2 (bts (headL b))) := by
 refine ⟨by simp [Frm.allA, headF], fun i _ h => absurd h (Nat.not_lt_zero i), ?_⟩
 have := putA_few 2 (s := bts (headL b)) (by rw [bts_size]; have := headL_len b; omega)
 omega
theorem SoR.step {b : B} {j : Nat} {s : ByteArray} (h : SoR b j s) (hj : j < b.rows.length) (hl : (rowL b.rows[j]).length <= 65536) : SoR b (j + 1) (s ++ Frm.putA 3 (bts (rowL b.rows[j]))) := by
 refine ⟨?_, fun i hi hij => ?_, ?_⟩
 ·rw [app_l, h.is, List.take_succ_eq_append_getElem hj, List.map_append, <- List.cons_append, Frm.allA_append]
  simp [Frm.allA, rowF]
 ·rcases Nat.lt_succ_iff_lt_or_eq.1 hij with h1 | rfl
  ·exact h.few i hi h1
  ·exact hl
 ·have h1 := putA_few 3 (s := bts (rowL b.rows[j])) (by rw [bts_size]; exact hl)
  have h2 := h.size
  rw [ByteArray.size_append]; omega
structure SoD (b : B) (j : Nat) (s : ByteArray) : Prop where
 is : s.data.toList = Frm.allA (headF b :: (b.rows.map rowF ++ (b.dels.take j).map delF))
 few : ¬ Long b
 size : s.size <= 65600 * (b.rows.length + 1 + j)
theorem SoR.toD {b : B} {j : Nat} {s : ByteArray} (h : SoR b j s) (hj : ¬ j < b.rows.length) (hj2 : j <= b.rows.length) : SoD b 0 s := by
 refine ⟨?_, ?_, by have := h.size; omega⟩
 ·rw [h.is, List.take_of_length_le (by omega)]; simp
 ·rintro ⟨r, hr, hl⟩
  obtain ⟨i, hi, rfl⟩ := List.mem_iff_getElem.1 hr
  have := h.few i hi (by omega)
  omega
theorem delF_few {r : Rc.R} (h : DelOk r) : (bts (Rc.encB r)).size <= 65536 := by
 rw [bts_size]
 have := Rc.encB_len h.2
 omega
theorem SoD.step {b : B} {j : Nat} {s : ByteArray} (h : SoD b j s) (hj : j < b.dels.length) (hd : DelOk b.dels[j]) : SoD b (j + 1) (s ++ Frm.putA 4 (bts (Rc.encB b.dels[j]))) := by
 refine ⟨?_, h.few, ?_⟩
 ·rw [app_l, h.is, List.take_succ_eq_append_getElem hj, List.map_append, <- List.append_assoc, <- List.cons_append, Frm.allA_append]
  simp only [List.map_cons, List.map_nil, Frm.allA, Frm.allA_append, List.append_nil, List.append_assoc, delF]
 ·have h1 := putA_few 4 (delF_few hd)
  have h2 := h.size
  rw [ByteArray.size_append]; omega
theorem SoD.last {b : B} {j : Nat} {s : ByteArray} (h : SoD b j s) (hj : ¬ j < b.dels.length) : s.data.toList = Frm.allA (frs b) := by
 rw [h.is, List.take_of_length_le (by omega)]; rfl
theorem code_end {b : B} {s : ByteArray} (h : s.data.toList = Frm.allA (frs b)) : s ++ Frm.putA 5 (Frm.sumB (Crc.more 0 s.data.toList)) = bts (code b) := by
 apply bts_eq
 rw [app_l, h, code_cut]
 simp [Frm.allA, endF]
theorem end_few (c : Nat) : (Frm.sumB c).size <= 65536 := by rw [Frm.sumB_size]; decide
noncomputable def encR (b : B) : Ending := .returned (.tuple #[.string (bts (enc b).1), .int .i64 ((enc b).2 : Int)])
theorem encR_chk {b : B} {z : Nat} (h : chk b = z) (h0 : z ≠ 0) : Ending.returned (.tuple #[.string ⟨#[]⟩, .int .i64 (z : Int)]) = encR b := by unfold encR; rw [enc_chk (by rw [h]; exact h0), h]; rfl
theorem encR_long {b : B} (h : chk b = 0) {j : Nat} (hj : j < b.rows.length) (hl : 65536 < (rowL b.rows[j]).length) : Ending.returned (.tuple #[.string ⟨#[]⟩, .int .i64 8]) = encR b := by
 unfold encR; rw [enc_long h ⟨_, List.getElem_mem hj, hl⟩]; rfl
theorem encR_ok {b : B} (h : chk b = 0) {s : ByteArray} {j : Nat} (hs : SoD b j s) (hj : ¬ j < b.dels.length) : Ending.returned (.tuple #[.string (s ++ Frm.putA 5 (Frm.sumB (Crc.more 0 s.data.toList))), .int .i64 0]) = encR b := by
 unfold encR; rw [enc_ok h hs.few, code_end (hs.last hj)]; rfl
theorem ptsView {w : World} {S : Nat -> Prop} {v : Value} {l : List Pt} (h : Rw.View Hd.layP w S v l) : Ck.View w S v l := by
 obtain ⟨A, c, rfl, h1, h2⟩ := Rw.View.shape h
 refine ⟨A, c, rfl, h1, h2, fun hp => ?_⟩
 obtain ⟨b, off, k1, k2, k3, k4⟩ := Rw.View.open h hp
 exact ⟨b, off, k1, k2, fun i hi => ⟨k4 i hi 0 _ rfl, k4 i hi 1 _ rfl⟩⟩
end Bk
end
section
open Go.RowKit Go.Sort
namespace Bk
open Bit Dsk Ob Dig
def GoodR (l : List Row) (j : Nat) : Prop := ∀ i, i < j -> rowErr l i = 0
theorem GoodR.start (l : List Row) : GoodR l 0 := fun i h => absurd h (Nat.not_lt_zero i)
theorem GoodR.step {l : List Row} {j : Nat} (h : GoodR l j) (hj : j < l.length) (h1 : Lb.Ok l[j].lab) (h2 : Behind l j) (h3 : PtsOk l[j]) : GoodR l (j + 1) := fun i hi => by
 rcases Nat.lt_succ_iff_lt_or_eq.1 hi with hi | rfl
 ·exact h i hi
 ·exact rowErr_ok hj h1 h2 h3
theorem behind_zero (l : List Row) : Behind l 0 := fun k h e => by omega
theorem behind_yes {l : List Row} {i j : Nat} (hi : i < l.length) (hj : j < l.length) (e : j = i + 1) (h : Lb.cmp l[i].lab l[j].lab < 0) : Behind l j := fun k h2 e2 h3 => by
 obtain rfl : k = i := by omega
 exact h
theorem behind_no {l : List Row} {i j : Nat} (hi : i < l.length) (hj : j < l.length) (e : j = i + 1) (h : 0 <= Lb.cmp l[i].lab l[j].lab) : ¬ Behind l j := fun k => by
 have := k i hj e hi
 omega
structure PtsTo (r : Row) (k : Nat) : Prop where
 rise : Ck.Rises r.pts k
 le : ∀ i (h : i < r.pts.length), i < k -> r.pts[i].1 <= r.last
theorem PtsTo.start (r : Row) : PtsTo r 0 := ⟨Ck.Rises.zero _, fun i _ h => absurd h (Nat.not_lt_zero i)⟩
theorem PtsTo.step {r : Row} {k : Nat} (h : PtsTo r k) (hk : k < r.pts.length) (h1 : r.pts[k].1 <= r.last) (h2 : ∀ i (hi : i < r.pts.length), k = i + 1 -> r.pts[i].1 < r.pts[k].1) : PtsTo r (k + 1) := by
 refine ⟨?_, fun i hi hik => ?_⟩
 ·cases k with
  | zero => exact Ck.Rises.one _
  | succ i =>
   have := h2 i (by omega) rfl
   exact h.rise.next (by rw [Ck.T_get (by omega), Ck.T_get hk]; exact this)
 ·rcases Nat.lt_succ_iff_lt_or_eq.1 hik with h3 | rfl
  ·exact h.le i hi h3
  ·exact h1
theorem PtsTo.last {r : Row} {k : Nat} (h : PtsTo r k) (hk : ¬ k < r.pts.length) (hk2 : k <= r.pts.length) : PtsOk r := by
 obtain rfl : k = r.pts.length := by omega
 refine ⟨h.rise, fun p hp => ?_⟩
 obtain ⟨i, hi, rfl⟩ := List.mem_iff_getElem.1 hp
 exact h.le i hi hi
theorem pts_above {r : Row} {k : Nat} (hk : k < r.pts.length) (h : r.last < r.pts[k].1) : ¬ PtsOk r := fun p => by
 have := p.le _ (List.getElem_mem hk)
 omega
theorem pts_fall {r : Row} {i k : Nat} (hi : i < r.pts.length) (hk : k < r.pts.length) (e : k = i + 1) (h : r.pts[k].1 <= r.pts[i].1) : ¬ PtsOk r := fun p => by
 have h1 := p.rise i (by omega)
 subst e
 rw [Ck.T_get hi, Ck.T_get hk] at h1
 omega
theorem GoodD.last {ds : List Rc.R} {j : Nat} (h : ∀ i (hi : i < ds.length), i < j -> DelOk ds[i]) (hj : ¬ j < ds.length) : ∀ r ∈ ds, DelOk r := fun r hr => by
 obtain ⟨i, hi, rfl⟩ := List.mem_iff_getElem.1 hr
 exact h i hi (by omega)
theorem cmpQ (w : World) (S S' : Nat -> Prop) (v1 v2 : Value) (l m : List Lb.Pr) (h1 : Lb.View w S v1 l) (h2 : Lb.View w S' v2 m) {z : Int} (hz : Lb.cmp l m = z) (n : Nat) : Calls Tryz.prog 74 #[v1, v2] (w.drewN n) fun e w' => e = .returned (.int .i64 z) /\ ∃ k, w' = (w.drewN n).drewN k := by
 subst hz
 exact Lb.refcmp_any _ S S' v1 v2 l m (Rw.View.new h1 (upon_drewN _ w n)) (Rw.View.new h2 (upon_drewN _ w n))
set_option maxHeartbeats 12800000 in
theorem refcheck_any (w : World) (S : Nat -> Prop) (v : Value) (b : B) (hv : BView w S v b) (hb : Bnd b) :
  Calls Tryz.prog 63 #[v] w fun e w' => e = .returned (.int .i64 (chk b : Int)) /\ New0 w w' := by
 obtain ⟨A, c, A', c', rfl, hr, hd⟩ := BView.shape hv
 have hsml := Lib.hid hb.sml
 have hdb := Lib.hid hb.dels
 have hfew := Lib.hid hb.few
 have hfew2 := Lib.hid hb.few2
 have hS1 := Lib.hid (chk_span (b := b))
 have hE1 := Lib.hid (fun hs (j : Nat) (hj : j < b.rows.length) (hg : GoodR b.rows j) (he : rowErr b.rows j ≠ 0) => chk_row (b := b) hs hj hg he)
 have hE2 := Lib.hid (fun hs (hg : GoodR b.rows b.rows.length) r (hr : r ∈ b.dels) (hn : ¬ DelOk r) => chk_del (b := b) hs hg hr hn)
 have hE3 := Lib.hid (fun hs (hg : GoodR b.rows b.rows.length) hd => chk_ok (b := b) hs hg hd)
 have hbs : Hid (badSpan b ↔ b.first < 1 \/ 99999999 < b.til \/ b.til < b.first) := Lib.hid Iff.rfl
 obtain ⟨q, hq⟩ : ∃ q, chk b = q := ⟨_, rfl⟩
 rw [hq] at hS1 hE1 hE2 hE3 ⊢
 clear hq hb hv
 obtain ⟨f, t, l, ds⟩ := b
 simp only at hr hd hsml hdb hfew hfew2 hS1 hE1 hE2 hE3 hbs ⊢
 have hB := Lib.hid (box4 w f t (.slice A l.length c) (.slice A' ds.length c') 31)
 have hU := Lib.hid ((Upon.refl (fun _ => False) w).alloc (.cells #[.int .i64 f, .int .i64 t, .slice A l.length c, .slice A' ds.length c'] 31 (0, 0)))
 by_cases c1 : f < 1
 ·have hR : Hid ((2 : Int) = (q : Int)) := Lib.hid (by rw [hS1.out (hbs.out.2 (.inl c1))]; rfl)
  clear hr hd hsml hdb hfew hfew2 hS1 hE1 hE2 hE3 hbs hB
  go_enter Tryz.func63, Tryz.ntmps63
  go_wp2_with fail
  go_ret
  exact ⟨Lb.ret_i hR.out, hU.out⟩
 by_cases c2 : 99999999 < t
 ·have hR : Hid ((2 : Int) = (q : Int)) := Lib.hid (by rw [hS1.out (hbs.out.2 (.inr (.inl c2)))]; rfl)
  clear hr hd hsml hdb hfew hfew2 hS1 hE1 hE2 hE3 hbs hB
  go_enter Tryz.func63, Tryz.ntmps63
  go_wp2_with fail
  go_ret
  exact ⟨Lb.ret_i hR.out, hU.out⟩
 by_cases c3 : t < f
 ·have hR : Hid ((2 : Int) = (q : Int)) := Lib.hid (by rw [hS1.out (hbs.out.2 (.inr (.inr c3)))]; rfl)
  clear hr hd hsml hdb hfew hfew2 hS1 hE1 hE2 hE3 hbs hB
  go_enter Tryz.func63, Tryz.ntmps63
  go_wp2_with fail
  go_ret
  exact ⟨Lb.ret_i hR.out, hU.out⟩
 have hns : ¬ badSpan ⟨f, t, l, ds⟩ := fun k => by rcases hbs.out.1 k with k | k | k <;> contradiction
 have hF1 : Hid (∀ j (hj : j < l.length), GoodR l j -> ¬ Lb.Ok l[j].lab -> (16 : Int) = (q : Int)) := Lib.hid (fun j hj hg hn => by
  have e := rowErr_lab hj hn
  rw [hE1.out hns j hj hg (by rw [e]; decide), e]; rfl)
 have hF2 : Hid (∀ j (hj : j < l.length), GoodR l j -> Lb.Ok l[j].lab -> ¬ Behind l j -> (9 : Int) = (q : Int)) := Lib.hid (fun j hj hg ho hn => by
  have e := rowErr_ord hj ho hn
  rw [hE1.out hns j hj hg (by rw [e]; decide), e]; rfl)
 have hF3 : Hid (∀ j (hj : j < l.length), GoodR l j -> Lb.Ok l[j].lab -> ¬ PtsOk l[j] -> (9 : Int) = (q : Int)) := Lib.hid (fun j hj hg ho hn => by
  have e := rowErr_pts hj ho hn
  rw [hE1.out hns j hj hg (by rw [e]; decide), e]; rfl)
 replace hE2 : Hid (GoodR l l.length -> ∀ r ∈ ds, ¬ DelOk r -> (5 : Int) = (q : Int)) := Lib.hid (fun hg r hr hn => by rw [hE2.out hns hg r hr hn]; rfl)
 replace hE3 : Hid (GoodR l l.length -> (∀ r ∈ ds, DelOk r) -> (0 : Int) = (q : Int)) := Lib.hid (fun hg h => by rw [hE3.out hns hg h]; rfl)
 have hcells := Lib.hid (fun h => BsView.cells hr h)
 have hds := Lib.hid (fun (i : Nat) (hi : i < ds.length) => Hd.RsView.at hd hi)
 clear hS1 hE1 hbs hr hd hns
 have hlm : l.length < 9223372036854775807 := by have := hfew.out; omega
 have hdm : ds.length < 9223372036854775807 := by have := hfew2.out; omega
 clear hfew hfew2
 obtain ⟨wb, hwb⟩ : ∃ wb, w.alloc (.cells #[.int .i64 f, .int .i64 t, .slice A l.length c, .slice A' ds.length c'] 31 (0, 0)) = wb := ⟨_, rfl⟩
 rw [hwb] at hB hU
 replace hwb := Lib.hid hwb
 go_enter Tryz.func63, Tryz.ntmps63
 go_wp2_with fail
 rw [hwb.out]
 clear hwb c1 c2 c3
 go_loopw [3] (fun ov wr => ∃ j : Nat, ov = .int .i64 (j : Int) /\ j <= l.length /\ Hid (GoodR l j) /\ Hid (New0 wb wr)) (fun ov _ => l.length - (intOf ov).toNat)
 case atStart => exact ⟨0, rfl, Nat.zero_le _, Lib.hid (GoodR.start l), Lib.hid (Upon.refl _ _)⟩
 case round =>
  obtain ⟨j, rfl, hj, hg, hu⟩ := hrel
  obtain ⟨k0, k1, k2, k3⟩ := hB.out.new hu.out
  by_cases hlt : j < l.length
  ·obtain ⟨b0, off, rfl, -, hcl⟩ := hcells.out (by omega)
   obtain ⟨A1, c1, A2, c2, x0, x1, x2, hv1, hv2⟩ := hcl j hlt
   have hall := hU.out.trans hu.out
   have r0 := Lb.New0.cells hall x0
   have r1 := Lb.New0.cells hall x1
   have r2 := Lb.New0.cells hall x2
   have hsm := hsml.out _ (List.getElem_mem hlt)
   have hfl := Lib.hid (hF1.out j hlt hg.out)
   have hfo := Lib.hid (hF2.out j hlt hg.out)
   have hfp := Lib.hid (hF3.out j hlt hg.out)
   have hst := Lib.hid (hg.out.step hlt)
   have hby := Lib.hid (fun i (hi : i < l.length) => behind_yes (l := l) hi hlt)
   have hbn := Lib.hid (fun i (hi : i < l.length) => behind_no (l := l) hi hlt)
   obtain ⟨r, hr⟩ : ∃ r, l[j] = r := ⟨_, rfl⟩
   rw [hr] at r0 r1 r2 hv1 hv2 hsm hfl hfo hfp hst
   replace hby : Hid (∀ i (hi : i < l.length), j = i + 1 -> Lb.cmp l[i].lab r.lab < 0 -> Behind l j) := Lib.hid (fun i hi e h => hby.out i hi e (by rw [hr]; exact h))
   replace hbn : Hid (∀ i (hi : i < l.length), j = i + 1 -> 0 <= Lb.cmp l[i].lab r.lab -> ¬ Behind l j) := Lib.hid (fun i hi e h => hbn.out i hi e (by rw [hr]; exact h))
   have hrow : Hid (∀ i (hi : i < l.length), ∃ (A1 : Option Addr) (c1 : Nat), w.cell? ⟨b0, off + i * 3, none⟩ = some (.slice A1 l[i].lab.length c1) /\ Lb.View w S (.slice A1 l[i].lab.length c1) l[i].lab) := Lib.hid (fun i hi => by
    obtain ⟨A1, c1, -, -, y0, -, -, hv, -⟩ := hcl i hi
    exact ⟨A1, c1, y0, hv⟩)
   clear hcl x0 x1 x2 hr hg
   obtain ⟨wx, hwx⟩ : ∃ wx, wr.alloc (.cells #[.slice A1 r.lab.length c1, .int .i64 r.last, .slice A2 r.pts.length c2] 79 (0, 0)) = wx := ⟨_, rfl⟩
   have hX := Lib.hid (box3 wr (.slice A1 r.lab.length c1) r.last (.slice A2 r.pts.length c2) 79)
   have hUX := Lib.hid ((Upon.refl (fun _ => False) wr).alloc (.cells #[.slice A1 r.lab.length c1, .int .i64 r.last, .slice A2 r.pts.length c2] 79 (0, 0)))
   rw [hwx] at hX hUX
   replace hwx := Lib.hid hwx
   have hux := Lib.hid (hall.trans hUX.out)
   have hubx := Lib.hid (hu.out.trans hUX.out)
   have HL1 := Lib.hid (Lb.refcheck_any wx S _ _ (Rw.View.new hv1 hux.out) hsm)
   have hvx := Lib.hid (Rw.View.new hv1 hux.out)
   have hvp := Lib.hid (Rw.View.new hv2 hux.out)
   have hpm : r.pts.length <= 9223372036854775807 := by
    obtain ⟨_, _, _, a1, a2⟩ := Rw.View.shape hv2
    have : maxLen = 9223372036854775807 := rfl
    omega
   clear hv1 hv2 hsm hall hu
   by_cases hok : ¬ Lb.Ok r.lab
   ·have hR := Lib.hid (hfl.out hok)
    rw [Lb.chk_no hok] at HL1
    clear hfl hfo hfp hst hby hbn hrow hvx hvp hok hF1 hF2 hF3 hE2 hE3 hds hdb hsml
    go_wp2_with fail
    rw [hwx.out]
    refine HL1.out.mono ?_
    rintro e w2 ⟨rfl, n2, rfl⟩
    have hu2 := Lib.hid (hux.out.trans (upon_drewN _ wx n2))
    clear HL1 hux hubx r0 r1 r2 k0 k1 k2 k3 hX hUX
    go_wp2_with fail
    go_ret
    exact ⟨Lb.ret_i hR.out, hu2.out⟩
   replace hok := Classical.not_not.1 hok
   rw [Lb.chk_ok hok] at HL1
   replace hfo := Lib.hid (hfo.out hok)
   replace hfp := Lib.hid (hfp.out hok)
   replace hst := Lib.hid (hst.out hok)
   clear hfl hok
   go_wp2_with fail
   rw [hwx.out]
   refine HL1.out.mono ?_
   rintro e w2 ⟨rfl, n2, rfl⟩
   clear HL1 hwx hUX k0 k1 k2 k3 r0 r1 r2
   obtain ⟨k0, k1, k2, k3⟩ := hB.out.new (hubx.out.trans (upon_drewN _ wx n2))
   obtain ⟨z0, z1, z2⟩ := hX.out.new (upon_drewN _ wx n2)
   obtain ⟨kx0, kx1, kx2, kx3⟩ := hB.out.new hubx.out
   obtain ⟨zx0, zx1, zx2⟩ := hX.out
   by_cases h0 : j = 0
   ·have hbe : Hid (Behind l j) := Lib.hid (by rw [h0]; exact behind_zero l)
    have hj0 : decide (0 < j) = false := decide_eq_false (by omega)
    clear hby hbn hrow hfo h0
    go_wp2_with fail
    go_quiet (fail)
    clear k0 k1 k2 k3 z0 z1 z2 hj0
    go_wp2_with fail
    go_loopw [5] (fun ov wr => ∃ k m : Nat, ov = .int .i64 (k : Int) /\ k <= r.pts.length /\ Hid (PtsTo r k) /\ wr = wx.drewN m) (fun ov _ => r.pts.length - (intOf ov).toNat)
    case atStart => exact ⟨0, _, rfl, Nat.zero_le _, Lib.hid (PtsTo.start r), by rw [World.drewN_drewN]⟩
    case round =>
     obtain ⟨k, m, rfl, hk, hp, rfl⟩ := hrel
     obtain ⟨k0, k1, k2, k3⟩ := hB.out.new (hubx.out.trans (upon_drewN _ wx m))
     obtain ⟨z0, z1, z2⟩ := hX.out.new (upon_drewN _ wx m)
     by_cases hkl : k < r.pts.length
     ·obtain ⟨pb, po, rfl, -, hpc⟩ := pts_cells hvp.out (by omega)
      obtain ⟨p0, -⟩ := hpc k hkl
      have q0 := p0
      have hps := Lib.hid (hp.out.step hkl)
      have hpa := Lib.hid (pts_above (r := r) hkl)
      have hpf := Lib.hid (fun i (hi : i < r.pts.length) => pts_fall (r := r) hi hkl)
      obtain ⟨T, hT⟩ : ∃ T, r.pts[k].1 = T := ⟨_, rfl⟩
      rw [hT] at q0 hps hpa
      replace hpf : Hid (∀ i (hi : i < r.pts.length), k = i + 1 -> T <= r.pts[i].1 -> ¬ PtsOk r) := Lib.hid (fun i hi e h => hpf.out i hi e (by rw [hT]; exact h))
      clear p0 hT hp
      by_cases ha : r.last < T
      ·have hR := Lib.hid (hfp.out (hpa.out ha))
       have d1 : decide (r.last < T) = true := decide_eq_true ha
       have hu2 := Lib.hid (hux.out.trans (upon_drewN _ wx m))
       clear hpc hps hpa hpf ha hvp hvx hst hfp hbe hE2 hE3 hds hdb hsml hF1 hF2 hF3 hcells hB hX
       go_wp2_with fail
       go_quiet (fail)
       go_wp2_with fail
       go_ret
       exact ⟨Lb.ret_i hR.out, hu2.out.trans (upon_drewN _ _ _)⟩
      ·have d1 : decide (r.last < T) = false := decide_eq_false ha
       by_cases h0 : k = 0
       ·have hG := Lib.hid (hps.out (by omega) (fun i _ e => by omega))
        have hk0 : decide (0 < k) = false := decide_eq_false (by omega)
        clear hpc hps hpa hpf ha h0
        go_wp2_with fail
        go_quiet (fail)
        go_wp2_with fail
        go_roundw
        case rel => exact ⟨k + 1, _, by go_num, hkl, hG, rfl⟩
        case measure => simp [intOf]; omega
       ·obtain ⟨i, hi⟩ : ∃ i, k = i + 1 := ⟨k - 1, by omega⟩
        have hil : i < r.pts.length := by omega
        obtain ⟨p1, -⟩ := hpc i hil
        have q1 := p1
        have hidx : IntKind.i64.wrap ((k : Int) - 1) = (i : Int) := by rw [IntKind.wrap_i64]; omega
        have hk0 : decide (0 < k) = true := decide_eq_true (by omega)
        replace hpf := Lib.hid (hpf.out i hil hi)
        replace hps : Hid (r.pts[i].1 < T -> PtsTo r (k + 1)) := Lib.hid (fun h => hps.out (by omega) (fun i' hi' e => by
         obtain rfl : i' = i := by omega
         exact h))
        obtain ⟨U, hU⟩ : ∃ U, r.pts[i].1 = U := ⟨_, rfl⟩
        rw [hU] at q1 hpf hps
        clear p1 hU hpc hpa ha h0 hi
        by_cases hf : T <= U
        ·have hR := Lib.hid (hfp.out (hpf.out hf))
         have d2 : decide (T <= U) = true := decide_eq_true hf
         have hu2 := Lib.hid (hux.out.trans (upon_drewN _ wx m))
         clear hps hpf hf hvp hvx hst hfp hbe hE2 hE3 hds hdb hsml hF1 hF2 hF3 hcells hB hX
         go_wp2_with fail
         go_quiet (fail)
         go_wp2_with fail
         go_ret
         exact ⟨Lb.ret_i hR.out, hu2.out.trans (upon_drewN _ _ _)⟩
        ·have hG := Lib.hid (hps.out (by omega))
         have d2 : decide (T <= U) = false := decide_eq_false hf
         clear hps hpf hf
         go_wp2_with fail
         go_quiet (fail)
         go_wp2_with fail
         go_roundw
         case rel => exact ⟨k + 1, _, by go_num, hkl, hG, rfl⟩
         case measure => simp [intOf]; omega
     ·have hG := Lib.hid (hst.out hbe.out (hp.out.last hkl hk))
      have hu2 := Lib.hid (hubx.out.trans (upon_drewN _ wx m))
      clear hst hbe hp hvp hvx hfp hX hux hubx
      go_wp2_with fail
      go_roundw
      case rel => exact ⟨j + 1, by go_num, hlt, hG, hu2⟩
      case measure => simp [intOf]; omega
   ·obtain ⟨i, hi⟩ : ∃ i, j = i + 1 := ⟨j - 1, by omega⟩
    have hil : i < l.length := by omega
    obtain ⟨A3, c3, y0, hv3⟩ := hrow.out i hil
    have g0 := Lb.New0.cells hux.out y0
    have hidx : IntKind.i64.wrap ((j : Int) - 1) = (i : Int) := by rw [IntKind.wrap_i64]; omega
    have hj0 : decide (0 < j) = true := decide_eq_true (by omega)
    replace hby := Lib.hid (hby.out i hil hi)
    replace hbn := Lib.hid (hbn.out i hil hi)
    obtain ⟨z, hz⟩ : ∃ z, Lb.cmp l[i].lab r.lab = z := ⟨_, rfl⟩
    have HC := Lib.hid (cmpQ wx S S _ _ _ _ (Rw.View.new hv3 hux.out) hvx.out hz)
    rw [hz] at hby hbn
    obtain ⟨n3, hn3⟩ : ∃ n3, l[i].lab.length = n3 := ⟨_, rfl⟩
    rw [hn3] at g0 HC
    clear hrow y0 hv3 hz h0 hi hn3
    by_cases hc : 0 <= z
    ·have hR := Lib.hid (hfo.out (hbn.out hc))
     have d1 : decide (0 <= z) = true := decide_eq_true hc
     have hu2 := Lib.hid (hux.out.trans (upon_drewN _ wx n2))
     clear hby hbn hfo hc hvp hvx hst hfp hE2 hE3 hds hdb hsml hF1 hF2 hF3 hcells hB hX
     go_wp2_with fail
     go_quiet ((go_at_call 74; exact Lb.quiet2 HC.out _ _))
     go_wp2_with fail
     go_ret
     exact ⟨Lb.ret_i hR.out, hu2.out.trans (upon_drewN _ _ _)⟩
    ·have hbe := Lib.hid (hby.out (by omega))
     have d1 : decide (0 <= z) = false := decide_eq_false hc
     clear hby hbn hfo hc
     go_wp2_with fail
     go_quiet ((go_at_call 74; exact Lb.quiet2 HC.out _ _))
     clear k0 k1 k2 k3 z0 z1 z2 hj0 HC g0 d1 hidx
     go_wp2_with fail
     go_loopw [5] (fun ov wr => ∃ k m : Nat, ov = .int .i64 (k : Int) /\ k <= r.pts.length /\ Hid (PtsTo r k) /\ wr = wx.drewN m) (fun ov _ => r.pts.length - (intOf ov).toNat)
     case atStart => exact ⟨0, _, rfl, Nat.zero_le _, Lib.hid (PtsTo.start r), by rw [World.drewN_drewN]⟩
     case round =>
      obtain ⟨k, m, rfl, hk, hp, rfl⟩ := hrel
      obtain ⟨k0, k1, k2, k3⟩ := hB.out.new (hubx.out.trans (upon_drewN _ wx m))
      obtain ⟨z0, z1, z2⟩ := hX.out.new (upon_drewN _ wx m)
      by_cases hkl : k < r.pts.length
      ·obtain ⟨pb, po, rfl, -, hpc⟩ := pts_cells hvp.out (by omega)
       obtain ⟨p0, -⟩ := hpc k hkl
       have q0 := p0
       have hps := Lib.hid (hp.out.step hkl)
       have hpa := Lib.hid (pts_above (r := r) hkl)
       have hpf := Lib.hid (fun i (hi : i < r.pts.length) => pts_fall (r := r) hi hkl)
       obtain ⟨T, hT⟩ : ∃ T, r.pts[k].1 = T := ⟨_, rfl⟩
       rw [hT] at q0 hps hpa
       replace hpf : Hid (∀ i (hi : i < r.pts.length), k = i + 1 -> T <= r.pts[i].1 -> ¬ PtsOk r) := Lib.hid (fun i hi e h => hpf.out i hi e (by rw [hT]; exact h))
       clear p0 hT hp
       by_cases ha : r.last < T
       ·have hR := Lib.hid (hfp.out (hpa.out ha))
        have d1 : decide (r.last < T) = true := decide_eq_true ha
        have hu2 := Lib.hid (hux.out.trans (upon_drewN _ wx m))
        clear hpc hps hpa hpf ha hvp hvx hst hfp hbe hE2 hE3 hds hdb hsml hF1 hF2 hF3 hcells hB hX
        go_wp2_with fail
        go_quiet (fail)
        go_wp2_with fail
        go_ret
        exact ⟨Lb.ret_i hR.out, hu2.out.trans (upon_drewN _ _ _)⟩
       ·have d1 : decide (r.last < T) = false := decide_eq_false ha
        by_cases h0 : k = 0
        ·have hG := Lib.hid (hps.out (by omega) (fun i _ e => by omega))
         have hk0 : decide (0 < k) = false := decide_eq_false (by omega)
         clear hpc hps hpa hpf ha h0
         go_wp2_with fail
         go_quiet (fail)
         go_wp2_with fail
         go_roundw
         case rel => exact ⟨k + 1, _, by go_num, hkl, hG, rfl⟩
         case measure => simp [intOf]; omega
        ·obtain ⟨i, hi⟩ : ∃ i, k = i + 1 := ⟨k - 1, by omega⟩
         have hil : i < r.pts.length := by omega
         obtain ⟨p1, -⟩ := hpc i hil
         have q1 := p1
         have hidx : IntKind.i64.wrap ((k : Int) - 1) = (i : Int) := by rw [IntKind.wrap_i64]; omega
         have hk0 : decide (0 < k) = true := decide_eq_true (by omega)
         replace hpf := Lib.hid (hpf.out i hil hi)
         replace hps : Hid (r.pts[i].1 < T -> PtsTo r (k + 1)) := Lib.hid (fun h => hps.out (by omega) (fun i' hi' e => by
          obtain rfl : i' = i := by omega
          exact h))
         obtain ⟨U, hU⟩ : ∃ U, r.pts[i].1 = U := ⟨_, rfl⟩
         rw [hU] at q1 hpf hps
         clear p1 hU hpc hpa ha h0 hi
         by_cases hf : T <= U
         ·have hR := Lib.hid (hfp.out (hpf.out hf))
          have d2 : decide (T <= U) = true := decide_eq_true hf
          have hu2 := Lib.hid (hux.out.trans (upon_drewN _ wx m))
          clear hps hpf hf hvp hvx hst hfp hbe hE2 hE3 hds hdb hsml hF1 hF2 hF3 hcells hB hX
          go_wp2_with fail
          go_quiet (fail)
          go_wp2_with fail
          go_ret
          exact ⟨Lb.ret_i hR.out, hu2.out.trans (upon_drewN _ _ _)⟩
         ·have hG := Lib.hid (hps.out (by omega))
          have d2 : decide (T <= U) = false := decide_eq_false hf
          clear hps hpf hf
          go_wp2_with fail
          go_quiet (fail)
          go_wp2_with fail
          go_roundw
          case rel => exact ⟨k + 1, _, by go_num, hkl, hG, rfl⟩
          case measure => simp [intOf]; omega
      ·have hG := Lib.hid (hst.out hbe.out (hp.out.last hkl hk))
       have hu2 := Lib.hid (hubx.out.trans (upon_drewN _ wx m))
       clear hst hbe hp hvp hvx hfp hX hux hubx
       go_wp2_with fail
       go_roundw
       case rel => exact ⟨j + 1, by go_num, hlt, hG, hu2⟩
       case measure => simp [intOf]; omega
  ·have hgl : GoodR l l.length := by rw [show l.length = j by omega]; exact hg.out
   replace hE2 := Lib.hid (hE2.out hgl)
   replace hE3 := Lib.hid (hE3.out hgl)
   clear hcells hsml hF1 hF2 hF3 hg hgl
   go_wp2_with fail
   clear k0 k1 k2 k3
   go_loopw [6] (fun ov wr => ∃ i : Nat, ov = .int .i64 (i : Int) /\ i <= ds.length /\ Hid (∀ x (hx : x < ds.length), x < i -> DelOk ds[x]) /\ Hid (New0 wb wr)) (fun ov _ => ds.length - (intOf ov).toNat)
   case atStart => exact ⟨0, rfl, Nat.zero_le _, Lib.hid (fun x _ h => absurd h (Nat.not_lt_zero x)), hu⟩
   case round =>
    obtain ⟨i, rfl, hi, hgd, hu3⟩ := hrel
    obtain ⟨k0, k1, k2, k3⟩ := hB.out.new hu3.out
    have hall := Lib.hid (hU.out.trans hu3.out)
    by_cases hil : i < ds.length
    ·obtain ⟨db, doff, B1, e1, B2, e2, rfl, -, y0, y1, y2, y3, y4, hv, -⟩ := hds.out i hil
     have g0 := Lb.New0.cells hall.out y0
     have g1 := Lb.New0.cells hall.out y1
     have g2 := Lb.New0.cells hall.out y2
     have g3 := Lb.New0.cells hall.out y3
     have g4 := Lb.New0.cells hall.out y4
     have HD := Lib.hid (Rc.refcheck_any _ S _ _ (Rc.RView.new hv hall.out) (hdb.out _ (List.getElem_mem hil)).1)
     have hbad := Lib.hid (hE2.out _ (List.getElem_mem hil))
     have hgn : Hid (DelOk ds[i] -> ∀ x (hx : x < ds.length), x < i + 1 -> DelOk ds[x]) := Lib.hid (fun h x hx hxi => by
      rcases Nat.lt_succ_iff_lt_or_eq.1 hxi with h2 | rfl
      ·exact hgd.out x hx h2
      ·exact h)
     obtain ⟨r, hr⟩ : ∃ r, ds[i] = r := ⟨_, rfl⟩
     rw [hr] at g0 g1 g2 g3 g4 HD hbad hgn
     clear y0 y1 y2 y3 y4 hv hr hgd
     by_cases hk : r.kind = 2
     ·have d1 : (r.kind != 2) = false := by rw [bne_eq_false_iff_eq]; exact hk
      obtain ⟨z, hz⟩ : ∃ z, Rc.chk r = z := ⟨_, rfl⟩
      rw [hz] at HD
      by_cases hc : z = 0
      ·have hG := Lib.hid (hgn.out ⟨hk, by rw [hz]; exact hc⟩)
       subst hc
       clear hbad hgn hk hz
       go_wp2_with fail
       refine HD.out.mono ?_
       rintro e w2 ⟨rfl, hu4⟩
       have hu5 := Lib.hid (hu3.out.trans hu4)
       clear HD hu3 hu4 hall g0 g1 g2 g3 g4 k0 k1 k2 k3
       go_wp2_with fail
       go_roundw
       case rel => exact ⟨i + 1, by go_num, hil, hG, hu5⟩
       case measure => simp [intOf]; omega
      ·have hR := Lib.hid (hbad.out (fun k => hc (by rw [<- hz]; exact k.2)))
       have d2 : ((z : Int) != 0) = true := by rw [bne_iff_ne]; omega
       clear hbad hgn hk hz hc
       go_wp2_with fail
       refine HD.out.mono ?_
       rintro e w2 ⟨rfl, hu4⟩
       have hu5 := Lib.hid (hall.out.trans hu4)
       clear HD hu3 hu4 hall g0 g1 g2 g3 g4 k0 k1 k2 k3
       go_wp2_with fail
       go_ret
       exact ⟨Lb.ret_i hR.out, hu5.out⟩
     ·have hR := Lib.hid (hbad.out (fun k => hk k.1))
      have d1 : (r.kind != 2) = true := by rw [bne_iff_ne]; exact hk
      clear hbad hgn hk HD
      go_wp2_with fail
      go_ret
      exact ⟨Lb.ret_i hR.out, hall.out⟩
    ·have hR := Lib.hid (hE3.out (GoodD.last hgd.out hil))
     clear hgd hE2 hE3 hds hdb
     go_wp2_with fail
     go_ret
     exact ⟨Lb.ret_i hR.out, hall.out⟩
end Bk
end
section
open Go.RowKit Go.Sort
namespace Bk
open Bit Dsk Ob Dig
theorem rputOk (k : Nat) (s : ByteArray) (h1 : 1 <= k) (h2 : k <= 255) (h : s.size <= 65536) (w : World) :
  Calls Tryz.prog 64 #[.agg #[.int .i64 (k : Int), .string s]] w fun e w' => e = .returned (.tuple #[.string (Frm.putA k s), .int .i64 0]) /\ Below w.heap.size w w' := by
 have := Frm.refput_any (k : Int) s (by omega) w
 rw [(putS_ok h1 h2 h).1, (putS_ok h1 h2 h).2] at this
 exact this
theorem rputLong (k : Nat) (s : ByteArray) (h1 : 1 <= k) (h2 : k <= 255) (h : 65536 < s.size) (hs : s.size <= 9223372036854775807) (w : World) :
  Calls Tryz.prog 64 #[.agg #[.int .i64 (k : Int), .string s]] w fun e w' => e = .returned (.tuple #[.string ⟨#[]⟩, .int .i64 8]) /\ Below w.heap.size w w' := by
 have := Frm.refput_any (k : Int) s hs w
 rw [(putS_long h1 h2 h).1, (putS_long h1 h2 h).2] at this
 exact this
theorem rsumB (s : ByteArray) (w : World) : Calls Tryz.prog 72 #[.int .u32 ((Crc.more 0 s.data.toList : Nat) : Int)] w fun e w' => e = .returned (.string (Frm.sumB (Crc.more 0 s.data.toList))) /\ Below w.heap.size w w' := Frm.ref_bytes _ (Crc.more_lt _ _) w
theorem rnum (n : Nat) (h : n < 18446744073709551616) (w : World) : Calls Tryz.prog 65 #[.int .u64 (n : Int)] w fun e w' => e = .returned (.string (Mt.numA n)) /\ Below w.heap.size w w' := Rc.numP n h w
theorem rsgn (x : Int) (h0 : -9223372036854775808 <= x) (h1 : x <= 9223372036854775807) (w : World) : Calls Tryz.prog 68 #[.int .i64 x] w fun e w' => e = .returned (.string (Mt.numA (zig x))) /\ Below w.heap.size w w' := Rc.sgnP x h0 h1 w
theorem rpart (w : World) (v : Value) (l : List Pt) (hr : Ck.Rises l l.length) (hi : ∀ p ∈ l, Ck.PtIn p) {k : Nat} (hk : k < Ck.nparts l) (hv : Ck.View w Ck.All v (Ck.part l k)) :
  Calls Tryz.prog 70 #[v] w fun e w' => e = .returned (.tuple #[.string (bts (Ck.code (Ck.part l k))), .int .i64 0]) /\ New0 w w' := by
 have h1 := Ck.part_len hk
 have := Ck.refenc_any w Ck.All v _ hv (Ck.part_in hi k)
 rw [<- Ck.encR_ok h1.1 h1.2 (Ck.part_rises hr k) rfl] at this
 exact this
theorem rcheckIs (w : World) (S : Nat -> Prop) (v : Value) (b : B) (hv : BView w S v b) (hb : Bnd b) {z : Nat} (hz : chk b = z) :
  Calls Tryz.prog 63 #[v] w fun e w' => e = .returned (.int .i64 (z : Int)) /\ New0 w w' := by
 subst hz; exact refcheck_any w S v b hv hb
theorem Parts.cell {w : World} {A : Option Addr} {n c : Nat} {l : List Pt} (h : Ck.Parts w (.slice A n c) l) {k : Nat} (hk : k < Ck.nparts l) : n = Ck.nparts l /\ ∃ b off v, A = some ⟨b, off, none⟩ /\ w.cell? ⟨b, off + k, none⟩ = some v /\ Ck.View w Ck.All v (Ck.part l k) := by
 obtain ⟨A', c', e, h1, h2, h3⟩ := h
 injection e with e1 e2 e3
 subst e1
 obtain ⟨b, off, k1, k2⟩ := h3 (by omega)
 obtain ⟨v, m1, m2⟩ := k2 k hk
 exact ⟨e2, b, off, v, k1, m1, m2⟩
theorem Parts.shape {w : World} {u : Value} {l : List Pt} (h : Ck.Parts w u l) : ∃ A c, u = .slice A (Ck.nparts l) c := let ⟨A, c, e, _⟩ := h; ⟨A, c, e⟩
set_option maxHeartbeats 12800000 in
theorem refenc_no (w : World) (S : Nat -> Prop) (v : Value) (b : B) (hv : BView w S v b) (hb : Bnd b) (hz : chk b ≠ 0) :
  Calls Tryz.prog 26 #[v] w fun e w' => e = encR b /\ New0 w w' := by
 obtain ⟨z, hz2⟩ : ∃ z, chk b = z := ⟨_, rfl⟩
 have hR := Lib.hid (encR_chk hz2 (by rw [<- hz2]; exact hz))
 have hC := fun w1 (hu : New0 w w1) => rcheckIs w1 S v b (hv.new hu) hb hz2
 rw [hz2] at hz
 obtain ⟨A, c, A', c', rfl, hr, hd⟩ := BView.shape hv
 have dz : ((z : Int) != 0) = true := by rw [bne_iff_ne]; omega
 have hU := Lib.hid ((Upon.refl (fun _ => False) w).alloc (.cells #[.int .i64 b.first, .int .i64 b.til, .slice A b.rows.length c, .slice A' b.dels.length c'] 31 (0, 0)))
 obtain ⟨k0, k1, k2, k3⟩ := box4 w b.first b.til (.slice A b.rows.length c) (.slice A' b.dels.length c') 31
 have HC := Lib.hid (hC _ hU.out)
 clear hr hd hv hb hC hz2 hz
 go_enter Tryz.func26, Tryz.ntmps26
 go_wp2_with fail
 refine HC.out.mono ?_
 rintro e w2 ⟨rfl, hu2⟩
 have hu := Lib.hid (hU.out.trans hu2)
 clear HC hu2 k0 k1 k2 k3
 go_wp2_with fail
 go_ret2
 exact ⟨hR.out, hu.out⟩
set_option maxHeartbeats 25600000 in
theorem refenc_yes (w : World) (S : Nat -> Prop) (v : Value) (b : B) (hv : BView w S v b) (hb : Bnd b) (hf : Few b) (hz : chk b = 0) :
  Calls Tryz.prog 26 #[v] w fun e w' => e = encR b /\ New0 w w' := by
 obtain ⟨E, hE⟩ : ∃ E, encR b = E := ⟨_, rfl⟩
 rw [hE]
 have hC := fun w1 (hu : New0 w w1) => rcheckIs w1 S v b (hv.new hu) hb hz
 have hg := chk_zero.1 hz
 have hsp := hg.span
 have hfin : Hid (∀ (s : ByteArray) (j : Nat), SoD b j s -> ¬ j < b.dels.length -> Ending.returned (.tuple #[.string (s ++ Frm.putA 5 (Frm.sumB (Crc.more 0 s.data.toList))), .int .i64 0]) = E) := Lib.hid (fun s j h hj => by rw [<- hE]; exact encR_ok hz h hj)
 have hlong : Hid (∀ j (hj : j < b.rows.length), 65536 < (rowL b.rows[j]).length -> Ending.returned (.tuple #[.string ⟨#[]⟩, .int .i64 8]) = E) := Lib.hid (fun j hj h => by rw [<- hE]; exact encR_long hz hj h)
 have hso0 := Lib.hid (SoR.start b)
 have hhd := headA b
 have hhl := headL_len b
 have hR : Hid (∀ j (hj : j < b.rows.length) s, SoR b j s -> (rowL b.rows[j]).length <= 65536 -> SoR b (j + 1) (s ++ Frm.putA 3 (bts (rowL b.rows[j])))) := Lib.hid (fun j hj s h hl => h.step hj hl)
 have hRD : Hid (∀ j s, SoR b j s -> ¬ j < b.rows.length -> j <= b.rows.length -> SoD b 0 s) := Lib.hid (fun j s h h1 h2 => h.toD h1 h2)
 have hD : Hid (∀ j (hj : j < b.dels.length) s, SoD b j s -> SoD b (j + 1) (s ++ Frm.putA 4 (bts (Rc.encB b.dels[j])))) := Lib.hid (fun j hj s h => h.step hj (hg.dels _ (List.getElem_mem hj)))
 have hszR : Hid (∀ j s, SoR b j s -> s.size <= 65600 * (j + 1)) := Lib.hid (fun j s h => h.size)
 have hszD : Hid (∀ j s, SoD b j s -> s.size <= 65600 * (b.rows.length + 1 + j)) := Lib.hid (fun j s h => h.size)
 have hlab := Lib.hid hg.lab
 have hpts := Lib.hid hg.pts
 have hdel := Lib.hid hg.dels
 have hsml := Lib.hid hb.sml
 have hinn := Lib.hid hb.inn
 have hdb := Lib.hid hb.dels
 have hfp := Lib.hid hf.pts
 have hfew := hf.rows
 have hfew2 := hf.dels
 obtain ⟨A, c, A', c', rfl, hr, hd⟩ := BView.shape hv
 unfold badSpan at hsp
 clear hg hb hf hE hv hz
 obtain ⟨PR, hPR⟩ : ∃ P, P = SoR b := ⟨_, rfl⟩
 obtain ⟨PD, hPD⟩ : ∃ P, P = SoD b := ⟨_, rfl⟩
 rw [<- hPR] at hso0 hR hRD hszR
 rw [<- hPD] at hfin hRD hD hszD
 clear hPR hPD
 obtain ⟨f, t, l, ds⟩ := b
 simp only at hC hr hd hsml hdb hfew hfew2 hlab hpts hdel hinn hfp hsp hfin hlong hso0 hhd hhl hR hRD hD hszR hszD
 obtain ⟨F, rfl⟩ := Int.eq_ofNat_of_zero_le (show 0 <= f by omega)
 obtain ⟨T, rfl⟩ := Int.eq_ofNat_of_zero_le (show 0 <= t by omega)
 rw [Int.toNat_natCast, Int.toNat_natCast] at hhd
 have hcells := Lib.hid (fun h => BsView.cells hr h)
 have hds := Lib.hid (fun (i : Nat) (hi : i < ds.length) => Hd.RsView.at hd hi)
 have hB := Lib.hid (box4 w (F : Int) (T : Int) (.slice A l.length c) (.slice A' ds.length c') 31)
 have hU := Lib.hid ((Upon.refl (fun _ => False) w).alloc (.cells #[.int .i64 (F : Int), .int .i64 (T : Int), .slice A l.length c, .slice A' ds.length c'] 31 (0, 0)))
 obtain ⟨wb, hwb⟩ : ∃ wb, w.alloc (.cells #[.int .i64 (F : Int), .int .i64 (T : Int), .slice A l.length c, .slice A' ds.length c'] 31 (0, 0)) = wb := ⟨_, rfl⟩
 rw [hwb] at hB hU
 replace hwb := Lib.hid hwb
 have HC := Lib.hid (hC _ hU.out)
 have HN1 := Lib.hid (fun w => rnum F (by omega) w)
 have HN2 := Lib.hid (fun w => rnum T (by omega) w)
 have HN3 := Lib.hid (fun w => rnum l.length (by omega) w)
 have HN4 := Lib.hid (fun w => rnum ds.length (by omega) w)
 have wr1 : IntKind.u64.wrap (F : Int) = (F : Int) := by rw [IntKind.wrap_u64]; omega
 have wr2 : IntKind.u64.wrap (T : Int) = (T : Int) := by rw [IntKind.wrap_u64]; omega
 have wr3 : IntKind.u64.wrap (l.length : Int) = (l.length : Int) := by rw [IntKind.wrap_u64]; omega
 have wr4 : IntKind.u64.wrap (ds.length : Int) = (ds.length : Int) := by rw [IntKind.wrap_u64]; omega
 have z1 := Mt.numA_few F
 have z2 := Mt.numA_few T
 have z3 := Mt.numA_few l.length
 have z4 := Mt.numA_few ds.length
 unfold numA at hhd
 obtain ⟨n1, hn1⟩ : ∃ n, Mt.numA F = n := ⟨_, rfl⟩
 obtain ⟨n2, hn2⟩ : ∃ n, Mt.numA T = n := ⟨_, rfl⟩
 obtain ⟨n3, hn3⟩ : ∃ n, Mt.numA l.length = n := ⟨_, rfl⟩
 obtain ⟨n4, hn4⟩ : ∃ n, Mt.numA ds.length = n := ⟨_, rfl⟩
 rw [hn1] at HN1 z1 hhd
 rw [hn2] at HN2 z2 hhd
 rw [hn3] at HN3 z3 hhd
 rw [hn4] at HN4 z4 hhd
 have had1 := fun W => run_string_add_sum (P := Tryz.prog) W n1 n2 (by omega)
 have had2 := fun W => run_string_add_sum (P := Tryz.prog) W (n1 ++ n2) n3 (by rw [ByteArray.size_append]; omega)
 have had3 := fun W => run_string_add_sum (P := Tryz.prog) W (n1 ++ n2 ++ n3) n4 (by rw [ByteArray.size_append, ByteArray.size_append]; omega)
 have HP := Lib.hid (fun w => rputOk 2 (n1 ++ n2 ++ n3 ++ n4) (by decide) (by decide) (by rw [hhd, bts_size]; omega) w)
 rw [<- hhd] at hso0
 replace hhd := Lib.hid hhd
 clear hC hr hd hhl hsp hn1 hn2 hn3 hn4 z1 z2 z3 z4
 obtain ⟨k0, k1, k2, k3⟩ := hB.out
 go_enter Tryz.func26, Tryz.ntmps26
 go_wp2_with fail
 rw [hwb.out]
 refine HC.out.mono ?_
 rintro e w2 ⟨rfl, hu2⟩
 replace hu2 := Lib.hid hu2
 clear HC hwb k0 k1 k2 k3
 obtain ⟨k0, k1, k2, k3⟩ := hB.out.new hu2.out
 have y0 := fun d os => cell_regrown k0 d os
 have y1 := fun d os => cell_regrown k1 d os
 have y2 := fun d os => cell_regrown k2 d os
 have y3 := fun d os => cell_regrown k3 d os
 have HA1 := Lib.hid (fun d os => HN1.out (grow (redrawn w2 d) os))
 have HA2 := Lib.hid (fun d os => HN2.out (grow (redrawn w2 d) os))
 have HA3 := Lib.hid (fun d os => HN3.out (grow (redrawn w2 d) os))
 have HA4 := Lib.hid (fun d os => HN4.out (grow (redrawn w2 d) os))
 have HA5 := Lib.hid (fun d os => HP.out (grow (redrawn w2 d) os))
 clear HN1 HN2 HN3 HN4 HP
 go_wp2_with fail
 refine wp_region_quiet_below (by kernel_rfl) (by kernel_rfl) ?_
 iterate 4 (go_big_quiet_step (exact Calls.regrown_of (HA1.out _ _)))
 iterate 4 (go_big_quiet_step (exact Calls.regrown_of (HA2.out _ _)))
 iterate 6 (go_big_quiet_step (exact Calls.regrown_of (HA3.out _ _)))
 iterate 6 (go_big_quiet_step (exact Calls.regrown_of (HA4.out _ _)))
 repeat (go_big_quiet_step (exact Calls.regrown_of (HA5.out _ _)))
 refine wpQuiet_nil ?_
 intro _ hw'
 obtain ⟨⟨dq, osq⟩, hw''⟩ := hw'
 subst hw''
 have hu4 := Lib.hid (hu2.out.trans (newOf (below_regrown w2 dq osq)))
 clear hu2 HA1 HA2 HA3 HA4 HA5 y0 y1 y2 y3 k0 k1 k2 k3 had1 had2 had3 wr1 wr2 wr3 wr4
 generalize grow (redrawn w2 dq) osq = w4 at *
 go_wp2_with fail
 go_loopw [5, 7] (fun sv ov wr => ∃ (j : Nat) (s : ByteArray), sv = .string s /\ ov = .int .i64 (j : Int) /\ j <= l.length /\ Hid (PR j s) /\ Hid (New0 wb wr)) (fun _ ov _ => l.length - (intOf ov).toNat)
 case atStart => exact ⟨0, _, rfl, rfl, Nat.zero_le _, hso0, hu4⟩
 case round =>
  clear hso0 hu4 hhd
  obtain ⟨j, s, rfl, rfl, hj, hso, hu⟩ := hrel
  obtain ⟨k0, k1, k2, k3⟩ := hB.out.new hu.out
  by_cases hlt : j < l.length
  ·obtain ⟨b0, off, rfl, -, hcl⟩ := hcells.out (by omega)
   obtain ⟨A1, c1, A2, c2, x0, x1, x2, hv1, hv2⟩ := hcl j hlt
   have hall := hU.out.trans hu.out
   have r0 := Lb.New0.cells hall x0
   have r1 := Lb.New0.cells hall x1
   have r2 := Lb.New0.cells hall x2
   have hm := List.getElem_mem hlt
   have hok := hlab.out _ hm
   have hsm := hsml.out _ hm
   have hpo := hpts.out _ hm
   have hin := hinn.out _ hm
   have hpf := hfp.out _ hm
   have hlg := Lib.hid (hlong.out j hlt)
   have hst := Lib.hid (fun h => hR.out j hlt s hso.out h)
   have hss := hszR.out j s hso.out
   obtain ⟨r, hr⟩ : ∃ r, l[j] = r := ⟨_, rfl⟩
   rw [hr] at r0 r1 r2 hv1 hv2 hok hsm hpo hin hpf hlg hst
   clear hcl x0 x1 x2 hr hm hso
   obtain ⟨wx, hwx⟩ : ∃ wx, wr.alloc (.cells #[.slice A1 r.lab.length c1, .int .i64 r.last, .slice A2 r.pts.length c2] 79 (0, 0)) = wx := ⟨_, rfl⟩
   have hX := Lib.hid (box3 wr (.slice A1 r.lab.length c1) r.last (.slice A2 r.pts.length c2) 79)
   have hUX := Lib.hid ((Upon.refl (fun _ => False) wr).alloc (.cells #[.slice A1 r.lab.length c1, .int .i64 r.last, .slice A2 r.pts.length c2] 79 (0, 0)))
   rw [hwx] at hX hUX
   replace hwx := Lib.hid hwx
   have hux := Lib.hid (hall.trans hUX.out)
   have hubx := Lib.hid (hu.out.trans hUX.out)
   have HL := Lb.refenc_any wx S _ _ (Rw.View.new hv1 hux.out) hsm
   rw [Lb.encR_ok hok] at HL
   have hts := Rc.encL_len hok
   obtain ⟨tl, htl⟩ : ∃ tl : ByteArray, (⟨(Lb.encB r.lab).toArray⟩ : ByteArray) = tl := ⟨_, rfl⟩
   have hrs := RowTo.start r
   have hls : (bts (Lb.encB r.lab)).size <= 921 := by rw [bts_size]; exact hts
   unfold bts numA at hrs
   unfold bts at hls
   rw [htl] at HL hrs hls
   have HT := Lib.hid (fun w => reftext_any tl (by omega) w)
   have HS := Lib.hid (fun w => rsgn r.last hin.last.1 hin.last.2 w)
   have z1 : (textA tl).size <= 940 := by rw [textA_size]; have := nd_le tl.size; omega
   have z2 := Mt.numA_few (zig r.last)
   have hv2' := Lib.hid (fun w' (hu' : New0 wx w') => Ck.refsplit_any w' S _ _ (ptsView (Rw.View.new hv2 (hux.out.trans hu'))) hpf)
   obtain ⟨t1, ht1⟩ : ∃ t, textA tl = t := ⟨_, rfl⟩
   obtain ⟨t2, ht2⟩ : ∃ t, Mt.numA (zig r.last) = t := ⟨_, rfl⟩
   simp only [ht1] at HT z1 hrs
   simp only [ht2] at HS z2 hrs
   have hadd := fun W => run_string_add_sum (P := Tryz.prog) W t1 t2 (by omega)
   replace HL := Lib.hid HL
   replace hrs := Lib.hid hrs
   have hpart : Hid (∀ w1 v k, k < Ck.nparts r.pts -> Ck.View w1 Ck.All v (Ck.part r.pts k) -> Calls Tryz.prog 70 #[v] w1 fun e w' => e = .returned (.tuple #[.string (bts (Ck.code (Ck.part r.pts k))), .int .i64 0]) /\ New0 w1 w') := Lib.hid (fun w1 v k hk hv => rpart w1 v r.pts hpo.rise hin.pts hk hv)
   have hrsz : Hid (∀ k d, RowTo r k d -> d.size <= 4000000) := Lib.hid (fun k d h => h.size hok hpf)
   have hnp : Ck.nparts r.pts <= 100000 := by unfold Ck.nparts; omega
   clear htl ht1 ht2 hls hts z1 z2 hv1 hv2 hall hok hsm hpo hin hpf hu
   go_wp2_with fail
   rw [hwx.out]
   refine HL.out.mono ?_
   rintro e w6 ⟨rfl, hu6⟩
   obtain ⟨g0, g1, g2⟩ := hX.out.new hu6
   have hu7 := Lib.hid (hubx.out.trans hu6)
   replace hu6 := Lib.hid hu6
   clear HL hwx hubx r0 r1 r2 k0 k1 k2 k3
   have y1 := fun d os => cell_regrown g1 d os
   have HT1 := Lib.hid (fun d os => HT.out (grow (redrawn w6 d) os))
   have HS1 := Lib.hid (fun d os => HS.out (grow (redrawn w6 d) os))
   clear HT HS
   go_wp2_with fail
   refine wp_region_quiet_below (by kernel_rfl) (by kernel_rfl) ?_
   repeat (go_big_quiet_step (first
    | exact Calls.regrown_of (HT1.out _ _)
    | exact Calls.regrown_of (HS1.out _ _)))
   refine wpQuiet_nil ?_
   intro _ hw'
   obtain ⟨⟨dq, osq⟩, hw''⟩ := hw'
   subst hw''
   have hn8 := newOf (below_regrown w6 dq osq)
   have hu8 := Lib.hid (hu7.out.trans hn8)
   have hx8 := Lib.hid (hu6.out.trans hn8)
   clear hu7 hu6 HT1 HS1 y1 g0 g1 g2 hadd hn8
   generalize grow (redrawn w6 dq) osq = w8 at *
   obtain ⟨g0, g1, g2⟩ := hX.out.new hx8.out
   have HSP := Lib.hid (hv2'.out w8 hx8.out)
   clear hv2'
   go_wp2_with fail
   refine HSP.out.mono ?_
   rintro e w9 ⟨u, rfl, hP, hu9⟩
   obtain ⟨Ap, cp, rfl⟩ := Parts.shape hP
   have hu10 := Lib.hid (hu8.out.trans hu9)
   replace hP := Lib.hid hP
   clear HSP hu8 hx8 g0 g1 g2 hu9 hX hUX hux
   go_wp2_with fail
   go_loopw [11, 13] (fun dv kv wr => ∃ (k : Nat) (d : ByteArray), dv = .string d /\ kv = .int .i64 (k : Int) /\ k <= Ck.nparts r.pts /\ Hid (RowTo r k d) /\ Hid (New0 w9 wr)) (fun _ kv _ => Ck.nparts r.pts - (intOf kv).toNat)
   case atStart => exact ⟨0, _, rfl, rfl, Nat.zero_le _, hrs, Lib.hid (Upon.refl _ _)⟩
   case round =>
    clear hrs
    obtain ⟨k, d, rfl, rfl, hk, hrt, huq⟩ := hrel
    by_cases hkl : k < Ck.nparts r.pts
    ·obtain ⟨-, pb, po, pv, rfl, q0, hpv⟩ := Parts.cell (hP.out.new huq.out) hkl
     have HE := Lib.hid (hpart.out wr pv k hkl hpv)
     have hcs : (Ck.code (Ck.part r.pts k)).length <= 2000 := Ck.code_size (Ck.part_len hkl).2
     have hnx := hrt.out.step hkl
     have hdz := hrsz.out k d hrt.out
     obtain ⟨cc, hcc⟩ : ∃ cc, bts (Ck.code (Ck.part r.pts k)) = cc := ⟨_, rfl⟩
     have hcz : cc.size <= 2000 := by rw [<- hcc, bts_size]; exact hcs
     rw [hcc] at HE hnx
     have HT := Lib.hid (fun w => reftext_any cc (by omega) w)
     have z1 : (textA cc).size <= 2010 := by rw [textA_size]; have := nd_le cc.size; omega
     obtain ⟨tc, htc⟩ : ∃ tc, textA cc = tc := ⟨_, rfl⟩
     simp only [htc] at HT z1 hnx
     have hadd := fun W => run_string_add_sum (P := Tryz.prog) W d tc (by omega)
     replace hnx := Lib.hid hnx
     clear hpv hrt hcc htc hcs hcz
     go_wp2_with fail
     refine HE.out.mono ?_
     rintro e w11 ⟨rfl, hu11⟩
     have hu12 := Lib.hid (huq.out.trans hu11)
     clear HE hu11 huq q0
     go_wp2_with fail
     refine (HT.out _).mono ?_
     rintro e w13 ⟨rfl, hb13⟩
     have hu14 := Lib.hid (hu12.out.trans (newOf hb13))
     clear HT hb13 hu12
     go_wp2_with fail
     go_roundw
     case rel => exact ⟨k + 1, _, rfl, by go_num, hkl, hnx, hu14⟩
     case measure => simp [intOf]; omega
    ·have hdl := hrt.out.last hkl
     have hdz := hrsz.out k d hrt.out
     have hu12 := Lib.hid (hu10.out.trans huq.out)
     subst hdl
     clear hrt huq hu10 hpart hP hrsz
     by_cases h6 : (rowL r).length <= 65536
     ·have HP := Lib.hid (fun w => rputOk 3 (bts (rowL r)) (by decide) (by decide) (by rw [bts_size]; exact h6) w)
      have hnx := hst.out h6
      have hpz := putA_few 3 (s := bts (rowL r)) (by rw [bts_size]; exact h6)
      obtain ⟨D, hD'⟩ : ∃ D, bts (rowL r) = D := ⟨_, rfl⟩
      rw [hD'] at HP hnx hpz
      obtain ⟨P, hP⟩ : ∃ P, Frm.putA 3 D = P := ⟨_, rfl⟩
      simp only [hP] at HP hnx hpz
      have hadd := fun W => run_string_add_sum (P := Tryz.prog) W s P (by omega)
      rw [hD']
      replace hnx := Lib.hid hnx
      clear hst hlg hD' hP h6 hss hpz hdz
      go_wp2_with fail
      refine (HP.out _).mono ?_
      rintro e w13 ⟨rfl, hb13⟩
      have hu14 := Lib.hid (hu12.out.trans (newOf hb13))
      clear HP hb13 hu12
      go_wp2_with fail
      go_roundw
      case rel => exact ⟨j + 1, _, rfl, by go_num, hlt, hnx, hu14⟩
      case measure => simp [intOf]; omega
     ·have HP := Lib.hid (fun w => rputLong 3 (bts (rowL r)) (by decide) (by decide) (by rw [bts_size]; omega) (by omega) w)
      have hEn := Lib.hid (hlg.out (by omega))
      obtain ⟨D, hD'⟩ : ∃ D, bts (rowL r) = D := ⟨_, rfl⟩
      rw [hD'] at HP
      rw [hD']
      clear hst hlg hD' h6 hss hdz
      go_wp2_with fail
      refine (HP.out _).mono ?_
      rintro e w13 ⟨rfl, hb13⟩
      have hu14 := Lib.hid (hU.out.trans (hu12.out.trans (newOf hb13)))
      clear HP hb13 hu12
      go_wp2_with fail
      go_ret2
      exact ⟨hEn.out, hu14.out⟩
  ·have hsd := Lib.hid (hRD.out j s hso.out hlt hj)
   clear hso hR hRD hszR hcells hlab hpts hsml hinn hfp hlong
   go_wp2_with fail
   go_loopw [5, 18] (fun sv ov wr => ∃ (i : Nat) (s : ByteArray), sv = .string s /\ ov = .int .i64 (i : Int) /\ i <= ds.length /\ Hid (PD i s) /\ Hid (New0 wb wr)) (fun _ ov _ => ds.length - (intOf ov).toNat)
   case atStart => exact ⟨0, _, rfl, rfl, Nat.zero_le _, hsd, hu⟩
   case round =>
    clear hsd k0 k1 k2 k3
    obtain ⟨i, s, rfl, rfl, hi, hso, hu⟩ := hrel
    obtain ⟨k0, k1, k2, k3⟩ := hB.out.new hu.out
    have hss := hszD.out i s hso.out
    have hall := Lib.hid (hU.out.trans hu.out)
    by_cases hil : i < ds.length
    ·obtain ⟨db, doff, B1, e1, B2, e2, rfl, -, y0, y1, y2, y3, y4, hv, -⟩ := hds.out i hil
     have g0 := Lb.New0.cells hall.out y0
     have g1 := Lb.New0.cells hall.out y1
     have g2 := Lb.New0.cells hall.out y2
     have g3 := Lb.New0.cells hall.out y3
     have g4 := Lb.New0.cells hall.out y4
     have hm := List.getElem_mem hil
     have hbd := hdb.out _ hm
     have hok := hdel.out _ hm
     have hnx := hD.out i hil s hso.out
     have hfw := delF_few hok
     have HE := Rc.refenc_any _ _ _ _ (Rc.RView.new hv hall.out) hbd.1
     rw [Rc.encR_ok hok.2] at HE
     obtain ⟨r, hr⟩ : ∃ r, ds[i] = r := ⟨_, rfl⟩
     rw [hr] at g0 g1 g2 g3 g4 HE hnx hfw
     unfold bts at hnx hfw
     obtain ⟨D, hD'⟩ : ∃ D : ByteArray, (⟨(Rc.encB r).toArray⟩ : ByteArray) = D := ⟨_, rfl⟩
     rw [hD'] at HE hnx hfw
     have HP := Lib.hid (fun w => rputOk 4 D (by decide) (by decide) hfw w)
     have hpz := putA_few 4 hfw
     obtain ⟨P, hP⟩ : ∃ P, Frm.putA 4 D = P := ⟨_, rfl⟩
     simp only [hP] at HP hnx hpz
     have hadd := fun W => run_string_add_sum (P := Tryz.prog) W s P (by omega)
     replace HE := Lib.hid HE
     replace hnx := Lib.hid hnx
     clear y0 y1 y2 y3 y4 hv hr hbd hok hm hD' hP hfw hpz hso hall hss
     go_wp2_with fail
     refine HE.out.mono ?_
     rintro e w6 ⟨rfl, hu6⟩
     have hu7 := Lib.hid (hu.out.trans hu6)
     clear HE hu6 hu g0 g1 g2 g3 g4 k0 k1 k2 k3
     go_wp2_with fail
     refine (HP.out _).mono ?_
     rintro e w8 ⟨rfl, hb8⟩
     have hu9 := Lib.hid (hu7.out.trans (newOf hb8))
     clear HP hb8 hu7
     go_wp2_with fail
     go_roundw
     case rel => exact ⟨i + 1, _, rfl, by go_num, hil, hnx, hu9⟩
     case measure => simp [intOf]; omega
    ·have hEn := hfin.out s i hso.out hil
     have HO := Lib.hid (fun w => Crc.refof_any s (by omega) w)
     have HB := Lib.hid (fun w => rsumB s w)
     obtain ⟨q, hq⟩ : ∃ q : Nat, Crc.more 0 s.data.toList = q := ⟨_, rfl⟩
     rw [hq] at HO HB hEn
     have hsz := end_few q
     obtain ⟨D, hD'⟩ : ∃ D, Frm.sumB q = D := ⟨_, rfl⟩
     simp only [hD'] at HB hEn hsz
     have HP := Lib.hid (fun w => rputOk 5 D (by decide) (by decide) hsz w)
     have hpz := putA_few 5 hsz
     obtain ⟨P, hP⟩ : ∃ P, Frm.putA 5 D = P := ⟨_, rfl⟩
     simp only [hP] at HP hEn hpz
     have hadd := fun W => run_string_add_sum (P := Tryz.prog) W s P (by omega)
     replace hEn := Lib.hid hEn
     clear hq hD' hP hpz hsz hss hso hD hszD hfin hds hdb hdel
     go_wp2_with fail
     refine (HO.out _).mono ?_
     rintro e w6 ⟨rfl, rfl⟩
     clear HO k0 k1 k2 k3
     go_wp2_with fail
     refine (HB.out _).mono ?_
     rintro e w7 ⟨rfl, hb7⟩
     have hu8 := Lib.hid (hall.out.trans (newOf hb7))
     clear HB hb7 hall hu
     go_wp2_with fail
     refine (HP.out _).mono ?_
     rintro e w9 ⟨rfl, hb9⟩
     have hu10 := Lib.hid (hu8.out.trans (newOf hb9))
     clear HP hb9 hu8
     go_wp2_with fail
     go_ret2
     exact ⟨hEn.out, hu10.out⟩
theorem refenc_any (w : World) (S : Nat -> Prop) (v : Value) (b : B) (hv : BView w S v b) (hb : Bnd b) (hf : Few b) :
  Calls Tryz.prog 26 #[v] w fun e w' => e = encR b /\ New0 w w' := by
 by_cases hz : chk b = 0
 ·exact refenc_yes w S v b hv hb hf hz
 ·exact refenc_no w S v b hv hb hz
end Bk
end
end Go.Proofs.YtgmnhodajngchaaGreatDoor
