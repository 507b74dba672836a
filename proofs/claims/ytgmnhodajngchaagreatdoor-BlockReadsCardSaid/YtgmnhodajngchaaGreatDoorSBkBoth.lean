/- Parts: BkEnc2, BkTab, RcBack, BkGot, BkDecP, BkTri, BkFrom, BkTo, BkBoth. -/
import Derived.Test.YtgmnhodajngchaaGreatDoorSBkRefE
import Derived.Test.YtgmnhodajngchaaGreatDoorSBkChk
import Derived.Lib.FrozenHead
import Derived.Lib.Hide
import Derived.Laws.Externs
import Derived.Laws.BitsLemmas
import Derived.Lib.Strings
import Derived.Lib.Slices
import Derived.WalkKit
import Derived.WalkSpells
import Derived.WalkLawsBesides
import Derived.Test.YtgmnhodajngchaaGreatDoorSPDig
import Derived.Test.YtgmnhodajngchaaGreatDoorSPBit3
import Derived.Test.YtgmnhodajngchaaGreatDoorSPCk2
import Derived.Test.YtgmnhodajngchaaGreatDoorSPRc3
import Derived.Test.YtgmnhodajngchaaGreatDoorSPRc4
import Derived.Test.YtgmnhodajngchaaGreatDoorSPLb2
import Derived.Test.YtgmnhodajngchaaGreatDoorSPMt2
import Derived.ProofKit
import Derived.LaidMore
import Derived.Lib.LaidTab
import Derived.Stop.Joined
import Derived.Test.YtgmnhodajngchaaGreatDoorSPRc1
import Derived.Test.YtgmnhodajngchaaGreatDoorSBkRow
import Derived.Test.YtgmnhodajngchaaGreatDoorSPHd4
import Derived.Test.YtgmnhodajngchaaGreatDoorSPHeld
import Derived.Test.YtgmnhodajngchaaGreatDoorSPHd2
set_option maxRecDepth 100000
set_option linter.unusedVariables false
namespace Go.Proofs.YtgmnhodajngchaaGreatDoor
section
open Go.RowKit Go.Sort
namespace Bk
open Bit Dsk Ob Dig
structure TabA (w : World) : Prop where
 c : Ck.Tab w
 s : Crc.Tab w
theorem TabA.new {w w' : World} (h : TabA w) (hu : New0 w w') : TabA w' := ⟨h.c.new hu, h.s.below (belowOf hu)⟩
theorem pputOk (k : Nat) (s : ByteArray) (h1 : 1 <= k) (h2 : k <= 255) (h : s.size <= 65536) (w : World) (hT : Crc.Tab w) :
  Calls Tryz.prog 32 #[.agg #[.int .i64 (k : Int), .string s]] w fun e w' => e = .returned (.tuple #[.string (Frm.putA k s), .int .i64 0]) /\ Below w.heap.size w w' := by
 have := Frm.put_any (k : Int) s (by omega) w hT
 rw [(putS_ok h1 h2 h).1, (putS_ok h1 h2 h).2] at this
 exact this
theorem psumB (s : ByteArray) (w : World) : Calls Tryz.prog 80 #[.int .u32 ((Crc.more 0 s.data.toList : Nat) : Int)] w fun e w' => e = .returned (.string (Frm.sumB (Crc.more 0 s.data.toList))) /\ Below w.heap.size w w' := Frm.sum_bytes _ (Crc.more_lt _ _) w
set_option maxHeartbeats 3200000 in
theorem pend_any (s : ByteArray) (hs : s.size <= 9223372036854775807) (w : World) (hT : Crc.Tab w) :
  Calls Tryz.prog 35 #[.string s] w fun e w' => e = .returned (.string (Frm.putA 5 (Frm.sumB (Crc.more 0 s.data.toList)))) /\ New0 w w' := by
 have HO := Lib.hid (Crc.of_any s hs w hT)
 have HB := Lib.hid (psumB s w)
 have HP := Lib.hid (fun w' (hu : New0 w w') => pputOk 5 (Frm.sumB (Crc.more 0 s.data.toList)) (by decide) (by decide) (end_few _) w' (hT.below (belowOf hu)))
 obtain ⟨q, hq⟩ : ∃ q : Nat, Crc.more 0 s.data.toList = q := ⟨_, rfl⟩
 simp only [hq] at HO HB HP ⊢
 obtain ⟨D, hD⟩ : ∃ D, Frm.sumB q = D := ⟨_, rfl⟩
 simp only [hD] at HB HP ⊢
 go_enter Tryz.func35, Tryz.ntmps35
 go_wp2_with fail
 refine HO.out.mono ?_
 rintro e w2 ⟨rfl, rfl⟩
 go_wp2_with fail
 refine HB.out.mono ?_
 rintro e w3 ⟨rfl, hb3⟩
 have hu3 := Lib.hid (newOf hb3)
 clear HO HB hb3
 go_wp2_with fail
 refine (HP.out _ hu3.out).mono ?_
 rintro e w4 ⟨rfl, hb4⟩
 have hu4 := Lib.hid (hu3.out.trans (newOf hb4))
 clear HP hb4 hu3
 go_wp2_with fail
 go_ret
 exact ⟨rfl, hu4.out⟩
end Bk
end
section
namespace Bk
def laidL : List (String × DataW Unit) := [("barograph/sum.turns", Rows.laid_barograph_sum_turns), ("math/bits.deBruijn64tab", Rows.laid_math_bits_deBruijn64tab), ("barograph/times.spans", Rows.laid_barograph_times_spans)]
theorem tab_of_laid {W : World} (h : laidMetH Tryz.prog laidL W) : TabA W := by
 rw [MakeChecks.laidMetH_plain _ _ _ (by kernel_rfl)] at h
 have hg : Tryz.prog.globalNamed "barograph/sum.turns" = some 0 := by kernel_rfl
 have hT : Lib.TabIs Tryz.prog W "barograph/sum.turns" .u32 [0, 2197175160] :=
  Lib.tabIs_of_head (t := 286) (e := 149) (n := 2) hg (by kernel_rfl) (by kernel_rfl) (by kernel_rfl) (by kernel_rfl) (by kernel_rfl) h
 have h0 := hT.cell hg 0 (by decide)
 exact ⟨⟨Tm.tab_of_head h.tail.tail, Xr.tab_of_head h.tail⟩, ⟨h0, hT.cell hg 1 (by decide), World.block_lt_of_cell? W _ h0⟩⟩
theorem door_met (os : Os) (args : Array Value) : laidMetH Tryz.prog laidL ((World.doorLaid Tryz.prog 400 os).forCall (fun _ _ => 0) ⟨#[], args, []⟩).memory :=
 laidMetH_of_parts3 (fuel := 8) (laidMet_of_run' 8 (by kernel_rfl) (by kernel_rfl)) (by kernel_rfl) (by kernel_rfl)
end Bk
end
section
open Go.RowKit Go.Sort
namespace Rc
open Bit Dsk Ob Dig
theorem bnd_back {α β : Type} {x : Rd α} {f : α -> Rd β} {s : List UInt8} {y : β × List UInt8} (h : bnd x f s = .ok y) : ∃ a r, x s = .ok (a, r) /\ f a r = .ok y := by
 cases hx : x s with
 | error e => rw [bnd_no hx] at h; cases h
 | ok p => obtain ⟨a, r⟩ := p; exact ⟨a, r, rfl, by rw [bnd_ok hx] at h; exact h⟩
theorem num_back {s r : List UInt8} {n : Nat} (h : numR s = .ok (n, r)) : s = numL n ++ r /\ n < 18446744073709551616 := by
 unfold numR at h
 split at h
 ·rename_i h0
  have h1 := Except.ok.inj h
  obtain ⟨e1, e2⟩ := Prod.mk.inj h1
  subst e1 e2
  rw [(num_got s h0).1, List.take_append_drop]
  exact ⟨rfl, (gotN_lt s).1⟩
 ·cases h
theorem sgn_back {s r : List UInt8} {n : Int} (h : sgnR s = .ok (n, r)) : s = numL (zig n) ++ r /\ -9223372036854775808 <= n /\ n <= 9223372036854775807 := by
 unfold sgnR at h
 split at h
 ·rename_i h0
  have h1 := Except.ok.inj h
  obtain ⟨e1, e2⟩ := Prod.mk.inj h1
  subst e1 e2
  rw [zig_unz, (num_got s h0).1, List.take_append_drop]
  have hl := (gotN_lt s).1
  exact ⟨rfl, by unfold unz; split <;> omega, by unfold unz; split <;> omega⟩
 ·cases h
theorem txt_back {s r : List UInt8} {m : Int} {t : ByteArray} (h : txtR m s = .ok (t, r)) : s = numL t.size ++ t.data.toList ++ r := by
 unfold txtR at h
 split at h
 ·rename_i h0
  have h1 := Except.ok.inj h
  obtain ⟨e1, e2⟩ := Prod.mk.inj h1
  exact Lb.txt_ok (m := m) (Prod.ext e1 (Prod.ext e2 h0))
 ·cases h
theorem lab_back {t : ByteArray} {s r : List UInt8} {l : List Lb.Pr} (h : labR t s = .ok (l, r)) : r = s /\ Lb.Ok l /\ Lb.encB l = t.data.toList := by
 unfold labR at h
 split at h
 ·rename_i h0
  have h1 := Except.ok.inj h
  obtain ⟨e1, e2⟩ := Prod.mk.inj h1
  exact ⟨e2.symm, Lb.dec_back (Prod.ext e1 h0)⟩
 ·cases h
theorem must_back {b : Bool} {y : Nat} {s r : List UInt8} {a : Unit} (h : mustR b y s = .ok (a, r)) : b = true /\ r = s := by
 unfold mustR at h
 split at h
 ·rename_i h0
  exact ⟨h0, (Prod.mk.inj (Except.ok.inj h)).2.symm⟩
 ·cases h
theorem take_back {s r : List UInt8} {l : List Mt.M} (h : takeR s = .ok (l, r)) : Mt.chk l = 0 /\ Mt.encB l ++ r = s := by
 unfold takeR at h
 split at h
 ·rename_i h0
  have h1 := Except.ok.inj h
  obtain ⟨e1, e2⟩ := Prod.mk.inj h1
  exact Mt.tk_back (Prod.ext e1 (Prod.ext e2 h0))
 ·cases h
theorem smp_back {β : Type} {f : Smp -> Rd β} {s : List UInt8} {y : β × List UInt8} (h : smpK f s = .ok y) : ∃ x r, s = sB x ++ r /\ Lb.Ok x.1 /\ RngS x /\ f x r = .ok y := by
 unfold smpK at h
 obtain ⟨t, r1, h1, g1⟩ := bnd_back h
 obtain ⟨l, r2, h2, g2⟩ := bnd_back g1
 obtain ⟨a, r3, h3, g3⟩ := bnd_back g2
 obtain ⟨b, r4, h4, g4⟩ := bnd_back g3
 obtain ⟨e2, hok, henc⟩ := lab_back h2
 obtain ⟨e3, ha⟩ := sgn_back h3
 obtain ⟨e4, hb⟩ := num_back h4
 have e1 := txt_back h1
 have hsz : t.size = (Lb.encB l).length := by rw [henc]; simp
 refine ⟨(l, a, b), r4, ?_, hok, ⟨ha.1, ha.2, hb⟩, g4⟩
 rw [e1, <- e2, e3, e4, hsz, <- henc, sB]
 simp [List.append_assoc]
theorem many_back {β : Type} {f : List Smp -> Rd β} : ∀ {n : Nat} {acc : List Smp} {s : List UInt8} {y : β × List UInt8}, manyK f n acc s = .ok y -> ∃ l r, s = l.flatMap sB ++ r /\ l.length = n /\ (∀ x ∈ l, Lb.Ok x.1 /\ RngS x) /\ f (acc ++ l) r = .ok y
 | 0, acc, s, y, h => ⟨[], s, by simp, rfl, fun x hx => (by cases hx), by rw [List.append_nil]; exact h⟩
 | n + 1, acc, s, y, h => by
  rw [manyK] at h
  obtain ⟨x, r, e1, hok, hr, h⟩ := smp_back h
  obtain ⟨l, r', e2, hl, hall, h⟩ := many_back h
  refine ⟨x :: l, r', ?_, by simp [hl], fun q hq => ?_, by rw [List.append_assoc] at h; exact h⟩
  ·rw [e1, e2, List.flatMap_cons, List.append_assoc]
  ·rcases List.mem_cons.1 hq with rfl | hq
   ·exact ⟨hok, hr⟩
   ·exact hall q hq
theorem all_back {s q : List UInt8} {r : R} (h : allR s = .ok (r, q)) : encB r ++ q = s /\ Rng r := by
 unfold allR at h
 obtain ⟨k, r1, h1, g1⟩ := bnd_back h
 obtain ⟨a, r2, h2, g2⟩ := bnd_back g1
 obtain ⟨e1, -⟩ := num_back h1
 obtain ⟨hb, e2⟩ := must_back h2
 by_cases hk : k = 1
 ·rw [if_pos hk] at g2
  unfold comR at g2
  obtain ⟨n, r3, h3, g3⟩ := bnd_back g2
  obtain ⟨a', r4, h4, g4⟩ := bnd_back g3
  obtain ⟨e3, -⟩ := num_back h3
  obtain ⟨-, e4⟩ := must_back h4
  obtain ⟨l, r5, e5, hl, hall, g5⟩ := many_back g4
  obtain ⟨e6, e7⟩ := Prod.mk.inj (Except.ok.inj g5)
  rw [List.nil_append] at e6
  subst e6 e7
  refine ⟨?_, fun x hx => (hall x hx).2, ⟨(show (-9223372036854775808 : Int) <= 0 by decide), (show (0 : Int) <= 9223372036854775807 by decide)⟩, ⟨(show (-9223372036854775808 : Int) <= 0 by decide), (show (0 : Int) <= 9223372036854775807 by decide)⟩⟩
  rw [e1, <- e2, e3, <- e4, e5, encB, if_neg (show ¬ ((1 : Int) = 2) by decide), hk, <- hl]
  simp [List.append_assoc]
 ·rw [if_neg hk] at g2
  have hk2 : k = 2 := by
   rw [decide_eq_false hk, Bool.false_or] at hb
   exact of_decide_eq_true hb
  unfold delR at g2
  obtain ⟨m, r3, h3, g3⟩ := bnd_back g2
  obtain ⟨x, r4, h4, g4⟩ := bnd_back g3
  obtain ⟨y, r5, h5, g5⟩ := bnd_back g4
  obtain ⟨hm, e3⟩ := take_back h3
  obtain ⟨e4, hx⟩ := sgn_back h4
  obtain ⟨e5, hy⟩ := sgn_back h5
  obtain ⟨e6, e7⟩ := Prod.mk.inj (Except.ok.inj g5)
  subst e6 e7
  refine ⟨?_, fun x hx => (by cases hx), hx, hy⟩
  rw [e1, <- e2, <- e3, e4, e5, encB, if_pos rfl, hk2]
  simp [List.append_assoc]
def NZ {α : Type} (x : Rd α) : Prop := ∀ s, x s ≠ .error 0
theorem nz_bnd {α β : Type} {x : Rd α} {f : α -> Rd β} (h : NZ x) (k : ∀ a, NZ (f a)) : NZ (bnd x f) := fun s e => by
 cases hx : x s with
 | error e' => rw [bnd_no hx] at e; exact h s (by rw [hx]; exact congrArg Except.error (Except.error.inj e))
 | ok p => obtain ⟨a, r⟩ := p; rw [bnd_ok hx] at e; exact k a r e
theorem nz_ret {α : Type} (a : α) : NZ (retR a) := fun s e => by cases e
theorem nz_num : NZ numR := fun s e => by
 unfold numR at e
 split at e
 ·cases e
 ·rename_i h; exact h (Except.error.inj e)
theorem nz_sgn : NZ sgnR := fun s e => by
 unfold sgnR at e
 split at e
 ·cases e
 ·rename_i h; exact h (Except.error.inj e)
theorem nz_txt (m : Int) : NZ (txtR m) := fun s e => by
 unfold txtR at e
 split at e
 ·cases e
 ·rename_i h; exact h (Except.error.inj e)
theorem nz_lab (t : ByteArray) : NZ (labR t) := fun s e => by
 unfold labR at e
 split at e
 ·cases e
 ·rename_i h; exact h (Except.error.inj e)
theorem nz_take : NZ takeR := fun s e => by
 unfold takeR at e
 split at e
 ·cases e
 ·rename_i h; exact h (Except.error.inj e)
theorem nz_must (b : Bool) {y : Nat} (hy : y ≠ 0) : NZ (mustR b y) := fun s e => by
 unfold mustR at e
 split at e
 ·cases e
 ·exact hy (Except.error.inj e)
theorem nz_many {β : Type} {f : List Smp -> Rd β} (h : ∀ l, NZ (f l)) : ∀ (n : Nat) (acc : List Smp), NZ (manyK f n acc)
 | 0, acc => h acc
 | n + 1, acc => by
  rw [manyK]
  exact nz_bnd (nz_txt _) fun t => nz_bnd (nz_lab t) fun l => nz_bnd nz_sgn fun a => nz_bnd nz_num fun b => nz_many h n _
theorem nz_all : NZ allR := nz_bnd nz_num fun k => nz_bnd (nz_must _ (by decide)) fun _ => by
 by_cases hk : k = 1
 ·rw [if_pos hk]
  exact nz_bnd nz_num fun n => nz_bnd (nz_must _ (by decide)) fun _ => nz_many (fun l => nz_ret _) n []
 ·rw [if_neg hk]
  exact nz_bnd nz_take fun m => nz_bnd nz_sgn fun a => nz_bnd nz_sgn fun b => nz_ret _
theorem dec_back {s : List UInt8} {r : R} (h : dec s = (r, 0)) : chk r = 0 /\ encB r = s /\ Rng r := by
 cases ha : allR s with
 | error e =>
  rw [dec_err ha] at h
  have := (Prod.mk.inj h).2
  subst this
  exact absurd ha (nz_all s)
 | ok p =>
  obtain ⟨r', q⟩ := p
  by_cases hq : q = []
  ·subst hq
   by_cases hc : chk r' = 0
   ·rw [dec_ok ha hc] at h
    have e := (Prod.mk.inj h).1
    subst e
    have := all_back ha
    rw [List.append_nil] at this
    exact ⟨hc, this.1, this.2⟩
   ·rw [dec_chk ha hc] at h; exact absurd (Prod.mk.inj h).2 hc
  ·rw [dec_more ha hq] at h; exact absurd (Prod.mk.inj h).2 (by decide)
end Rc
end
section
open Go.RowKit
namespace Bk
open Bit Dsk Ob Dig
structure RowOk (r : Row) : Prop where
 lab : Lb.Ok r.lab
 pts : PtsOk r
 inn : InRow r
theorem txt_enc {l r : List UInt8} {m : Int} (h0 : l.length < 18446744073709551616) (h : (l.length : Int) <= m) : Rc.txtR m (txtL l ++ r) = .ok (bts l, r) := by
 unfold Rc.txtR
 have e : txtL l ++ r = numL (bts l).size ++ (bts l).data.toList ++ r := by rw [bts_size, bts_list]; rfl
 rw [e, Lb.txt_text (bts l) m r (by rw [bts_size]; exact h) (by rw [bts_size]; omega)]; simp
theorem txt_back {m : Int} {s r : List UInt8} {t : ByteArray} (h : Rc.txtR m s = .ok (t, r)) : s = txtL t.data.toList ++ r := by
 rw [Rc.txt_back h, txtL, Frm.size_list]
theorem parts_front : ∀ {a b : List (List Pt)} {s : List UInt8}, (∀ p ∈ a, PartOk p) -> (∀ p ∈ b, PartOk p) -> b.flatMap partL = a.flatMap partL ++ s -> ∃ q, b = a ++ q /\ q.flatMap partL = s
 | [], b, s, _, _, h => ⟨b, rfl, by simpa using h⟩
 | p :: a, [], s, _, _, h => by
  have := congrArg List.length h
  simp [partL, txtL, numL_length] at this
  omega
 | p :: a, q :: b, s, ha, hb, h => by
  have hp := ha p (by simp)
  have hq := hb q (by simp)
  have s1 := Ck.code_size hp.few
  have s2 := Ck.code_size hq.few
  rw [List.flatMap_cons, List.flatMap_cons, List.append_assoc] at h
  obtain ⟨e1, e2⟩ := txt_inj (by omega) (by omega) h
  have k1 := hq.enc
  rw [e1] at k1
  have e3 := Ck.enc_inj hq.inn hp.inn k1 hp.enc
  obtain ⟨k, rfl, hk⟩ := parts_front (fun u hu => ha u (by simp [hu])) (fun u hu => hb u (by simp [hu])) e2
  exact ⟨k, by rw [e3]; rfl, hk⟩
theorem parts_snoc {l p : List Pt} (hl : l.length % 64 = 0) (h1 : 1 <= p.length) (h2 : p.length <= 64) : parts (l ++ p) = parts l ++ [p] := by
 have hn : Ck.nparts (l ++ p) = Ck.nparts l + 1 := by unfold Ck.nparts; rw [List.length_append]; omega
 have hk : 64 * Ck.nparts l = l.length := by unfold Ck.nparts; omega
 unfold parts
 rw [hn, List.range_succ, List.map_append]
 congr 1
 ·refine List.map_congr_left fun i hi => ?_
  have hi := List.mem_range.1 hi
  unfold Ck.part
  rw [List.drop_append_of_le_length (by omega), List.take_append_of_le_length (by rw [List.length_drop]; omega)]
 ·simp only [List.map_cons, List.map_nil]
  unfold Ck.part
  rw [hk, List.drop_left, List.take_of_length_le h2]
structure GotTo (data : List UInt8) (l : List Pt) (s : List UInt8) : Prop where
 is : data = (parts l).flatMap partL ++ s
 ok : ∀ p ∈ parts l, PartOk p
theorem GotTo.start (data : List UInt8) : GotTo data [] data := ⟨by simp [parts, Ck.nparts], fun p hp => by simp [parts, Ck.nparts] at hp⟩
theorem GotTo.inn {data s : List UInt8} {l : List Pt} (h : GotTo data l s) : ∀ p ∈ l, Ck.PtIn p := fun p hp => by
 rw [<- parts_flat l] at hp
 obtain ⟨q, hq, hpq⟩ := List.mem_flatten.1 hp
 exact (h.ok q hq).inn p hpq
theorem part_of_enc {p : List Pt} {s : List UInt8} (hi : ∀ q ∈ p, Ck.PtIn q) (h : Ck.enc p = (s, 0)) : PartOk p /\ Ck.code p = s := by
 obtain ⟨h1, h2, h3, h4⟩ := Ck.enc_is h
 exact ⟨⟨h1, h2, h3, hi⟩, h4⟩
theorem GotTo.step {data s r : List UInt8} {l p : List Pt} {t : ByteArray} (h : GotTo data l s) (hl : l.length % 64 = 0) (ht : Rc.txtR 65536 s = .ok (t, r)) (hp : Ck.enc p = (t.data.toList, 0)) (hin : ∀ q ∈ p, Ck.PtIn q) : GotTo data (l ++ p) r := by
 obtain ⟨k1, k2⟩ := part_of_enc hin hp
 have hs := txt_back ht
 have e := parts_snoc hl k1.one k1.few
 refine ⟨?_, fun q hq => ?_⟩
 ·rw [h.is, e, hs, List.flatMap_append, <- k2]; simp [partL]
 ·rw [e] at hq
  rcases List.mem_append.1 hq with hq | hq
  ·exact h.ok q hq
  ·rw [List.mem_singleton.1 hq]; exact k1
def PtsNot (data : List UInt8) : Prop := ∀ c : List Pt, Ck.Rises c c.length -> (∀ q ∈ c, Ck.PtIn q) -> (parts c).flatMap partL ≠ data
theorem first_part {q : List (List Pt)} {s : List UInt8} (h : q.flatMap partL = s) (hs : s ≠ []) : ∃ p q', q = p :: q' /\ s = txtL (Ck.code p) ++ q'.flatMap partL := by
 cases q with
 | nil => exact absurd h.symm hs
 | cons p q' => exact ⟨p, q', rfl, by rw [<- h]; rfl⟩
theorem part_txt {p : List Pt} (h : PartOk p) (r : List UInt8) : Rc.txtR 65536 (txtL (Ck.code p) ++ r) = .ok (bts (Ck.code p), r) := by
 have := Ck.code_size h.few
 exact txt_enc (by omega) (by omega)
theorem GotTo.other {data s : List UInt8} {l c : List Pt} (h : GotTo data l s) (hs : s ≠ []) (h1 : Ck.Rises c c.length) (h2 : ∀ q ∈ c, Ck.PtIn q) (e : (parts c).flatMap partL = data) :
  l.length % 64 = 0 /\ ∃ p r, PartOk p /\ s = txtL (Ck.code p) ++ r := by
 have hc := parts_ok h1 h2
 obtain ⟨q, e1, e2⟩ := parts_front h.ok hc (e.trans h.is)
 obtain ⟨p, q', rfl, e3⟩ := first_part e2 hs
 refine ⟨?_, p, _, hc p (by rw [e1]; simp), e3⟩
 have hlen := congrArg List.length e1
 rw [parts_len, List.length_append, parts_len, List.length_cons] at hlen
 have k1 : parts l = (parts c).take (Ck.nparts l) := by rw [e1, List.take_left' (parts_len l)]
 have k2 : l = c.take (64 * Ck.nparts l) := by
  rw [<- parts_to c (Ck.nparts l)]
  have : (List.range (Ck.nparts l)).map (Ck.part c) = (parts c).take (Ck.nparts l) := by
   unfold parts
   rw [<- List.map_take, List.take_range, Nat.min_eq_left (by omega)]
  rw [this, <- k1, parts_flat]
 have k3 := congrArg List.length k2
 rw [List.length_take] at k3
 unfold Ck.nparts at k3 hlen
 omega
theorem GotTo.full {data s : List UInt8} {l : List Pt} (h : GotTo data l s) (hs : s ≠ []) (hl : l.length % 64 ≠ 0) : PtsNot data := fun c h1 h2 e => hl (h.other hs h1 h2 e).1
theorem GotTo.txt {data s : List UInt8} {l : List Pt} (h : GotTo data l s) (hs : s ≠ []) (ht : ∀ t r, Rc.txtR 65536 s ≠ .ok (t, r)) : PtsNot data := fun c h1 h2 e => by
 obtain ⟨-, p, r, hp, rfl⟩ := h.other hs h1 h2 e
 exact ht _ _ (part_txt hp r)
theorem GotTo.dec {data s r : List UInt8} {l : List Pt} {t : ByteArray} (h : GotTo data l s) (hs : s ≠ []) (ht : Rc.txtR 65536 s = .ok (t, r)) (hd : ∀ l', (∀ p ∈ l', Ck.PtIn p) -> Ck.enc l' ≠ (t.data.toList, 0)) : PtsNot data := fun c h1 h2 e => by
 obtain ⟨-, p, r, hp, rfl⟩ := h.other hs h1 h2 e
 rw [part_txt hp r] at ht
 obtain ⟨e1, -⟩ := Prod.mk.inj (Except.ok.inj ht)
 subst e1
 exact hd p hp.inn (by rw [bts_list]; exact hp.enc)
structure RefTo (data : List UInt8) (l : List Pt) (s : List UInt8) : Prop where
 inn : ∀ p ∈ l, Ck.PtIn p
 of : ∀ c : List Pt, Ck.Rises c c.length -> (∀ q ∈ c, Ck.PtIn q) -> (parts c).flatMap partL = data -> ∃ ps qs, parts c = ps ++ qs /\ ps.flatten = l /\ qs.flatMap partL = s
theorem RefTo.start (data : List UInt8) : RefTo data [] data := ⟨fun p h => by simp at h, fun c _ _ e => ⟨[], parts c, rfl, rfl, e⟩⟩
theorem RefTo.step {data s r : List UInt8} {l p : List Pt} {t : ByteArray} (h : RefTo data l s) (hs : s ≠ []) (ht : Rc.txtR 65536 s = .ok (t, r)) (hp : Ck.enc p = (t.data.toList, 0)) (hin : ∀ q ∈ p, Ck.PtIn q) : RefTo data (l ++ p) r := by
 refine ⟨fun q hq => ?_, fun c h1 h2 e => ?_⟩
 ·rcases List.mem_append.1 hq with hq | hq
  ·exact h.inn q hq
  ·exact hin q hq
 ·obtain ⟨ps, qs, e1, e2, e3⟩ := h.of c h1 h2 e
  obtain ⟨q, q', rfl, rfl⟩ := first_part e3 hs
  have hq := parts_ok h1 h2 q (by rw [e1]; simp)
  rw [part_txt hq] at ht
  obtain ⟨g1, g2⟩ := Prod.mk.inj (Except.ok.inj ht)
  subst g1
  rw [bts_list] at hp
  have e4 := Ck.enc_inj hin hq.inn hp hq.enc
  exact ⟨ps ++ [q], q', by rw [e1]; simp, by rw [List.flatten_append, e2, e4]; simp, g2⟩
theorem RefTo.txt {data s : List UInt8} {l : List Pt} (h : RefTo data l s) (hs : s ≠ []) (ht : ∀ t r, Rc.txtR 65536 s ≠ .ok (t, r)) : PtsNot data := fun c h1 h2 e => by
 obtain ⟨ps, qs, e1, e2, e3⟩ := h.of c h1 h2 e
 obtain ⟨q, q', rfl, rfl⟩ := first_part e3 hs
 exact ht _ _ (part_txt (parts_ok h1 h2 q (by rw [e1]; simp)) _)
theorem RefTo.dec {data s r : List UInt8} {l : List Pt} {t : ByteArray} (h : RefTo data l s) (hs : s ≠ []) (ht : Rc.txtR 65536 s = .ok (t, r)) (hd : ∀ l', (∀ p ∈ l', Ck.PtIn p) -> Ck.enc l' ≠ (t.data.toList, 0)) : PtsNot data := fun c h1 h2 e => by
 obtain ⟨ps, qs, e1, e2, e3⟩ := h.of c h1 h2 e
 obtain ⟨q, q', rfl, rfl⟩ := first_part e3 hs
 have hq := parts_ok h1 h2 q (by rw [e1]; simp)
 rw [part_txt hq] at ht
 obtain ⟨g1, -⟩ := Prod.mk.inj (Except.ok.inj ht)
 subst g1
 exact hd q hq.inn (by rw [bts_list]; exact hq.enc)
theorem RefTo.last {data : List UInt8} {l c : List Pt} (h : RefTo data l []) (h1 : Ck.Rises c c.length) (h2 : ∀ q ∈ c, Ck.PtIn q) (e : (parts c).flatMap partL = data) : c = l := by
 obtain ⟨ps, qs, e1, e2, e3⟩ := h.of c h1 h2 e
 cases qs with
 | cons q qs =>
  have := congrArg List.length e3
  simp [partL, txtL, numL_length] at this
 | nil => rw [<- parts_flat c, e1, List.append_nil, e2]
def RowNot (data : List UInt8) : Prop := ∀ c : Row, RowOk c -> rowL c ≠ data
theorem row_is {c : Row} (h : RowOk c) {m : Int} (hm : 1024 <= m) : Rc.txtR m (rowL c) = .ok (bts (Lb.encB c.lab), numL (zig c.last) ++ (parts c.pts).flatMap partL) := by
 have := Rc.encL_len h.lab
 exact txt_enc (by omega) (by omega)
theorem row_sgn {c : Row} (h : RowOk c) : Rc.sgnR (numL (zig c.last) ++ (parts c.pts).flatMap partL) = .ok (c.last, (parts c.pts).flatMap partL) := Rc.sgn_enc _ h.inn.last.1 h.inn.last.2 _
theorem row_dec {c : Row} (h : RowOk c) : Lb.dec (bts (Lb.encB c.lab)).data.toList = (c.lab, 0) := by
 have := Lb.dec_enc h.lab []
 rw [List.append_nil] at this
 rw [bts_list, this]; simp
theorem row_txt_no {data : List UInt8} {m : Int} (hm : 1024 <= m) (h : ∀ t r, Rc.txtR m data ≠ .ok (t, r)) : RowNot data := fun c hc e => h _ _ (by rw [<- e]; exact row_is hc hm)
theorem row_lab_no {data r : List UInt8} {m : Int} (hm : 1024 <= m) {t : ByteArray} (ht : Rc.txtR m data = .ok (t, r)) (h : (Lb.dec t.data.toList).2 ≠ 0) : RowNot data := fun c hc e => by
 rw [<- e, row_is hc hm] at ht
 obtain ⟨g1, -⟩ := Prod.mk.inj (Except.ok.inj ht)
 subst g1
 rw [row_dec hc] at h
 exact h rfl
theorem row_sgn_no {data r : List UInt8} {m : Int} (hm : 1024 <= m) {t : ByteArray} (ht : Rc.txtR m data = .ok (t, r)) (h : ∀ x q, Rc.sgnR r ≠ .ok (x, q)) : RowNot data := fun c hc e => by
 rw [<- e, row_is hc hm] at ht
 obtain ⟨-, g2⟩ := Prod.mk.inj (Except.ok.inj ht)
 subst g2
 exact h _ _ (row_sgn hc)
theorem row_pts_no {data r q : List UInt8} {m : Int} (hm : 1024 <= m) {t : ByteArray} (ht : Rc.txtR m data = .ok (t, r)) {x : Int} (hx : Rc.sgnR r = .ok (x, q)) (h : PtsNot q) : RowNot data := fun c hc e => by
 rw [<- e, row_is hc hm] at ht
 obtain ⟨-, g2⟩ := Prod.mk.inj (Except.ok.inj ht)
 subst g2
 rw [row_sgn hc] at hx
 obtain ⟨-, g3⟩ := Prod.mk.inj (Except.ok.inj hx)
 subst g3
 exact h _ hc.pts.rise hc.inn.pts rfl
theorem row_one {data r q : List UInt8} {m : Int} (hm : 1024 <= m) {t : ByteArray} (ht : Rc.txtR m data = .ok (t, r)) {x : Int} (hx : Rc.sgnR r = .ok (x, q)) {ls : List Lb.Pr} (hd : Lb.dec t.data.toList = (ls, 0)) {l : List Pt} (h : RefTo q l []) : ∀ c, RowOk c -> rowL c = data -> c = ⟨ls, l, x⟩ := fun c hc e => by
 rw [<- e, row_is hc hm] at ht
 obtain ⟨g1, g2⟩ := Prod.mk.inj (Except.ok.inj ht)
 subst g1 g2
 rw [row_sgn hc] at hx
 obtain ⟨g4, g3⟩ := Prod.mk.inj (Except.ok.inj hx)
 subst g3
 rw [row_dec hc] at hd
 have e1 := (Prod.mk.inj hd).1
 have e2 := h.last hc.pts.rise hc.inn.pts rfl
 obtain ⟨a, b, d⟩ := c
 simp only at g4 e1 e2
 rw [g4, e1, e2]
structure RowGot (data : List UInt8) (r : Row) : Prop where
 is : rowL r = data
 lab : Lb.Ok r.lab
 inn : InRow r
 ok : ∀ p ∈ parts r.pts, PartOk p
theorem row_yes {data r q : List UInt8} {m : Int} {t : ByteArray} (ht : Rc.txtR m data = .ok (t, r)) {x : Int} (hx : Rc.sgnR r = .ok (x, q)) {ls : List Lb.Pr} (hd : Lb.dec t.data.toList = (ls, 0)) {l : List Pt} (h : GotTo q l []) : RowGot data ⟨ls, l, x⟩ := by
 obtain ⟨e1, e2⟩ := Lb.dec_back hd
 have h1 := txt_back ht
 obtain ⟨h2, h3, h4⟩ := Rc.sgn_back hx
 have h5 := h.is
 rw [List.append_nil] at h5
 refine ⟨?_, e1, ⟨⟨h3, h4⟩, h.inn⟩, h.ok⟩
 unfold rowL
 simp only
 rw [h1, h2, h5, e2]
theorem RowGot.one {data : List UInt8} {r c : Row} (h : RowGot data r) (hc : RowOk c) (e : rowL c = data) : c = r := by
 have h0 := h.is.trans e.symm
 have s1 := Rc.encL_len h.lab
 have s2 := Rc.encL_len hc.lab
 unfold rowL at h0
 obtain ⟨e1, h0⟩ := txt_inj (by omega) (by omega) h0
 obtain ⟨e2, h0⟩ := num_inj (zig_lt _ h.inn.last.1 h.inn.last.2) (zig_lt _ hc.inn.last.1 hc.inn.last.2) h0
 have k1 := Lb.dec_enc h.lab []
 have k2 := Lb.dec_enc hc.lab []
 rw [List.append_nil] at k1 k2
 rw [e1, k2] at k1
 simp only [ne_eq, not_true_eq_false, if_false, Prod.mk.injEq, and_true] at k1
 have e3 : r.last = c.last := by rw [<- unz_zig r.last, e2, unz_zig]
 have e4 := parts_inj h.ok (parts_ok hc.pts.rise hc.inn.pts) h0
 have e5 : r.pts = c.pts := by rw [<- parts_flat r.pts, e4, parts_flat]
 obtain ⟨a, b, d⟩ := r
 obtain ⟨a', b', d'⟩ := c
 simp only at k1 e3 e5
 rw [k1, e3, e5]
theorem frm_back {s : ByteArray} (h : (Frm.gotF s).err = 0) : s.data.toList = (Frm.putA (Frm.gotF s).kind (Frm.gotF s).data).data.toList ++ s.data.toList.drop (Frm.gotF s).size /\ 1 <= (Frm.gotF s).kind /\ (Frm.gotF s).kind <= 255 /\ (Frm.gotF s).data.size <= 65536 := by
 obtain ⟨o1, o2, o3, o4⟩ := Frm.gotF_ok s h
 refine ⟨?_, ?_, o3, o4⟩
 ·obtain ⟨m, m1, m2, m3, m4⟩ := Frm.gotF_parts s h
  have hd : (Frm.hdr (Frm.gotF s).kind (Frm.gotF s).data).data.toList = s.data.toList.take m := by
   rw [Frm.hdr_list]
   cases hl : s.data.toList with
   | nil => unfold Frm.gotF at h; simp [hl, Frm.bad] at h
   | cons c r =>
    have hm := m4 r (by rw [hl]; rfl)
    have hg : (gotT r 65536).2.2 = 0 /\ (Frm.gotF s).kind = c.toNat /\ (Frm.gotF s).data.data.toList = (r.drop (gotT r 65536).2.1).take (gotT r 65536).1 := by
     have ht := Frm.tail_list s
     rw [hl] at ht
     unfold Frm.gotF at h ⊢
     simp only [hl] at h ⊢
     split at h
     ·simp [Frm.bad] at h
     ·rename_i h0
      rw [if_neg h0]
      split at h
      ·rename_i h1; exact absurd h h1
      ·rename_i h1
       rw [if_neg h1]
       split at h
       ·simp [Frm.bad] at h
       ·rename_i h2
        rw [if_neg h2]
        split at h
        ·rename_i h3
         rw [if_pos h3]
         refine ⟨by simpa using h1, rfl, ?_⟩
         simp only
         rw [Frm.extract_list, ht]
         simp only [List.drop_succ_cons, List.drop_zero]
         rw [List.drop_take]
         congr 1
         omega
        ·simp [Frm.bad] at h
    obtain ⟨g1, g2, g3⟩ := hg
    have hT := Lb.txt_ok (m := 65536) (s := r) (t := ⟨((r.drop (gotT r 65536).2.1).take (gotT r 65536).1).toArray⟩) (r := r.drop ((gotT r 65536).2.1 + (gotT r 65536).1)) (Prod.ext rfl (Prod.ext rfl g1))
    have hle := Frm.gotT_lt r 65536
    have hz : ((r.drop (gotT r 65536).2.1).take (gotT r 65536).1).length = (gotT r 65536).1 := by rw [List.length_take, List.length_drop]; omega
    have hn : numL (gotT r 65536).1 = r.take (gotT r 65536).2.1 /\ r = numL (gotT r 65536).1 ++ (r.drop (gotT r 65536).2.1) := by
     have hsz : (⟨((r.drop (gotT r 65536).2.1).take (gotT r 65536).1).toArray⟩ : ByteArray).size = (gotT r 65536).1 := by
      show ((r.drop (gotT r 65536).2.1).take (gotT r 65536).1).toArray.size = _
      rw [List.size_toArray]; exact hz
     rw [hsz] at hT
     have hT2 : r = numL (gotT r 65536).1 ++ ((r.drop (gotT r 65536).2.1).take (gotT r 65536).1 ++ r.drop ((gotT r 65536).2.1 + (gotT r 65536).1)) := by
      rw [<- List.append_assoc]; exact hT
     have hlen := congrArg List.length hT2
     rw [List.length_append, List.length_append, hz, List.length_drop] at hlen
     have hk : (numL (gotT r 65536).1).length = (gotT r 65536).2.1 := by omega
     have e0 := congrArg (fun x => x.take (gotT r 65536).2.1) hT2
     have e1 : numL (gotT r 65536).1 = r.take (gotT r 65536).2.1 := (e0.trans (List.take_left' hk)).symm
     exact ⟨e1, by rw [e1, List.take_append_drop]⟩
    have hds : (Frm.gotF s).data.size = (gotT r 65536).1 := by rw [<- Frm.size_list, g3, hz]
    rw [hds, g2, g3, hn.1, hm, Nat.add_comm 1, List.take_succ_cons]
    have e1 : UInt8.ofNat c.toNat = c := by simp
    rw [e1, List.take_add]
  unfold Frm.putA
  rw [app_l, hd]
  rw [Frm.extract_list, List.drop_zero] at m3
  rw [<- m3, Frm.extract_list, m1, List.drop_take, show m + 4 - m = 4 by omega, <- List.take_add, List.take_append_drop]
 ·by_cases h0 : (Frm.gotF s).kind = 0
  ·exfalso
   cases hl : s.data.toList with
   | nil => unfold Frm.gotF at h; simp [hl, Frm.bad] at h
   | cons c r =>
    unfold Frm.gotF at h h0
    simp only [hl] at h h0
    split at h
    ·simp [Frm.bad] at h
    ·rename_i hc
     rw [if_neg hc] at h0
     split at h
     ·rename_i h1; exact absurd h h1
     ·rename_i h1
      rw [if_neg h1] at h0
      split at h
      ·simp [Frm.bad] at h
      ·rename_i h2
       rw [if_neg h2] at h0
       split at h
       ·rename_i h3
        rw [if_pos h3] at h0
        exact hc h0
       ·simp [Frm.bad] at h
  ·omega
end Bk
end
section
open Go.RowKit
namespace Bk
open Bit Dsk Ob Dig
structure FrTo (s0 : List UInt8) (fs : List Fr) (r : List UInt8) : Prop where
 is : s0 = Frm.allA fs ++ r
 ok : Frm.okF fs
theorem FrTo.start (s0 : List UInt8) : FrTo s0 [] s0 := ⟨rfl, fun p h => by cases h⟩
theorem FrTo.next {s0 : List UInt8} {fs : List Fr} {s : ByteArray} (h : FrTo s0 fs s.data.toList) (he : (Frm.gotF s).err = 0) : FrTo s0 (fs ++ [((Frm.gotF s).kind, (Frm.gotF s).data)]) (s.data.toList.drop (Frm.gotF s).size) := by
 obtain ⟨e, h1, h2, h3⟩ := frm_back he
 refine ⟨?_, fun p hp => ?_⟩
 ·rw [Frm.allA_append, List.append_assoc]
  simp only [Frm.allA, List.append_nil]
  rw [<- e]; exact h.is
 ·rcases List.mem_append.1 hp with hp | hp
  ·exact h.ok p hp
  ·rw [List.mem_singleton.1 hp]; exact ⟨h1, h2, h3⟩
theorem FrTo.other {s0 r : List UInt8} {fs : List Fr} (h : FrTo s0 fs r) {c : B} (hc : Good c) (lc : ¬ Long c) (e : code c = s0) : ∃ k, allF c = fs ++ k /\ Frm.allA k = r :=
 all_front (allF_ok hc.dels lc) h.ok (e.trans h.is)
theorem front_got {f : Fr} {k : List Fr} {s : ByteArray} (h : Frm.allA (f :: k) = s.data.toList) (h1 : 1 <= f.1) (h2 : f.1 <= 255) (h3 : f.2.size <= 65536) : Frm.gotF s = ⟨f.1, f.2, (Frm.putA f.1 f.2).size, 0⟩ := by
 have e : s = Frm.putA f.1 f.2 ++ bts (Frm.allA k) := by
  apply Frm.bytes_ext
  rw [app_l, bts_list, <- h]; rfl
 rw [e]
 exact Frm.got_put f.1 f.2 _ h1 h2 h3
def headN (f t n m : Nat) : List UInt8 := numL f ++ (numL t ++ (numL n ++ numL m))
theorem headN_is {c : B} (hc : ¬ badSpan c) (ic : InR c) {f t n m : Nat} (hf : f <= 99999999) (ht : t <= 99999999) (hn : n < 18446744073709551616) (hm : m < 18446744073709551616) (h : headF c = (2, bts (headN f t n m))) : c.first = (f : Int) /\ c.til = (t : Int) /\ c.rows.length = n /\ c.dels.length = m := by
 have h1 : headL c = headN f t n m := bts_inj (congrArg Prod.snd h)
 unfold badSpan at hc
 unfold headL headN at h1
 obtain ⟨e1, h1⟩ := num_inj (by omega) (by omega) h1
 obtain ⟨e2, h1⟩ := num_inj (by omega) (by omega) h1
 obtain ⟨e3, h1⟩ := num_inj ic.few hn h1
 have e4 := numL_inj _ _ ic.few2 hm h1
 exact ⟨by omega, by omega, e3, e4⟩
structure St (s0 : List UInt8) (b : B) (n m : Nat) (r : List UInt8) : Prop where
 fr : FrTo s0 ((2, bts (headN b.first.toNat b.til.toNat n m)) :: (b.rows.map rowF ++ b.dels.map delF)) r
 lo : 0 <= b.first /\ b.first <= 99999999 /\ 0 <= b.til /\ b.til <= 99999999
 hi : n < 18446744073709551616 /\ m < 18446744073709551616
 rows : ∀ x ∈ b.rows, RowGot (rowL x) x /\ (rowL x).length <= 65536
 dels : ∀ x ∈ b.dels, DelOk x /\ Rc.Rng x
 cnt : b.rows.length <= n /\ b.dels.length <= m /\ (b.dels = [] \/ b.rows.length = n)
theorem St.other {s0 r : List UInt8} {b : B} {n m : Nat} (h : St s0 b n m r) {c : B} (ic : InR c) (hc : enc c = (s0, 0)) :
  Good c /\ ¬ Long c /\ c.first = b.first /\ c.til = b.til /\ c.rows.length = n /\ c.dels.length = m /\ ∃ k, allF c = ((2, bts (headN b.first.toNat b.til.toNat n m)) :: (b.rows.map rowF ++ b.dels.map delF)) ++ k /\ Frm.allA k = r := by
 obtain ⟨g, l, e⟩ := enc_is hc
 obtain ⟨k, e1, e2⟩ := h.fr.other g l e
 have h0 : headF c = (2, bts (headN b.first.toNat b.til.toNat n m)) := by
  have := congrArg (fun x => x[0]?) e1
  exact Option.some.inj this
 have hlo := h.lo
 obtain ⟨a1, a2, a3, a4⟩ := headN_is g.span ic (by omega) (by omega) h.hi.1 h.hi.2 h0
 exact ⟨g, l, by omega, by omega, a3, a4, k, e1, e2⟩
theorem St.row {s0 r : List UInt8} {b : B} {n m : Nat} (h : St s0 b n m r) (hd : b.dels = []) (hn : b.rows.length < n) {c : B} (ic : InR c) (hc : enc c = (s0, 0)) : ∃ x k, RowOk x /\ (rowL x).length <= 65536 /\ Frm.allA (rowF x :: k) = r := by
 obtain ⟨g, l, -, -, e3, e4, k, e5, e6⟩ := h.other ic hc
 have hi : b.rows.length < c.rows.length := by omega
 have hm := List.getElem_mem hi
 have hk : (allF c)[b.rows.length + 1]? = some (rowF c.rows[b.rows.length]) := by
  unfold allF frs
  rw [List.cons_append, List.getElem?_cons_succ, List.append_assoc, List.getElem?_append_left (by rw [List.length_map]; exact hi), List.getElem?_map, List.getElem?_eq_getElem hi]; rfl
 rw [e5, hd, List.getElem?_append_right (by simp)] at hk
 simp only [List.map_nil, List.append_nil, List.length_cons, List.length_map, Nat.sub_self] at hk
 cases k with
 | nil => simp at hk
 | cons f k =>
  simp only [List.getElem?_cons_zero, Option.some.injEq] at hk
  subst hk
  refine ⟨_, k, ⟨g.lab _ hm, g.pts _ hm, ic.rows _ hm⟩, ?_, e6⟩
  by_cases q : (rowL c.rows[b.rows.length]).length <= 65536
  ·exact q
  ·exact absurd ⟨_, hm, by omega⟩ l
theorem St.row_no {s0 : List UInt8} {b : B} {n m : Nat} {s : ByteArray} (h : St s0 b n m s.data.toList) (hd : b.dels = []) (hn : b.rows.length < n) (hg : (Frm.gotF s).err ≠ 0 \/ (Frm.gotF s).kind ≠ 3) : Not s0 := fun c ic hc => by
 obtain ⟨x, k, h1, h2, h3⟩ := h.row hd hn ic hc
 have := front_got h3 (show 1 <= 3 by decide) (show 3 <= 255 by decide) (by show (bts (rowL x)).size <= _; rw [bts_size]; exact h2)
 rw [this] at hg
 simp [rowF] at hg
theorem St.row_bad {s0 : List UInt8} {b : B} {n m : Nat} {s : ByteArray} (h : St s0 b n m s.data.toList) (hd : b.dels = []) (hn : b.rows.length < n) (hg : RowNot (Frm.gotF s).data.data.toList) : Not s0 := fun c ic hc => by
 obtain ⟨x, k, h1, h2, h3⟩ := h.row hd hn ic hc
 have := front_got h3 (show 1 <= 3 by decide) (show 3 <= 255 by decide) (by show (bts (rowL x)).size <= _; rw [bts_size]; exact h2)
 rw [this] at hg
 exact hg x h1 (bts_list (rowL x)).symm
theorem St.row_step {s0 : List UInt8} {b : B} {n m : Nat} {s : ByteArray} (h : St s0 b n m s.data.toList) (hd : b.dels = []) (hn : b.rows.length < n) (he : (Frm.gotF s).err = 0) (hk : (Frm.gotF s).kind = 3) {x : Row} (hx : RowGot (Frm.gotF s).data.data.toList x) :
  St s0 ⟨b.first, b.til, b.rows ++ [x], b.dels⟩ n m (s.data.toList.drop (Frm.gotF s).size) := by
 have k1 := h.fr.next he
 obtain ⟨-, -, -, k2⟩ := frm_back he
 have e1 : ((Frm.gotF s).kind, (Frm.gotF s).data) = rowF x := by
  unfold rowF; rw [hk, hx.is]
  exact Prod.ext rfl (bts_eq rfl)
 have hl : (rowL x).length <= 65536 := by rw [hx.is, Frm.size_list]; exact k2
 refine ⟨?_, h.lo, h.hi, fun y hy => ?_, h.dels, ?_⟩
 ·rw [e1] at k1
  rw [hd] at k1 ⊢
  simpa using k1
 ·rcases List.mem_append.1 hy with hy | hy
  ·exact h.rows y hy
  ·rw [List.mem_singleton.1 hy]; exact ⟨by rw [hx.is]; exact hx, hl⟩
 ·refine ⟨?_, h.cnt.2.1, .inl hd⟩
  simp only [List.length_append, List.length_singleton]; omega
theorem St.del {s0 r : List UInt8} {b : B} {n m : Nat} (h : St s0 b n m r) (hr : b.rows.length = n) (hn : b.dels.length < m) {c : B} (ic : InR c) (hc : enc c = (s0, 0)) : ∃ x k, DelOk x /\ Rc.Rng x /\ Frm.allA (delF x :: k) = r := by
 obtain ⟨g, l, -, -, e3, e4, k, e5, e6⟩ := h.other ic hc
 have hi : b.dels.length < c.dels.length := by omega
 have hm := List.getElem_mem hi
 have hk : (allF c)[b.rows.length + b.dels.length + 1]? = some (delF c.dels[b.dels.length]) := by
  unfold allF frs
  rw [List.cons_append, List.getElem?_cons_succ, List.append_assoc, List.getElem?_append_right (by rw [List.length_map]; omega), List.length_map, List.getElem?_append_left (by rw [List.length_map]; omega), List.getElem?_map, show b.rows.length + b.dels.length - c.rows.length = b.dels.length by omega, List.getElem?_eq_getElem hi]; rfl
 rw [e5, List.getElem?_append_right (by simp)] at hk
 simp only [List.length_cons, List.length_append, List.length_map, Nat.sub_self] at hk
 cases k with
 | nil => simp at hk
 | cons f k =>
  simp only [List.getElem?_cons_zero, Option.some.injEq] at hk
  subst hk
  exact ⟨_, k, g.dels _ hm, ic.dels _ hm, e6⟩
theorem St.del_no {s0 : List UInt8} {b : B} {n m : Nat} {s : ByteArray} (h : St s0 b n m s.data.toList) (hr : b.rows.length = n) (hn : b.dels.length < m) (hg : (Frm.gotF s).err ≠ 0 \/ (Frm.gotF s).kind ≠ 4) : Not s0 := fun c ic hc => by
 obtain ⟨x, k, h1, h2, h3⟩ := h.del hr hn ic hc
 have := front_got h3 (show 1 <= 4 by decide) (show 4 <= 255 by decide) (delF_few h1)
 rw [this] at hg
 simp [delF] at hg
theorem del_dec {x : Rc.R} (h1 : DelOk x) (h2 : Rc.Rng x) : Rc.dec (bts (Rc.encB x)).data.toList = (x, 0) := by rw [bts_list]; exact Rc.dec_enc h1.2 h2
theorem St.del_bad {s0 : List UInt8} {b : B} {n m : Nat} {s : ByteArray} (h : St s0 b n m s.data.toList) (hr : b.rows.length = n) (hn : b.dels.length < m) (hg : (Rc.dec (Frm.gotF s).data.data.toList).2 ≠ 0 \/ (Rc.dec (Frm.gotF s).data.data.toList).1.kind ≠ 2) : Not s0 := fun c ic hc => by
 obtain ⟨x, k, h1, h2, h3⟩ := h.del hr hn ic hc
 have := front_got h3 (show 1 <= 4 by decide) (show 4 <= 255 by decide) (delF_few h1)
 rw [this] at hg
 simp only [delF] at hg
 rw [del_dec h1 h2] at hg
 have := h1.1
 rcases hg with hg | hg
 ·exact hg rfl
 ·exact hg this
theorem St.del_step {s0 : List UInt8} {b : B} {n m : Nat} {s : ByteArray} (h : St s0 b n m s.data.toList) (hr : b.rows.length = n) (hn : b.dels.length < m) (he : (Frm.gotF s).err = 0) (hk : (Frm.gotF s).kind = 4) {x : Rc.R} (hx : Rc.dec (Frm.gotF s).data.data.toList = (x, 0)) (h2 : x.kind = 2) :
  St s0 ⟨b.first, b.til, b.rows, b.dels ++ [x]⟩ n m (s.data.toList.drop (Frm.gotF s).size) := by
 have k1 := h.fr.next he
 obtain ⟨d1, d2, d3⟩ := Rc.dec_back hx
 have e1 : ((Frm.gotF s).kind, (Frm.gotF s).data) = delF x := by
  unfold delF; rw [hk, d2]
  exact Prod.ext rfl (bts_eq rfl)
 refine ⟨?_, h.lo, h.hi, h.rows, fun y hy => ?_, ?_⟩
 ·rw [e1] at k1
  simpa using k1
 ·rcases List.mem_append.1 hy with hy | hy
  ·exact h.dels y hy
  ·rw [List.mem_singleton.1 hy]; exact ⟨⟨h2, d1⟩, d3⟩
 ·refine ⟨h.cnt.1, ?_, .inr hr⟩
  simp only [List.length_append, List.length_singleton]; omega
theorem St.inR {s0 r : List UInt8} {b : B} {n m : Nat} (h : St s0 b n m r) : InR b := by
 have := h.cnt
 have := h.hi
 exact ⟨fun x hx => (h.rows x hx).1.inn, fun x hx => (h.dels x hx).2, by omega, by omega⟩
theorem St.notLong {s0 r : List UInt8} {b : B} {n m : Nat} (h : St s0 b n m r) : ¬ Long b := by
 rintro ⟨x, hx, hl⟩
 have := (h.rows x hx).2
 omega
theorem St.allIs {s0 r : List UInt8} {b : B} {n m : Nat} (h : St s0 b n m r) (hr : b.rows.length = n) (hd : b.dels.length = m) : s0 = Frm.allA (frs b) ++ r := by
 have := h.fr.is
 rw [this, frs, headF, headL, headN, hr, hd]
theorem St.yes {s0 r : List UInt8} {b : B} {n m : Nat} (h : St s0 b n m r) (hr : b.rows.length = n) (hd : b.dels.length = m) (he : r = Frm.allA [endF (Frm.allA (frs b))]) (hc : chk b = 0) : Dec s0 b 0 := by
 refine .inl ⟨rfl, ?_, h.inR⟩
 rw [enc_ok hc h.notLong, code_cut, h.allIs hr hd, he]
theorem St.same {s0 r : List UInt8} {b : B} {n m : Nat} (h : St s0 b n m r) (hr : b.rows.length = n) (hd : b.dels.length = m) {c : B} (ic : InR c) (hc : enc c = (s0, 0)) : c = b /\ r = Frm.allA [endF (Frm.allA (frs b))] := by
 obtain ⟨g, l, e1, e2, e3, e4, k, e5, e6⟩ := h.other ic hc
 have hcn := congrArg List.length e5
 simp only [allF_len, List.length_append, List.length_cons, List.length_map] at hcn
 unfold allF frs at e5
 rw [List.cons_append, List.cons_append] at e5
 replace e5 := (List.cons.inj e5).2
 obtain ⟨f1, f2⟩ := List.append_inj e5 (by simp; omega)
 obtain ⟨g1, g2⟩ := List.append_inj f1 (by simp; omega)
 have r1 : c.rows = b.rows := map_inj (fun x hx y hy q => by
  have h1 : rowL x = rowL y := bts_inj (congrArg Prod.snd q)
  exact (h.rows y hy).1.one ⟨g.lab x hx, g.pts x hx, ic.rows x hx⟩ h1) g1
 have r2 : c.dels = b.dels := map_inj (fun x hx y hy q => by
  have h1 : Rc.encB x = Rc.encB y := bts_inj (congrArg Prod.snd q)
  have k1 := Rc.dec_enc (g.dels x hx).2 (ic.dels x hx)
  rw [h1, Rc.dec_enc (h.dels y hy).1.2 (h.dels y hy).2] at k1
  simp only [Prod.mk.injEq, and_true] at k1
  exact k1.symm) g2
 have hcb : c = b := by
  obtain ⟨a1, a2, a3, a4⟩ := c
  obtain ⟨b1, b2, b3, b4⟩ := b
  simp only at e1 e2 r1 r2
  rw [e1, e2, r1, r2]
 refine ⟨hcb, ?_⟩
 rw [<- e6, <- f2, <- hcb]; rfl
theorem St.end_no {s0 r : List UInt8} {b : B} {n m : Nat} (h : St s0 b n m r) (hr : b.rows.length = n) (hd : b.dels.length = m) (he : r ≠ Frm.allA [endF (Frm.allA (frs b))]) : Not s0 := fun c ic hc => he (h.same hr hd ic hc).2
theorem St.chk_no {s0 r : List UInt8} {b : B} {n m : Nat} (h : St s0 b n m r) (hr : b.rows.length = n) (hd : b.dels.length = m) (he : chk b ≠ 0) : Not s0 := fun c ic hc => by
 obtain ⟨g, -, -⟩ := enc_is hc
 rw [(h.same hr hd ic hc).1] at g
 exact he (chk_zero.2 g)
theorem head_no {s0 : List UInt8} {s : ByteArray} (h : s.data.toList = s0) (hg : (Frm.gotF s).err ≠ 0 \/ (Frm.gotF s).kind ≠ 2) : Not s0 := fun c ic hc => by
 obtain ⟨g, l, e⟩ := enc_is hc
 have := front_got (f := headF c) (k := c.rows.map rowF ++ c.dels.map delF ++ [endF (Frm.allA (frs c))]) (s := s) (by rw [h, <- e]; rfl) (show 1 <= 2 by decide) (show 2 <= 255 by decide) (by show (bts (headL c)).size <= _; rw [bts_size]; have := headL_len c; omega)
 rw [this] at hg
 simp [headF] at hg
theorem head_data {s0 : List UInt8} {s : ByteArray} (h : s.data.toList = s0) {c : B} (ic : InR c) (hc : enc c = (s0, 0)) : (Frm.gotF s).data.data.toList = headL c /\ ¬ badSpan c := by
 obtain ⟨g, l, e⟩ := enc_is hc
 have := front_got (f := headF c) (k := c.rows.map rowF ++ c.dels.map delF ++ [endF (Frm.allA (frs c))]) (s := s) (by rw [h, <- e]; rfl) (show 1 <= 2 by decide) (show 2 <= 255 by decide) (by show (bts (headL c)).size <= _; rw [bts_size]; have := headL_len c; omega)
 rw [this]
 exact ⟨bts_list _, g.span⟩
def Four (d : List UInt8) (f t n m : Nat) : Prop := ∃ r1 r2 r3, Rc.numR d = .ok (f, r1) /\ Rc.numR r1 = .ok (t, r2) /\ Rc.numR r2 = .ok (n, r3) /\ Rc.numR r3 = .ok (m, [])
theorem four_enc {f t n m : Nat} (h1 : f < 18446744073709551616) (h2 : t < 18446744073709551616) (h3 : n < 18446744073709551616) (h4 : m < 18446744073709551616) : Four (headN f t n m) f t n m := by
 refine ⟨_, _, _, Rc.num_enc f h1 _, Rc.num_enc t h2 _, Rc.num_enc n h3 _, ?_⟩
 have := Rc.num_enc m h4 []
 rw [List.append_nil] at this
 exact this
theorem four_back {d : List UInt8} {f t n m : Nat} (h : Four d f t n m) : d = headN f t n m /\ f < 18446744073709551616 /\ t < 18446744073709551616 /\ n < 18446744073709551616 /\ m < 18446744073709551616 := by
 obtain ⟨r1, r2, r3, h1, h2, h3, h4⟩ := h
 obtain ⟨a1, b1⟩ := Rc.num_back h1
 obtain ⟨a2, b2⟩ := Rc.num_back h2
 obtain ⟨a3, b3⟩ := Rc.num_back h3
 obtain ⟨a4, b4⟩ := Rc.num_back h4
 rw [List.append_nil] at a4
 exact ⟨by rw [a1, a2, a3, a4]; rfl, b1, b2, b3, b4⟩
theorem head_four {s0 : List UInt8} {s : ByteArray} (h : s.data.toList = s0) {c : B} (ic : InR c) (hc : enc c = (s0, 0)) : ∃ f t n m, Four (Frm.gotF s).data.data.toList f t n m /\ f <= 99999999 /\ t <= 99999999 := by
 obtain ⟨e, hb⟩ := head_data h ic hc
 unfold badSpan at hb
 rw [e]
 exact ⟨_, _, _, _, four_enc (f := c.first.toNat) (t := c.til.toNat) (by omega) (by omega) ic.few ic.few2, by omega, by omega⟩
theorem head_bad {s0 : List UInt8} {s : ByteArray} (h : s.data.toList = s0) (hf : ∀ f t n m, Four (Frm.gotF s).data.data.toList f t n m -> f <= 99999999 -> t <= 99999999 -> False) : Not s0 := fun c ic hc => by
 obtain ⟨f, t, n, m, h1, h2, h3⟩ := head_four h ic hc
 exact hf f t n m h1 h2 h3
theorem St.start {s0 : List UInt8} {s : ByteArray} (h : s.data.toList = s0) (he : (Frm.gotF s).err = 0) (hk : (Frm.gotF s).kind = 2) {f t n m : Nat} (h4 : Four (Frm.gotF s).data.data.toList f t n m) (hf : f <= 99999999) (ht : t <= 99999999) : St s0 ⟨f, t, [], []⟩ n m (s.data.toList.drop (Frm.gotF s).size) := by
 obtain ⟨e, -, -, hn, hm⟩ := four_back h4
 have k1 := (FrTo.start s.data.toList).next (s := s) he
 have e1 : ((Frm.gotF s).kind, (Frm.gotF s).data) = (2, bts (headN f t n m)) := by
  rw [hk, <- e]
  exact Prod.ext rfl (bts_eq rfl)
 rw [e1, h] at k1
 refine ⟨?_, ⟨by simp only; omega, by simp only; omega, by simp only; omega, by simp only; omega⟩, ⟨hn, hm⟩, fun x hx => (by cases hx), fun x hx => (by cases hx), Nat.zero_le _, Nat.zero_le _, .inl rfl⟩
 rw [h]
 exact k1
end Bk
end
section
open Go.RowKit Go.Sort
namespace Bk
open Bit Dsk Ob Dig
theorem ptsOf {w : World} {S : Nat -> Prop} {v : Value} {l : List Pt} (h : Ck.View w S v l) : Rw.View Hd.layP w S v l := by
 obtain ⟨A, c, rfl, h1, h2, h3⟩ := h
 refine ⟨A, c, rfl, h1, h2, fun hp => ?_⟩
 obtain ⟨b, off, k1, k2, k3⟩ := h3 hp
 refine ⟨b, off, k1, k2, fun i hi t u hu => ?_⟩
 obtain ⟨q1, q2⟩ := k3 i hi
 match t, hu with
 | 0, hu => exact (show some u = some (Value.int .i64 l[i].1) from hu.symm) ▸ q1
 | 1, hu => exact (show some u = some (Value.int .u64 (l[i].2 : Int)) from hu.symm) ▸ q2
def TriO (T : TypeId) (g : Nat) (a b c : Value) : Ob.Rel := fun w S => Mt.Three T g a b c w /\ ∀ x, S x ↔ x = g
theorem thingTri (T : TypeId) (g : Nat) (a b c : Value) : Thing (TriO T g a b c) := ⟨fun w w' S h hk _ => ⟨(hk g ((h.2 g).2 rfl)).trans h.1, h.2⟩, fun w S h x hx => by rw [(h.2 x).1 hx]; exact (Array.getElem?_eq_some_iff.1 h.1).1⟩
theorem triMade {I : Ob.Rel} (hI : Thing I) {w0 w : World} (H : Own I w0 w) (a b c : Value) (T : TypeId) : Own (Tens I (TriO T w.heap.size a b c)) w0 (w.alloc (.cells #[a, b, c] T (0, 0))) :=
 Own.new hI H (T := fun x => x = w.heap.size) ⟨cell_new w _, fun _ => Iff.rfl⟩ (fun x hx => by rw [hx]; exact Nat.le_refl _) ((Upon.refl _ w).alloc _)
theorem triSee {I J L : Ob.Rel} (hI : Thing I) (hJ : Thing J) (hL : Thing L) {T : TypeId} {g : Nat} {a b c : Value} {w0 w : World} (H : Own (Tens I (Tens (Tens J (TriO T g a b c)) L)) w0 w) : Mt.Three T g a b c w := by
 obtain ⟨A, hA, -⟩ := Rc.inBox hI hJ hL H
 exact hA.1
theorem triSet {I J L : Ob.Rel} (hI : Thing I) (hJ : Thing J) (hL : Thing L) {T : TypeId} {g : Nat} {a b c : Value} {w0 w : World} (H : Own (Tens I (Tens (Tens J (TriO T g a b c)) L)) w0 w) (x : Value) : Own (Tens I (Tens (Tens J (TriO T g a b x)) L)) w0 (w.setCell ⟨g, 2, none⟩ x) := by
 obtain ⟨A, hA, go⟩ := Rc.inBox hI hJ hL H
 exact go _ _ ⟨⟨A, ⟨hA.1.set2 x, hA.2⟩, fun _ h => h, fun _ h => .inl h⟩, Upon.setCell (p := ⟨g, 2, none⟩) (Upon.refl A w) (.inl ((hA.2 g).2 rfl)) _⟩
theorem upon_set3 {S : Nat -> Prop} {w0 w : World} {g : Nat} (h : Upon S w0 w) (hg : S g \/ w0.heap.size <= g) (x y z : Value) : Upon S w0 (((w.setCell ⟨g, 0, none⟩ x).setCell ⟨g, 1, none⟩ y).setCell ⟨g, 2, none⟩ z) :=
 Upon.setCell (p := ⟨g, 2, none⟩) (Upon.setCell (p := ⟨g, 1, none⟩) (Upon.setCell (p := ⟨g, 0, none⟩) h hg _) hg _) hg _
def RowE (T : World) (sl : List UInt8) (e : Ending) (w' : World) : Prop := ∃ (sv pv : Rw.Sl) (t : Int) (b : Bool), e = .returned (.tuple #[.agg #[.slice sv.a sv.n sv.c, .int .i64 t, .slice pv.a pv.n pv.c], .bool b]) /\ New0 T w' /\ (b = false -> RowNot sl) /\
 (b = true -> ∃ r : Row, t = r.last /\ innB.rel w' (Lb.Nw T) ⟨sv, t, pv⟩ r /\ InRow r /\ Lb.Sml r.lab /\ r.lab.length * 32 <= 140737488351232 /\ r.pts.length <= 16 * sl.length /\ ∀ c, RowOk c -> rowL c = sl -> c = r)
theorem RowE.no {w w' : World} {sl : List UInt8} {A A' : Option Addr} {n n' c c' : Nat} {t : Int} (h : RowNot sl) (hu : New0 w w') : RowE w sl (.returned (.tuple #[.agg #[.slice A n c, .int .i64 t, .slice A' n' c'], .bool false])) w' :=
 ⟨⟨A, n, c⟩, ⟨A', n', c'⟩, t, false, rfl, hu, fun _ => h, fun h => by cases h⟩
theorem row_see {I K : Ob.Rel} {T : TypeId} {g : Nat} {a b c : Value} {w0 w : World} {sl pl : Rw.Sl} {ls : List Lb.Pr} {l : List Pt} (H : Own (Tens I (Tens (Tens (Tens K (Rc.LabO sl ls)) (TriO T g a b c)) (Rw.RowO Hd.layP 153 pl.v l))) w0 w) :
  Lb.View w (Lb.Nw w0) sl.v ls /\ Rw.View Hd.layP w (Lb.Nw w0) pl.v l := by
 obtain ⟨⟨S, ⟨A, B, h1, ⟨A2, B2, ⟨A3, B3, ⟨A4, B4, h6, h7, d4, e4⟩, h5, d3, e3⟩, h4, d2, e2⟩, d1, e1⟩, hn⟩, hb⟩ := H
 refine ⟨Rw.View.mono h7.1 fun x _ hx => hn x ((e1 x).2 (.inr ((e2 x).2 (.inl ((e3 x).2 (.inl ((e4 x).2 (.inr hx)))))))), Rw.View.mono h4.1.view fun x _ hx => hn x ((e1 x).2 (.inr ((e2 x).2 (.inr (h4.2.1 x hx)))))⟩
end Bk
end
section
open Go.RowKit Go.Sort
namespace Bk
open Bit Dsk Ob Dig
structure Qv where
 a : Value
 b : Value
 c : Value
 d : Value
def Quad (T : TypeId) (g : Nat) (v : Qv) (w : World) : Prop := w.heap[g]? = some (.cells #[v.a, v.b, v.c, v.d] T (0, 0))
section
variable {T : TypeId} {g : Nat} {v : Qv} {w w' : World}
theorem Quad.cells (h : Quad T g v w) : w.cell? ⟨g, 0, none⟩ = some v.a /\ w.cell? ⟨g, 1, none⟩ = some v.b /\ w.cell? ⟨g, 2, none⟩ = some v.c /\ w.cell? ⟨g, 3, none⟩ = some v.d :=
 ⟨by rw [Lib.cell_of_heap h]; rfl, by rw [Lib.cell_of_heap h]; rfl, by rw [Lib.cell_of_heap h]; rfl, by rw [Lib.cell_of_heap h]; rfl⟩
theorem Quad.frozen (h : Quad T g v w) (i : Nat) : w.frozen? ⟨g, i, none⟩ = false := by
 unfold Quad at h
 simp [World.frozen?, h]
theorem Quad.lt (h : Quad T g v w) : g < w.heap.size := (Array.getElem?_eq_some_iff.1 h).1
theorem Quad.set0 (h : Quad T g v w) (x : Value) : Quad T g { v with a := x } (w.setCell ⟨g, 0, none⟩ x) := by unfold Quad at *; simp [World.setCell, Array.getElem?_modify, h]
theorem Quad.set1 (h : Quad T g v w) (x : Value) : Quad T g { v with b := x } (w.setCell ⟨g, 1, none⟩ x) := by unfold Quad at *; simp [World.setCell, Array.getElem?_modify, h]
theorem Quad.set2 (h : Quad T g v w) (x : Value) : Quad T g { v with c := x } (w.setCell ⟨g, 2, none⟩ x) := by unfold Quad at *; simp [World.setCell, Array.getElem?_modify, h]
theorem Quad.set3 (h : Quad T g v w) (x : Value) : Quad T g { v with d := x } (w.setCell ⟨g, 3, none⟩ x) := by unfold Quad at *; simp [World.setCell, Array.getElem?_modify, h]
def setQuad (g : Nat) (v : Qv) (w : World) : World := (((w.setCell ⟨g, 0, none⟩ v.a).setCell ⟨g, 1, none⟩ v.b).setCell ⟨g, 2, none⟩ v.c).setCell ⟨g, 3, none⟩ v.d
theorem Quad.setAll (h : Quad T g v w) (x : Qv) : Quad T g x (setQuad g x w) := (((h.set0 x.a).set1 x.b).set2 x.c).set3 x.d
theorem Quad.roads (h : Quad T g v w) (x : Qv) :
  ((w.setCell ⟨g, 0, none⟩ x.a).cell? ⟨g, 1, none⟩ = some v.b /\ (w.setCell ⟨g, 0, none⟩ x.a).frozen? ⟨g, 1, none⟩ = false) /\
  (((w.setCell ⟨g, 0, none⟩ x.a).setCell ⟨g, 1, none⟩ x.b).cell? ⟨g, 2, none⟩ = some v.c /\ ((w.setCell ⟨g, 0, none⟩ x.a).setCell ⟨g, 1, none⟩ x.b).frozen? ⟨g, 2, none⟩ = false) /\
  ((((w.setCell ⟨g, 0, none⟩ x.a).setCell ⟨g, 1, none⟩ x.b).setCell ⟨g, 2, none⟩ x.c).cell? ⟨g, 3, none⟩ = some v.d /\ (((w.setCell ⟨g, 0, none⟩ x.a).setCell ⟨g, 1, none⟩ x.b).setCell ⟨g, 2, none⟩ x.c).frozen? ⟨g, 3, none⟩ = false) := by
 have h1 := h.set0 x.a
 have h2 := h1.set1 x.b
 have h3 := h2.set2 x.c
 exact ⟨⟨h1.cells.2.1, h1.frozen 1⟩, ⟨h2.cells.2.2.1, h2.frozen 2⟩, ⟨h3.cells.2.2.2, h3.frozen 3⟩⟩
theorem Quad.upon {U : Nat -> Prop} (h : Quad T g v w) (hu : Upon U w w') (hn : ¬ U g) : Quad T g v w' := (hu.block g h.lt hn).trans h
theorem Quad.new (h : Quad T g v w) (hu : New0 w w') : Quad T g v w' := h.upon hu fun f => f
theorem Quad.grown {k : Option Nat} (h : Quad T g v w) (hg : w.grownBy w' k) (hk : some g ≠ k) : Quad T g v w' := (hg.block g h.lt hk).trans h
theorem upon_setQuad {U : Nat -> Prop} (hu : Upon U w w') (hg : U g \/ w.heap.size <= g) (x : Qv) : Upon U w (setQuad g x w') :=
 (((hu.setCell (p := ⟨g, 0, none⟩) hg _).setCell (p := ⟨g, 1, none⟩) hg _).setCell (p := ⟨g, 2, none⟩) hg _).setCell (p := ⟨g, 3, none⟩) hg _
end
theorem typR : Rw.Typ layB 29 79 56 := Rw.Typ.mk' (z := .agg #[.slice none 0 0, .int .i64 0, .slice none 0 0]) Tryz.underlying29 (by kernel_rfl) rfl
theorem typW : Rw.Typ layB 22 63 56 := Rw.Typ.mk' (z := .agg #[.slice none 0 0, .int .i64 0, .slice none 0 0]) Tryz.underlying22 (by kernel_rfl) rfl
theorem bmine_one (T : TypeId) (w : World) (x : RB) : Rw.Mine layB T (w.alloc (.cells #[x.s.v, .int .i64 x.t, x.p.v] T (0, 0))) (.slice (some ⟨w.heap.size, 0, none⟩) 1 1) [x] :=
 ⟨by simp [Rw.cells, layB], .inr ⟨w.heap.size, 1, _, rfl, Nat.zero_le _, cell_new w _, Nat.le_refl _, by unfold maxLen; decide, by simp [layB], by simp [Rw.cells, layB]⟩⟩
theorem BsView.rows {w : World} {S : Nat -> Prop} {A : Option Addr} {n c : Nat} {l : List Row} (h : BsView w S (.slice A n c) l) : ∃ rs : List RB, rs.length = l.length /\ (∀ i (h1 : i < rs.length) (h2 : i < l.length), innB.rel w S rs[i] l[i]) /\
  (0 < l.length -> ∃ b off, A = some ⟨b, off, none⟩ /\ ∀ i (hi : i < rs.length), w.cell? ⟨b, off + i * 3, none⟩ = some rs[i].s.v /\ w.cell? ⟨b, off + i * 3 + 1, none⟩ = some (.int .i64 rs[i].t) /\ w.cell? ⟨b, off + i * 3 + 2, none⟩ = some rs[i].p.v) := by
 obtain ⟨rs, h1, h2, h3⟩ := h
 refine ⟨rs, h2, h3, fun hp => ?_⟩
 obtain ⟨A', c', e, k1, k2⟩ := Rw.View.shape h1
 injection e with e1 e2 e3
 obtain ⟨b, off, m1, m2, m3, m4⟩ := Rw.View.open (e2 ▸ h1) (by omega)
 exact ⟨b, off, m1, fun i hi => ⟨m4 i hi 0 _ rfl, m4 i hi 1 _ rfl, m4 i hi 2 _ rfl⟩⟩
set_option maxHeartbeats 12800000 in
theorem from_any (w : World) (v : Value) (b : B) (hv : BView w (fun _ => True) v b) (hb : Bnd b) :
  Calls Tryz.prog 10 #[v] w fun e w' => ∃ u, e = .returned u /\ BView w' (fun _ => True) u b /\ New0 w w' := by
 obtain ⟨A, c, A', c', rfl, hr, hd⟩ := BView.shape hv
 have hfew := hb.few
 obtain ⟨f, t, l, ds⟩ := b
 simp only at hr hd hfew ⊢
 obtain ⟨src, hsl, hrel0, hcells⟩ := BsView.rows hr
 clear hr hv hb
 obtain ⟨wa, hwa⟩ : ∃ wa, w.alloc (.cells #[.int .i64 f, .int .i64 t, .slice A l.length c, .slice A' ds.length c'] 25 (0, 0)) = wa := ⟨_, rfl⟩
 obtain ⟨wy, hwy⟩ : ∃ wy, wa.alloc (.cells #[.int .i64 0, .int .i64 0, .slice none 0 0, .slice none 0 0] 31 (0, 0)) = wy := ⟨_, rfl⟩
 obtain ⟨wb, hwb⟩ : ∃ wb, wy.alloc (.cells #[.int .i64 f, .int .i64 t, .slice none 0 0, .slice A' ds.length c'] 31 (0, 0)) = wb := ⟨_, rfl⟩
 have sa : wa.heap.size = w.heap.size + 1 := by rw [<- hwa]; simp
 have sy : wy.heap.size = w.heap.size + 1 + 1 := by rw [<- hwy]; simp [sa]
 have sb : wb.heap.size = w.heap.size + 3 := by rw [<- hwb]; simp [sy]
 have ua : New0 w wa := by rw [<- hwa]; exact (Upon.refl _ w).alloc _
 have uy : New0 wa wy := by rw [<- hwy]; exact (Upon.refl _ wa).alloc _
 have ub : New0 wy wb := by rw [<- hwb]; exact (Upon.refl _ wy).alloc _
 have hX0 : Quad 25 w.heap.size ⟨.int .i64 f, .int .i64 t, .slice A l.length c, .slice A' ds.length c'⟩ wa := by rw [<- hwa]; exact cell_new w _
 have hX := hX0.new (uy.trans ub)
 have hY0 : Quad 31 (w.heap.size + 1) ⟨.int .i64 0, .int .i64 0, .slice none 0 0, .slice none 0 0⟩ wy := by rw [<- hwy, <- sa]; exact cell_new wa _
 have hY := hY0.new ub
 have hZ : Quad 31 (w.heap.size + 1 + 1) ⟨.int .i64 f, .int .i64 t, .slice none 0 0, .slice A' ds.length c'⟩ wb := by rw [<- hwb, <- sy]; exact cell_new wy _
 have hw0 : Hid (((w.alloc (.cells #[.int .i64 f, .int .i64 t, .slice A l.length c, .slice A' ds.length c'] 25 (0, 0))).alloc (.cells #[.int .i64 0, .int .i64 0, .slice none 0 0, .slice none 0 0] 31 (0, 0))) = wy) := Lib.hid (by rw [hwa, hwy])
 have hU := Lib.hid ((ua.trans uy).trans ub)
 have hXc := hX0.new uy
 obtain ⟨k0, k1, k2, k3⟩ := hXc.cells
 replace hX := Lib.hid hX
 replace hY := Lib.hid hY
 replace hZ := Lib.hid hZ
 replace hrel0 := Lib.hid hrel0
 replace hcells := Lib.hid hcells
 replace hwb := Lib.hid hwb
 replace hd := Lib.hid hd
 clear hwa hwy ua uy ub hX0 hY0 hXc
 go_enter Tryz.func10, Tryz.ntmps10
 go_wp2_with fail
 rw [hw0.out, hwb.out]
 clear k0 k1 k2 k3 hw0 hwb
 go_loopw [4] (fun ov wr => ∃ (j : Nat) (uv : Value), ov = .int .i64 (j : Int) /\ j <= l.length /\ Hid (Rw.Mine layB 79 wr uv (src.take j)) /\ Hid (∀ g, uv.ownBlock = some g -> wb.heap.size <= g) /\ Hid (Quad 31 (w.heap.size + 1 + 1) ⟨.int .i64 f, .int .i64 t, uv, .slice A' ds.length c'⟩ wr) /\ Hid (Upon (fun k => k = w.heap.size + 1 + 1) wb wr)) (fun ov _ => l.length - (intOf ov).toNat)
 case atStart => exact ⟨0, .slice none 0 0, rfl, Nat.zero_le _, Lib.hid (by rw [List.take_zero]; exact Rw.Mine.nil _ _ _), Lib.hid (fun g h => by cases h), hZ, Lib.hid (Upon.refl _ _)⟩
 case round =>
  clear hZ
  obtain ⟨j, uv, rfl, hj, hM, hbs, hZ, hu⟩ := hrel
  have hnw : Hid (New0 w wr) := Lib.hid (hU.out.trans' hu.out (fun i hi e => by omega))
  have hXr := hX.out.upon hu.out (by omega)
  have shu := hu.out.size
  obtain ⟨k0, k1, k2, k3⟩ := hXr.cells
  by_cases hlt : j < l.length
  ·obtain ⟨b0, off, rfl, hcl⟩ := hcells.out (by omega)
   have hjs : j < src.length := by omega
   obtain ⟨x0, x1, x2⟩ := hcl j hjs
   have r0 := Lb.New0.cells hnw.out x0
   have r1 := Lb.New0.cells hnw.out x1
   have r2 := Lb.New0.cells hnw.out x2
   have htk := List.take_succ_eq_append_getElem hjs
   have hln : (src.take j).length <= 2513169434842 := by rw [List.length_take]; omega
   obtain ⟨x, hx⟩ : ∃ x, src[j] = x := ⟨_, rfl⟩
   rw [hx] at r0 r1 r2 htk
   obtain ⟨⟨sa1, sn1, sc1⟩, xt, ⟨pa1, pn1, pc1⟩⟩ := x
   simp only at r0 r1 r2
   obtain ⟨Au, cu, hu', -, -⟩ := Rw.View.shape hM.out.view
   obtain ⟨xs, hxs⟩ : ∃ xs, src.take j = xs := ⟨_, rfl⟩
   rw [hxs] at hM htk hln hu'
   subst hu'
   have n1 := (Upon.refl (fun _ => False) wr).alloc (.cells #[.slice sa1 sn1 sc1, .int .i64 xt, .slice pa1 pn1 pc1] 63 (0, 0))
   have n2 := n1.alloc (.cells #[.slice sa1 sn1 sc1, .int .i64 xt, .slice pa1 pn1 pc1] 79 (0, 0))
   have hM2 := Lib.hid (hM.out.new n2)
   have hV2 : Hid (Rw.Mine layB 79 ((wr.alloc (.cells #[.slice sa1 sn1 sc1, .int .i64 xt, .slice pa1 pn1 pc1] 63 (0, 0))).alloc (.cells #[.slice sa1 sn1 sc1, .int .i64 xt, .slice pa1 pn1 pc1] 79 (0, 0))) (.slice (some ⟨wr.heap.size + 1, 0, none⟩) 1 1) [⟨⟨sa1, sn1, sc1⟩, xt, ⟨pa1, pn1, pc1⟩⟩]) := Lib.hid (by
    have := bmine_one 79 (wr.alloc (.cells #[.slice sa1 sn1 sc1, .int .i64 xt, .slice pa1 pn1 pc1] 63 (0, 0))) ⟨⟨sa1, sn1, sc1⟩, xt, ⟨pa1, pn1, pc1⟩⟩
    rw [show (wr.alloc (.cells #[.slice sa1 sn1 sc1, .int .i64 xt, .slice pa1 pn1 pc1] 63 (0, 0))).heap.size = wr.heap.size + 1 by simp] at this
    exact this)
   have hZ2 := hZ.out.new n2
   have hZ1 := hZ.out.new n1
   obtain ⟨q0, q1, q2, q3⟩ := hZ1.cells
   have hXw := box3 wr (.slice sa1 sn1 sc1) xt (.slice pa1 pn1 pc1) 63
   obtain ⟨p0, p1, p2⟩ := hXw
   replace hZ2 := Lib.hid hZ2
   have hu2 := Lib.hid (hu.out.trans' n2 (fun i _ f => f.elim))
   clear hcl x0 x1 x2 hx hxs n1 n2 hZ1 hZ hM hu hXr
   go_wp2_with (at_builtin; refine Rw.wpList_append typR rfl _ _ rfl _ _ xs [(⟨⟨sa1, sn1, sc1⟩, xt, ⟨pa1, pn1, pc1⟩⟩ : RB)] _ rfl rfl hM2.out hV2.out.view (by rw [List.length_singleton]; omega) (by rw [List.length_singleton]; omega) ?_)
   intro v6 w6 hown hgr hbl
   have hq : (Value.slice Au xs.length cu).ownBlock ≠ some (w.heap.size + 1 + 1) := fun e => by have := hbs.out _ e; omega
   have hZ6 := hZ2.out.grown hgr (fun e => hq e.symm)
   have hbs6 : Hid (∀ g, v6.ownBlock = some g -> wb.heap.size <= g) := Lib.hid (fun g hg => by
    rcases hbl with h | h
    ·exact hbs.out g (h.symm.trans hg)
    ·rw [h] at hg
     injection hg with hg
     first
      | omega
      | (simp at hg; omega))
   obtain ⟨Av, cv, hv', -, -⟩ := Rw.View.shape (show Rw.Mine layB 79 w6 v6 _ from hown).view
   obtain ⟨nv, hnv⟩ : ∃ n, (xs ++ [(⟨⟨sa1, sn1, sc1⟩, xt, ⟨pa1, pn1, pc1⟩⟩ : RB)]).length = n := ⟨_, rfl⟩
   rw [hnv] at hv'
   subst hv'
   obtain ⟨e0, e1, e2, e3⟩ := hZ6.cells
   have ef := hZ6.frozen 2
   have hZ7 := Lib.hid (hZ6.set2 (.slice Av nv cv))
   have us : Upon (fun k => k = w.heap.size + 1 + 1) w6 (w6.setCell ⟨w.heap.size + 1 + 1, 2, none⟩ (.slice Av nv cv)) := Upon.setCell (S := fun k => k = w.heap.size + 1 + 1) (p := ⟨w.heap.size + 1 + 1, 2, none⟩) (Upon.refl _ w6) (.inl rfl) _
   have hM7 := Lib.hid (Rw.Mine.upon (show Rw.Mine layB 79 w6 _ _ from hown) us (fun b hb e => by have := hbs6.out b hb; omega))
   have hu7 := Lib.hid ((Upon.grown hu2.out hgr (fun k hk => .inr (hbs.out k hk))).trans us)
   clear hown hgr hbl hq hZ6 us hnv hM2 hV2 hZ2 hu2 hbs
   go_wp2_with fail
   go_roundw
   case rel => exact ⟨j + 1, _, by go_num, hlt, by rw [htk]; exact hM7, hbs6, hZ7, hu7⟩
   case measure => simp [intOf]; omega
  ·have hje : src.take j = src := List.take_of_length_le (by omega)
   rw [hje] at hM
   have hYr := hY.out.upon hu.out (by omega)
   have hZr := hZ.out
   obtain ⟨Av, cv, hv', -, -⟩ := Rw.View.shape hM.out.view
   rw [hsl] at hv'
   subst hv'
   obtain ⟨e0, e1, e2, e3⟩ := hZr.cells
   obtain ⟨d0, d1, d2, d3⟩ := hYr.cells
   have z0 := hYr.frozen 0
   have z1 := hYr.frozen 1
   have z2 := hYr.frozen 2
   have z3 := hYr.frozen 3
   obtain ⟨⟨p1, r1⟩, ⟨p2, r2⟩, ⟨p3, r3⟩⟩ := hYr.roads ⟨.int .i64 f, .int .i64 t, .slice Av l.length cv, .slice A' ds.length c'⟩
   obtain ⟨wz, hwz⟩ : ∃ wz, setQuad (w.heap.size + 1) ⟨.int .i64 f, .int .i64 t, .slice Av l.length cv, .slice A' ds.length c'⟩ wr = wz := ⟨_, rfl⟩
   have hFz := (hYr.setAll ⟨.int .i64 f, .int .i64 t, .slice Av l.length cv, .slice A' ds.length c'⟩).cells
   rw [hwz] at hFz
   replace hFz := Lib.hid hFz
   have hAz : Upon (fun k => k = w.heap.size + 1) wr wz := by
    rw [<- hwz]
    exact upon_setQuad (U := fun k => k = w.heap.size + 1) (g := w.heap.size + 1) (Upon.refl _ wr) (Or.inl rfl) _
   have hNz : Hid (New0 w wz) := Lib.hid (hnw.out.trans' hAz (fun i hi e => by omega))
   have hMz : Rw.Mine layB 79 wz (.slice Av l.length cv) src := Rw.Mine.upon hM.out hAz (fun b hb e => by have := hbs.out b hb; omega)
   have hVz : Hid (BView wz (fun _ => True) (.agg #[.int .i64 f, .int .i64 t, .slice Av l.length cv, .slice A' ds.length c']) ⟨f, t, l, ds⟩) := Lib.hid
    ⟨⟨Av, l.length, cv⟩, ⟨A', ds.length, c'⟩, rfl, ⟨src, hMz.view.mono fun _ _ _ => trivial, hsl, fun i h1 h2 => innB.upon (hrel0.out i h1 h2) hNz.out fun _ _ f => f⟩, Rw.DView.upon hd.out hNz.out fun _ _ f => f⟩
   have hwz' : Hid ((((wr.setCell ⟨w.heap.size + 1, 0, none⟩ (.int .i64 f)).setCell ⟨w.heap.size + 1, 1, none⟩ (.int .i64 t)).setCell ⟨w.heap.size + 1, 2, none⟩ (.slice Av l.length cv)).setCell ⟨w.heap.size + 1, 3, none⟩ (.slice A' ds.length c') = wz) := Lib.hid hwz
   clear hwz hAz hMz hM hZ hYr hZr hu hbs hXr hcells hrel0 hnw
   go_wp2_with fail
   rw [hwz'.out]
   obtain ⟨s0, s1, s2, s3⟩ := hFz.out
   clear p1 r1 p2 r2 p3 r3 d0 d1 d2 d3 z0 z1 z2 z3 e0 e1 e2 e3 k0 k1 k2 k3
   refine bodyPost_ret (v := .agg #[.int .i64 f, .int .i64 t, .slice Av l.length cv, .slice A' ds.length c']) (by simp [results, Tryz.results10, go_sem, s0, s1, s2, s3]) rfl ?_
   exact ⟨_, rfl, hVz.out, hNz.out⟩
end Bk
end
section
open Go.RowKit Go.Sort
namespace Rw
open Bit Dsk Ob
end Rw
namespace Bk
open Bit Dsk Ob Dig
theorem typRC : Rw.Typ Hd.layRC 23 47 72 := Rw.Typ.mk' (z := .agg #[.int .i64 0, .slice none 0 0, .slice none 0 0, .int .i64 0, .int .i64 0]) Tryz.underlying23 (by kernel_rfl) rfl
theorem rmine_one (w : World) (x : Hd.RC) : Rw.Mine Hd.layRC 47 (w.alloc (.cells #[.int .i64 x.k, x.s.v, x.m.v, .int .i64 x.a, .int .i64 x.b] 47 (0, 0))) (.slice (some ⟨w.heap.size, 0, none⟩) 1 1) [x] :=
 ⟨by simp [Rw.cells, Hd.layRC], .inr ⟨w.heap.size, 1, _, rfl, Nat.zero_le _, cell_new w _, Nat.le_refl _, by unfold maxLen; decide, by simp [Hd.layRC], by simp [Rw.cells, Hd.layRC]⟩⟩
end Bk
end
section
open Go.RowKit Go.Sort
namespace Bk
open Bit Dsk Ob Dig
structure BOwn (T : TypeId) (lo : Nat) (w : World) (u : Value) (rs : List RB) (l : List Row) (d : Value) (ds : List Hd.RC) (m : List Rc.R) : Prop where
 row : Rw.Mine layB T w u rs
 del : Rw.Mine Hd.layRC 47 w d ds
 base : ∀ g, u.ownBlock = some g -> lo <= g
 base2 : ∀ g, d.ownBlock = some g -> lo <= g
 len : rs.length = l.length
 len2 : ds.length = m.length
 els : ∃ S : Nat -> Prop, (∀ i (h1 : i < rs.length) (h2 : i < l.length), innB.rel w S rs[i] l[i]) /\ (∀ i (h1 : i < ds.length) (h2 : i < m.length), Hd.innRC.rel w S ds[i] m[i]) /\ ∀ x, S x -> x < w.heap.size /\ lo <= x /\ u.ownBlock ≠ some x /\ d.ownBlock ≠ some x
theorem BOwn.start (T : TypeId) (lo : Nat) (w : World) : BOwn T lo w (.slice none 0 0) [] [] (.slice none 0 0) [] [] :=
 ⟨Rw.Mine.nil _ _ _, Rw.Mine.nil _ _ _, fun g hg => (by cases hg), fun g hg => (by cases hg), rfl, rfl, ⟨fun _ => False, fun i h1 => absurd h1 (by simp), fun i h1 => absurd h1 (by simp), fun x f => f.elim⟩⟩
section
variable {T : TypeId} {lo : Nat} {w w' : World} {u u' : Value} {rs : List RB} {l : List Row} {d d' : Value} {ds : List Hd.RC} {m : List Rc.R}
theorem BOwn.step {U : Nat -> Prop} (h : BOwn T lo w u rs l d ds m) (hu : Upon U w w') (hU : ∀ b, lo <= b -> ¬ U b) : BOwn T lo w' u rs l d ds m :=
 let ⟨S, h1, h2, h3⟩ := h.els
 ⟨Rw.Mine.upon h.row hu fun b hb => hU b (h.base b hb), Rw.Mine.upon h.del hu fun b hb => hU b (h.base2 b hb), h.base, h.base2, h.len, h.len2,
  ⟨S, fun i k1 k2 => innB.upon (h1 i k1 k2) hu fun x hx => hU x (h3 x hx).2.1, fun i k1 k2 => Hd.innRC.upon (h2 i k1 k2) hu fun x hx => hU x (h3 x hx).2.1, fun x hx => ⟨Nat.lt_of_lt_of_le (h3 x hx).1 hu.size, (h3 x hx).2⟩⟩⟩
theorem BOwn.new (h : BOwn T lo w u rs l d ds m) (hu : New0 w w') : BOwn T lo w' u rs l d ds m := h.step hu fun _ _ f => f
theorem BOwn.apart (h : BOwn T lo w u rs l d ds m) (hT : T ≠ 47) {g : Nat} (h1 : u.ownBlock = some g) : d.ownBlock ≠ some g := fun h2 => by
 obtain ⟨cs, e1⟩ := h.row.typ h1
 obtain ⟨cs2, e2⟩ := h.del.typ h2
 exact Hd.typ_ne hT e1 e2 rfl
theorem own_ne {v v' : Value} (hg : v'.ownBlock = v.ownBlock \/ v'.ownBlock = some w.heap.size) {x : Nat} (hx : x < w.heap.size) (hn : v.ownBlock ≠ some x) : v'.ownBlock ≠ some x := fun e => by
 rcases hg with hb | hb
 ·exact hn (hb.symm.trans e)
 ·rw [hb] at e
  injection e with e
  omega
theorem own_base {v v' : Value} {lo : Nat} (hlo : lo <= w.heap.size) (hb : ∀ g, v.ownBlock = some g -> lo <= g) (hg : v'.ownBlock = v.ownBlock \/ v'.ownBlock = some w.heap.size) : ∀ g, v'.ownBlock = some g -> lo <= g := fun g hk => by
 rcases hg with h | h
 ·exact hb g (h.symm.trans hk)
 ·rw [h] at hk
  injection hk with hk
  omega
theorem BOwn.addRow (h : BOwn T lo w u rs l d ds m) (hT : T ≠ 47) (hlo : lo <= w.heap.size) {a : RB} {r : Row} {S' : Nat -> Prop} (hx : innB.rel w S' a r) (hS : ∀ x, S' x -> x < w.heap.size /\ lo <= x /\ u.ownBlock ≠ some x /\ d.ownBlock ≠ some x)
  (hown : Rw.Mine layB T w' u' (rs ++ [a])) (hg : w.grownBy w' u.ownBlock) (hb : u'.ownBlock = u.ownBlock \/ u'.ownBlock = some w.heap.size) : BOwn T lo w' u' (rs ++ [a]) (l ++ [r]) d ds m := by
 obtain ⟨S, h1, h2, h3⟩ := h.els
 have hu : Upon (fun x => u.ownBlock = some x) w w' := Upon.grown (Upon.refl _ w) hg (fun k hk => .inl hk)
 refine ⟨hown, Rw.Mine.upon h.del hu fun b hb2 e => h.apart hT e hb2, own_base hlo h.base hb, h.base2, by simp [h.len], h.len2, ⟨fun x => S x \/ S' x, fun i k1 k2 => ?_, fun i k1 k2 => Hd.innRC.mono (Hd.innRC.upon (h2 i k1 k2) hu fun y hy e => (h3 y hy).2.2.1 e) fun y _ hy => .inl hy, fun x hx => ?_⟩⟩
 ·by_cases hi : i < rs.length
  ·rw [List.getElem_append_left hi, List.getElem_append_left (by have := h.len; omega)]
   exact innB.mono (innB.upon (h1 i hi (by have := h.len; omega)) hu fun y hy e => (h3 y hy).2.2.1 e) fun y _ hy => .inl hy
  ·have e : i = rs.length := by rw [List.length_append, List.length_singleton] at k1; omega
   subst e
   have e1 : (rs ++ [a])[rs.length]'k1 = a := by simp
   have e2 : (l ++ [r])[rs.length]'k2 = r := by
    have : (l ++ [r])[l.length]'(by simp) = r := by simp
    simp only [h.len]; exact this
   rw [e1, e2]
   exact innB.mono (innB.upon hx hu fun y hy e => (hS y hy).2.2.1 e) fun y _ hy => .inr hy
 ·rcases hx with hx | hx
  ·obtain ⟨k1, k2, k3, k4⟩ := h3 x hx
   exact ⟨Nat.lt_of_lt_of_le k1 hu.size, k2, own_ne hb k1 k3, k4⟩
  ·obtain ⟨k1, k2, k3, k4⟩ := hS x hx
   exact ⟨Nat.lt_of_lt_of_le k1 hu.size, k2, own_ne hb k1 k3, k4⟩
theorem BOwn.addDel (h : BOwn T lo w u rs l d ds m) (hT : T ≠ 47) (hlo : lo <= w.heap.size) {a : Hd.RC} {r : Rc.R} {S' : Nat -> Prop} (hx : Hd.innRC.rel w S' a r) (hS : ∀ x, S' x -> x < w.heap.size /\ lo <= x /\ u.ownBlock ≠ some x /\ d.ownBlock ≠ some x)
  (hown : Rw.Mine Hd.layRC 47 w' d' (ds ++ [a])) (hg : w.grownBy w' d.ownBlock) (hb : d'.ownBlock = d.ownBlock \/ d'.ownBlock = some w.heap.size) : BOwn T lo w' u rs l d' (ds ++ [a]) (m ++ [r]) := by
 obtain ⟨S, h1, h2, h3⟩ := h.els
 have hu : Upon (fun x => d.ownBlock = some x) w w' := Upon.grown (Upon.refl _ w) hg (fun k hk => .inl hk)
 refine ⟨Rw.Mine.upon h.row hu fun b hb2 e => h.apart hT hb2 e, hown, h.base, own_base hlo h.base2 hb, h.len, by simp [h.len2], ⟨fun x => S x \/ S' x, fun i k1 k2 => innB.mono (innB.upon (h1 i k1 k2) hu fun y hy e => (h3 y hy).2.2.2 e) fun y _ hy => .inl hy, fun i k1 k2 => ?_, fun x hx => ?_⟩⟩
 ·by_cases hi : i < ds.length
  ·rw [List.getElem_append_left hi, List.getElem_append_left (by have := h.len2; omega)]
   exact Hd.innRC.mono (Hd.innRC.upon (h2 i hi (by have := h.len2; omega)) hu fun y hy e => (h3 y hy).2.2.2 e) fun y _ hy => .inl hy
  ·have e : i = ds.length := by rw [List.length_append, List.length_singleton] at k1; omega
   subst e
   have e1 : (ds ++ [a])[ds.length]'k1 = a := by simp
   have e2 : (m ++ [r])[ds.length]'k2 = r := by
    have : (m ++ [r])[m.length]'(by simp) = r := by simp
    simp only [h.len2]; exact this
   rw [e1, e2]
   exact Hd.innRC.mono (Hd.innRC.upon hx hu fun y hy e => (hS y hy).2.2.2 e) fun y _ hy => .inr hy
 ·rcases hx with hx | hx
  ·obtain ⟨k1, k2, k3, k4⟩ := h3 x hx
   exact ⟨Nat.lt_of_lt_of_le k1 hu.size, k2, k3, own_ne hb k1 k4⟩
  ·obtain ⟨k1, k2, k3, k4⟩ := hS x hx
   exact ⟨Nat.lt_of_lt_of_le k1 hu.size, k2, k3, own_ne hb k1 k4⟩
theorem BOwn.view (h : BOwn T lo w u rs l d ds m) : BsView w (fun b => lo <= b) u l /\ Hd.RsView w (fun b => lo <= b) d m := by
 obtain ⟨S, h1, h2, h3⟩ := h.els
 exact ⟨⟨rs, h.row.view.mono fun b _ hb => h.base b hb, h.len, fun i k1 k2 => innB.mono (h1 i k1 k2) fun x _ hx => (h3 x hx).2.1⟩, ⟨ds, h.del.view.mono fun b _ hb => h.base2 b hb, h.len2, fun i k1 k2 => Hd.innRC.mono (h2 i k1 k2) fun x _ hx => (h3 x hx).2.1⟩⟩
theorem BOwn.fresh (h : BOwn T lo w u rs l d ds m) (hlo : lo <= w.heap.size) : ∀ x, (Lb.Nw w x /\ x < w'.heap.size) -> x < w'.heap.size /\ lo <= x /\ u.ownBlock ≠ some x /\ d.ownBlock ≠ some x := fun x hx => by
 have h1 := hx.1
 unfold Lb.Nw at h1
 exact ⟨hx.2, by omega, fun e => by have := Rw.Mine.lt h.row e; omega, fun e => by have := Rw.Mine.lt h.del e; omega⟩
end
end Bk
end
end Go.Proofs.YtgmnhodajngchaaGreatDoor
