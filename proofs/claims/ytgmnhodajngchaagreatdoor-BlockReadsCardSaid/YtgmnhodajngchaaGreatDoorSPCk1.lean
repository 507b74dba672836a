/- Parts: PCk1. -/
import Derived.Test.YtgmnhodajngchaaGreatDoorSPTm1
import Derived.Test.YtgmnhodajngchaaGreatDoorSPXor2
import Derived.Test.YtgmnhodajngchaaGreatDoorSPDig
import Derived.Test.YtgmnhodajngchaaGreatDoorSArgNums
import Derived.Test.YtgmnhodajngchaaGreatDoorSPBit3
import Derived.Deep.AppendLies
import Derived.BigQuiet
import Derived.Test.YtgmnhodajngchaaGreatDoorSPObj
import Derived.Lib.QuietBelow
set_option maxRecDepth 100000
set_option linter.unusedVariables false
namespace Go.Proofs.YtgmnhodajngchaaGreatDoor
section
section
namespace Ck
open Bit Dig
abbrev Pt := Int × Nat
def PtIn (p : Pt) : Prop := Tm.In p.1 /\ p.2 < 18446744073709551616
abbrev C2 := Tm.Cd × Xr.Cd
def c0 : C2 := (Tm.newC, Xr.newC)
def stp (c : C2) (p : Pt) : C2 := (Tm.putC c.1 p.1, Xr.putC c.2 p.2)
def ptB (c : C2) (p : Pt) : List Bool := Tm.putB c.1 p.1 ++ Xr.putB c.2 p.2
structure Ok2 (c : C2) : Prop where
 t : c.1.Ok
 v : c.2.Ok
 fresh : c.2.begun = false -> c.2.v = 0
theorem ok0 : Ok2 c0 := ⟨Tm.ok_new, Xr.ok_new, fun _ => rfl⟩
theorem Ok2.put {c : C2} (h : Ok2 c) {p : Pt} (hp : PtIn p) : Ok2 (stp c p) := ⟨h.t.put hp.1, h.v.put hp.2, fun hb => by
 have h1 : (stp c p).2.begun = true := Xr.putC_begun c.2 p.2
 rw [h1] at hb; cases hb⟩
def stps (c : C2) : List Pt -> C2
 | [] => c
 | p :: l => stps (stp c p) l
def ptsB (c : C2) : List Pt -> List Bool
 | [] => []
 | p :: l => ptB c p ++ ptsB (stp c p) l
theorem stps_snoc (p : Pt) : ∀ (l : List Pt) (c : C2), stps c (l ++ [p]) = stp (stps c l) p
 | [], _ => rfl
 | _ :: l, c => stps_snoc p l _
theorem ptsB_snoc (p : Pt) : ∀ (l : List Pt) (c : C2), ptsB c (l ++ [p]) = ptsB c l ++ ptB (stps c l) p
 | [], c => by simp [ptsB, stps]
 | a :: l, c => by simp only [List.cons_append, ptsB, stps, ptsB_snoc p l, List.append_assoc]
theorem stps_ok : ∀ (l : List Pt) {c : C2}, Ok2 c -> (∀ p ∈ l, PtIn p) -> Ok2 (stps c l)
 | [], _, h, _ => h
 | v :: l, _, h, k => stps_ok l (h.put (k v (by simp))) fun u hu => k u (by simp [hu])
theorem ptB_len (c : C2) (p : Pt) : (ptB c p).length <= 145 := by
 have h1 := Tm.putB_len (c := c.1) p.1
 have h2 := Xr.putB_len (c := c.2) p.2
 unfold ptB
 rw [List.length_append]; omega
theorem ptsB_len : ∀ (l : List Pt) (c : C2), (ptsB c l).length <= 145 * l.length
 | [], _ => by simp [ptsB]
 | v :: l, c => by
  have h1 := ptB_len c v
  have h2 := ptsB_len l (stp c v)
  simp only [ptsB, List.length_append, List.length_cons]
  omega
theorem ptsB_take {l : List Pt} {j : Nat} (h : j < l.length) (c : C2) : ptsB c (l.take (j + 1)) = ptsB c (l.take j) ++ ptB (stps c (l.take j)) l[j] /\ stps c (l.take (j + 1)) = stp (stps c (l.take j)) l[j] := by
 rw [List.take_succ_eq_append_getElem h, ptsB_snoc, stps_snoc]
 exact ⟨rfl, rfl⟩
theorem tm_le {c : Tm.Cd} {K : List Bool} {t : Int} {n : Nat} (h : Tm.getR c K = some (t, n)) : n <= K.length /\ (Tm.putB c t).length = n /\ K.take n = Tm.putB c t := by
 unfold Tm.getR at h
 cases hg : Tm.guess c K with
 | none => rw [hg] at h; cases h
 | some x =>
  obtain ⟨t', n'⟩ := x
  rw [hg] at h
  simp only at h
  split at h
  ·rename_i e
   simp only [Option.some.injEq, Prod.mk.injEq] at h
   obtain ⟨rfl, rfl⟩ := h
   have hl := Tm.guess_le hg
   exact ⟨hl, by rw [e, List.length_take]; omega, e.symm⟩
  ·cases h
theorem xr_lt {c : Xr.Cd} (hc : c.Ok) {K : List Bool} {v n : Nat} (h : Xr.getR c K = some (v, n)) : v < 18446744073709551616 := by
 unfold Xr.getR at h
 cases hg : Xr.guess c K with
 | none => rw [hg] at h; cases h
 | some x =>
  obtain ⟨v', n'⟩ := x
  rw [hg] at h
  simp only at h
  split at h
  ·simp only [Option.some.injEq, Prod.mk.injEq] at h
   rw [<- h.1]
   exact Xr.guess_lt hc hg
  ·cases h
def rd1 (c : C2) (K : List Bool) : Option (Pt × List Bool) :=
 match Tm.getR c.1 K with
 | none => none
 | some (t, k) => match Xr.getR c.2 (K.drop k) with
  | none => none
  | some (v, j) => some ((t, v), (K.drop k).drop j)
theorem rd1_put {c : C2} (hc : Ok2 c) {p : Pt} (hp : PtIn p) (R : List Bool) : rd1 c (ptB c p ++ R) = some (p, R) := by
 unfold rd1 ptB
 rw [List.append_assoc, Tm.get_put hc.t hp.1]
 simp only [List.drop_left]
 rw [Xr.get_put hc.v hp.2]
 simp only [List.drop_left]
theorem rd1_is {c : C2} (hc : Ok2 c) {K R : List Bool} {p : Pt} (h : rd1 c K = some (p, R)) : K = ptB c p ++ R /\ PtIn p := by
 unfold rd1 at h
 cases h1 : Tm.getR c.1 K with
 | none => rw [h1] at h; cases h
 | some x =>
  obtain ⟨t, k⟩ := x
  rw [h1] at h
  simp only at h
  cases h2 : Xr.getR c.2 (K.drop k) with
  | none => rw [h2] at h; cases h
  | some y =>
   obtain ⟨v, j⟩ := y
   rw [h2] at h
   simp only [Option.some.injEq, Prod.mk.injEq] at h
   obtain ⟨rfl, rfl⟩ := h
   obtain ⟨-, -, e1⟩ := tm_le h1
   obtain ⟨-, -, e2⟩ := Xr.get_le h2
   refine ⟨?_, Tm.getR_in h1, xr_lt hc.v h2⟩
   unfold ptB
   rw [<- e1, <- e2, List.append_assoc, List.take_append_drop, List.take_append_drop]
def rd : Nat -> C2 -> List Bool -> Option (List Pt × List Bool)
 | 0, _, K => some ([], K)
 | n + 1, c, K => match rd1 c K with
  | none => none
  | some (p, R) => match rd n (stp c p) R with
   | none => none
   | some (l, Q) => some (p :: l, Q)
theorem rd_put : ∀ (l : List Pt) {c : C2}, Ok2 c -> (∀ p ∈ l, PtIn p) -> ∀ R, rd l.length c (ptsB c l ++ R) = some (l, R)
 | [], _, _, _, _ => rfl
 | p :: l, c, hc, hl, R => by
  have hp := hl p (by simp)
  have h := rd_put l (hc.put hp) (fun u hu => hl u (by simp [hu])) R
  simp only [List.length_cons, ptsB, rd]
  rw [List.append_assoc, rd1_put hc hp]
  simp only
  rw [h]
theorem rd_is : ∀ (n : Nat) {c : C2} {K R : List Bool} {l : List Pt}, Ok2 c -> rd n c K = some (l, R) -> l.length = n /\ K = ptsB c l ++ R /\ ∀ p ∈ l, PtIn p
 | 0, _, _, _, _, _, h => by
  simp only [rd, Option.some.injEq, Prod.mk.injEq] at h
  obtain ⟨rfl, rfl⟩ := h
  exact ⟨rfl, rfl, fun _ h => by simp at h⟩
 | n + 1, c, K, R, l, hc, h => by
  simp only [rd] at h
  cases h1 : rd1 c K with
  | none => rw [h1] at h; cases h
  | some x =>
   obtain ⟨p, Q⟩ := x
   rw [h1] at h
   simp only at h
   obtain ⟨e1, hp⟩ := rd1_is hc h1
   cases h2 : rd n (stp c p) Q with
   | none => rw [h2] at h; cases h
   | some y =>
    obtain ⟨l', Q'⟩ := y
    rw [h2] at h
    simp only [Option.some.injEq, Prod.mk.injEq] at h
    obtain ⟨rfl, rfl⟩ := h
    obtain ⟨k1, k2, k3⟩ := rd_is n (hc.put hp) h2
    refine ⟨by simp [k1], ?_, fun u hu => ?_⟩
    ·rw [e1, k2]; simp only [ptsB, List.append_assoc]
    ·rcases List.mem_cons.1 hu with rfl | hu
     ·exact hp
     ·exact k3 u hu
theorem rd_step {R Q : List Bool} {p : Pt} : ∀ {n : Nat} {c : C2} {K : List Bool} {l : List Pt}, rd n c K = some (l, R) -> rd1 (stps c l) R = some (p, Q) -> rd (n + 1) c K = some (l ++ [p], Q)
 | 0, c, K, l, h, h1 => by
  simp only [rd, Option.some.injEq, Prod.mk.injEq] at h
  obtain ⟨rfl, rfl⟩ := h
  simp only [stps] at h1
  simp only [rd, h1, List.nil_append]
 | n + 1, c, K, l, h, h1 => by
  rw [rd] at h
  cases h2 : rd1 c K with
  | none => rw [h2] at h; cases h
  | some x =>
   obtain ⟨u, S⟩ := x
   rw [h2] at h
   simp only at h
   cases h3 : rd n (stp c u) S with
   | none => rw [h3] at h; cases h
   | some y =>
    obtain ⟨l', Q'⟩ := y
    rw [h3] at h
    simp only [Option.some.injEq, Prod.mk.injEq] at h
    obtain ⟨rfl, rfl⟩ := h
    have := rd_step h3 h1
    rw [rd, h2]
    simp only
    rw [this]
    rfl
def T (l : List Pt) (i : Nat) : Int := (l.getD i (0, 0)).1
def Rises (l : List Pt) (k : Nat) : Prop := ∀ j, j < k - 1 -> T l j < T l (j + 1)
instance (l : List Pt) (k : Nat) : Decidable (Rises l k) := by unfold Rises; exact inferInstance
theorem T_get {l : List Pt} {i : Nat} (h : i < l.length) : T l i = l[i].1 := by unfold T; rw [List.getD_eq_getElem?_getD, List.getElem?_eq_getElem h]; rfl
theorem Rises.zero (l : List Pt) : Rises l 0 := fun j h => by omega
theorem Rises.one (l : List Pt) : Rises l 1 := fun j h => by omega
theorem Rises.next {l : List Pt} {k : Nat} (h : Rises l (k + 1)) (hk : T l k < T l (k + 1)) : Rises l (k + 2) := fun j hj => by
 by_cases e : j = k
 ·rw [e]; exact hk
 ·exact h j (by omega)
theorem Rises.not {l : List Pt} {k m : Nat} (hk : k + 1 < m) (h : ¬ T l k < T l (k + 1)) : ¬ Rises l m := fun hr => h (hr k (by omega))
def code (l : List Pt) : List UInt8 := numL l.length ++ (numL (ptsB c0 l).length ++ pack (ptsB c0 l))
def enc (l : List Pt) : List UInt8 × Nat :=
 if l.length < 1 \/ 64 < l.length then ([], 2) else if Rises l l.length then (code l, 0) else ([], 9)
theorem enc_range {l : List Pt} (h : l.length < 1 \/ 64 < l.length) : enc l = ([], 2) := if_pos h
theorem enc_order {l : List Pt} (h : 1 <= l.length) (h64 : l.length <= 64) (hr : ¬ Rises l l.length) : enc l = ([], 9) := by
 unfold enc; rw [if_neg (by omega), if_neg hr]
theorem enc_ok {l : List Pt} (h : 1 <= l.length) (h64 : l.length <= 64) (hr : Rises l l.length) : enc l = (code l, 0) := by
 unfold enc; rw [if_neg (by omega), if_pos hr]
theorem enc_is {l : List Pt} {s : List UInt8} (h : enc l = (s, 0)) : 1 <= l.length /\ l.length <= 64 /\ Rises l l.length /\ code l = s := by
 unfold enc at h
 split at h
 ·simp at h
 ·split at h
  ·rename_i h1 h2
   simp only [Prod.mk.injEq, and_true] at h
   exact ⟨by omega, by omega, h2, h⟩
  ·simp at h
theorem nd_one {n : Nat} (h : 1 <= n) (h64 : n <= 64) : nd n = 1 := by unfold nd; rw [if_neg (by omega), if_pos (by omega)]
theorem bits_few {l : List Pt} (h : l.length <= 64) : (ptsB c0 l).length <= 9280 := by have := ptsB_len l c0; omega
theorem code_size {l : List Pt} (h : l.length <= 64) : (code l).length <= 2000 := by
 have h1 := bits_few h
 have h2 := nd_le l.length
 have h3 := nd_le (ptsB c0 l).length
 unfold code
 rw [List.length_append, List.length_append, numL_length, numL_length, pack_length]
 unfold nb
 omega
structure Found (s : List UInt8) (n k m j : Nat) (R : List UInt8) : Prop where
 one : gotN s = (n, k, 0)
 two : gotN (s.drop k) = (m, j, 0)
 rest : (s.drop k).drop j = R
theorem code_found {l : List Pt} (h : 1 <= l.length) (h64 : l.length <= 64) : Found (code l) l.length 2 (ptsB c0 l).length (nd (ptsB c0 l).length + 1) (pack (ptsB c0 l)) := by
 have h1 := bits_few h64
 have e : (numL l.length).length = 2 := by rw [numL_length, nd_one h h64]
 have e2 : (code l).drop 2 = numL (ptsB c0 l).length ++ pack (ptsB c0 l) := by unfold code; rw [<- e, List.drop_left]
 refine ⟨?_, ?_, ?_⟩
 ·unfold code; rw [got_num _ (by omega), nd_one h h64]
 ·rw [e2, got_num _ (by omega)]
 ·rw [e2, <- numL_length, List.drop_left]
def Filled (R : List UInt8) (m : Nat) : Prop := ∀ i, m <= i -> i < 8 * R.length -> bitAt R i = false
theorem bitAt_fill (L : List Bool) (i : Nat) (h : L.length <= i) (hi : i < 8 * (pack L).length) : bitAt (pack L) i = false := by
 have hlen : (pack L).length = nb L.length := pack_length L
 have hm : i / 8 < nb L.length := by omega
 have h1 : (bitAt (pack L) i).toNat = 0 := by
  rw [bitAt_num]
  unfold pack
  rw [packTo_byte _ L _ hm]
  unfold pk
  by_cases hc : L.length <= 8 * (i / 8)
  ·rw [chunk_behind L _ hc]; simp [numOf]
  ·have hcl : (chunkAt L (i / 8)).length = L.length - 8 * (i / 8) := by
    unfold chunkAt; rw [List.length_take, List.length_drop]; unfold nb at hm; omega
   have e : 8 - (chunkAt L (i / 8)).length = (7 - i % 8) + ((8 - (chunkAt L (i / 8)).length) - 1 - (7 - i % 8)) + 1 := by omega
   rw [e, Nat.pow_succ, Nat.pow_add, Nat.mul_assoc, <- Nat.mul_assoc, <- Nat.mul_assoc, Nat.mul_comm (numOf _) (2 ^ (7 - i % 8)), Nat.mul_assoc, Nat.mul_assoc, Nat.mul_div_cancel_left _ (Nat.two_pow_pos _), <- Nat.mul_assoc]
   exact Nat.mul_mod_left _ _
 cases hb : bitAt (pack L) i with
 | false => rfl
 | true => rw [hb] at h1; cases h1
theorem pack_filled (L : List Bool) : Filled (pack L) L.length := fun i h hi => bitAt_fill L i h hi
theorem pack_back {R : List UInt8} {m : Nat} (h1 : m <= 8 * R.length) (h2 : R.length <= (m + 7) / 8) (hf : Filled R m) : pack (bitsAt R 0 m) = R := by
 have hl : (bitsAt R 0 m).length = m := bitsAt_length _ _ _
 have hpl : (pack (bitsAt R 0 m)).length = R.length := by rw [pack_length, hl]; unfold nb; omega
 refine bitAt_inj _ _ hpl fun i hi => ?_
 by_cases him : i < m
 ·have := bitAt_packTo (nb (bitsAt R 0 m).length) (bitsAt R 0 m) i (by rw [hl]; unfold nb; omega) (by rw [hl]; exact him)
  rw [show pack (bitsAt R 0 m) = packTo (nb (bitsAt R 0 m).length) (bitsAt R 0 m) from rfl, this]
  simp [bitsAt]
 ·rw [bitAt_fill _ i (by rw [hl]; omega) hi, hf i (by omega) (by omega)]
theorem enc_of {s R : List UInt8} {n k m j : Nat} {l : List Pt} (h : Found s n k m j R) (hn : 1 <= n) (hn64 : n <= 64) (h1 : m <= 8 * R.length) (h2 : R.length <= (m + 7) / 8) (hf : Filled R m)
  (hr : rd n c0 (bitsAt R 0 m) = some (l, [])) (hrise : Rises l l.length) : enc l = (s, 0) /\ (∀ p ∈ l, PtIn p) /\ l.length = n := by
 obtain ⟨e1, e2, e3⟩ := rd_is n ok0 hr
 rw [List.append_nil] at e2
 refine ⟨?_, e3, e1⟩
 rw [enc_ok (by omega) (by omega) hrise]
 congr 1
 unfold code
 rw [<- e2, bitsAt_length, pack_back h1 h2 hf, e1]
 have a1 := num_got s (by rw [h.one])
 have a2 := num_got (s.drop k) (by rw [h.two])
 rw [h.one] at a1
 rw [h.two] at a2
 simp only at a1 a2
 rw [a1.1, a2.1, <- h.rest, List.take_append_drop, List.take_append_drop]
theorem of_enc {s : List UInt8} {l : List Pt} (hl : ∀ p ∈ l, PtIn p) (h : enc l = (s, 0)) : ∃ m j R, Found s l.length 2 m j R /\ 1 <= l.length /\ l.length <= 64 /\ m <= 8 * R.length /\ R.length <= (m + 7) / 8 /\ Filled R m /\ rd l.length c0 (bitsAt R 0 m) = some (l, []) /\ Rises l l.length := by
 obtain ⟨h1, h2, h3, rfl⟩ := enc_is h
 have hp := pack_length (ptsB c0 l)
 have hb := bitsAt_pack (ptsB c0 l) 0 (ptsB c0 l).length (by omega)
 rw [List.drop_zero, List.take_length] at hb
 refine ⟨_, _, _, code_found h1 h2, h1, h2, by rw [hp]; unfold nb; omega, by rw [hp]; unfold nb; omega, pack_filled _, ?_, h3⟩
 rw [hb]
 have := rd_put l ok0 hl []
 rwa [List.append_nil] at this
theorem enc_inj {s : List UInt8} {l l' : List Pt} (hl : ∀ p ∈ l, PtIn p) (hl' : ∀ p ∈ l', PtIn p) (h : enc l = (s, 0)) (h' : enc l' = (s, 0)) : l = l' := by
 obtain ⟨m, j, R, f, -, -, -, -, -, r, -⟩ := of_enc hl h
 obtain ⟨m', j', R', f', -, -, -, -, -, r', -⟩ := of_enc hl' h'
 have e1 := f.one.symm.trans f'.one
 simp only [Prod.mk.injEq, and_true] at e1
 have e2 := f.two.symm.trans f'.two
 simp only [Prod.mk.injEq, and_true] at e2
 obtain ⟨rfl, rfl⟩ := e2
 have e3 := f.rest.symm.trans f'.rest
 subst e3
 rw [e1, r'] at r
 simp only [Option.some.injEq, Prod.mk.injEq, and_true] at r
 exact r.symm
def Dec (s : List UInt8) (l : List Pt) (e : Nat) : Prop := (e = 0 /\ enc l = (s, 0) /\ ∀ p ∈ l, PtIn p) \/ (e ≠ 0 /\ e < 100 /\ l = [] /\ ∀ l', (∀ p ∈ l', PtIn p) -> enc l' ≠ (s, 0))
def part (l : List Pt) (i : Nat) : List Pt := (l.drop (64 * i)).take 64
def nparts (l : List Pt) : Nat := (l.length + 63) / 64
theorem part_len {l : List Pt} {i : Nat} (h : i < nparts l) : 1 <= (part l i).length /\ (part l i).length <= 64 := by
 unfold nparts at h
 unfold part
 rw [List.length_take, List.length_drop]
 omega
theorem parts_join (l : List Pt) (i : Nat) : l.take (64 * i) ++ part l i = l.take (64 * (i + 1)) := by
 unfold part
 rw [show 64 * (i + 1) = 64 * i + 64 by omega, List.take_add]
theorem parts_all (l : List Pt) : l.take (64 * nparts l) = l := List.take_of_length_le (by unfold nparts; omega)
theorem part_T {l : List Pt} {i j : Nat} (h : j < (part l i).length) : T (part l i) j = T l (64 * i + j) := by
 have h2 : j < 64 /\ 64 * i + j < l.length := by
  unfold part at h
  rw [List.length_take, List.length_drop] at h
  omega
 unfold T part
 rw [List.getD_eq_getElem?_getD, List.getD_eq_getElem?_getD, List.getElem?_take_of_lt h2.1, List.getElem?_drop]
theorem part_rises {l : List Pt} (h : Rises l l.length) (i : Nat) : Rises (part l i) (part l i).length := fun j hj => by
 have hle : 64 * i + (part l i).length <= l.length \/ (part l i).length = 0 := by
  unfold part
  rw [List.length_take, List.length_drop]
  omega
 rw [part_T (by omega), part_T (by omega)]
 have := h (64 * i + j) (by omega)
 rw [show 64 * i + j + 1 = 64 * i + (j + 1) by omega] at this
 exact this
theorem part_in {l : List Pt} (h : ∀ p ∈ l, PtIn p) (i : Nat) : ∀ p ∈ part l i, PtIn p := fun p hp => h p (List.mem_of_mem_drop (List.mem_of_mem_take hp))
end Ck
end
section
namespace Ck
open Bit Dig
theorem rd_more : ∀ {i n : Nat} {c : C2} {K Q R : List Bool} {l l' : List Pt}, i < n -> rd i c K = some (l, R) -> rd n c K = some (l', Q) -> ∃ p R', rd1 (stps c l) R = some (p, R') /\ l'.take (i + 1) = l ++ [p]
 | 0, n, c, K, Q, R, l, l', hi, h, h' => by
  simp only [rd, Option.some.injEq, Prod.mk.injEq] at h
  obtain ⟨rfl, rfl⟩ := h
  obtain ⟨m, rfl⟩ : ∃ m, n = m + 1 := ⟨n - 1, by omega⟩
  simp only [rd] at h'
  cases h1 : rd1 c K with
  | none => rw [h1] at h'; cases h'
  | some x =>
   obtain ⟨p, R'⟩ := x
   rw [h1] at h'
   simp only at h'
   cases h2 : rd m (stp c p) R' with
   | none => rw [h2] at h'; cases h'
   | some y =>
    obtain ⟨l2, Q2⟩ := y
    rw [h2] at h'
    simp only [Option.some.injEq, Prod.mk.injEq] at h'
    obtain ⟨rfl, rfl⟩ := h'
    exact ⟨p, R', h1, by simp⟩
 | i + 1, n, c, K, Q, R, l, l', hi, h, h' => by
  obtain ⟨m, rfl⟩ : ∃ m, n = m + 1 := ⟨n - 1, by omega⟩
  rw [rd] at h h'
  cases h1 : rd1 c K with
  | none => rw [h1] at h; cases h
  | some x =>
   obtain ⟨p, S⟩ := x
   rw [h1] at h h'
   simp only at h h'
   cases h2 : rd i (stp c p) S with
   | none => rw [h2] at h; cases h
   | some y =>
    obtain ⟨l2, Q2⟩ := y
    rw [h2] at h
    simp only [Option.some.injEq, Prod.mk.injEq] at h
    obtain ⟨rfl, rfl⟩ := h
    cases h3 : rd m (stp c p) S with
    | none => rw [h3] at h'; cases h'
    | some z =>
     obtain ⟨l3, Q3⟩ := z
     rw [h3] at h'
     simp only [Option.some.injEq, Prod.mk.injEq] at h'
     obtain ⟨rfl, rfl⟩ := h'
     obtain ⟨q, R', g1, g2⟩ := rd_more (by omega) h2 h3
     exact ⟨q, R', g1, by simp [g2]⟩
theorem dec_none {s : List UInt8} {e : Nat} (he : e ≠ 0) (h100 : e < 100) (h : ∀ l', (∀ p ∈ l', PtIn p) -> enc l' = (s, 0) -> False) : Dec s [] e := .inr ⟨he, h100, rfl, fun l' hl hh => h l' hl hh⟩
theorem dec_one {s : List UInt8} {n k e : Nat} (h : gotN s = (n, k, e)) (he : e ≠ 0) (h100 : e < 100) : Dec s [] e := dec_none he h100 fun l' hl hh => by
 obtain ⟨m, j, R, f, _⟩ := of_enc hl hh
 have := h.symm.trans f.one
 simp only [Prod.mk.injEq] at this
 exact he this.2.2
theorem dec_range {s : List UInt8} {n k : Nat} (h : gotN s = (n, k, 0)) (hn : n < 1 \/ 64 < n) : Dec s [] 2 := dec_none (by decide) (by decide) fun l' hl hh => by
 obtain ⟨m, j, R, f, h1, h2, _⟩ := of_enc hl hh
 have := h.symm.trans f.one
 simp only [Prod.mk.injEq] at this
 omega
theorem dec_two {s : List UInt8} {n k m j e : Nat} (h : gotN s = (n, k, 0)) (h2 : gotN (s.drop k) = (m, j, e)) (he : e ≠ 0) (h100 : e < 100) : Dec s [] e := dec_none he h100 fun l' hl hh => by
 obtain ⟨m', j', R, f, _⟩ := of_enc hl hh
 have h3 := h.symm.trans f.one
 simp only [Prod.mk.injEq] at h3
 obtain ⟨-, rfl, -⟩ := h3
 have := h2.symm.trans f.two
 simp only [Prod.mk.injEq] at this
 exact he this.2.2
structure Whole (n m : Nat) (R : List UInt8) (l : List Pt) : Prop where
 len : l.length = n
 le : m <= 8 * R.length
 few : R.length <= (m + 7) / 8
 fill : Filled R m
 got : rd n c0 (bitsAt R 0 m) = some (l, [])
 rise : Rises l n
theorem dec_rest {s R : List UInt8} {n k m j e : Nat} (f : Found s n k m j R) (he : e ≠ 0) (h100 : e < 100) (h : ∀ l, ¬ Whole n m R l) : Dec s [] e := dec_none he h100 fun l' hl hh => by
 obtain ⟨m', j', R', f', h1, h2, h3, h4, h5, h6, h7⟩ := of_enc hl hh
 have g1 := f.one.symm.trans f'.one
 simp only [Prod.mk.injEq, and_true] at g1
 obtain ⟨rfl, rfl⟩ := g1
 have g2 := f.two.symm.trans f'.two
 simp only [Prod.mk.injEq, and_true] at g2
 obtain ⟨rfl, rfl⟩ := g2
 have g3 := f.rest.symm.trans f'.rest
 subst g3
 exact h l' ⟨rfl, h3, h4, h5, h6, h7⟩
theorem dec_ok {s R : List UInt8} {n k m j : Nat} {l : List Pt} (f : Found s n k m j R) (hn : 1 <= n) (hn64 : n <= 64) (h : Whole n m R l) : Dec s l 0 := by
 obtain ⟨h1, h2, h3⟩ := enc_of f hn hn64 h.le h.few h.fill h.got (by rw [h.len]; exact h.rise)
 exact .inl ⟨rfl, h1, h2⟩
structure Half (i : Nat) (K0 : List Bool) (l : List Pt) (K : List Bool) : Prop where
 got : rd i c0 K0 = some (l, K)
 len : l.length = i
 rise : Rises l i
 ok : Ok2 (stps c0 l)
 all : ∀ p ∈ l, PtIn p
theorem Half.start (K0 : List Bool) : Half 0 K0 [] K0 := ⟨rfl, rfl, Rises.zero _, ok0, fun p hp => by simp at hp⟩
theorem T_left {l m : List Pt} {i : Nat} (h : i < l.length) : T (l ++ m) i = T l i := by
 unfold T; rw [List.getD_eq_getElem?_getD, List.getD_eq_getElem?_getD, List.getElem?_append_left h]
theorem T_last (l : List Pt) (p : Pt) : T (l ++ [p]) l.length = p.1 := by unfold T; simp
theorem Half.next {i : Nat} {K0 K K' : List Bool} {l : List Pt} {p : Pt} (h : Half i K0 l K) (h1 : rd1 (stps c0 l) K = some (p, K')) (hr : ∀ k, i = k + 1 -> T l k < p.1) : Half (i + 1) K0 (l ++ [p]) K' := by
 have hp := (rd1_is h.ok h1).2
 have hlen := h.len
 refine ⟨rd_step h.got h1, by simp [h.len], ?_, ?_, ?_⟩
 ·cases i with
  | zero => exact Rises.one _
  | succ k =>
   refine Rises.next (fun j hj => ?_) ?_
   ·rw [T_left (by omega), T_left (by omega)]
    exact h.rise j hj
   ·rw [T_left (by omega)]
    have := T_last l p
    rw [hlen] at this
    rw [this]
    exact hr k rfl
 ·rw [stps_snoc]; exact h.ok.put hp
 ·intro q hq
  rcases List.mem_append.1 hq with hq | hq
  ·exact h.all q hq
  ·rw [List.mem_singleton.1 hq]; exact hp
theorem Half.stop {i n m : Nat} {R : List UInt8} {K : List Bool} {l : List Pt} (h : Half i (bitsAt R 0 m) l K) (hi : i < n) (h1 : rd1 (stps c0 l) K = none) : ∀ l', ¬ Whole n m R l' := fun l' hw => by
 obtain ⟨p, R', g, _⟩ := rd_more hi h.got hw.got
 rw [h1] at g; cases g
theorem take_T {l' l : List Pt} {p : Pt} {k : Nat} (h : l'.take (k + 1 + 1) = l ++ [p]) (hl : l.length = k + 1) : T l' k = T l k /\ T l' (k + 1) = p.1 := by
 have e : ∀ i, i < k + 2 -> T l' i = T (l ++ [p]) i := fun i hi => by
  rw [<- h]; unfold T; rw [List.getD_eq_getElem?_getD, List.getD_eq_getElem?_getD, List.getElem?_take_of_lt (by omega)]
 refine ⟨by rw [e k (by omega), T_left (by omega)], ?_⟩
 rw [e (k + 1) (by omega), <- hl, T_last]
theorem Half.fall {k n m : Nat} {R : List UInt8} {K K' : List Bool} {l : List Pt} {p : Pt} (h : Half (k + 1) (bitsAt R 0 m) l K) (hi : k + 1 < n) (h1 : rd1 (stps c0 l) K = some (p, K')) (hle : p.1 <= T l k) : ∀ l', ¬ Whole n m R l' := fun l' hw => by
 obtain ⟨q, R', g, gt⟩ := rd_more hi h.got hw.got
 rw [h1] at g
 simp only [Option.some.injEq, Prod.mk.injEq] at g
 obtain ⟨rfl, rfl⟩ := g
 obtain ⟨e1, e2⟩ := take_T gt h.len
 have := hw.rise k (by omega)
 omega
theorem Half.left {n m : Nat} {R : List UInt8} {K : List Bool} {l : List Pt} (h : Half n (bitsAt R 0 m) l K) (hK : K ≠ []) : ∀ l', ¬ Whole n m R l' := fun l' hw => by
 have := h.got.symm.trans hw.got
 simp only [Option.some.injEq, Prod.mk.injEq] at this
 exact hK this.2
theorem Half.whole {n m : Nat} {R : List UInt8} {l : List Pt} (h : Half n (bitsAt R 0 m) l []) (h1 : m <= 8 * R.length) (h2 : R.length <= (m + 7) / 8) (hf : Filled R m) : Whole n m R l := ⟨h.len, h1, h2, hf, h.got, h.rise⟩
theorem rd1_t {c : C2} {K : List Bool} (h : Tm.getR c.1 K = none) : rd1 c K = none := by unfold rd1; rw [h]
theorem rd1_v {c : C2} {K : List Bool} {t : Int} {k : Nat} (h : Tm.getR c.1 K = some (t, k)) (h2 : Xr.getR c.2 (K.drop k) = none) : rd1 c K = none := by unfold rd1; rw [h]; simp only; rw [h2]
theorem rd1_yes {c : C2} {K : List Bool} {t : Int} {k x j : Nat} (h : Tm.getR c.1 K = some (t, k)) (h2 : Xr.getR c.2 (K.drop k) = some (x, j)) : rd1 c K = some ((t, x), (K.drop k).drop j) := by unfold rd1; rw [h]; simp only; rw [h2]
end Ck
end
section
open Go.RowKit Go.Sort
namespace Ck
open Bit Dsk Ob Dig
def View (w : World) (S : Nat -> Prop) (v : Value) (l : List Pt) : Prop :=
 ∃ A c, v = .slice A l.length c /\ l.length <= c /\ c <= maxLen /\ (0 < l.length -> ∃ b off, A = some ⟨b, off, none⟩ /\ S b /\ ∀ i (h : i < l.length), w.cell? ⟨b, off + i * 2, none⟩ = some (.int .i64 l[i].1) /\ w.cell? ⟨b, off + i * 2 + 1, none⟩ = some (.int .u64 (l[i].2 : Int)))
abbrev All : Nat -> Prop := fun _ => True
theorem View.upon {w w' : World} {S T : Nat -> Prop} {v : Value} {l : List Pt} (h : View w S v l) (hu : Upon T w w') (hd : ∀ b, S b -> ¬ T b) : View w' S v l :=
 let ⟨A, c, h1, h2, h3, h4⟩ := h
 ⟨A, c, h1, h2, h3, fun hp => let ⟨b, off, k1, k2, k3⟩ := h4 hp
  have hb := hu.block b (World.block_lt_of_cell? w _ (k3 0 hp).1) (hd b k2)
  ⟨b, off, k1, k2, fun i hi => ⟨by rw [<- (k3 i hi).1, World.cell?, World.cell?, hb], by rw [<- (k3 i hi).2, World.cell?, World.cell?, hb]⟩⟩⟩
theorem View.new {w w' : World} {S : Nat -> Prop} {v : Value} {l : List Pt} (h : View w S v l) (hu : New0 w w') : View w' S v l := h.upon hu fun _ _ f => f
theorem View.mono {w : World} {S S' : Nat -> Prop} {v : Value} {l : List Pt} (h : View w S v l) (hS : ∀ b, b < w.heap.size -> S b -> S' b) : View w S' v l :=
 let ⟨A, c, h1, h2, h3, h4⟩ := h
 ⟨A, c, h1, h2, h3, fun hp => let ⟨b, off, k1, k2, k3⟩ := h4 hp; ⟨b, off, k1, hS b (World.block_lt_of_cell? w _ (k3 0 hp).1) k2, k3⟩⟩
theorem View.all {w : World} {S : Nat -> Prop} {v : Value} {l : List Pt} (h : View w S v l) : View w All v l := h.mono fun _ _ _ => trivial
theorem View.drew {w : World} {S : Nat -> Prop} {n : Nat} {v : Value} {l : List Pt} (h : View w S v l) : View (w.drewN n) S v l := h.new (upon_drewN _ w n)
theorem View.shape {w : World} {S : Nat -> Prop} {v : Value} {l : List Pt} (h : View w S v l) : ∃ A c, v = .slice A l.length c /\ l.length <= c /\ c <= maxLen := let ⟨A, c, h1, h2, h3, _⟩ := h; ⟨A, c, h1, h2, h3⟩
theorem ret_b {a b : Bool} (h : a = b) : Ending.returned (.bool a) = .returned (.bool b) := by rw [h]
def ptCells (l : List Pt) : List Value := l.flatMap fun p => [.int .i64 p.1, .int .u64 (p.2 : Int)]
theorem ptCells_cons (p : Pt) (l : List Pt) : ptCells (p :: l) = .int .i64 p.1 :: .int .u64 (p.2 : Int) :: ptCells l := by simp [ptCells]
theorem ptCells_app (a b : List Pt) : ptCells (a ++ b) = ptCells a ++ ptCells b := by simp [ptCells]
theorem ptCells_len : ∀ l : List Pt, (ptCells l).length = l.length * 2
 | [] => rfl
 | p :: l => by rw [ptCells_cons, List.length_cons, List.length_cons, ptCells_len l, List.length_cons]; omega
theorem ptCells_get : ∀ (l : List Pt) (i : Nat) (h : i < l.length), (ptCells l)[i * 2]? = some (.int .i64 l[i].1) /\ (ptCells l)[i * 2 + 1]? = some (.int .u64 (l[i].2 : Int))
 | p :: l, 0, _ => by rw [ptCells_cons]; exact ⟨rfl, rfl⟩
 | p :: l, i + 1, h => by
  have := ptCells_get l i (by simpa using h)
  rw [ptCells_cons, show (i + 1) * 2 = i * 2 + 1 + 1 by omega]
  simpa using this
theorem ptCells_one (l : List Pt) : ∀ u ∈ ptCells l, u.oneCell' = true := fun u hu => by
 unfold ptCells at hu
 obtain ⟨p, _, hp⟩ := List.mem_flatMap.1 hu
 simp at hp
 rcases hp with rfl | rfl <;> rfl
def OwnPts (w : World) (v : Value) (l : List Pt) : Prop := w.ownsRow 0 153 2 v l.length (ptCells l)
theorem OwnPts.nil (w : World) : OwnPts w (.slice none 0 0) [] := ⟨rfl, .inl ⟨rfl, rfl⟩⟩
theorem OwnPts.empty {w : World} {g : Nat} (h : w.heap[g]? = some (.cells #[] 153 (0, 0))) : OwnPts w (.slice (some ⟨g, 0, none⟩) 0 0) [] :=
 ⟨rfl, .inr ⟨g, 0, #[], rfl, Nat.zero_le _, h, Nat.le_refl _, Nat.zero_le _, rfl, rfl⟩⟩
theorem OwnPts.view {w : World} {v : Value} {l : List Pt} (h : OwnPts w v l) : View w (fun b => v.ownBlock = some b) v l := by
 have hcells := fun g => World.ownsRow.cells h (g := g)
 rcases h.2 with ⟨hv, h0⟩ | ⟨gb, cap, cur, hv, hb, hg, hnc, hcm, _⟩
 ·exact ⟨none, 0, by rw [hv, h0], by omega, Nat.zero_le _, fun hp => by omega⟩
 ·refine ⟨_, cap, hv, hnc, hcm, fun _ => ⟨gb, 0, rfl, by rw [hv]; rfl, fun i hi => ?_⟩⟩
  obtain ⟨e1, e2⟩ := ptCells_get l i hi
  have k1 := hcells gb (by rw [hv]; rfl) _ _ e1
  have k2 := hcells gb (by rw [hv]; rfl) _ _ e2
  rw [Arg.addr_plain] at k1 k2
  exact ⟨k1, k2⟩
theorem OwnPts.kept {w w' : World} {v : Value} {l : List Pt} (h : OwnPts w v l) (hk : ∀ b, v.ownBlock = some b -> w'.heap[b]? = w.heap[b]?) : OwnPts w' v l := ownsRow_kept h hk
theorem OwnPts.lt {w : World} {v : Value} {l : List Pt} (h : OwnPts w v l) {b : Nat} (hb : v.ownBlock = some b) : b < w.heap.size := (World.ownsRow.lt h b hb).2
theorem infoPt : (Tryz.prog.info? 153).map (fun i => (i.zero, i.size, i.bytes)) = some (some (.agg #[.int .i64 0, .int .u64 0]), 2, 16) := by kernel_rfl
theorem View.news {w : World} {S : Nat -> Prop} {v : Value} {l : List Pt} (h : View w S v l) (hp : 0 < l.length) : ∃ ad c, v = .slice (some ad) l.length c /\ ∀ j u, (ptCells l)[j]? = some u -> w.cell? (ad.add j) = some u := by
 obtain ⟨A, c, rfl, h2, h3, h4⟩ := h
 obtain ⟨b, off, rfl, k2, k3⟩ := h4 hp
 refine ⟨⟨b, off, none⟩, c, rfl, fun j u hj => ?_⟩
 rw [Arg.addr_plain]
 have hjl : j < l.length * 2 := by rw [<- ptCells_len]; exact (List.getElem?_eq_some_iff.1 hj).1
 obtain ⟨e1, e2⟩ := ptCells_get l (j / 2) (by omega)
 obtain ⟨x1, x2⟩ := k3 (j / 2) (by omega)
 by_cases hodd : j % 2 = 0
 ·have e : j = j / 2 * 2 := by omega
  rw [<- e] at e1 x1
  rw [x1, <- hj, e1]
 ·have e : j = j / 2 * 2 + 1 := by omega
  rw [show off + j / 2 * 2 + 1 = off + (j / 2 * 2 + 1) by omega, <- e] at x2
  rw [<- e] at e2
  rw [x2, <- hj, e2]
theorem run_append_pts {w : World} {v x : Value} {l m : List Pt} {S : Nat -> Prop} (hown : OwnPts w v l) (hx : View w S x m) (hlen : (l.length + m.length) * 16 <= 140737488355328) (ty : TypeId) :
  ∃ v' w', (Builtin.append_ #[61, 61] ty #[v, x]).run Tryz.prog w = .ok v' w' /\ OwnPts w' v' (l ++ m) /\ w.grownBy w' v.ownBlock /\ (v'.ownBlock = v.ownBlock \/ v'.ownBlock = some w.heap.size) := by
 obtain ⟨i0, hi, hz0, hz1, hz2⟩ := info_parts infoPt
 by_cases hp : 0 < m.length
 ·obtain ⟨ad, c, rfl, hnews⟩ := hx.news hp
  obtain ⟨g, cap, w', hr, h2, h3, h4, h5⟩ := run_append_lies (P := Tryz.prog) w 61 ty 0 153 i0 (.agg #[.int .i64 0, .int .u64 0]) 2 16 Tryz.underlying61 hi hz0 hz1 hz2 rfl (by decide) v l.length (ptCells l) hown ad m.length c (ptCells m) (ptCells_len m) hnews (ptCells_one m) hp (by unfold maxLen; omega) hlen (Nat.zero_le _) _ rfl
  refine ⟨_, w', hr, ?_, h3, ?_⟩
  ·unfold OwnPts; rw [List.length_append, ptCells_app]; exact h2
  ·rcases h4 with h4 | h4
   ·exact .inl h4.symm
   ·right; rw [h4]; rfl
 ·have hm : m = [] := by cases m with | nil => rfl | cons a b => simp at hp
  subst hm
  obtain ⟨A, c, rfl, -, -, -⟩ := hx
  refine ⟨v, w, ?_, by rw [List.append_nil]; exact hown, World.grownBy.refl _ _, .inl rfl⟩
  rcases hown.2 with ⟨hv, h0⟩ | ⟨gb, cap, cur, hv, hb, hg, hnc, hcm, _⟩
  ·subst hv
   cases A with
   | none => simp [Builtin.append_, run_underlying Tryz.underlying61, sizeOf, typeInfo, hi, Builtin.lenOf, Builtin.firstCells]
   | some a2 => simp [Builtin.append_, run_underlying Tryz.underlying61, sizeOf, typeInfo, hi, Builtin.lenOf, Builtin.firstCells, loadCells, loadCellsFrom]
  ·subst hv
   cases A with
   | none => simp [Builtin.append_, run_underlying Tryz.underlying61, sizeOf, typeInfo, hi, Builtin.lenOf, Builtin.firstCells, loadCells, storeCells, hnc]
   | some a2 => simp [Builtin.append_, run_underlying Tryz.underlying61, sizeOf, typeInfo, hi, Builtin.lenOf, Builtin.firstCells, loadCells, loadCellsFrom, storeCells, hnc]
theorem wpList_append_pts {w : World} {ops : Array Oper} {rest : List Oper} {o : Oper} {a : Act} {Q : Exit -> Act -> World -> Prop} (hgd : o.guard = none) (sl x : Operand)
  (ho : o.op = .call { callee := .builtin .append, args := #[sl, x], argTypes := #[61, 61] })
  (v xv : Value) (l m : List Pt) (S : Nat -> Prop) (hs : a.eval sl = v) (hx : a.eval x = xv) (hown : OwnPts w v l) (hxv : View w S xv m) (hlen : (l.length + m.length) * 16 <= 140737488355328)
  (hK : ∀ v' w', OwnPts w' v' (l ++ m) -> w.grownBy w' v.ownBlock -> (v'.ownBlock = v.ownBlock \/ v'.ownBlock = some w.heap.size) -> wpList Tryz.prog ops Q rest (a.put o.dst v') w') : wpList Tryz.prog ops Q (o :: rest) a w := by
 refine wpList_plain hgd fun K hK' => ?_
 obtain ⟨v', w', hr, h2, h3, h4⟩ := run_append_pts hown hxv hlen o.type
 unfold Oper.wp execOp
 simp only [ho, resolve, invoke, builtin, Sem.run_bind, Sem.run_pure, Result.andThen_ok, List.map_toArray, List.map_cons, List.map_nil, hs, hx, hr]
 exact hK' _ _ (hK v' w' h2 h3 h4)
theorem view_one {w : World} {g : Nat} {x : Int} {y : Nat} (h : w.heap[g]? = some (.cells #[.int .i64 x, .int .u64 (y : Int)] 153 (0, 0))) : View w All (.slice (some ⟨g, 0, none⟩) 1 1) [(x, y)] :=
 ⟨_, 1, rfl, Nat.le_refl _, by unfold maxLen; decide, fun _ => ⟨g, 0, rfl, trivial, fun i hi => by
  have : i = 0 := by simpa using hi
  subst this
  exact ⟨by rw [Lib.cell_of_heap h]; rfl, by rw [Lib.cell_of_heap h]; rfl⟩⟩⟩
end Ck
end
section
open Go.RowKit Go.Sort
namespace Ck
open Bit Dsk Ob Dig
theorem lcomm {A B C : Ob.Rel} {w : World} {S : Nat -> Prop} (h : Tens A (Tens B C) w S) : Tens B (Tens A C) w S := Tens.assoc (Tens.mapL (fun _ k => Tens.swap k) (Tens.cossa h))
abbrev RE (qt qv p : Nat) (c : C2) (L : List Bool) : Ob.Rel := Tens (Xr.IsRC qv c.2) (Tm.CW qt c.1 p L)
theorem thingRE (qt qv p : Nat) (c : C2) (L : List Bool) : Thing (RE qt qv p c L) := Tens.ob (Xr.objRC _ _) (Tm.thingCW _ _ _ _)
theorem rePutT {w0 w : World} {qt qv p : Nat} {c c' : C2} {L L' : List Bool} {t : Int} (H : Own (RE qt qv p c L) w0 w) (hL : L.length <= 80000000000000) (e : (Tm.putC c.1 t, c.2) = c') (e2 : L ++ Tm.putB c.1 t = L') :
  Calls Tryz.prog 112 #[.pointer (some ⟨qt, 0, none⟩), .pointer (some ⟨p, 0, none⟩), .int .i64 t] w fun e w' => e = .returned (.tuple #[]) /\ Own (RE qt qv p c' L') w0 w' := by
 subst e; subst e2
 exact ownR (Q := fun e => e = .returned (.tuple #[])) (Xr.objRC qv c.2) H fun A hA h => Tm.refPut_any A qt p c.1 L t w h hL
theorem rePutV {w0 w : World} {qt qv p : Nat} {c c' : C2} {L L' : List Bool} {v : Nat} (H : Own (RE qt qv p c L) w0 w) (hok : c.2.Ok) (hL : L.length <= 80000000000000) (hv : v < 18446744073709551616) (e : (c.1, Xr.putC c.2 v) = c') (e2 : L ++ Xr.putB c.2 v = L') :
  Calls Tryz.prog 113 #[.pointer (some ⟨qv, 0, none⟩), .pointer (some ⟨p, 0, none⟩), .int .u64 (v : Int)] w fun e w' => e = .returned (.tuple #[]) /\ Own (RE qt qv p c' L') w0 w' := by
 subst e; subst e2
 refine (ownR (I := Tm.IsRC qt c.1) (J := Xr.CW qv c.2 p L) (J' := Xr.CW qv (Xr.putC c.2 v) p (L ++ Xr.putB c.2 v)) (Q := fun e => e = .returned (.tuple #[])) (Tm.objRC qt c.1) (H.mono fun _ h => lcomm h) fun A hA h => Xr.refPut_any A qv p c.2 L v w h hok hL hv).mono ?_
 rintro e w' ⟨he, h⟩
 exact ⟨he, h.mono fun _ h => lcomm h⟩
theorem new0_of_bel {w w' : World} (h : Below w.heap.size w w') : New0 w w' := Upon.of_below h _
theorem reMade (w : World) : Own (RE (w.heap.size + 1) (w.heap.size + 2) w.heap.size c0 []) w
  (((w.alloc (.cells #[.slice none 0 0] 204 (0, 0))).alloc (.cells #[.bool false, .int .i64 0, .int .i64 0] 193 (0, 0))).alloc (.cells #[.bool false, .int .u64 0, .bool false, .int .i64 0, .int .i64 0] 196 (0, 0))) := by
 have h1 : Own (fun w' S => IsRW w' S w.heap.size []) w (w.alloc (.cells #[.slice none 0 0] 204 (0, 0))) :=
  Own.made (Below.refl _ w) (newRW w) (fun b hb => by rw [hb]; exact Nat.le_refl _) ((Upon.refl _ w).alloc _)
 generalize hw1 : w.alloc (.cells #[.slice none 0 0] 204 (0, 0)) = w1 at *
 have e1 : w1.heap.size = w.heap.size + 1 := by rw [<- hw1]; simp
 have h2 : Own (Tens (fun w' S => IsRW w' S w.heap.size []) (Tm.IsRC (w.heap.size + 1) Tm.newC)) w (w1.alloc (.cells #[.bool false, .int .i64 0, .int .i64 0] 193 (0, 0))) := by
  rw [<- e1]
  exact Own.new (objRW _ _) h1 (T := fun x => x = w1.heap.size) ⟨cell_new w1 _, fun x => Iff.rfl⟩ (fun b hb => by rw [hb]; exact Nat.le_refl _) ((Upon.refl _ w1).alloc _)
 generalize hw2 : w1.alloc (.cells #[.bool false, .int .i64 0, .int .i64 0] 193 (0, 0)) = w2 at *
 have e2 : w2.heap.size = w.heap.size + 2 := by rw [<- hw2]; simp [e1]
 have h3 : Own (Tens (Tm.CW (w.heap.size + 1) Tm.newC w.heap.size []) (Xr.IsRC (w.heap.size + 2) Xr.newC)) w (w2.alloc (.cells #[.bool false, .int .u64 0, .bool false, .int .i64 0, .int .i64 0] 196 (0, 0))) := by
  rw [<- e2]
  exact Own.new (Tm.thingCW _ _ _ _) h2.swap (T := fun x => x = w2.heap.size) ⟨cell_new w2 _, fun x => Iff.rfl⟩ (fun b hb => by rw [hb]; exact Nat.le_refl _) ((Upon.refl _ w2).alloc _)
 exact h3.swap
def encR (l : List Pt) : Ending := .returned (.tuple #[.string ⟨(enc l).1.toArray⟩, .int .i64 ((enc l).2 : Int)])
theorem encR_range {l : List Pt} (h : l.length < 1 \/ 64 < l.length) : Ending.returned (.tuple #[.string ⟨#[]⟩, .int .i64 2]) = encR l := by unfold encR; rw [enc_range h]; rfl
theorem encR_order {l : List Pt} (h : 1 <= l.length) (h64 : l.length <= 64) (hr : ¬ Rises l l.length) : Ending.returned (.tuple #[.string ⟨#[]⟩, .int .i64 9]) = encR l := by unfold encR; rw [enc_order h h64 hr]; rfl
theorem encR_ok {l : List Pt} (h : 1 <= l.length) (h64 : l.length <= 64) (hr : Rises l l.length) {s : ByteArray} (hs : s = ⟨(code l).toArray⟩) : Ending.returned (.tuple #[.string s, .int .i64 0]) = encR l := by unfold encR; rw [enc_ok h h64 hr, hs]; rfl
theorem cat3 (l : List Pt) : (⟨(numL l.length).toArray⟩ : ByteArray) ++ ⟨(numL (ptsB c0 l).length).toArray⟩ ++ ⟨(pack (ptsB c0 l)).toArray⟩ = ⟨(code l).toArray⟩ := by
 apply ByteArray.ext
 apply Array.toList_inj.1
 simp [code]
theorem lenB {l : List Pt} (h64 : l.length <= 64) (j : Nat) : (ptsB c0 (l.take j)).length <= 10000 := by
 have := ptsB_len (l.take j) c0
 have h : (l.take j).length <= l.length := by rw [List.length_take]; omega
 omega
theorem ptB_at {l : List Pt} {j : Nat} (h : j < l.length) : ptsB c0 (l.take j) ++ Tm.putB (stps c0 (l.take j)).1 l[j].1 ++ Xr.putB (stps c0 (l.take j)).2 l[j].2 = ptsB c0 (l.take (j + 1)) /\ (Tm.putC (stps c0 (l.take j)).1 l[j].1, Xr.putC (stps c0 (l.take j)).2 l[j].2) = stps c0 (l.take (j + 1)) := by
 rw [(ptsB_take h c0).1, (ptsB_take h c0).2, List.append_assoc]
 exact ⟨rfl, rfl⟩
theorem ok_at {l : List Pt} (hin : ∀ p ∈ l, PtIn p) (j : Nat) : Ok2 (stps c0 (l.take j)) := stps_ok _ ok0 fun p hp => hin p (List.mem_of_mem_take hp)
theorem rePuts {w0 wr : World} {qt qv p : Nat} {l : List Pt} (hin : ∀ p ∈ l, PtIn p) (h64 : l.length <= 64) {j : Nat} (hj : j < l.length) (x : Int) (y : Nat) (hx : l[j].1 = x) (hy : l[j].2 = y) (H : Own (RE qt qv p (stps c0 (l.take j)) (ptsB c0 (l.take j))) w0 wr) :
  Calls Tryz.prog 112 #[.pointer (some ⟨qt, 0, none⟩), .pointer (some ⟨p, 0, none⟩), .int .i64 x] wr fun e w' => e = .returned (.tuple #[]) /\ Below w0.heap.size w0 w' /\
   Calls Tryz.prog 113 #[.pointer (some ⟨qv, 0, none⟩), .pointer (some ⟨p, 0, none⟩), .int .u64 (y : Int)] w' fun e w2 => e = .returned (.tuple #[]) /\ Own (RE qt qv p (stps c0 (l.take (j + 1))) (ptsB c0 (l.take (j + 1)))) w0 w2 := by
 subst hx; subst hy
 obtain ⟨e1, e2⟩ := ptB_at hj
 have hb := lenB h64 j
 have hok := ok_at hin j
 have ht := Tm.putB_len (c := (stps c0 (l.take j)).1) l[j].1
 refine (rePutT H (by omega) rfl rfl).mono ?_
 rintro e w' ⟨he, h⟩
 exact ⟨he, h.bel, rePutV h hok.v (by rw [List.length_append]; omega) (hin _ (List.getElem_mem hj)).2 e2 e1⟩
set_option maxHeartbeats 6400000 in
theorem refenc_any (w : World) (S : Nat -> Prop) (v : Value) (l : List Pt) (hv : View w S v l) (hin : ∀ p ∈ l, PtIn p) :
  Calls Tryz.prog 70 #[v] w fun e w' => e = encR l /\ New0 w w' := by
 by_cases h1 : 1 <= l.length
 ·by_cases h64 : l.length <= 64
  ·have hM := Lib.hid (reMade w)
   have d1 : decide ((l.length : Int) < 1) = false := decide_eq_false (by omega)
   have d2 : decide ((64 : Int) < (l.length : Int)) = false := decide_eq_false (by omega)
   replace hin := Lib.hid hin
   obtain ⟨A, c, rfl, hc1, hc2, hA⟩ := hv
   obtain ⟨b, off, rfl, -, hcells⟩ := hA h1
   replace hcells := Lib.hid hcells
   clear hA hc1 hc2
   go_enter Tryz.func70, Tryz.ntmps70
   go_wp2_with fail
   go_loopw [7] (fun ov wr => ∃ j : Nat, ov = .int .i64 (j : Int) /\ j <= l.length /\ Hid (Rises l j) /\ Hid (Own (RE (w.heap.size + 1) (w.heap.size + 2) w.heap.size (stps c0 (l.take j)) (ptsB c0 (l.take j))) w wr)) (fun ov _ => l.length - (intOf ov).toNat)
   case atStart => exact ⟨0, rfl, Nat.zero_le _, Lib.hid (Rises.zero l), hM⟩
   case round =>
    obtain ⟨j, rfl, hj, hri, hst⟩ := hrel
    clear hM d1 d2
    by_cases hlt : j < l.length
    ·obtain ⟨c0', c1'⟩ := hcells.out j hlt
     obtain ⟨x, hx⟩ : ∃ x, l[j].1 = x := ⟨_, rfl⟩
     obtain ⟨y, hy⟩ : ∃ y, l[j].2 = y := ⟨_, rfl⟩
     rw [hx] at c0'
     rw [hy] at c1'
     have hT : Hid (T l j = x) := Lib.hid ((T_get hlt).trans hx)
     have HP := Lib.hid (fun n => rePuts hin.out h64 hlt x y hx hy (Own.upon0 (thingRE _ _ _ _ _) hst.out (upon_drewN _ wr n)))
     have hsee := Lib.hid (fun (a : Addr) (u : Value) (h : w.cell? a = some u) (w' : World) (hb : Below w.heap.size w w') => (hb.cell (World.block_lt_of_cell? w _ h)).trans h)
     replace hx := Lib.hid hx
     replace hy := Lib.hid hy
     by_cases hj0 : j = 0
     ·have hn : Hid (Rises l (j + 1)) := Lib.hid (by rw [hj0]; exact Rises.one l)
      have dg : decide (0 < j) = false := decide_eq_false (by omega)
      have r0 := hsee.out _ _ c0' _ hst.out.bel
      replace hj0 := Lib.hid hj0
      clear hri hst hcells
      go_wp2_with fail
      go_quiet (fail)
      go_wp2_with fail
      refine (HP.out _).mono ?_
      rintro e w2 ⟨rfl, hb2, HV⟩
      have r1 := hsee.out _ _ c1' _ hb2
      replace HV := Lib.hid HV
      clear HP r0 dg
      go_wp2_with fail
      refine HV.out.mono ?_
      rintro e w3 ⟨rfl, h3⟩
      replace h3 := Lib.hid h3
      clear HV r1 c0' c1'
      go_wp2_with fail
      go_roundw
      case rel => exact ⟨j + 1, by go_num, hlt, hn, h3⟩
      case measure => simp [intOf]; omega
     ·obtain ⟨k, rfl⟩ : ∃ k, j = k + 1 := ⟨j - 1, by omega⟩
      have hk : k < l.length := by omega
      obtain ⟨b0', -⟩ := hcells.out k hk
      obtain ⟨z, hz⟩ : ∃ z, l[k].1 = z := ⟨_, rfl⟩
      rw [hz] at b0'
      have hT0 : Hid (T l k = z) := Lib.hid ((T_get hk).trans hz)
      replace hz := Lib.hid hz
      have dg : decide ((0 : Int) < ((k + 1 : Nat) : Int)) = true := decide_eq_true (by omega)
      have r0 := hsee.out _ _ c0' _ hst.out.bel
      have r2 := hsee.out _ _ b0' _ hst.out.bel
      have hends := Lib.hid hst.out.bel
      by_cases hle : x <= z
      ·have hnr := Lib.hid (encR_order h1 h64 (Rises.not hlt (by rw [hT.out, hT0.out]; omega)))
       have dx : decide (x <= z) = true := decide_eq_true hle
       clear hri hst hcells HP hle
       go_wp2_with fail
       go_quiet (fail)
       go_wp2_with fail
       go_ret2
       exact ⟨hnr.out, (new0_of_bel hends.out).trans (upon_drewN _ _ _)⟩
      ·have hn : Hid (Rises l (k + 1 + 1)) := Lib.hid (hri.out.next (by rw [hT.out, hT0.out]; omega))
       have dx : decide (x <= z) = false := decide_eq_false hle
       clear hri hst hcells hle hends
       go_wp2_with fail
       go_quiet (fail)
       go_wp2_with fail
       refine (HP.out _).mono ?_
       rintro e w2 ⟨rfl, hb2, HV⟩
       have r1 := hsee.out _ _ c1' _ hb2
       replace HV := Lib.hid HV
       clear HP r0 r2 dg dx
       go_wp2_with fail
       refine HV.out.mono ?_
       rintro e w3 ⟨rfl, h3⟩
       replace h3 := Lib.hid h3
       clear HV r1 c0' c1' b0'
       go_wp2_with fail
       go_roundw
       case rel => exact ⟨k + 1 + 1, by go_num, hlt, hn, h3⟩
       case measure => simp [intOf]; omega
    ·obtain rfl : j = l.length := by omega
     have hrise := hri.out
     rw [List.take_length] at hst
     have hR := Lib.hid (fun s => encR_ok h1 h64 hrise (s := s))
     have hb := bits_few h64
     obtain ⟨T1, hW, hgo⟩ := hst.out.get
     clear hgo
     have hbel := Lib.hid hst.out.bel
     obtain ⟨_, B, _, ⟨_, D, _, hw, _⟩, _⟩ := hW
     obtain ⟨rv, hrv⟩ := hw
     have k0 : wr.cell? ⟨w.heap.size, 0, none⟩ = some rv := by rw [Lib.cell_of_heap hrv.cell]; rfl
     obtain ⟨A2, c2, rfl⟩ : ∃ A c, rv = .slice A (ptsB c0 l).length c := by
      rcases hrv.row.2 with ⟨hv, h0⟩ | ⟨g, cap, cur, hv, _⟩
      ·exact ⟨none, 0, by rw [hv, h0]⟩
      ·exact ⟨_, _, hv⟩
     have k0' := fun d os => cell_regrown k0 d os
     obtain ⟨f, hf⟩ : ∃ f : Nat -> ByteArray, ∀ n, (⟨(numL n).toArray⟩ : ByteArray) = f n := ⟨_, fun _ => rfl⟩
     have t1 : Hid (∀ d os (n : Nat), n <= 10000 -> Calls Tryz.prog 65 #[.int .u64 (n : Int)] (grow (redrawn wr d) os) fun e w' => e = .returned (.string (f n)) /\ Below (grow (redrawn wr d) os).heap.size (grow (redrawn wr d) os) w') :=
      Lib.hid fun d os n hn => hf n ▸ refnum_calls n (by omega) (grow (redrawn wr d) os)
     have hcat := cat3 l
     have hfs : ∀ n, (f n).size <= 9 := fun n => by
      rw [<- hf]; show (numL n).toArray.size <= 9; rw [List.size_toArray, numL_length]; have := nd_le n; omega
     have hs3 : (⟨(pack (ptsB c0 l)).toArray⟩ : ByteArray).size <= 2000 := by
      show (pack (ptsB c0 l)).toArray.size <= 2000; rw [List.size_toArray, pack_length]; unfold nb; omega
     rw [hf, hf] at hcat
     replace hcat := Lib.hid hcat
     have t3 := Lib.hid (fun d os => Bit.reftext_any D w.heap.size (ptsB c0 l) (grow (redrawn wr d) os) ((objRW w.heap.size (ptsB c0 l)).kept wr _ D ⟨_, hrv⟩ (fun b hb => (below_regrown wr d os).block b (hrv.lt b hb)) (below_regrown wr d os).size) (by omega))
     have i1 : IntKind.u64.wrap (l.length : Int) = (l.length : Int) := by rw [IntKind.wrap_u64]; omega
     have i2 : IntKind.u64.wrap ((ptsB c0 l).length : Int) = ((ptsB c0 l).length : Int) := by rw [IntKind.wrap_u64]; omega
     clear hrv k0 hst hri hrise hcells hf
     generalize (⟨(pack (ptsB c0 l)).toArray⟩ : ByteArray) = s3 at *
     generalize (ptsB c0 l).length = m at *
     have hadd1 := fun (W : World) => run_string_add_sum (P := Tryz.prog) W (f l.length) (f m) (by have := hfs l.length; have := hfs m; omega)
     have hadd2 := fun (W : World) => run_string_add_sum (P := Tryz.prog) W (f l.length ++ f m) s3 (by rw [ByteArray.size_append]; have := hfs l.length; have := hfs m; omega)
     clear hfs hs3
     go_wp2_with fail
     refine wp_region_quiet_below (by kernel_rfl) (by kernel_rfl) ?_
     repeat (go_big_quiet_step (first
      | exact Calls.regrown_of (t3.out _ _)
      | exact Calls.regrown_of (t1.out _ _ _ (by omega))))
     refine wpQuiet_nil ?_
     intro _ hw'
     obtain ⟨⟨dq, osq⟩, hw''⟩ := hw'
     subst hw''
     go_wp2_with fail
     go_ret2
     exact ⟨hR.out _ hcat.out, (new0_of_bel hbel.out).trans (new0_of_bel (below_regrown wr dq osq))⟩
  ·have d1 : decide ((l.length : Int) < 1) = false := decide_eq_false (by omega)
   have d2 : decide ((64 : Int) < (l.length : Int)) = true := decide_eq_true (by omega)
   obtain ⟨A, c, rfl, -, -, -⟩ := hv
   have he := Lib.hid (encR_range (l := l) (.inr (by omega)))
   go_enter Tryz.func70, Tryz.ntmps70
   go_wp2_with fail
   go_ret2
   exact ⟨he.out, Upon.refl _ _⟩
 ·have d1 : decide ((l.length : Int) < 1) = true := decide_eq_true (by omega)
  obtain ⟨A, c, rfl, -, -, -⟩ := hv
  have he := Lib.hid (encR_range (l := l) (.inl (by omega)))
  go_enter Tryz.func70, Tryz.ntmps70
  go_wp2_with fail
  go_ret2
  exact ⟨he.out, Upon.refl _ _⟩
end Ck
end
section
open Go.RowKit Go.Sort
namespace Ck
open Bit Dsk Ob Dig
def Parts (w : World) (u : Value) (l : List Pt) : Prop :=
 ∃ A c, u = .slice A (nparts l) c /\ nparts l <= c /\ c <= maxLen /\ (0 < nparts l -> ∃ b off, A = some ⟨b, off, none⟩ /\ ∀ i, i < nparts l -> ∃ v, w.cell? ⟨b, off + i, none⟩ = some v /\ View w All v (part l i))
theorem Parts.new {w w' : World} {u : Value} {l : List Pt} (h : Parts w u l) (hu : New0 w w') : Parts w' u l :=
 let ⟨A, c, h1, h2, h3, h4⟩ := h
 ⟨A, c, h1, h2, h3, fun hp => let ⟨b, off, k1, k2⟩ := h4 hp; ⟨b, off, k1, fun i hi => let ⟨v, m1, m2⟩ := k2 i hi; ⟨v, hu.cell m1, m2.new hu⟩⟩⟩
theorem infoRow : (Tryz.prog.info? 61).map (fun i => (i.zero, i.size, i.bytes)) = some (some (.slice none 0 0), 1, 24) := by kernel_rfl
structure OutsQ (Q : Nat -> Prop) (w0 w : World) (u : Value) (l : List Pt) (j : Nat) (vs : List Value) : Prop where
 len : vs.length = j
 row : w.ownsRow 0 61 1 u j vs
 mine : ∀ g, u.ownBlock = some g -> w0.heap.size <= g
 view : ∀ i v, vs[i]? = some v -> View w (fun b => u.ownBlock ≠ some b /\ Q b) v (part l i)
 new : New0 w0 w
abbrev Outs := OutsQ fun _ => True
theorem nparts_iff (l : List Pt) (j : Nat) : 64 * j < l.length ↔ j < nparts l := by unfold nparts; omega
theorem OutsQ.start (Q : Nat -> Prop) (w : World) (l : List Pt) : OutsQ Q w w (.slice none 0 0) l 0 [] :=
 { len := rfl, row := ⟨rfl, .inl ⟨rfl, rfl⟩⟩, mine := fun g h => (by cases h), view := fun i v h => (by simp at h), new := Upon.refl _ _ }
theorem OutsQ.step {Q : Nat -> Prop} {w0 wr w3 w' : World} {u v' : Value} {l : List Pt} {j g cap : Nat} {vs : List Value} {S' : Nat -> Prop} (h : OutsQ Q w0 wr u l j vs) (hn : New0 wr w3) (hv : View w3 S' v' (part l j)) (hS : ∀ b, S' b -> u.ownBlock ≠ some b) (hSQ : ∀ b, S' b -> Q b)
  (hrow : w'.ownsRow 0 61 1 (.slice (some ⟨g, 0, none⟩) (j + 1) cap) (j + 1) (vs ++ [v'])) (hg : w3.grownBy w' u.ownBlock) (hgb : u.ownBlock = some g \/ g = w3.heap.size) :
  OutsQ Q w0 w' (.slice (some ⟨g, 0, none⟩) (j + 1) cap) l (j + 1) (vs ++ [v']) := by
 have hul : ∀ b, u.ownBlock = some b -> b < wr.heap.size := fun b hb => (World.ownsRow.lt h.row b hb).2
 have hup : Upon (fun b => u.ownBlock = some b) w3 w' := Upon.grown (Upon.refl _ w3) hg (fun k hk => .inl hk)
 have hsz : w0.heap.size <= wr.heap.size := h.new.size
 have hsz3 : wr.heap.size <= w3.heap.size := hn.size
 have far : ∀ b, b < w3.heap.size -> u.ownBlock ≠ some b -> (Value.slice (some ⟨g, 0, none⟩) (j + 1) cap).ownBlock ≠ some b := fun b hb hne e => by
  have e' : g = b := by simpa [Value.ownBlock] using e
  rcases hgb with h1 | h1
  ·exact hne (by rw [h1, e'])
  ·omega
 refine { len := by simp [h.len], row := hrow, mine := fun k hk => ?_, view := fun i v hi => ?_, new := (h.new.trans hn).grown hg (fun k hk => .inr (h.mine k hk)) }
 ·have e' : g = k := by simpa [Value.ownBlock] using hk
  rcases hgb with h1 | h1
  ·exact h.mine k (by rw [h1, e'])
  ·omega
 ·have hlen := h.len
  by_cases hij : i < vs.length
  ·rw [List.getElem?_append_left hij] at hi
   have h1 := (h.view i v hi).new hn
   have h2 := h1.mono (S' := fun b => u.ownBlock ≠ some b /\ (Value.slice (some ⟨g, 0, none⟩) (j + 1) cap).ownBlock ≠ some b /\ Q b) (fun b hb hs => ⟨hs.1, far b hb hs.1, hs.2⟩)
   exact (h2.upon hup (fun b hb => hb.1)).mono (fun b _ hs => hs.2)
  ·rw [List.getElem?_append_right (by omega)] at hi
   have e : i - vs.length = 0 := by
    have := (List.getElem?_eq_some_iff.1 hi).1
    simp at this; omega
   rw [e] at hi
   simp at hi
   subst hi
   have e2 : i = j := by omega
   subst e2
   have h2 := hv.mono (S' := fun b => u.ownBlock ≠ some b /\ (Value.slice (some ⟨g, 0, none⟩) (i + 1) cap).ownBlock ≠ some b /\ Q b) (fun b hb hs => ⟨hS b hs, far b hb (hS b hs), hSQ b hs⟩)
   exact (h2.upon hup (fun b hb => hb.1)).mono (fun b _ hs => hs.2)
def PartsN (Q : Nat -> Prop) (w : World) (u : Value) (l : List Pt) : Prop :=
 ∃ A c, u = .slice A (nparts l) c /\ nparts l <= c /\ c <= maxLen /\ (0 < nparts l -> ∃ b off, A = some ⟨b, off, none⟩ /\ Q b /\ ∀ i, i < nparts l -> ∃ v, w.cell? ⟨b, off + i, none⟩ = some v /\ View w Q v (part l i))
theorem PartsN.parts {Q : Nat -> Prop} {w : World} {u : Value} {l : List Pt} (h : PartsN Q w u l) : Parts w u l :=
 let ⟨A, c, h1, h2, h3, h4⟩ := h
 ⟨A, c, h1, h2, h3, fun hp => let ⟨b, off, k1, _, k2⟩ := h4 hp; ⟨b, off, k1, fun i hi => let ⟨v, m1, m2⟩ := k2 i hi; ⟨v, m1, m2.all⟩⟩⟩
theorem OutsQ.parts {Q : Nat -> Prop} {w0 w : World} {u : Value} {l : List Pt} {j : Nat} {vs : List Value} (h : OutsQ Q w0 w u l j vs) (hj : j = nparts l) (hQ : ∀ b, w0.heap.size <= b -> Q b) : PartsN Q w u l := by
 subst hj
 have hcells := fun g => World.ownsRow.cells h.row (g := g)
 rcases h.row.2 with ⟨hv, h0⟩ | ⟨gb, cap, cur, hv, hb, hg, hnc, hcm, _⟩
 ·exact ⟨none, 0, by rw [hv, h0], by omega, Nat.zero_le _, fun hp => by omega⟩
 ·refine ⟨_, cap, hv, hnc, hcm, fun _ => ⟨gb, 0, rfl, hQ gb (h.mine gb (by rw [hv]; rfl)), fun i hi => ?_⟩⟩
  have hil : i < vs.length := by rw [h.len]; exact hi
  have k1 := hcells gb (by rw [hv]; rfl) i vs[i] (List.getElem?_eq_getElem hil)
  rw [Arg.addr_plain] at k1
  exact ⟨_, k1, (h.view i _ (List.getElem?_eq_getElem hil)).mono fun b _ hb => hb.2⟩
theorem View.part {w : World} {S : Nat -> Prop} {b off c : Nat} {l : List Pt} (h : View w S (.slice (some ⟨b, off, none⟩) l.length c) l) {i j e : Nat} (hi : i = 64 * j) (hj : j < nparts l) (he : e = min l.length (i + 64)) :
  View w S (.slice (some ⟨b, off + i * 2, none⟩) (e - i) (c - i)) (part l j) := by
 obtain ⟨A, c', h1, h2, h3, h4⟩ := h
 injection h1 with h1 _ h1c
 subst h1 h1c
 have hlt : i < l.length := by rw [hi]; exact (nparts_iff l j).2 hj
 obtain ⟨b', off', k1, k2, k3⟩ := h4 (by omega)
 injection k1 with k1
 injection k1 with e1 e2
 subst e1 e2
 have hpl : (Ck.part l j).length = e - i := by unfold Ck.part; rw [List.length_take, List.length_drop]; omega
 refine ⟨_, c - i, by rw [hpl], by omega, by omega, fun _ => ⟨b, off + i * 2, rfl, k2, fun k hk => ?_⟩⟩
 have hk2 : i + k < l.length := by omega
 have e : (Ck.part l j)[k] = l[i + k] := by
  apply Option.some.inj
  rw [<- List.getElem?_eq_getElem hk, <- List.getElem?_eq_getElem hk2]
  show (List.take 64 (List.drop (64 * j) l))[k]? = _
  rw [List.getElem?_take_of_lt (by omega), List.getElem?_drop]
  congr 1; omega
 rw [e, show off + i * 2 + k * 2 = off + (i + k) * 2 by omega]
 exact k3 (i + k) hk2
set_option maxHeartbeats 6400000 in
theorem refsplit_any (w : World) (S : Nat -> Prop) (v : Value) (l : List Pt) (hv : View w S v l) (hn : l.length <= 100000) :
  Calls Tryz.prog 69 #[v] w fun e w' => ∃ u, e = .returned u /\ Parts w' u l /\ New0 w w' := by
 have hv2 := Lib.hid hv
 obtain ⟨A, c, rfl, hc1, hc2, hA⟩ := hv
 replace hA : Hid (0 < l.length -> ∃ b off, A = some ⟨b, off, none⟩) := Lib.hid (fun h => let ⟨b, off, h1, _⟩ := hA h; ⟨b, off, h1⟩)
 obtain ⟨i0, hi, hz0, hz1, hz2⟩ := info_parts infoRow
 go_enter Tryz.func69, Tryz.ntmps69
 go_wp2_with fail
 go_loopw [3, 4] (fun u ov wr => ∃ (j i : Nat) (vs : List Value), ov = .int .i64 (i : Int) /\ Hid (i = 64 * j) /\ Hid (j <= nparts l) /\ Hid (Outs w wr u l j vs)) (fun _ ov _ => 100100 - (intOf ov).toNat)
 case atStart => exact ⟨0, 0, [], rfl, Lib.hid rfl, Lib.hid (Nat.zero_le _), Lib.hid (OutsQ.start _ w l)⟩
 case round =>
  obtain ⟨j, i, vs, rfl, hi', hj, ho⟩ := hrel
  by_cases hlt : i < l.length
  ·have hjn : Hid (j < nparts l) := Lib.hid ((nparts_iff l j).1 (by have := hi'.out; omega))
   obtain ⟨b, off, rfl⟩ := hA.out (by omega)
   obtain ⟨e, he⟩ : ∃ e, e = min l.length (i + 64) := ⟨_, rfl⟩
   have he1 : i < e /\ e <= l.length /\ e <= i + 64 := by omega
   have dm : min (l.length : Int) ((i : Int) + 64) = (e : Int) := by omega
   have hvp := Lib.hid (((hv2.out.part hi'.out hjn.out he).new ho.out.new).new ((Upon.refl _ wr).alloc (.cells #[] 153 (0, 0))))
   have hpl : (part l j).length <= 64 := (part_len hjn.out).2
   replace he := Lib.hid he
   obtain ⟨he1, he2, he3⟩ := he1
   clear hA hv2
   go_wp2_with (at_builtin; refine wpList_append_pts rfl _ _ rfl _ _ [] (part l j) S rfl rfl (OwnPts.empty (cell_new wr _)) hvp.out (by rw [List.length_nil]; omega) ?_)
   intro v' w2 hown hg hb
   have hu2 : New0 wr w2 := Upon.grown ((Upon.refl (fun _ => False) wr).alloc _) hg (fun k hk => .inr (by
    have hk' : wr.heap.size = k := by simpa [Value.ownBlock] using hk
    omega))
   have hmine : Hid (∀ g, v'.ownBlock = some g -> wr.heap.size <= g) := Lib.hid fun g hk => by
    rw [hk] at hb
    rcases hb with hb | hb
    ·have : g = wr.heap.size := by simpa [Value.ownBlock] using hb
     omega
    ·have : g = wr.heap.size + 1 := by simpa using hb
     omega
   obtain ⟨A', c', hv', -, -⟩ := hown.view.shape
   have hall : Hid (∀ o, New0 wr (w2.alloc o)) := Lib.hid fun o => hu2.alloc o
   have hrow := Lib.hid (fun o => ownsRow_kept ho.out.row (fun b hb => (hall.out o).block b (World.ownsRow.lt ho.out.row b hb).2 fun f => f))
   have hstep := Lib.hid (fun o w' g cap (h1 : w'.ownsRow 0 61 1 (.slice (some ⟨g, 0, none⟩) (j + 1) cap) (j + 1) (vs ++ [v'])) (h2 : (w2.alloc o).grownBy w' u3.ownBlock) (h3 : u3.ownBlock = some g \/ g = (w2.alloc o).heap.size) =>
    ho.out.step (hall.out o) (hown.view.new ((Upon.refl _ w2).alloc o)) (fun b hb he => Nat.lt_irrefl _ (Nat.lt_of_lt_of_le (World.ownsRow.lt ho.out.row b he).2 (hmine.out b hb))) (fun _ _ => trivial) h1 h2 h3)
   have hjl : j <= 1563 := by have := hjn.out; unfold nparts at this; omega
   clear hg hb hu2 hown hmine hall hvp ho dm hpl
   subst hv'
   go_wp2_with (at_builtin; refine wpList_append_lies _ rfl _ _ 144 rfl 0 61 i0 (.slice none 0 0) 1 24 Tryz.underlying144 hi hz0 hz1 hz2 rfl (by decide) _ j vs rfl (hrow.out _) ⟨w2.heap.size, 0, none⟩ 1 1 [.slice A' (part l j).length c'] rfl rfl ?c1 ?c2 (by decide) ?c3 ?c4 ?c5 _ rfl ?_)
   case c1 => exact World.news_of_block (cell_new w2 _)
   case c2 => intro u hu; rw [List.mem_singleton.1 hu]; rfl
   case c3 => unfold maxLen; omega
   case c4 => omega
   case c5 => exact Nat.zero_le _
   intro g cap w' h1 h2 h3 h4
   have hO := Lib.hid (hstep.out _ _ _ _ h1 h2 (h3.imp id fun h => h.trans (by simp)))
   clear hstep hrow h1 h2 h3 h4
   go_wp2_with fail
   go_roundw
   case rel => exact ⟨j + 1, i + 64, _, by go_num, Lib.hid (by have := hi'.out; omega), Lib.hid hjn.out, hO⟩
   case measure => simp [intOf]; omega
  ·have hjn : Hid (j = nparts l) := Lib.hid (by
    have h1 := hj.out
    have h2 : ¬ j < nparts l := fun h => by have := (nparts_iff l j).2 h; have := hi'.out; omega
    omega)
   have hP := Lib.hid (ho.out.parts hjn.out (fun _ _ => trivial)).parts
   have hN := Lib.hid ho.out.new
   clear ho hA hv2
   go_wp2_with fail
   go_ret
   exact ⟨u3, rfl, hP.out, hN.out⟩
end Ck
end
end
end Go.Proofs.YtgmnhodajngchaaGreatDoor
