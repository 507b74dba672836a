/- Chunks plainly (layer 9): what is written of points, which bytes are written of some, parts of points. Names no function of the program. -/
import Derived.Test.YtadlkfdjdjaakaaDoorPTm1
import Derived.Test.YtadlkfdjdjaakaaDoorPXor2
import Derived.Test.YtadlkfdjdjaakaaDoorPDig
set_option maxRecDepth 100000
namespace Go.Proofs.YtadlkfdjdjaakaaDoor
namespace Ck
open Bit Dig
set_option linter.unusedVariables false

abbrev Pt := Int × Nat
def PtIn (p : Pt) : Prop := Tm.In p.1 ∧ p.2 < 18446744073709551616
/-- The two coders. -/
abbrev C2 := Tm.Cd × Xr.Cd
def c0 : C2 := (Tm.newC, Xr.newC)
def stp (c : C2) (p : Pt) : C2 := (Tm.putC c.1 p.1, Xr.putC c.2 p.2)
def ptB (c : C2) (p : Pt) : List Bool := Tm.putB c.1 p.1 ++ Xr.putB c.2 p.2
structure Ok2 (c : C2) : Prop where
  t : c.1.Ok
  v : c.2.Ok
  fresh : c.2.begun = false → c.2.v = 0
theorem ok0 : Ok2 c0 := ⟨Tm.ok_new, Xr.ok_new, fun _ => rfl⟩
theorem Ok2.put {c : C2} (h : Ok2 c) {p : Pt} (hp : PtIn p) : Ok2 (stp c p) := ⟨h.t.put hp.1, h.v.put hp.2, fun hb => by
  have h1 : (stp c p).2.begun = true := Xr.putC_begun c.2 p.2
  rw [h1] at hb; cases hb⟩
def stps (c : C2) : List Pt → C2
  | [] => c
  | p :: l => stps (stp c p) l
def ptsB (c : C2) : List Pt → List Bool
  | [] => []
  | p :: l => ptB c p ++ ptsB (stp c p) l
theorem stps_snoc (p : Pt) : ∀ (l : List Pt) (c : C2), stps c (l ++ [p]) = stp (stps c l) p
  | [], _ => rfl
  | _ :: l, c => stps_snoc p l _
theorem ptsB_snoc (p : Pt) : ∀ (l : List Pt) (c : C2), ptsB c (l ++ [p]) = ptsB c l ++ ptB (stps c l) p
  | [], c => by simp [ptsB, stps]
  | a :: l, c => by simp only [List.cons_append, ptsB, stps, ptsB_snoc p l, List.append_assoc]
theorem stps_ok : ∀ (l : List Pt) {c : C2}, Ok2 c → (∀ p ∈ l, PtIn p) → Ok2 (stps c l)
  | [], _, h, _ => h
  | v :: l, _, h, k => stps_ok l (h.put (k v (by simp))) fun u hu => k u (by simp [hu])
theorem ptB_len (c : C2) (p : Pt) : (ptB c p).length ≤ 145 := by
  have h1 := Tm.putB_len (c := c.1) p.1
  have h2 := Xr.putB_len (c := c.2) p.2
  unfold ptB
  rw [List.length_append]; omega
theorem ptsB_len : ∀ (l : List Pt) (c : C2), (ptsB c l).length ≤ 145 * l.length
  | [], _ => by simp [ptsB]
  | v :: l, c => by
    have h1 := ptB_len c v
    have h2 := ptsB_len l (stp c v)
    simp only [ptsB, List.length_append, List.length_cons]
    omega
theorem ptsB_take {l : List Pt} {j : Nat} (h : j < l.length) (c : C2) : ptsB c (l.take (j + 1)) = ptsB c (l.take j) ++ ptB (stps c (l.take j)) l[j] ∧ stps c (l.take (j + 1)) = stp (stps c (l.take j)) l[j] := by
  rw [List.take_succ_eq_append_getElem h, ptsB_snoc, stps_snoc]
  exact ⟨rfl, rfl⟩

/-! ### what is read -/
theorem tm_le {c : Tm.Cd} {K : List Bool} {t : Int} {n : Nat} (h : Tm.getR c K = some (t, n)) : n ≤ K.length ∧ (Tm.putB c t).length = n ∧ K.take n = Tm.putB c t := by
  unfold Tm.getR at h
  cases hg : Tm.guess c K with
  | none => rw [hg] at h; cases h
  | some x =>
    obtain ⟨t', n'⟩ := x
    rw [hg] at h
    simp only at h
    split at h
    · rename_i e
      simp only [Option.some.injEq, Prod.mk.injEq] at h
      obtain ⟨rfl, rfl⟩ := h
      have hl := Tm.guess_le hg
      exact ⟨hl, by rw [e, List.length_take]; omega, e.symm⟩
    · cases h
theorem xr_lt {c : Xr.Cd} (hc : c.Ok) {K : List Bool} {v n : Nat} (h : Xr.getR c K = some (v, n)) : v < 18446744073709551616 := by
  unfold Xr.getR at h
  cases hg : Xr.guess c K with
  | none => rw [hg] at h; cases h
  | some x =>
    obtain ⟨v', n'⟩ := x
    rw [hg] at h
    simp only at h
    split at h
    · simp only [Option.some.injEq, Prod.mk.injEq] at h
      rw [← h.1]
      exact Xr.guess_lt hc hg
    · cases h
/-- The next point. -/
def rd1 (c : C2) (K : List Bool) : Option (Pt × List Bool) :=
  match Tm.getR c.1 K with
  | none => none
  | some (t, k) => match Xr.getR c.2 (K.drop k) with
    | none => none
    | some (v, j) => some ((t, v), (K.drop k).drop j)
theorem rd1_put {c : C2} (hc : Ok2 c) {p : Pt} (hp : PtIn p) (R : List Bool) : rd1 c (ptB c p ++ R) = some (p, R) := by
  unfold rd1 ptB
  rw [List.append_assoc, Tm.get_put hc.t hp.1]
  simp only [List.drop_left]
  rw [Xr.get_put hc.v hp.2]
  simp only [List.drop_left]
theorem rd1_is {c : C2} (hc : Ok2 c) {K R : List Bool} {p : Pt} (h : rd1 c K = some (p, R)) : K = ptB c p ++ R ∧ PtIn p := by
  unfold rd1 at h
  cases h1 : Tm.getR c.1 K with
  | none => rw [h1] at h; cases h
  | some x =>
    obtain ⟨t, k⟩ := x
    rw [h1] at h
    simp only at h
    cases h2 : Xr.getR c.2 (K.drop k) with
    | none => rw [h2] at h; cases h
    | some y =>
      obtain ⟨v, j⟩ := y
      rw [h2] at h
      simp only [Option.some.injEq, Prod.mk.injEq] at h
      obtain ⟨rfl, rfl⟩ := h
      obtain ⟨-, -, e1⟩ := tm_le h1
      obtain ⟨-, -, e2⟩ := Xr.get_le h2
      refine ⟨?_, Tm.getR_in h1, xr_lt hc.v h2⟩
      unfold ptB
      rw [← e1, ← e2, List.append_assoc, List.take_append_drop, List.take_append_drop]
/-- So many points. -/
def rd : Nat → C2 → List Bool → Option (List Pt × List Bool)
  | 0, _, K => some ([], K)
  | n + 1, c, K => match rd1 c K with
    | none => none
    | some (p, R) => match rd n (stp c p) R with
      | none => none
      | some (l, Q) => some (p :: l, Q)
theorem rd_put : ∀ (l : List Pt) {c : C2}, Ok2 c → (∀ p ∈ l, PtIn p) → ∀ R, rd l.length c (ptsB c l ++ R) = some (l, R)
  | [], _, _, _, _ => rfl
  | p :: l, c, hc, hl, R => by
    have hp := hl p (by simp)
    have h := rd_put l (hc.put hp) (fun u hu => hl u (by simp [hu])) R
    simp only [List.length_cons, ptsB, rd]
    rw [List.append_assoc, rd1_put hc hp]
    simp only
    rw [h]
theorem rd_is : ∀ (n : Nat) {c : C2} {K R : List Bool} {l : List Pt}, Ok2 c → rd n c K = some (l, R) → l.length = n ∧ K = ptsB c l ++ R ∧ ∀ p ∈ l, PtIn p
  | 0, _, _, _, _, _, h => by
    simp only [rd, Option.some.injEq, Prod.mk.injEq] at h
    obtain ⟨rfl, rfl⟩ := h
    exact ⟨rfl, rfl, fun _ h => by simp at h⟩
  | n + 1, c, K, R, l, hc, h => by
    simp only [rd] at h
    cases h1 : rd1 c K with
    | none => rw [h1] at h; cases h
    | some x =>
      obtain ⟨p, Q⟩ := x
      rw [h1] at h
      simp only at h
      obtain ⟨e1, hp⟩ := rd1_is hc h1
      cases h2 : rd n (stp c p) Q with
      | none => rw [h2] at h; cases h
      | some y =>
        obtain ⟨l', Q'⟩ := y
        rw [h2] at h
        simp only [Option.some.injEq, Prod.mk.injEq] at h
        obtain ⟨rfl, rfl⟩ := h
        obtain ⟨k1, k2, k3⟩ := rd_is n (hc.put hp) h2
        refine ⟨by simp [k1], ?_, fun u hu => ?_⟩
        · rw [e1, k2]; simp only [ptsB, List.append_assoc]
        · rcases List.mem_cons.1 hu with rfl | hu
          · exact hp
          · exact k3 u hu
/-- .. point by point. -/
theorem rd_step {R Q : List Bool} {p : Pt} : ∀ {n : Nat} {c : C2} {K : List Bool} {l : List Pt}, rd n c K = some (l, R) → rd1 (stps c l) R = some (p, Q) → rd (n + 1) c K = some (l ++ [p], Q)
  | 0, c, K, l, h, h1 => by
    simp only [rd, Option.some.injEq, Prod.mk.injEq] at h
    obtain ⟨rfl, rfl⟩ := h
    simp only [stps] at h1
    simp only [rd, h1, List.nil_append]
  | n + 1, c, K, l, h, h1 => by
    rw [rd] at h
    cases h2 : rd1 c K with
    | none => rw [h2] at h; cases h
    | some x =>
      obtain ⟨u, S⟩ := x
      rw [h2] at h
      simp only at h
      cases h3 : rd n (stp c u) S with
      | none => rw [h3] at h; cases h
      | some y =>
        obtain ⟨l', Q'⟩ := y
        rw [h3] at h
        simp only [Option.some.injEq, Prod.mk.injEq] at h
        obtain ⟨rfl, rfl⟩ := h
        have := rd_step h3 h1
        rw [rd, h2]
        simp only
        rw [this]
        rfl

/-! ### times that rise -/
def T (l : List Pt) (i : Nat) : Int := (l.getD i (0, 0)).1
/-- The first k rise. -/
def Rises (l : List Pt) (k : Nat) : Prop := ∀ j, j < k - 1 → T l j < T l (j + 1)
instance (l : List Pt) (k : Nat) : Decidable (Rises l k) := by unfold Rises; exact inferInstance
theorem T_get {l : List Pt} {i : Nat} (h : i < l.length) : T l i = l[i].1 := by unfold T; rw [List.getD_eq_getElem?_getD, List.getElem?_eq_getElem h]; rfl
theorem Rises.zero (l : List Pt) : Rises l 0 := fun j h => by omega
theorem Rises.one (l : List Pt) : Rises l 1 := fun j h => by omega
theorem Rises.next {l : List Pt} {k : Nat} (h : Rises l (k + 1)) (hk : T l k < T l (k + 1)) : Rises l (k + 2) := fun j hj => by
  by_cases e : j = k
  · rw [e]; exact hk
  · exact h j (by omega)
theorem Rises.le {l : List Pt} {k m : Nat} (h : Rises l m) (hk : k ≤ m) : Rises l k := fun j hj => h j (by omega)
theorem Rises.not {l : List Pt} {k m : Nat} (hk : k + 1 < m) (h : ¬ T l k < T l (k + 1)) : ¬ Rises l m := fun hr => h (hr k (by omega))

/-! ### bytes -/
def code (l : List Pt) : List UInt8 := numL l.length ++ (numL (ptsB c0 l).length ++ pack (ptsB c0 l))
/-- Encode, plainly: the bytes, the error. -/
def enc (l : List Pt) : List UInt8 × Nat :=
  if l.length < 1 ∨ 64 < l.length then ([], 2) else if Rises l l.length then (code l, 0) else ([], 9)
theorem enc_range {l : List Pt} (h : l.length < 1 ∨ 64 < l.length) : enc l = ([], 2) := if_pos h
theorem enc_order {l : List Pt} (h : 1 ≤ l.length) (h64 : l.length ≤ 64) (hr : ¬ Rises l l.length) : enc l = ([], 9) := by
  unfold enc; rw [if_neg (by omega), if_neg hr]
theorem enc_ok {l : List Pt} (h : 1 ≤ l.length) (h64 : l.length ≤ 64) (hr : Rises l l.length) : enc l = (code l, 0) := by
  unfold enc; rw [if_neg (by omega), if_pos hr]
theorem enc_is {l : List Pt} {s : List UInt8} (h : enc l = (s, 0)) : 1 ≤ l.length ∧ l.length ≤ 64 ∧ Rises l l.length ∧ code l = s := by
  unfold enc at h
  split at h
  · simp at h
  · split at h
    · rename_i h1 h2
      simp only [Prod.mk.injEq, and_true] at h
      exact ⟨by omega, by omega, h2, h⟩
    · simp at h
theorem nd_one {n : Nat} (h : 1 ≤ n) (h64 : n ≤ 64) : nd n = 1 := by unfold nd; rw [if_neg (by omega), if_pos (by omega)]
theorem bits_few {l : List Pt} (h : l.length ≤ 64) : (ptsB c0 l).length ≤ 9280 := by have := ptsB_len l c0; omega
theorem code_size {l : List Pt} (h : l.length ≤ 64) : (code l).length ≤ 2000 := by
  have h1 := bits_few h
  have h2 := nd_le l.length
  have h3 := nd_le (ptsB c0 l).length
  unfold code
  rw [List.length_append, List.length_append, numL_length, numL_length, pack_length]
  unfold nb
  omega
/-- What is found in the bytes of points. -/
structure Found (s : List UInt8) (n k m j : Nat) (R : List UInt8) : Prop where
  one : gotN s = (n, k, 0)
  two : gotN (s.drop k) = (m, j, 0)
  rest : (s.drop k).drop j = R
theorem code_found {l : List Pt} (h : 1 ≤ l.length) (h64 : l.length ≤ 64) : Found (code l) l.length 2 (ptsB c0 l).length (nd (ptsB c0 l).length + 1) (pack (ptsB c0 l)) := by
  have h1 := bits_few h64
  have e : (numL l.length).length = 2 := by rw [numL_length, nd_one h h64]
  have e2 : (code l).drop 2 = numL (ptsB c0 l).length ++ pack (ptsB c0 l) := by unfold code; rw [← e, List.drop_left]
  refine ⟨?_, ?_, ?_⟩
  · unfold code; rw [got_num _ (by omega), nd_one h h64]
  · rw [e2, got_num _ (by omega)]
  · rw [e2, ← numL_length, List.drop_left]
/-- The bits that fill the last byte are 0. -/
def Filled (R : List UInt8) (m : Nat) : Prop := ∀ i, m ≤ i → i < 8 * R.length → bitAt R i = false
theorem bitAt_fill (L : List Bool) (i : Nat) (h : L.length ≤ i) (hi : i < 8 * (pack L).length) : bitAt (pack L) i = false := by
  have hlen : (pack L).length = nb L.length := pack_length L
  have hm : i / 8 < nb L.length := by omega
  have h1 : (bitAt (pack L) i).toNat = 0 := by
    rw [bitAt_num]
    unfold pack
    rw [packTo_byte _ L _ hm]
    unfold pk
    by_cases hc : L.length ≤ 8 * (i / 8)
    · rw [chunk_behind L _ hc]; simp [numOf]
    · have hcl : (chunkAt L (i / 8)).length = L.length - 8 * (i / 8) := by
        unfold chunkAt; rw [List.length_take, List.length_drop]; unfold nb at hm; omega
      have e : 8 - (chunkAt L (i / 8)).length = (7 - i % 8) + ((8 - (chunkAt L (i / 8)).length) - 1 - (7 - i % 8)) + 1 := by omega
      rw [e, Nat.pow_succ, Nat.pow_add, Nat.mul_assoc, ← Nat.mul_assoc, ← Nat.mul_assoc, Nat.mul_comm (numOf _) (2 ^ (7 - i % 8)), Nat.mul_assoc, Nat.mul_assoc, Nat.mul_div_cancel_left _ (Nat.two_pow_pos _), ← Nat.mul_assoc]
      exact Nat.mul_mod_left _ _
  cases hb : bitAt (pack L) i with
  | false => rfl
  | true => rw [hb] at h1; cases h1
theorem pack_filled (L : List Bool) : Filled (pack L) L.length := fun i h hi => bitAt_fill L i h hi
/-- Bytes are the bits that they begin with, packed, if the rest is filled up. -/
theorem pack_back {R : List UInt8} {m : Nat} (h1 : m ≤ 8 * R.length) (h2 : R.length ≤ (m + 7) / 8) (hf : Filled R m) : pack (bitsAt R 0 m) = R := by
  have hl : (bitsAt R 0 m).length = m := bitsAt_length _ _ _
  have hpl : (pack (bitsAt R 0 m)).length = R.length := by rw [pack_length, hl]; unfold nb; omega
  refine bitAt_inj _ _ hpl fun i hi => ?_
  by_cases him : i < m
  · have := bitAt_packTo (nb (bitsAt R 0 m).length) (bitsAt R 0 m) i (by rw [hl]; unfold nb; omega) (by rw [hl]; exact him)
    rw [show pack (bitsAt R 0 m) = packTo (nb (bitsAt R 0 m).length) (bitsAt R 0 m) from rfl, this]
    simp [bitsAt]
  · rw [bitAt_fill _ i (by rw [hl]; omega) hi, hf i (by omega) (by omega)]
/-- What points are found in bytes. -/
theorem enc_of {s R : List UInt8} {n k m j : Nat} {l : List Pt} (h : Found s n k m j R) (hn : 1 ≤ n) (hn64 : n ≤ 64) (h1 : m ≤ 8 * R.length) (h2 : R.length ≤ (m + 7) / 8) (hf : Filled R m)
    (hr : rd n c0 (bitsAt R 0 m) = some (l, [])) (hrise : Rises l l.length) : enc l = (s, 0) ∧ (∀ p ∈ l, PtIn p) ∧ l.length = n := by
  obtain ⟨e1, e2, e3⟩ := rd_is n ok0 hr
  rw [List.append_nil] at e2
  refine ⟨?_, e3, e1⟩
  rw [enc_ok (by omega) (by omega) hrise]
  congr 1
  unfold code
  rw [← e2, bitsAt_length, pack_back h1 h2 hf, e1]
  have a1 := num_got s (by rw [h.one])
  have a2 := num_got (s.drop k) (by rw [h.two])
  rw [h.one] at a1
  rw [h.two] at a2
  simp only at a1 a2
  rw [a1.1, a2.1, ← h.rest, List.take_append_drop, List.take_append_drop]
/-- .. and of bytes that are some points' all that is so. -/
theorem of_enc {s : List UInt8} {l : List Pt} (hl : ∀ p ∈ l, PtIn p) (h : enc l = (s, 0)) : ∃ m j R, Found s l.length 2 m j R ∧ 1 ≤ l.length ∧ l.length ≤ 64 ∧ m ≤ 8 * R.length ∧ R.length ≤ (m + 7) / 8 ∧ Filled R m ∧ rd l.length c0 (bitsAt R 0 m) = some (l, []) ∧ Rises l l.length := by
  obtain ⟨h1, h2, h3, rfl⟩ := enc_is h
  have hp := pack_length (ptsB c0 l)
  have hb := bitsAt_pack (ptsB c0 l) 0 (ptsB c0 l).length (by omega)
  rw [List.drop_zero, List.take_length] at hb
  refine ⟨_, _, _, code_found h1 h2, h1, h2, by rw [hp]; unfold nb; omega, by rw [hp]; unfold nb; omega, pack_filled _, ?_, h3⟩
  rw [hb]
  have := rd_put l ok0 hl []
  rwa [List.append_nil] at this
theorem enc_inj {s : List UInt8} {l l' : List Pt} (hl : ∀ p ∈ l, PtIn p) (hl' : ∀ p ∈ l', PtIn p) (h : enc l = (s, 0)) (h' : enc l' = (s, 0)) : l = l' := by
  obtain ⟨m, j, R, f, -, -, -, -, -, r, -⟩ := of_enc hl h
  obtain ⟨m', j', R', f', -, -, -, -, -, r', -⟩ := of_enc hl' h'
  have e1 := f.one.symm.trans f'.one
  simp only [Prod.mk.injEq, and_true] at e1
  have e2 := f.two.symm.trans f'.two
  simp only [Prod.mk.injEq, and_true] at e2
  obtain ⟨rfl, rfl⟩ := e2
  have e3 := f.rest.symm.trans f'.rest
  subst e3
  rw [e1, r'] at r
  simp only [Option.some.injEq, Prod.mk.injEq, and_true] at r
  exact r.symm
/-- What Decode tells: points whose bytes these are, or none and an error. -/
def Dec (s : List UInt8) (l : List Pt) (e : Nat) : Prop := (e = 0 ∧ enc l = (s, 0) ∧ ∀ p ∈ l, PtIn p) ∨ (e ≠ 0 ∧ e < 100 ∧ l = [] ∧ ∀ l', (∀ p ∈ l', PtIn p) → enc l' ≠ (s, 0))
theorem Dec.back {s : List UInt8} {l l' : List Pt} {e : Nat} (h : Dec s l e) (hl : ∀ p ∈ l', PtIn p) (h' : enc l' = (s, 0)) : e = 0 ∧ l = l' := by
  rcases h with ⟨h1, h2, h3⟩ | ⟨_, _, _, h4⟩
  · exact ⟨h1, enc_inj h3 hl h2 h'⟩
  · exact absurd h' (h4 l' hl)

/-! ### parts -/
def part (l : List Pt) (i : Nat) : List Pt := (l.drop (64 * i)).take 64
def nparts (l : List Pt) : Nat := (l.length + 63) / 64
theorem part_len {l : List Pt} {i : Nat} (h : i < nparts l) : 1 ≤ (part l i).length ∧ (part l i).length ≤ 64 := by
  unfold nparts at h
  unfold part
  rw [List.length_take, List.length_drop]
  omega
theorem parts_join (l : List Pt) (i : Nat) : l.take (64 * i) ++ part l i = l.take (64 * (i + 1)) := by
  unfold part
  rw [show 64 * (i + 1) = 64 * i + 64 by omega, List.take_add]
theorem parts_all (l : List Pt) : l.take (64 * nparts l) = l := List.take_of_length_le (by unfold nparts; omega)
theorem part_T {l : List Pt} {i j : Nat} (h : j < (part l i).length) : T (part l i) j = T l (64 * i + j) := by
  have h2 : j < 64 ∧ 64 * i + j < l.length := by
    unfold part at h
    rw [List.length_take, List.length_drop] at h
    omega
  unfold T part
  rw [List.getD_eq_getElem?_getD, List.getD_eq_getElem?_getD, List.getElem?_take_of_lt h2.1, List.getElem?_drop]
theorem part_rises {l : List Pt} (h : Rises l l.length) (i : Nat) : Rises (part l i) (part l i).length := fun j hj => by
  have hle : 64 * i + (part l i).length ≤ l.length ∨ (part l i).length = 0 := by
    unfold part
    rw [List.length_take, List.length_drop]
    omega
  rw [part_T (by omega), part_T (by omega)]
  have := h (64 * i + j) (by omega)
  rw [show 64 * i + j + 1 = 64 * i + (j + 1) by omega] at this
  exact this
theorem part_in {l : List Pt} (h : ∀ p ∈ l, PtIn p) (i : Nat) : ∀ p ∈ part l i, PtIn p := fun p hp => h p (List.mem_of_mem_drop (List.mem_of_mem_take hp))

/-! ### points at equal distances -/
theorem bits_two : ∀ (l : List Pt) (c : C2), (ptsB c l).length = (Tm.putsB c.1 (l.map (·.1))).length + (Xr.putsB c.2 (l.map (·.2))).length
  | [], _ => rfl
  | p :: l, c => by
    have := bits_two l (stp c p)
    simp only [ptsB, List.map_cons, Tm.putsB, Xr.putsB, List.length_append, ptB]
    rw [this]
    show _ + ((Tm.putsB (Tm.putC c.1 p.1) _).length + (Xr.putsB (Xr.putC c.2 p.2) _).length) = _
    omega
def ev (t d : Int) (v : Nat) (n : Nat) : List Pt := (List.range n).map fun (i : Nat) => (t + (i : Int) * d, v)
theorem ev_len (t d : Int) (v n : Nat) : (ev t d v n).length = n := by simp [ev]
theorem ev_snoc (t d : Int) (v n : Nat) : ev t d v (n + 1) = ev t d v n ++ [(t + (n : Int) * d, v)] := by
  unfold ev; rw [List.range_succ, List.map_append]; rfl
theorem ev_small {t d : Int} {i : Nat} (ht : -1099511627776 < t ∧ t < 1099511627776) (hd : 1 ≤ d ∧ d ≤ 1000) (hi : i < 65) : -1099511627776 < t + (i : Int) * d ∧ t + (i : Int) * d < 1099511692776 ∧ 0 ≤ (i : Int) * d ∧ (i : Int) * d ≤ 65000 := by
  have h1 : (i : Int) * d ≤ 65 * 1000 := Int.mul_le_mul (by omega) hd.2 (by omega) (by omega)
  have h2 : 0 ≤ (i : Int) * d := Int.mul_nonneg (by omega) (by omega)
  omega
theorem ev_T {t d : Int} {v n i : Nat} (h : i < n) : T (ev t d v n) i = t + (i : Int) * d := by
  unfold T ev
  rw [List.getD_eq_getElem?_getD, List.getElem?_map, List.getElem?_range h]
  rfl
theorem ev_rises {t d : Int} {v n : Nat} (hd : 1 ≤ d) : Rises (ev t d v n) n := fun j hj => by
  rw [ev_T (by omega), ev_T (by omega)]
  have e : ((j + 1 : Nat) : Int) * d = (j : Int) * d + d := by push_cast; rw [Int.add_mul, Int.one_mul]
  omega
theorem ev_in {t d : Int} {v n : Nat} (ht : -1099511627776 < t ∧ t < 1099511627776) (hd : 1 ≤ d ∧ d ≤ 1000) (hv : v < 18446744073709551616) (hn : n ≤ 65) : ∀ p ∈ ev t d v n, PtIn p := fun p hp => by
  unfold ev at hp
  obtain ⟨i, hi, rfl⟩ := List.mem_map.1 hp
  have := ev_small (i := i) ht hd (by have := List.mem_range.1 hi; omega)
  exact ⟨by unfold Tm.In; show -9223372036854775808 ≤ t + (i : Int) * d ∧ t + (i : Int) * d ≤ 9223372036854775807; omega, hv⟩
theorem ev_times {t d : Int} {v n : Nat} (ht : -1099511627776 < t ∧ t < 1099511627776) (hd : 1 ≤ d ∧ d ≤ 1000) (hn : n ≤ 65) : (ev t d v n).map (·.1) = Tm.even t d n := by
  unfold ev Tm.even
  rw [List.map_map]
  refine List.map_congr_left fun i hi => ?_
  have := ev_small (i := i) ht hd (by have := List.mem_range.1 hi; omega)
  show t + (i : Int) * d = _
  rw [Tm.wr_id (x := (i : Int) * d) (by unfold Tm.In; omega), Tm.wr_id (by unfold Tm.In; omega)]
theorem ev_vals (t d : Int) (v n : Nat) : (ev t d v n).map (·.2) = List.replicate n v := by
  unfold ev
  rw [List.map_map]
  apply List.ext_getElem
  · simp
  · intro i h1 h2
    simp
theorem ev_bits {t d : Int} {v n : Nat} (ht : -1099511627776 < t ∧ t < 1099511627776) (hd : 1 ≤ d ∧ d ≤ 1000) (hn : n + 2 ≤ 65) : (ptsB c0 (ev t d v (n + 2))).length = (ptsB c0 (ev t d v 2)).length + 2 * n := by
  rw [bits_two, bits_two, ev_times ht hd hn, ev_times ht hd (by omega), ev_vals, ev_vals]
  have h1 := Tm.even_len t d n
  have h2 := (Xr.puts_same v (n + 1)).1
  have h3 := (Xr.puts_same v 1).1
  simp only [c0] at *
  rw [h1, h2, h3]
  omega
end Ck
end Go.Proofs.YtadlkfdjdjaakaaDoor
