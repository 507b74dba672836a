/- Parts: PLb1. -/
import Derived.Test.YtgmnhodajngchaaGreatDoorSPDig
import Derived.Test.YtgmnhodajngchaaGreatDoorSPRow
import Derived.Deep.SlicePairs
import Derived.BigQuiet
import Derived.WalkLawsBesides
import Derived.Lib.QuietBelow
set_option maxRecDepth 100000
set_option linter.unusedVariables false
namespace Go.Proofs.YtgmnhodajngchaaGreatDoor
section
section
open Go.RowKit Go.Sort
namespace Lb
open Dig
theorem u8_tri (a b : UInt8) (h1 : ¬ a < b) (h2 : ¬ b < a) : a = b := by
 rw [UInt8.lt_iff_toNat_lt] at h1 h2
 exact UInt8.toNat_inj.1 (by omega)
theorem bl_irr : ∀ x : List UInt8, Op.bytesLess x x = false
 | [] => by simp [Op.bytesLess]
 | a :: x => by rw [Op.bytesLess, bl_irr x]; simp
theorem bl_trans : ∀ x y z : List UInt8, Op.bytesLess x y = true -> Op.bytesLess y z = true -> Op.bytesLess x z = true
 | _, _, [], _, h => by simp [Op.bytesLess] at h
 | [], _, _ :: _, _, _ => by simp [Op.bytesLess]
 | _ :: _, [], _ :: _, h, _ => by simp [Op.bytesLess] at h
 | a :: x, b :: y, c :: z, h1, h2 => by
  simp only [Op.bytesLess, Bool.or_eq_true, decide_eq_true_eq, Bool.and_eq_true, beq_iff_eq] at h1 h2 ⊢
  rcases h1 with h1 | ⟨rfl, h1⟩
  ·rcases h2 with h2 | ⟨rfl, h2⟩
   ·left; rw [UInt8.lt_iff_toNat_lt] at *; omega
   ·exact .inl h1
  ·rcases h2 with h2 | ⟨rfl, h2⟩
   ·exact .inl h2
   ·exact .inr ⟨rfl, bl_trans x y z h1 h2⟩
theorem bl_tri : ∀ x y : List UInt8, Op.bytesLess x y = false -> Op.bytesLess y x = false -> x = y
 | [], [], _, _ => rfl
 | [], _ :: _, h, _ => by simp [Op.bytesLess] at h
 | _ :: _, [], _, h => by simp [Op.bytesLess] at h
 | a :: x, b :: y, h1, h2 => by
  simp only [Op.bytesLess, Bool.or_eq_false_iff, decide_eq_false_iff_not, Bool.and_eq_false_iff, beq_eq_false_iff_ne] at h1 h2
  have e := u8_tri a b h1.1 h2.1
  subst e
  rw [bl_tri x y (h1.2.resolve_left (fun h => h rfl)) (h2.2.resolve_left (fun h => h rfl))]
def lt (a b : ByteArray) : Bool := Op.bytesLess a.toList b.toList
theorem toList_inj {a b : ByteArray} (h : a.toList = b.toList) : a = b := by
 rw [ByteArray.toList_eq, ByteArray.toList_eq] at h
 cases a; cases b
 congr 1
 exact Array.toList_inj.1 h
theorem data_inj {a b : ByteArray} (h : a.data.toList = b.data.toList) : a = b := by
 cases a; cases b
 congr 1
 exact Array.toList_inj.1 h
theorem toList_beq (a b : ByteArray) : (a.toList == b.toList) = decide (a = b) := by
 by_cases h : a = b
 ·subst h; simp
 ·rw [decide_eq_false h, beq_eq_false_iff_ne]; exact fun e => h (toList_inj e)
theorem lt_irr (a : ByteArray) : lt a a = false := bl_irr _
theorem lt_trans {a b c : ByteArray} (h1 : lt a b = true) (h2 : lt b c = true) : lt a c = true := bl_trans _ _ _ h1 h2
theorem lt_tri {a b : ByteArray} (h1 : lt a b = false) (h2 : lt b a = false) : a = b := toList_inj (bl_tri _ _ h1 h2)
theorem lt_asym {a b : ByteArray} (h : lt a b = true) : lt b a = false := by
 cases h2 : lt b a with
 | false => rfl
 | true => have := lt_trans h h2; rw [lt_irr] at this; cases this
theorem lt_ne {a b : ByteArray} (h : lt a b = true) : a ≠ b := fun e => by subst e; rw [lt_irr] at h; cases h
abbrev Pr := ByteArray × ByteArray
def nmB (b : UInt8) : Bool := (decide (97 <= b.toNat) && decide (b.toNat <= 122)) || decide (b.toNat = 95)
def vlB (b : UInt8) : Bool := decide (32 <= b.toNat) && decide (b.toNat <= 126)
def nm (s : ByteArray) : Bool := s.data.toList.all nmB && decide (1 <= s.size) && decide (s.size <= 32)
def vl (s : ByteArray) : Bool := s.data.toList.all vlB && decide (1 <= s.size) && decide (s.size <= 64)
theorem nm_size {s : ByteArray} (h : nm s = true) : 1 <= s.size /\ s.size <= 32 := by simp [nm] at h; omega
theorem vl_size {s : ByteArray} (h : vl s = true) : 1 <= s.size /\ s.size <= 64 := by simp [vl] at h; omega
structure Good (l : List Pr) : Prop where
 each : ∀ p ∈ l, nm p.1 = true /\ vl p.2 = true
 rise : l.Pairwise fun p q => lt p.1 q.1 = true
structure Ok (l : List Pr) : Prop where
 one : 1 <= l.length
 few : l.length <= 8
 good : Good l
open Classical in
noncomputable def chk (l : List Pr) : Nat := if Ok l then 0 else 16
theorem chk_ok {l : List Pr} (h : Ok l) : chk l = 0 := if_pos h
theorem chk_no {l : List Pr} (h : ¬ Ok l) : chk l = 16 := if_neg h
theorem chk_iff {l : List Pr} : chk l = 0 ↔ Ok l := by
 by_cases h : Ok l
 ·rw [chk_ok h]; exact ⟨fun _ => h, fun _ => rfl⟩
 ·rw [chk_no h]; exact ⟨fun e => absurd e (by decide), fun e => absurd e h⟩
theorem Good.nil : Good [] := ⟨fun p h => absurd h (by simp), List.Pairwise.nil⟩
theorem Good.step {l : List Pr} {j : Nat} (h : Good (l.take j)) (hj : j < l.length) (h1 : nm l[j].1 = true) (h2 : vl l[j].2 = true) (h3 : ∀ i (hi : i < l.length), j = i + 1 -> lt l[i].1 l[j].1 = true) : Good (l.take (j + 1)) := by
 rw [List.take_succ_eq_append_getElem hj]
 refine ⟨fun p hp => ?_, ?_⟩
 ·rcases List.mem_append.1 hp with hp | hp
  ·exact h.each p hp
  ·rw [List.mem_singleton.1 hp]; exact ⟨h1, h2⟩
 ·rw [List.pairwise_append]
  refine ⟨h.rise, List.pairwise_singleton _ _, fun p hp q hq => ?_⟩
  rw [List.mem_singleton.1 hq]
  obtain ⟨i, hi, rfl⟩ := List.mem_iff_getElem.1 hp
  rw [List.getElem_take]
  have hij : i < j := by rw [List.length_take] at hi; omega
  have hl := h3 (j - 1) (by omega) (by omega)
  by_cases e : i = j - 1
  ·subst e; exact hl
  ·have hp := List.pairwise_iff_getElem.1 h.rise i (j - 1) hi (by rw [List.length_take]; omega) (by omega)
   rw [List.getElem_take, List.getElem_take] at hp
   exact lt_trans hp hl
theorem Ok.of {l : List Pr} (h1 : 1 <= l.length) (h8 : l.length <= 8) {j : Nat} (hj : ¬ j < l.length) (h : Good (l.take j)) : Ok l := ⟨h1, h8, by rwa [List.take_of_length_le (by omega)] at h⟩
theorem Ok.at {l : List Pr} (h : Ok l) (j : Nat) (hj : j < l.length) : nm l[j].1 = true /\ vl l[j].2 = true := h.good.each _ (List.getElem_mem hj)
theorem Ok.up {l : List Pr} (h : Ok l) (i j : Nat) (hi : i < l.length) (hj : j < l.length) (hij : j = i + 1) : lt l[i].1 l[j].1 = true := List.pairwise_iff_getElem.1 h.good.rise i j hi hj (by omega)
theorem chk_name {l : List Pr} {j : Nat} (hj : j < l.length) (h : nm l[j].1 = false) : chk l = 16 := chk_no fun k => by rw [(k.at j hj).1] at h; cases h
theorem chk_value {l : List Pr} {j : Nat} (hj : j < l.length) (h : vl l[j].2 = false) : chk l = 16 := chk_no fun k => by rw [(k.at j hj).2] at h; cases h
theorem chk_order {l : List Pr} {i j : Nat} (hi : i < l.length) (hj : j < l.length) (hij : j = i + 1) (h : lt l[i].1 l[j].1 = false) : chk l = 16 := chk_no fun k => by rw [k.up i j hi hj hij] at h; cases h
theorem chk_few {l : List Pr} (h : l.length < 1 \/ 8 < l.length) : chk l = 16 := chk_no fun k => by have := k.one; have := k.few; omega
def pB (p : Pr) : List UInt8 := numL p.1.size ++ p.1.data.toList ++ (numL p.2.size ++ p.2.data.toList)
def encB (l : List Pr) : List UInt8 := numL l.length ++ l.flatMap pB
open Classical in
noncomputable def encR (l : List Pr) : Ending := if Ok l then .returned (.tuple #[.string ⟨(encB l).toArray⟩, .int .i64 0]) else .returned (.tuple #[.string ByteArray.empty, .int .i64 16])
theorem encR_ok {l : List Pr} (h : Ok l) : encR l = .returned (.tuple #[.string ⟨(encB l).toArray⟩, .int .i64 0]) := if_pos h
theorem encR_no {l : List Pr} (h : ¬ Ok l) : encR l = .returned (.tuple #[.string ByteArray.empty, .int .i64 16]) := if_neg h
theorem pB_len {p : Pr} (h1 : p.1.size <= 32) (h2 : p.2.size <= 64) : (pB p).length <= 114 := by
 have a := nd_le p.1.size
 have b := nd_le p.2.size
 simp only [pB, List.length_append, numL_length, Array.length_toList, ByteArray.size_data]
 omega
theorem flat_len : ∀ {l : List Pr}, (∀ p ∈ l, p.1.size <= 32 /\ p.2.size <= 64) -> (l.flatMap pB).length <= 114 * l.length
 | [], _ => by simp
 | p :: l, h => by
  have h1 := pB_len (h p (by simp)).1 (h p (by simp)).2
  have h2 := flat_len (l := l) fun q hq => h q (by simp [hq])
  rw [List.flatMap_cons, List.length_append, List.length_cons]; omega
theorem Good.small {l : List Pr} (h : Good l) : ∀ p ∈ l, p.1.size <= 32 /\ p.2.size <= 64 := fun p hp => ⟨(nm_size (h.each p hp).1).2, (vl_size (h.each p hp).2).2⟩
def txt (m : Int) (s : List UInt8) : ByteArray × List UInt8 × Nat := (⟨((s.drop (gotT s m).2.1).take (gotT s m).1).toArray⟩, s.drop ((gotT s m).2.1 + (gotT s m).1), (gotT s m).2.2)
def pairs : Nat -> List UInt8 -> List Pr × List UInt8 × Nat
 | 0, s => ([], s, 0)
 | n + 1, s => if (txt 32 s).2.2 ≠ 0 then ([], (txt 32 s).2.1, (txt 32 s).2.2) else if (txt 64 (txt 32 s).2.1).2.2 ≠ 0 then ([], (txt 64 (txt 32 s).2.1).2.1, (txt 64 (txt 32 s).2.1).2.2) else
  (((txt 32 s).1, (txt 64 (txt 32 s).2.1).1) :: (pairs n (txt 64 (txt 32 s).2.1).2.1).1, (pairs n (txt 64 (txt 32 s).2.1).2.1).2)
def Read (n : Nat) (s : List UInt8) (j : Nat) (l : List Pr) (r : List UInt8) : Prop := j <= n /\ l.length = j /\ pairs n s = (l ++ (pairs (n - j) r).1, (pairs (n - j) r).2)
theorem Read.start (n : Nat) (s : List UInt8) : Read n s 0 [] s := ⟨Nat.zero_le _, rfl, by simp⟩
theorem Read.step {n : Nat} {s : List UInt8} {j : Nat} {l : List Pr} {r r1 r2 : List UInt8} {a b : ByteArray} (h : Read n s j l r) (hj : j < n) (h1 : txt 32 r = (a, r1, 0)) (h2 : txt 64 r1 = (b, r2, 0)) : Read n s (j + 1) (l ++ [(a, b)]) r2 := by
 obtain ⟨k1, k2, k3⟩ := h
 refine ⟨hj, by simp [k2], ?_⟩
 rw [k3, show n - j = n - (j + 1) + 1 by omega, pairs, h1]
 simp only [ne_eq, not_true_eq_false, if_false]
 rw [h2]
 simp
theorem Read.bad1 {n : Nat} {s : List UInt8} {j : Nat} {l : List Pr} {r r1 : List UInt8} {a : ByteArray} {e : Nat} (h : Read n s j l r) (hj : j < n) (h1 : txt 32 r = (a, r1, e)) (he : e ≠ 0) : (pairs n s).2.2 = e := by
 obtain ⟨k1, k2, k3⟩ := h
 rw [k3, show n - j = n - (j + 1) + 1 by omega, pairs, h1]
 simp [he]
theorem Read.bad2 {n : Nat} {s : List UInt8} {j : Nat} {l : List Pr} {r r1 r2 : List UInt8} {a b : ByteArray} {e : Nat} (h : Read n s j l r) (hj : j < n) (h1 : txt 32 r = (a, r1, 0)) (h2 : txt 64 r1 = (b, r2, e)) (he : e ≠ 0) : (pairs n s).2.2 = e := by
 obtain ⟨k1, k2, k3⟩ := h
 rw [k3, show n - j = n - (j + 1) + 1 by omega, pairs, h1]
 simp only [ne_eq, not_true_eq_false, if_false]
 rw [h2]
 simp [he]
theorem Read.last {n : Nat} {s : List UInt8} {j : Nat} {l : List Pr} {r : List UInt8} (h : Read n s j l r) (hj : ¬ j < n) : pairs n s = (l, r, 0) := by
 obtain ⟨k1, k2, k3⟩ := h
 rw [k3, show n - j = 0 by omega]
 simp [pairs]
noncomputable def dec (s : List UInt8) : List Pr × Nat :=
 if (gotN s).2.2 ≠ 0 then ([], (gotN s).2.2) else if (gotN s).1 < 1 \/ 8 < (gotN s).1 then ([], 16) else
 if (pairs (gotN s).1 (s.drop (gotN s).2.1)).2.2 ≠ 0 then ([], (pairs (gotN s).1 (s.drop (gotN s).2.1)).2.2) else if (pairs (gotN s).1 (s.drop (gotN s).2.1)).2.1 ≠ [] then ([], 6) else
 if chk (pairs (gotN s).1 (s.drop (gotN s).2.1)).1 ≠ 0 then ([], 16) else ((pairs (gotN s).1 (s.drop (gotN s).2.1)).1, 0)
theorem dec_num {s : List UInt8} {n k e : Nat} (h : gotN s = (n, k, e)) (he : e ≠ 0) : dec s = ([], e) := by unfold dec; rw [h]; simp [he]
theorem dec_few {s : List UInt8} {n k : Nat} (h : gotN s = (n, k, 0)) (hn : n < 1 \/ 8 < n) : dec s = ([], 16) := by unfold dec; rw [h]; simp only [ne_eq, not_true_eq_false, if_false]; rw [if_pos hn]
theorem dec_bad {s : List UInt8} {n k e : Nat} (h : gotN s = (n, k, 0)) (hn : ¬ (n < 1 \/ 8 < n)) (hp : (pairs n (s.drop k)).2.2 = e) (he : e ≠ 0) : dec s = ([], e) := by unfold dec; rw [h]; simp only [ne_eq, not_true_eq_false, if_false]; rw [if_neg hn, hp, if_pos he]
theorem dec_end {s : List UInt8} {n k : Nat} {l : List Pr} {r : List UInt8} (h : gotN s = (n, k, 0)) (hn : ¬ (n < 1 \/ 8 < n)) (hp : pairs n (s.drop k) = (l, r, 0)) : dec s = if r ≠ [] then ([], 6) else if chk l ≠ 0 then ([], 16) else (l, 0) := by unfold dec; rw [h]; simp only [ne_eq, not_true_eq_false, if_false]; rw [if_neg hn, hp]; simp
theorem dec_more {s : List UInt8} {n k : Nat} {l : List Pr} {r : List UInt8} (h : gotN s = (n, k, 0)) (hn : ¬ (n < 1 \/ 8 < n)) (hp : pairs n (s.drop k) = (l, r, 0)) (hr : r ≠ []) : dec s = ([], 6) := by rw [dec_end h hn hp, if_pos hr]
theorem dec_label {s : List UInt8} {n k : Nat} {l : List Pr} (h : gotN s = (n, k, 0)) (hn : ¬ (n < 1 \/ 8 < n)) (hp : pairs n (s.drop k) = (l, [], 0)) (hl : ¬ Ok l) : dec s = ([], 16) := by rw [dec_end h hn hp, chk_no hl]; simp
theorem dec_ok {s : List UInt8} {n k : Nat} {l : List Pr} (h : gotN s = (n, k, 0)) (hn : ¬ (n < 1 \/ 8 < n)) (hp : pairs n (s.drop k) = (l, [], 0)) (hl : Ok l) : dec s = (l, 0) := by rw [dec_end h hn hp, chk_ok hl]; simp
theorem txt_text (t : ByteArray) (m : Int) (r : List UInt8) (h : (t.size : Int) <= m) (hs : t.size < 18446744073709551616) : txt m (numL t.size ++ t.data.toList ++ r) = (t, r, 0) := by
 have hg : gotN (numL t.size ++ t.data.toList ++ r) = (t.size, nd t.size + 1, 0) := by rw [List.append_assoc]; exact got_num _ hs _
 have hl : t.data.toList.length = t.size := by simp
 have ht : gotT (numL t.size ++ t.data.toList ++ r) m = (t.size, nd t.size + 1, 0) := by
  unfold gotT
  rw [hg]
  simp only [ne_eq, not_true_eq_false, if_false]
  rw [if_neg (by omega), if_neg]
  simp only [List.length_append, numL_length, hl]; omega
 unfold txt
 rw [ht]
 have e1 : (numL t.size ++ t.data.toList ++ r).drop (nd t.size + 1) = t.data.toList ++ r := by
  rw [List.append_assoc, <- numL_length, List.drop_left]
 refine Prod.ext ?_ (Prod.ext ?_ rfl)
 ·refine data_inj ?_
  show ((numL t.size ++ t.data.toList ++ r).drop (nd t.size + 1)).take t.size = _
  rw [e1, <- hl, List.take_left]
 ·show (numL t.size ++ t.data.toList ++ r).drop (nd t.size + 1 + t.size) = r
  rw [<- List.drop_drop, e1, <- hl, List.drop_left]
theorem pairs_flat : ∀ (l : List Pr) (r : List UInt8), (∀ p ∈ l, p.1.size <= 32 /\ p.2.size <= 64) -> pairs l.length (l.flatMap pB ++ r) = (l, r, 0)
 | [], r, _ => by simp [pairs]
 | p :: l, r, h => by
  obtain ⟨h1, h2⟩ := h p (by simp)
  have e : (p :: l).flatMap pB ++ r = numL p.1.size ++ p.1.data.toList ++ (numL p.2.size ++ p.2.data.toList ++ (l.flatMap pB ++ r)) := by
   rw [List.flatMap_cons, pB]; simp [List.append_assoc]
  have ih := pairs_flat l r fun q hq => h q (by simp [hq])
  rw [e, List.length_cons, pairs, txt_text p.1 32 _ (by omega) (by omega)]
  simp only [ne_eq, not_true_eq_false, if_false]
  rw [txt_text p.2 64 _ (by omega) (by omega)]
  simp only [not_true_eq_false, if_false]
  rw [ih]
theorem dec_enc {l : List Pr} (h : Ok l) (r : List UInt8) : dec (encB l ++ r) = if r ≠ [] then ([], 6) else (l, 0) := by
 have hg : gotN (encB l ++ r) = (l.length, nd l.length + 1, 0) := by rw [encB, List.append_assoc]; exact got_num _ (by have := h.few; omega) _
 have hd : (encB l ++ r).drop (nd l.length + 1) = l.flatMap pB ++ r := by rw [encB, List.append_assoc, <- numL_length, List.drop_left]
 rw [dec_end hg (by have := h.one; have := h.few; omega) (by rw [hd]; exact pairs_flat l r h.good.small), chk_ok h]
 simp
theorem txt_ok {m : Int} {s r : List UInt8} {t : ByteArray} (h : txt m s = (t, r, 0)) : s = numL t.size ++ t.data.toList ++ r := by
 unfold txt at h
 obtain ⟨h1, h2⟩ := Prod.mk.inj h
 obtain ⟨h2, h3⟩ := Prod.mk.inj h2
 have hn : (gotN s).2.2 = 0 := by
  by_cases e : (gotN s).2.2 = 0
  ·exact e
  ·unfold gotT at h3; rw [if_pos e] at h3; exact absurd h3 e
 have hk := gotN_lt s
 have hG : ¬ (s.length - (gotN s).2.1 < (gotN s).1) /\ gotT s m = ((gotN s).1, (gotN s).2.1, 0) := by
  unfold gotT at h3 ⊢
  rw [if_neg (by simp [hn])] at h3 ⊢
  by_cases c1 : m < 0 \/ m < ((gotN s).1 : Int)
  ·rw [if_pos c1] at h3; exact absurd h3 (by simp)
  ·rw [if_neg c1] at h3 ⊢
   by_cases c2 : s.length - (gotN s).2.1 < (gotN s).1
   ·rw [if_pos c2] at h3; exact absurd h3 (by simp)
   ·rw [if_neg c2]; exact ⟨c2, rfl⟩
 rw [hG.2] at h1 h2
 have ht : t.data.toList = (s.drop (gotN s).2.1).take (gotN s).1 := by rw [<- h1]
 have hsz : t.size = (gotN s).1 := by
  have : t.data.toList.length = t.size := by simp
  rw [<- this, ht, List.length_take, List.length_drop]; omega
 rw [hsz, (num_got s hn).1, ht, <- h2, <- List.drop_drop, List.append_assoc, List.take_append_drop, List.take_append_drop]
theorem pairs_ok : ∀ {n : Nat} {s r : List UInt8} {l : List Pr}, pairs n s = (l, r, 0) -> s = l.flatMap pB ++ r /\ l.length = n
 | 0, s, r, l, h => by
  rw [pairs] at h
  obtain ⟨h1, h2⟩ := Prod.mk.inj h
  obtain ⟨h2, -⟩ := Prod.mk.inj h2
  subst h1 h2; exact ⟨rfl, rfl⟩
 | n + 1, s, r, l, h => by
  obtain ⟨⟨a, r1, e1⟩, h1⟩ : ∃ x, txt 32 s = x := ⟨_, rfl⟩
  obtain ⟨⟨b, r2, e2⟩, h2⟩ : ∃ x, txt 64 r1 = x := ⟨_, rfl⟩
  rw [pairs, h1] at h
  by_cases c1 : e1 = 0
  ·subst c1
   simp only [ne_eq, not_true_eq_false, if_false] at h
   rw [h2] at h
   by_cases c2 : e2 = 0
   ·subst c2
    simp only [not_true_eq_false, if_false] at h
    obtain ⟨⟨l', r', e'⟩, h3⟩ : ∃ x, pairs n r2 = x := ⟨_, rfl⟩
    rw [h3] at h
    obtain ⟨k1, k2⟩ := Prod.mk.inj h
    obtain ⟨k2, k3⟩ := Prod.mk.inj k2
    simp only at k1 k2 k3
    subst k1 k2 k3
    obtain ⟨i1, i2⟩ := pairs_ok h3
    refine ⟨?_, by simp [i2]⟩
    rw [txt_ok h1, txt_ok h2, i1, List.flatMap_cons, pB]
    simp [List.append_assoc]
   ·simp [c2] at h
  ·simp [c1] at h
theorem dec_back {s : List UInt8} {l : List Pr} (h : dec s = (l, 0)) : Ok l /\ encB l = s := by
 unfold dec at h
 by_cases c1 : (gotN s).2.2 ≠ 0
 ·rw [if_pos c1] at h; exact absurd (Prod.mk.inj h).2 c1
 rw [if_neg c1] at h
 by_cases c2 : (gotN s).1 < 1 \/ 8 < (gotN s).1
 ·rw [if_pos c2] at h; exact absurd (Prod.mk.inj h).2 (by decide)
 rw [if_neg c2] at h
 by_cases c3 : (pairs (gotN s).1 (s.drop (gotN s).2.1)).2.2 ≠ 0
 ·rw [if_pos c3] at h; exact absurd (Prod.mk.inj h).2 c3
 rw [if_neg c3] at h
 by_cases c4 : (pairs (gotN s).1 (s.drop (gotN s).2.1)).2.1 ≠ []
 ·rw [if_pos c4] at h; exact absurd (Prod.mk.inj h).2 (by decide)
 rw [if_neg c4] at h
 by_cases c5 : chk (pairs (gotN s).1 (s.drop (gotN s).2.1)).1 ≠ 0
 ·rw [if_pos c5] at h; exact absurd (Prod.mk.inj h).2 (by decide)
 rw [if_neg c5] at h
 have hl := (Prod.mk.inj h).1
 have hok : Ok l := by rw [<- hl]; exact chk_iff.1 (by simpa using c5)
 refine ⟨hok, ?_⟩
 obtain ⟨i1, i2⟩ := pairs_ok (n := (gotN s).1) (s := s.drop (gotN s).2.1) (l := l) (r := []) (Prod.ext hl (Prod.ext (by simpa using c4) (by simpa using c3)))
 rw [List.append_nil] at i1
 rw [encB, i2, (num_got s (by simpa using c1)).1, <- i1, List.take_append_drop]
theorem dec_none {s : List UInt8} {l : List Pr} {e : Nat} (h : dec s = (l, e)) (he : e ≠ 0) : l = [] := by
 unfold dec at h
 repeat' (split at h)
 all_goals first
  | exact (Prod.mk.inj h).1.symm
  | exact absurd (Prod.mk.inj h).2.symm he
def ltP (p q : Pr) : Bool := lt p.1 q.1 || (decide (p.1 = q.1) && lt p.2 q.2)
theorem ltP_irr (p : Pr) : ltP p p = false := by simp [ltP, lt_irr]
theorem ltP_iff {p q : Pr} : ltP p q = true ↔ lt p.1 q.1 = true \/ p.1 = q.1 /\ lt p.2 q.2 = true := by simp [ltP]
theorem ltP_tri {p q : Pr} (h1 : ltP p q = false) (h2 : ltP q p = false) : p = q := by
 have a := fun h => Bool.eq_false_iff.1 h1 (ltP_iff.2 h)
 have b := fun h => Bool.eq_false_iff.1 h2 (ltP_iff.2 h)
 have e1 : p.1 = q.1 := lt_tri (Bool.eq_false_iff.2 fun h => a (.inl h)) (Bool.eq_false_iff.2 fun h => b (.inl h))
 have e2 : p.2 = q.2 := lt_tri (Bool.eq_false_iff.2 fun h => a (.inr ⟨e1, h⟩)) (Bool.eq_false_iff.2 fun h => b (.inr ⟨e1.symm, h⟩))
 exact Prod.ext e1 e2
theorem ltP_ne {p q : Pr} (h : ltP p q = true) : p ≠ q := fun e => by subst e; rw [ltP_irr] at h; cases h
def cmp : List Pr -> List Pr -> Int
 | [], [] => 0
 | [], _ :: _ => -1
 | _ :: _, [] => 1
 | p :: a, q :: b => if ltP p q = true then -1 else if p = q then cmp a b else 1
theorem cmp_cons_eq (p : Pr) (a b : List Pr) : cmp (p :: a) (p :: b) = cmp a b := by rw [cmp, ltP_irr]; simp
theorem cmp_cons_lt {p q : Pr} (h : ltP p q = true) (a b : List Pr) : cmp (p :: a) (q :: b) = -1 := by rw [cmp, if_pos h]
theorem cmp_cons_gt {p q : Pr} (h : ltP p q = false) (hn : p ≠ q) (a b : List Pr) : cmp (p :: a) (q :: b) = 1 := by rw [cmp, if_neg (by rw [h]; decide), if_neg hn]
theorem three (p q : Pr) : ltP p q = true \/ p = q \/ (ltP p q = false /\ p ≠ q /\ ltP q p = true) := by
 cases h : ltP p q with
 | true => exact .inl rfl
 | false =>
  by_cases e : p = q
  ·exact .inr (.inl e)
  ·refine .inr (.inr ⟨rfl, e, ?_⟩)
   cases h2 : ltP q p with
   | true => rfl
   | false => exact absurd (ltP_tri h h2) e
theorem cmp_same : ∀ a b : List Pr, cmp a b = 0 ↔ a = b
 | [], [] => by simp [cmp]
 | [], _ :: _ => by simp [cmp]
 | _ :: _, [] => by simp [cmp]
 | p :: a, q :: b => by
  rcases three p q with h | rfl | ⟨h1, h2, h3⟩
  ·rw [cmp_cons_lt h]; simp [ltP_ne h]
  ·rw [cmp_cons_eq, cmp_same a b]; simp
  ·rw [cmp_cons_gt h1 h2]; simp [h2]
theorem cmp_step {a b : List Pr} {j : Nat} (ha : j < a.length) (hb : j < b.length) (he : a[j] = b[j]) : cmp (a.drop j) (b.drop j) = cmp (a.drop (j + 1)) (b.drop (j + 1)) := by
 rw [List.drop_eq_getElem_cons ha, List.drop_eq_getElem_cons hb, he, cmp_cons_eq]
theorem cmp_less {a b : List Pr} {j : Nat} (ha : j < a.length) (hb : j < b.length) (h : ltP a[j] b[j] = true) : cmp (a.drop j) (b.drop j) = -1 := by
 rw [List.drop_eq_getElem_cons ha, List.drop_eq_getElem_cons hb, cmp_cons_lt h]
theorem cmp_gr {a b : List Pr} {j : Nat} (ha : j < a.length) (hb : j < b.length) (h : ltP a[j] b[j] = false) (hn : a[j] ≠ b[j]) : cmp (a.drop j) (b.drop j) = 1 := by
 rw [List.drop_eq_getElem_cons ha, List.drop_eq_getElem_cons hb, cmp_cons_gt h hn]
theorem cmp_end1 {a b : List Pr} {j : Nat} (ha : ¬ j < a.length) (hb : j < b.length) : cmp (a.drop j) (b.drop j) = -1 := by
 rw [List.drop_eq_nil_of_le (by omega), List.drop_eq_getElem_cons hb]; rfl
theorem cmp_end2 {a b : List Pr} {j : Nat} (ha : j < a.length) (hb : ¬ j < b.length) : cmp (a.drop j) (b.drop j) = 1 := by
 rw [List.drop_eq_getElem_cons ha, show b.drop j = [] from List.drop_eq_nil_of_le (by omega)]; rfl
theorem cmp_end0 {a b : List Pr} {j : Nat} (ha : ¬ j < a.length) (hb : ¬ j < b.length) : cmp (a.drop j) (b.drop j) = 0 := by
 rw [List.drop_eq_nil_of_le (by omega), List.drop_eq_nil_of_le (by omega)]; rfl
end Lb
end
section
open Go.RowKit Go.ChangeShapes Go.WideShapes
namespace Lb
open Bit Dsk Ob Dig
def layPr : Rw.Lay Pr := ⟨2, by decide, fun p => [.string p.1, .string p.2], fun _ => rfl, fun p u hu => by
 rcases List.mem_cons.1 hu with rfl | hu
 ·rfl
 ·rw [List.mem_singleton.1 hu]; rfl⟩
abbrev All : Nat -> Prop := fun _ => True
abbrev View := Rw.View layPr
abbrev Mine := Rw.Mine layPr 89
theorem typPr : Rw.Typ layPr 60 89 32 := Rw.Typ.mk' (z := .agg #[.string ByteArray.empty, .string ByteArray.empty]) Tryz.underlying60 (by kernel_rfl) rfl
theorem View.cells {w : World} {S : Nat -> Prop} {A : Option Addr} {n c : Nat} {l : List Pr} (h : View w S (.slice A n c) l) (hp : 0 < l.length) : ∃ b off, A = some ⟨b, off, none⟩ /\ S b /\ b < w.heap.size /\ ∀ i (hi : i < l.length), w.cell? ⟨b, off + i * 2, none⟩ = some (.string l[i].1) /\ w.cell? ⟨b, off + i * 2 + 1, none⟩ = some (.string l[i].2) := by
 obtain ⟨b, off, h1, h2, h3, h4⟩ := Rw.View.open h hp
 exact ⟨b, off, h1, h2, h3, fun i hi => ⟨h4 i hi 0 _ rfl, h4 i hi 1 _ rfl⟩⟩
theorem view_of {w : World} {S : Nat -> Prop} {b off c : Nat} {l : List Pr} (hc : l.length <= c) (hm : c <= maxLen) (hS : S b) (h : ∀ i (hi : i < l.length), w.cell? ⟨b, off + i * 2, none⟩ = some (.string l[i].1) /\ w.cell? ⟨b, off + i * 2 + 1, none⟩ = some (.string l[i].2)) : View w S (.slice (some ⟨b, off, none⟩) l.length c) l :=
  ⟨_, c, rfl, hc, hm, fun _ => ⟨b, off, rfl, hS, fun i hi t u ht => by
    obtain ⟨h0, h1⟩ := h i hi
    match t, ht with
    | 0, ht => obtain rfl : Value.string l[i].1 = u := by simpa [layPr] using ht
               exact h0
    | 1, ht => obtain rfl : Value.string l[i].2 = u := by simpa [layPr] using ht
               exact h1
    | t + 2, ht => simp [layPr] at ht⟩⟩
theorem view_one {w : World} {g : Nat} {x y : ByteArray} (h : w.heap[g]? = some (.cells #[.string x, .string y] 89 (0, 0))) : View w All (.slice (some ⟨g, 0, none⟩) 1 1) [(x, y)] :=
 view_of (l := [(x, y)]) (c := 1) (Nat.le_refl _) (by unfold maxLen; decide) trivial fun i hi => by
  have : i = 0 := by simpa using hi
  subst this
  exact ⟨by rw [Lib.cell_of_heap h]; rfl, by rw [Lib.cell_of_heap h]; rfl⟩
def Sml (l : List Pr) : Prop := ∀ p ∈ l, p.1.size <= 9223372036854775807 /\ p.2.size <= 9223372036854775807
end Lb
end
section
open Go.RowKit Go.Sort
namespace Lb
open Bit Dsk Ob Dig
theorem quiet2 {P : Program} {f : FuncId} {args : Array Value} {w : World} {v : Value} (h : ∀ m, Calls P f args (w.drewN m) fun e w' => e = .returned v /\ ∃ k, w' = (w.drewN m).drewN k) (n x : Nat) :
  Calls P f args (w.drewN (n + x)) fun e w' => e = .returned v /\ ∃ k, w' = w.drewN (n + k) :=
 (h (n + x)).mono fun e w' ⟨h1, k, h2⟩ => ⟨h1, x + k, by rw [h2, World.drewN_drewN, Nat.add_assoc]⟩
theorem all_iff {f : UInt8 -> Bool} {s : ByteArray} : s.data.toList.all f = true ↔ ∀ i (h : i < s.size), f s[i] = true := by
 rw [List.all_eq_true]
 constructor
 ·intro h i hi
  exact h _ (List.mem_iff_getElem.2 ⟨i, by simpa using hi, rfl⟩)
 ·intro h b hb
  obtain ⟨i, hi, rfl⟩ := List.mem_iff_getElem.1 hb
  exact h i (by simpa using hi)
theorem nm_no {s : ByteArray} {i : Nat} (hi : i < s.size) (h : nmB s[i] = false) : nm s = false := by
 cases hn : nm s with
 | false => rfl
 | true =>
  simp only [nm, Bool.and_eq_true] at hn
  rw [all_iff.1 hn.1.1 i hi] at h; cases h
theorem vl_no {s : ByteArray} {i : Nat} (hi : i < s.size) (h : vlB s[i] = false) : vl s = false := by
 cases hn : vl s with
 | false => rfl
 | true =>
  simp only [vl, Bool.and_eq_true] at hn
  rw [all_iff.1 hn.1.1 i hi] at h; cases h
theorem nm_end {s : ByteArray} {j : Nat} (h : ∀ i (h : i < s.size), i < j -> nmB s[i] = true) (hj : ¬ j < s.size) : nm s = (decide (1 <= s.size) && decide (s.size <= 32)) := by
 have : s.data.toList.all nmB = true := all_iff.2 fun i hi => h i hi (by omega)
 unfold nm; rw [this]; simp
theorem vl_end {s : ByteArray} {j : Nat} (h : ∀ i (h : i < s.size), i < j -> vlB s[i] = true) (hj : ¬ j < s.size) : vl s = (decide (1 <= s.size) && decide (s.size <= 64)) := by
 have : s.data.toList.all vlB = true := all_iff.2 fun i hi => h i hi (by omega)
 unfold vl; rw [this]; simp
theorem ret_b {a b : Bool} (h : a = b) : Ending.returned (.bool a) = .returned (.bool b) := by rw [h]
theorem ret_i {a b : Int} (h : a = b) : Ending.returned (.int .i64 a) = .returned (.int .i64 b) := by rw [h]
set_option maxHeartbeats 1600000 in
theorem refname_any (s : ByteArray) (hs : s.size <= 9223372036854775807) (w : World) :
  Calls Tryz.prog 155 #[.string s] w fun e w' => e = .returned (.bool (nm s)) /\ ∃ n, w' = w.drewN n := by
 go_enter Tryz.func155, Tryz.ntmps155
 go_wp2_with fail
 go_loopw [3] (fun ov wr => ∃ j : Nat, ov = .int .i64 (j : Int) /\ j <= s.size /\ Hid (∀ i (h : i < s.size), i < j -> nmB s[i] = true) /\ wr = w) (fun ov _ => s.size - (intOf ov).toNat)
 case atStart => exact ⟨0, rfl, Nat.zero_le _, Lib.hid (fun i _ h => absurd h (Nat.not_lt_zero i)), rfl⟩
 case round =>
  obtain ⟨j, rfl, hj, hall, rfl⟩ := hrel
  by_cases hlt : j < s.size
  ·have hnx : Hid (nmB s[j] = true -> ∀ i (h : i < s.size), i < j + 1 -> nmB s[i] = true) := Lib.hid fun h0 i h1 h2 => by
    by_cases e : i = j
    ·subst e; exact h0
    ·exact hall.out i h1 (by omega)
   have hbad := Lib.hid (nm_no (s := s) hlt)
   clear hall
   obtain ⟨x, hx⟩ : ∃ x : Nat, s[j].toNat = x := ⟨_, rfl⟩
   have hxi : (s[j].toNat : Int) = (x : Int) := by rw [hx]
   have hB : Hid (nmB s[j] = ((decide (97 <= x) && decide (x <= 122)) || decide (x = 95))) := Lib.hid (by rw [<- hx]; rfl)
   clear hx
   by_cases c1 : x = 95
   ·subst c1
    have hG := Lib.hid (hnx.out (by rw [hB.out]; rfl))
    have d1 : ((95 : Nat) : Int) < 97 := by decide
    have d2 : (((95 : Nat) : Int) != 95) = false := by decide
    clear hnx hbad hB
    go_wp2_with fail
    go_roundw
    case rel => exact ⟨j + 1, by go_num, hlt, hG, trivial⟩
    case measure => simp [intOf]; omega
   ·have d2 : ((x : Int) != 95) = true := by rw [bne_iff_ne]; omega
    by_cases c2 : x < 97
    ·have d1 : (x : Int) < 97 := by omega
     have hN := Lib.hid (hbad.out (by rw [hB.out]; simp; omega))
     clear hnx hbad hB
     go_wp2_with fail
     go_ret
     exact ⟨ret_b hN.out.symm, 0, rfl⟩
    ·have d1 : ¬ (x : Int) < 97 := by omega
     by_cases c3 : 122 < x
     ·have d3 : (122 : Int) < (x : Int) := by omega
      have hN := Lib.hid (hbad.out (by rw [hB.out]; simp; omega))
      clear hnx hbad hB
      go_wp2_with fail
      go_ret
      exact ⟨ret_b hN.out.symm, 0, rfl⟩
     ·have d3 : ¬ (122 : Int) < (x : Int) := by omega
      have hG := Lib.hid (hnx.out (by rw [hB.out]; simp; omega))
      clear hnx hbad hB
      go_wp2_with fail
      go_roundw
      case rel => exact ⟨j + 1, by go_num, hlt, hG, trivial⟩
      case measure => simp [intOf]; omega
  ·have he := Lib.hid (nm_end hall.out hlt)
   clear hall
   by_cases c1 : 1 <= s.size
   ·have hN : Hid (decide ((s.size : Int) <= 32) = nm s) := Lib.hid (by rw [he.out, decide_eq_true c1, Bool.true_and]; exact decide_eq_decide.2 (by omega))
    go_wp2_with fail
    go_ret
    exact ⟨ret_b hN.out, 0, rfl⟩
   ·have hN : Hid (nm s = false) := Lib.hid (by rw [he.out]; simp [c1])
    go_wp2_with fail
    go_ret
    exact ⟨ret_b hN.out.symm, 0, rfl⟩
set_option maxHeartbeats 1600000 in
theorem refvalue_any (s : ByteArray) (hs : s.size <= 9223372036854775807) (w : World) :
  Calls Tryz.prog 156 #[.string s] w fun e w' => e = .returned (.bool (vl s)) /\ ∃ n, w' = w.drewN n := by
 go_enter Tryz.func156, Tryz.ntmps156
 go_wp2_with fail
 go_loopw [3] (fun ov wr => ∃ j : Nat, ov = .int .i64 (j : Int) /\ j <= s.size /\ Hid (∀ i (h : i < s.size), i < j -> vlB s[i] = true) /\ wr = w) (fun ov _ => s.size - (intOf ov).toNat)
 case atStart => exact ⟨0, rfl, Nat.zero_le _, Lib.hid (fun i _ h => absurd h (Nat.not_lt_zero i)), rfl⟩
 case round =>
  obtain ⟨j, rfl, hj, hall, rfl⟩ := hrel
  by_cases hlt : j < s.size
  ·have hnx : Hid (vlB s[j] = true -> ∀ i (h : i < s.size), i < j + 1 -> vlB s[i] = true) := Lib.hid fun h0 i h1 h2 => by
    by_cases e : i = j
    ·subst e; exact h0
    ·exact hall.out i h1 (by omega)
   have hbad := Lib.hid (vl_no (s := s) hlt)
   clear hall
   obtain ⟨x, hx⟩ : ∃ x : Nat, s[j].toNat = x := ⟨_, rfl⟩
   have hxi : (s[j].toNat : Int) = (x : Int) := by rw [hx]
   have hB : Hid (vlB s[j] = (decide (32 <= x) && decide (x <= 126))) := Lib.hid (by rw [<- hx]; rfl)
   clear hx
   by_cases c2 : x < 32
   ·have d1 : (x : Int) < 32 := by omega
    have hN := Lib.hid (hbad.out (by rw [hB.out]; simp; omega))
    clear hnx hbad hB
    go_wp2_with fail
    go_ret
    exact ⟨ret_b hN.out.symm, 0, rfl⟩
   ·have d1 : ¬ (x : Int) < 32 := by omega
    by_cases c3 : 126 < x
    ·have d3 : (126 : Int) < (x : Int) := by omega
     have hN := Lib.hid (hbad.out (by rw [hB.out]; simp; omega))
     clear hnx hbad hB
     go_wp2_with fail
     go_ret
     exact ⟨ret_b hN.out.symm, 0, rfl⟩
    ·have d3 : ¬ (126 : Int) < (x : Int) := by omega
     have hG := Lib.hid (hnx.out (by rw [hB.out]; simp; omega))
     clear hnx hbad hB
     go_wp2_with fail
     go_roundw
     case rel => exact ⟨j + 1, by go_num, hlt, hG, trivial⟩
     case measure => simp [intOf]; omega
  ·have he := Lib.hid (vl_end hall.out hlt)
   clear hall
   by_cases c1 : 1 <= s.size
   ·have hN : Hid (decide ((s.size : Int) <= 64) = vl s) := Lib.hid (by rw [he.out, decide_eq_true c1, Bool.true_and]; exact decide_eq_decide.2 (by omega))
    go_wp2_with fail
    go_ret
    exact ⟨ret_b hN.out, 0, rfl⟩
   ·have hN : Hid (vl s = false) := Lib.hid (by rw [he.out]; simp [c1])
    go_wp2_with fail
    go_ret
    exact ⟨ret_b hN.out.symm, 0, rfl⟩
end Lb
end
section
open Go.RowKit Go.Sort
namespace Lb
open Bit Dsk Ob Dig
set_option maxHeartbeats 3200000 in
theorem refcmp_any (w : World) (S S' : Nat -> Prop) (v1 v2 : Value) (l m : List Pr) (h1 : View w S v1 l) (h2 : View w S' v2 m) :
  Calls Tryz.prog 74 #[v1, v2] w fun e w' => e = .returned (.int .i64 (cmp l m)) /\ ∃ n, w' = w.drewN n := by
 obtain ⟨A, c, rfl, hc1, hc2⟩ := Rw.View.shape h1
 obtain ⟨A', c', rfl, hc1', hc2'⟩ := Rw.View.shape h2
 have hl := Nat.le_trans hc1 hc2
 have hl' := Nat.le_trans hc1' hc2'
 unfold maxLen at hl hl'
 clear hc1 hc2 hc1' hc2'
 replace h1 := Lib.hid h1
 replace h2 := Lib.hid h2
 go_enter Tryz.func74, Tryz.ntmps74
 go_wp2_with fail
 go_loopw [5] (fun ov wr => ∃ j k : Nat, ov = .int .i64 (j : Int) /\ j <= l.length /\ j <= m.length /\ Hid (cmp (l.drop j) (m.drop j) = cmp l m) /\ wr = w.drewN k) (fun ov _ => l.length - (intOf ov).toNat)
 case atStart => exact ⟨0, 0, rfl, Nat.zero_le _, Nat.zero_le _, Lib.hid rfl, rfl⟩
 case round =>
  obtain ⟨j, k, rfl, hj, hj', hg, rfl⟩ := hrel
  by_cases hlt : j < l.length
  ·by_cases hlt' : j < m.length
   ·obtain ⟨b, off, rfl, -, -, hcells⟩ := View.cells h1.out (by omega)
    obtain ⟨b', off', rfl, -, -, hcells'⟩ := View.cells h2.out (by omega)
    obtain ⟨x0, x1⟩ := hcells j hlt
    obtain ⟨y0, y1⟩ := hcells' j hlt'
    clear hcells hcells' h1 h2
    have r1 := Lib.hid (fun h => (cmp_less hlt hlt' h).symm.trans hg.out)
    have r2 := Lib.hid (fun h => (cmp_step hlt hlt' h).symm.trans hg.out)
    have r3 := Lib.hid (fun h h' => (cmp_gr hlt hlt' h h').symm.trans hg.out)
    clear hg
    obtain ⟨p, hp⟩ : ∃ p, l[j] = p := ⟨_, rfl⟩
    obtain ⟨q, hq⟩ : ∃ q, m[j] = q := ⟨_, rfl⟩
    rw [hp] at x0 x1 r1 r2 r3
    rw [hq] at y0 y1 r1 r2 r3
    clear hp hq
    obtain ⟨a1, a2⟩ := p
    obtain ⟨b1, b2⟩ := q
    by_cases c1 : lt a1 b1 = true
    ·have hR := Lib.hid (r1.out (by rw [ltP_iff]; exact .inl c1))
     have d1 : Op.bytesLess a1.toList b1.toList = true := c1
     clear r1 r2 r3 c1
     go_wp2_with fail
     go_quiet (fail)
     go_wp2_with fail
     go_ret
     exact ⟨ret_i hR.out, k + nq, by rw [World.drewN_drewN]⟩
    ·have d1 : Op.bytesLess a1.toList b1.toList = false := Bool.eq_false_iff.2 c1
     by_cases e1 : a1 = b1
     ·subst e1
      have d2 : (a1.toList == a1.toList) = true := beq_self_eq_true _
      by_cases c2 : lt a2 b2 = true
      ·have hR := Lib.hid (r1.out (by rw [ltP_iff]; exact .inr ⟨rfl, c2⟩))
       have d3 : Op.bytesLess a2.toList b2.toList = true := c2
       clear r1 r2 r3 c1 c2
       go_wp2_with fail
       go_quiet (fail)
       go_wp2_with fail
       go_ret
       exact ⟨ret_i hR.out, k + nq, by rw [World.drewN_drewN]⟩
      ·have d3 : Op.bytesLess a2.toList b2.toList = false := Bool.eq_false_iff.2 c2
       by_cases e2 : a2 = b2
       ·subst e2
        have hR := Lib.hid (r2.out rfl)
        clear r1 r2 r3 c1 c2
        go_wp2_with fail
        go_quiet (fail)
        go_wp2_with fail
        go_quiet (fail)
        go_wp2_with fail
        go_roundw
        case rel => exact ⟨j + 1, _, by go_num, hlt, hlt', hR, rfl⟩
        case measure => simp [intOf]; omega
       ·have hf : ltP (a1, a2) (a1, b2) = false := Bool.eq_false_iff.2 fun h => by
         rcases ltP_iff.1 h with h | ⟨-, h⟩
         ·exact c1 h
         ·exact c2 h
        have hR := Lib.hid (r3.out hf (fun e => e2 (Prod.mk.inj e).2))
        have d4 : (a2.toList == b2.toList) = false := by rw [toList_beq]; exact decide_eq_false e2
        have d5 : decide (a2 = b2) = false := decide_eq_false e2
        clear r1 r2 r3 c1 c2 hf
        go_wp2_with fail
        go_quiet (fail)
        go_wp2_with fail
        go_quiet (fail)
        go_wp2_with fail
        go_ret
        exact ⟨ret_i hR.out, _, by rw [World.drewN_drewN, World.drewN_drewN]⟩
     ·have hf : ltP (a1, a2) (b1, b2) = false := Bool.eq_false_iff.2 fun h => by
       rcases ltP_iff.1 h with h | ⟨h, -⟩
       ·exact c1 h
       ·exact e1 h
      have hR := Lib.hid (r3.out hf (fun e => e1 (Prod.mk.inj e).1))
      have d4 : (a1.toList == b1.toList) = false := by rw [toList_beq]; exact decide_eq_false e1
      have d5 : decide (a1 = b1) = false := decide_eq_false e1
      clear r1 r2 r3 c1 hf
      go_wp2_with fail
      go_quiet (fail)
      go_wp2_with fail
      go_quiet (fail)
      go_wp2_with fail
      go_ret
      exact ⟨ret_i hR.out, _, by rw [World.drewN_drewN, World.drewN_drewN]⟩
   ·have hR := Lib.hid ((cmp_end2 hlt hlt').symm.trans hg.out)
    clear hg h1 h2
    go_wp2_with fail
    go_ret
    exact ⟨ret_i hR.out, k, rfl⟩
  ·by_cases hlt' : j < m.length
   ·have hR := Lib.hid ((cmp_end1 hlt hlt').symm.trans hg.out)
    clear hg h1 h2
    go_wp2_with fail
    go_ret
    exact ⟨ret_i hR.out, k, rfl⟩
   ·have hR := Lib.hid ((cmp_end0 hlt hlt').symm.trans hg.out)
    clear hg h1 h2
    go_wp2_with fail
    go_ret
    exact ⟨ret_i hR.out, k, rfl⟩
theorem cmp_beq (l m : List Pr) : (cmp l m == 0) = decide (l = m) := by
 by_cases h : l = m
 ·rw [decide_eq_true h, beq_iff_eq]; exact (cmp_same l m).2 h
 ·rw [decide_eq_false h, beq_eq_false_iff_ne]; exact fun e => h ((cmp_same l m).1 e)
theorem same_any (w : World) (S S' : Nat -> Prop) (v1 v2 : Value) (l m : List Pr) (h1 : View w S v1 l) (h2 : View w S' v2 m) :
  Calls Tryz.prog 27 #[v1, v2] w fun e w' => e = .returned (.bool (decide (l = m))) /\ ∃ n, w' = w.drewN n := by
 have HC := Lib.hid (fun w (h1 : View w S v1 l) (h2 : View w S' v2 m) => refcmp_any w S S' v1 v2 l m h1 h2)
 obtain ⟨A, c, rfl, -, -⟩ := Rw.View.shape h1
 obtain ⟨A', c', rfl, -, -⟩ := Rw.View.shape h2
 replace h1 := Lib.hid h1
 replace h2 := Lib.hid h2
 go_enter Tryz.func27, Tryz.ntmps27
 go_wp2_with fail
 refine (HC.out _ h1.out h2.out).mono ?_
 rintro e w2 ⟨rfl, n, rfl⟩
 clear HC h1 h2
 go_wp2_with fail
 go_ret
 exact ⟨ret_b (cmp_beq l m), n, rfl⟩
theorem nameQ (w : World) (s : ByteArray) (hs : s.size <= 9223372036854775807) {b : Bool} (h : nm s = b) (m : Nat) : Calls Tryz.prog 155 #[.string s] (w.drewN m) fun e w' => e = .returned (.bool b) /\ ∃ k, w' = (w.drewN m).drewN k := by
 subst h; exact refname_any s hs _
theorem valueQ (w : World) (s : ByteArray) (hs : s.size <= 9223372036854775807) {b : Bool} (h : vl s = b) (m : Nat) : Calls Tryz.prog 156 #[.string s] (w.drewN m) fun e w' => e = .returned (.bool b) /\ ∃ k, w' = (w.drewN m).drewN k := by
 subst h; exact refvalue_any s hs _
theorem at_least {a b : ByteArray} {t : Bool} (h : lt b a = t) : (Op.bytesLess a.toList b.toList || a.toList == b.toList) = !t := by
 subst h
 rw [toList_beq]
 cases h : lt b a with
 | true =>
  have h2 : Op.bytesLess a.toList b.toList = false := lt_asym h
  rw [h2, decide_eq_false (fun e => lt_ne h e.symm)]; rfl
 | false =>
  by_cases e : a = b
  ·rw [decide_eq_true e]; simp
  ·have h2 : Op.bytesLess a.toList b.toList = true := by
    cases h3 : Op.bytesLess a.toList b.toList with
    | true => rfl
    | false => exact absurd (lt_tri (a := a) (b := b) h3 h) e
   rw [h2]; rfl
set_option maxHeartbeats 3200000 in
theorem refcheck_any (w : World) (S : Nat -> Prop) (v : Value) (l : List Pr) (hv : View w S v l) (hsm : Sml l) :
  Calls Tryz.prog 106 #[v] w fun e w' => e = .returned (.int .i64 (chk l : Int)) /\ ∃ n, w' = w.drewN n := by
 obtain ⟨A, c, rfl, -, -⟩ := Rw.View.shape hv
 replace hv := Lib.hid hv
 replace hsm := Lib.hid hsm
 by_cases h1 : l.length < 1
 ·have hR : Hid ((16 : Int) = (chk l : Int)) := Lib.hid (by rw [chk_few (.inl h1)]; rfl)
  have d1 : (l.length : Int) < 1 := by omega
  go_enter Tryz.func106, Tryz.ntmps106
  go_wp2_with fail
  go_ret
  exact ⟨ret_i hR.out, 0, rfl⟩
 by_cases h8 : 8 < l.length
 ·have hR : Hid ((16 : Int) = (chk l : Int)) := Lib.hid (by rw [chk_few (.inr h8)]; rfl)
  have d1 : ¬ (l.length : Int) < 1 := by omega
  have d2 : (8 : Int) < (l.length : Int) := by omega
  go_enter Tryz.func106, Tryz.ntmps106
  go_wp2_with fail
  go_ret
  exact ⟨ret_i hR.out, 0, rfl⟩
 obtain ⟨b, off, rfl, -, -, hcells⟩ := View.cells hv.out (by omega)
 replace hcells := Lib.hid hcells
 have d1 : ¬ (l.length : Int) < 1 := by omega
 have d2 : ¬ (8 : Int) < (l.length : Int) := by omega
 have hl1 : 1 <= l.length := by omega
 have hl8 : l.length <= 8 := by omega
 clear hv h1 h8
 go_enter Tryz.func106, Tryz.ntmps106
 go_wp2_with fail
 go_loopw [3] (fun ov wr => ∃ j k : Nat, ov = .int .i64 (j : Int) /\ j <= l.length /\ Hid (Good (l.take j)) /\ wr = w.drewN k) (fun ov _ => l.length - (intOf ov).toNat)
 case atStart => exact ⟨0, 0, rfl, Nat.zero_le _, Lib.hid Good.nil, rfl⟩
 case round =>
  obtain ⟨j, k, rfl, hj, hg, rfl⟩ := hrel
  by_cases hlt : j < l.length
  ·obtain ⟨x0, x1⟩ := hcells.out j hlt
   have hst := Lib.hid (hg.out.step hlt)
   have hR1 := Lib.hid (chk_name (l := l) hlt)
   have hR2 := Lib.hid (chk_value (l := l) hlt)
   have hR3 := Lib.hid (fun i hi hij => chk_order (l := l) (i := i) hi hlt hij)
   have hsz := hsm.out _ (List.getElem_mem hlt)
   obtain ⟨a1, ha1⟩ : ∃ a1, l[j].1 = a1 := ⟨_, rfl⟩
   obtain ⟨a2, ha2⟩ : ∃ a2, l[j].2 = a2 := ⟨_, rfl⟩
   rw [ha1] at x0 hst hR1 hsz
   rw [ha2] at x1 hst hR2 hsz
   replace hR3 : Hid (∀ i (hi : i < l.length), j = i + 1 -> lt l[i].1 a1 = false -> chk l = 16) := Lib.hid (fun i hi hij h => hR3.out i hi hij (by rw [ha1]; exact h))
   clear ha1 ha2 hg
   cases hn : nm a1 with
   | false =>
    have HN := Lib.hid (nameQ w a1 hsz.1 hn)
    have hR : Hid ((16 : Int) = (chk l : Int)) := Lib.hid (by rw [hR1.out hn]; rfl)
    clear hst hR1 hR2 hR3 hsz hn hcells hsm
    go_wp2_with fail
    go_quiet ((go_at_call 155; exact quiet2 HN.out _ _))
    go_wp2_with fail
    go_ret
    exact ⟨ret_i hR.out, _, by rw [World.drewN_drewN]⟩
   | true =>
    have HN := Lib.hid (nameQ w a1 hsz.1 hn)
    cases hvv : vl a2 with
    | false =>
     have HV := Lib.hid (valueQ w a2 hsz.2 hvv)
     have hR : Hid ((16 : Int) = (chk l : Int)) := Lib.hid (by rw [hR2.out hvv]; rfl)
     clear hst hR1 hR2 hR3 hsz hn hvv hcells hsm
     go_wp2_with fail
     go_quiet ((first | (go_at_call 155; exact quiet2 HN.out _ _) | (go_at_call 156; exact quiet2 HV.out _ _)))
     go_wp2_with fail
     go_ret
     exact ⟨ret_i hR.out, _, by rw [World.drewN_drewN]⟩
    | true =>
     have HV := Lib.hid (valueQ w a2 hsz.2 hvv)
     by_cases h0 : j = 0
     ·have hG := Lib.hid (hst.out hn hvv (fun i _ e => by omega))
      have hj0 : decide (0 < j) = false := decide_eq_false (by omega)
      clear hst hR1 hR2 hR3 hsz hn hvv h0
      go_wp2_with fail
      go_quiet ((first | (go_at_call 155; exact quiet2 HN.out _ _) | (go_at_call 156; exact quiet2 HV.out _ _)))
      go_wp2_with fail
      go_roundw
      case rel => exact ⟨j + 1, _, by go_num, hlt, hG, rfl⟩
      case measure => simp [intOf]; omega
     ·obtain ⟨i, hi⟩ : ∃ i, j = i + 1 := ⟨j - 1, by omega⟩
      have hil : i < l.length := by omega
      obtain ⟨y0, -⟩ := hcells.out i hil
      have hidx : IntKind.i64.wrap ((j : Int) - 1) = (i : Int) := by rw [IntKind.wrap_i64]; omega
      have hj0 : decide (0 < j) = true := decide_eq_true (by omega)
      replace hR3 := Lib.hid (hR3.out i hil hi)
      replace hst := Lib.hid (hst.out hn hvv)
      obtain ⟨p1, hp1⟩ : ∃ p1, l[i].1 = p1 := ⟨_, rfl⟩
      rw [hp1] at y0 hR3
      cases ho : lt p1 a1 with
      | false =>
       have hR : Hid ((16 : Int) = (chk l : Int)) := Lib.hid (by rw [hR3.out ho]; rfl)
       have d3 : (Op.bytesLess a1.toList p1.toList || a1.toList == p1.toList) = true := at_least ho
       clear hst hR1 hR2 hR3 hsz hn hvv hp1 ho hi hcells hsm
       go_wp2_with fail
       go_quiet ((first | (go_at_call 155; exact quiet2 HN.out _ _) | (go_at_call 156; exact quiet2 HV.out _ _)))
       go_wp2_with fail
       go_ret
       exact ⟨ret_i hR.out, _, by rw [World.drewN_drewN]⟩
      | true =>
       have hG := Lib.hid (hst.out (fun i' h' e => by
        obtain rfl : i' = i := by omega
        rw [hp1]; exact ho))
       have d3 : (Op.bytesLess a1.toList p1.toList || a1.toList == p1.toList) = false := at_least ho
       clear hst hR1 hR2 hR3 hsz hn hvv hp1 ho hi
       go_wp2_with fail
       go_quiet ((first | (go_at_call 155; exact quiet2 HN.out _ _) | (go_at_call 156; exact quiet2 HV.out _ _)))
       go_wp2_with fail
       go_roundw
       case rel => exact ⟨j + 1, _, by go_num, hlt, hG, rfl⟩
       case measure => simp [intOf]; omega
  ·have hR : Hid ((0 : Int) = (chk l : Int)) := Lib.hid (by rw [chk_ok (Ok.of hl1 hl8 hlt hg.out)]; rfl)
   clear hg hcells hsm
   go_wp2_with fail
   go_ret
   exact ⟨ret_i hR.out, k, rfl⟩
end Lb
end
section
open Go.RowKit Go.Sort
namespace Lb
open Bit Dsk Ob Dig
abbrev InO (p : Nat) (s : ByteArray) (e : Nat) : Ob.Rel := Rw.Box2 77 p (.string s) (.int .i64 (e : Int))
theorem thingIn (p : Nat) (s : ByteArray) (e : Nat) : Thing (InO p s e) := Rw.thingBox2 _ _ _ _
theorem boxed_below {g : Nat} {a b : Value} {w w' : World} (h : Boxed g a b w) (hb : Below w.heap.size w w') : Boxed g a b w' := by
 have hl := World.block_lt_of_cell? w _ h.c0
 have hblk : w'.heap[g]? = w.heap[g]? := hb.block g hl
 refine ⟨?_, ?_, ?_, ?_⟩
 ·rw [<- h.c0, World.cell?, World.cell?, hblk]
 ·rw [<- h.c1, World.cell?, World.cell?, hblk]
 ·rw [<- h.f0, World.frozen?, World.frozen?, hblk]
 ·rw [<- h.f1, World.frozen?, World.frozen?, hblk]
set_option maxHeartbeats 1600000 in
theorem innum_any (w : World) (S : Nat -> Prop) (p : Nat) (s : ByteArray) (hs : s.size <= 9223372036854775807) (n k x : Nat) (hg : gotN s.data.toList = (n, k, x)) (t : ByteArray) (ht : s.extract k s.size = t) (h : InO p s 0 w S) :
  Calls Tryz.prog 23 #[.pointer (some ⟨p, 0, none⟩)] w fun e w' => e = .returned (.int .u64 (n : Int)) /\ ObjStep (InO p t x) S w w' := by
 have hk : k <= s.size := by
  have := (gotN_lt s.data.toList).2.2.1
  rw [hg] at this
  simpa using this
 have HG : Hid (∀ w, Calls Tryz.prog 55 #[.string s] w fun e w' => e = .returned (.tuple #[.int .u64 (n : Int), .int .i64 (k : Int), .int .i64 (x : Int)]) /\ Below w.heap.size w w') := Lib.hid fun w => by
  have := refget_any s hs w
  rw [hg] at this
  exact this
 have hB := Rw.box2See h
 obtain ⟨c0, c1, f0, f1⟩ := hB
 replace h := Lib.hid h
 clear hg
 go_enter Tryz.func23, Tryz.ntmps23
 go_wp2_with fail
 refine (HG.out _).mono ?_
 rintro e w2 ⟨rfl, hb⟩
 obtain ⟨c0', c1', f0', f1'⟩ := boxed_below ⟨c0, c1, f0, f1⟩ hb
 have hend := Lib.hid (fun y : Value => Rw.box2Set10 (x := .string t) (y := y) h.out (newOf hb))
 have e0 := fun y : Value => World.set_other (v := y) (by decide : (1 : Nat) ≠ 0) c0'
 have e1 : ∀ y : Value, (w2.setCell ⟨p, 1, none⟩ y).frozen? ⟨p, 0, none⟩ = false := fun y => (World.frozen?_setCell w2 _ _ _).trans f0'
 clear HG hb h c0 c1 f0 f1
 go_wp2_with fail
 go_ret
 exact ⟨rfl, hend.out _⟩
theorem gotT_le {l : List UInt8} {m : Int} {n k x : Nat} (h : gotT l m = (n, k, x)) : k + n <= l.length := by
 have hk := gotN_lt l
 unfold gotT at h
 repeat' (split at h)
 all_goals
  simp only [Prod.mk.injEq] at h
  omega
set_option maxHeartbeats 1600000 in
theorem intext_any (w : World) (S : Nat -> Prop) (p : Nat) (s : ByteArray) (most : Int) (hs : s.size <= 4611686018427387904) (hm : most <= 9223372036854775807) (n k x : Nat) (hg : gotT s.data.toList most = (n, k, x)) (t r : ByteArray) (ht : s.extract k (k + n) = t) (hr : s.extract (k + n) s.size = r) (h : InO p s 0 w S) :
  Calls Tryz.prog 56 #[.pointer (some ⟨p, 0, none⟩), .int .i64 most] w fun e w' => e = .returned (.string t) /\ ObjStep (InO p r x) S w w' := by
 obtain ⟨m, hm'⟩ : ∃ m, k + n = m := ⟨_, rfl⟩
 have hk : m <= s.size := by
  have := gotT_le hg
  rw [hm'] at this
  simpa using this
 have HG : Hid (∀ w, Calls Tryz.prog 105 #[.string s, .int .i64 most] w fun e w' => e = .returned (.tuple #[.string t, .int .i64 (m : Int), .int .i64 (x : Int)]) /\ Below w.heap.size w w') := Lib.hid fun w => by
  have := refgettext_any s most (by omega) hm w
  rw [hg] at this
  simp only at this
  rw [ht, <- Int.natCast_add, hm'] at this
  exact this
 rw [hm'] at hr
 have hB := Rw.box2See h
 obtain ⟨c0, c1, f0, f1⟩ := hB
 replace h := Lib.hid h
 clear hg ht hm'
 go_enter Tryz.func56, Tryz.ntmps56
 go_wp2_with fail
 refine (HG.out _).mono ?_
 rintro e w2 ⟨rfl, hb⟩
 obtain ⟨c0', c1', f0', f1'⟩ := boxed_below ⟨c0, c1, f0, f1⟩ hb
 have hend := Lib.hid (fun y : Value => Rw.box2Set10 (x := .string r) (y := y) h.out (newOf hb))
 have e0 := fun y : Value => World.set_other (v := y) (by decide : (1 : Nat) ≠ 0) c0'
 have e1 : ∀ y : Value, (w2.setCell ⟨p, 1, none⟩ y).frozen? ⟨p, 0, none⟩ = false := fun y => (World.frozen?_setCell w2 _ _ _).trans f0'
 clear HG hb h c0 c1 f0 f1
 go_wp2_with fail
 go_ret
 exact ⟨rfl, hend.out _⟩
set_option maxHeartbeats 800000 in
theorem intext_err (w : World) (S : Nat -> Prop) (p : Nat) (s : ByteArray) (most : Int) (e : Nat) (he : e ≠ 0) (h : InO p s e w S) :
  Calls Tryz.prog 56 #[.pointer (some ⟨p, 0, none⟩), .int .i64 most] w fun r w' => r = .returned (.string ByteArray.empty) /\ ObjStep (InO p s e) S w w' := by
 obtain ⟨c0, c1, f0, f1⟩ := Rw.box2See h
 have d : ((e : Int) != 0) = true := by rw [bne_iff_ne]; omega
 replace h := Lib.hid h
 go_enter Tryz.func56, Tryz.ntmps56
 go_wp2_with fail
 go_ret
 exact ⟨rfl, ObjStep.refl h.out⟩
def mustE (b : Bool) (e y : Nat) : Nat := if e = 0 /\ b = false then y else e
set_option maxHeartbeats 800000 in
theorem inmust_any (w : World) (S : Nat -> Prop) (p : Nat) (s : ByteArray) (b : Bool) (e y : Nat) (h : InO p s e w S) :
  Calls Tryz.prog 60 #[.pointer (some ⟨p, 0, none⟩), .bool b, .int .i64 (y : Int)] w fun r w' => r = .returned (.tuple #[]) /\ ObjStep (InO p s (mustE b e y)) S w w' := by
 obtain ⟨c0, c1, f0, f1⟩ := Rw.box2See h
 by_cases he : e = 0
 ·subst he
  cases b with
  | true =>
   replace h : Hid (InO p s (mustE true 0 y) w S) := Lib.hid (by unfold mustE; rw [if_neg (by simp)]; exact h)
   go_enter Tryz.func60, Tryz.ntmps60
   go_wp2_with fail
   go_end0
   exact ⟨rfl, ObjStep.refl h.out⟩
  | false =>
   have hend : Hid (ObjStep (InO p s (mustE false 0 y)) S w (w.setCell ⟨p, 1, none⟩ (.int .i64 (y : Int)))) := Lib.hid (by
    unfold mustE; rw [if_pos ⟨rfl, rfl⟩]; exact Rw.box2Set1 h (Upon.refl _ w))
   clear h
   go_enter Tryz.func60, Tryz.ntmps60
   go_wp2_with fail
   go_end0
   exact ⟨rfl, hend.out⟩
 ·have d : ((e : Int) == 0) = false := by rw [beq_eq_false_iff_ne]; omega
  replace h : Hid (InO p s (mustE b e y) w S) := Lib.hid (by unfold mustE; rw [if_neg (fun k => he k.1)]; exact h)
  clear he
  go_enter Tryz.func60, Tryz.ntmps60
  go_wp2_with fail
  go_end0
  exact ⟨rfl, ObjStep.refl h.out⟩
end Lb
end
section
open Go.RowKit Go.Sort
namespace Lb
open Bit Dsk Ob Dig
theorem refcheck_ok (w : World) (S : Nat -> Prop) (v : Value) (l : List Pr) (hv : View w S v l) (hsm : Sml l) (hok : Ok l) :
  Calls Tryz.prog 106 #[v] w fun e w' => e = .returned (.int .i64 0) /\ New0 w w' :=
 (refcheck_any w S v l hv hsm).mono fun e w' ⟨h1, n, h2⟩ => ⟨by rw [h1, chk_ok hok]; rfl, by rw [h2]; exact upon_drewN _ w n⟩
theorem refcheck_no (w : World) (S : Nat -> Prop) (v : Value) (l : List Pr) (hv : View w S v l) (hsm : Sml l) (hok : ¬ Ok l) :
  Calls Tryz.prog 106 #[v] w fun e w' => e = .returned (.int .i64 16) /\ New0 w w' :=
 (refcheck_any w S v l hv hsm).mono fun e w' ⟨h1, n, h2⟩ => ⟨by rw [h1, chk_no hok]; rfl, by rw [h2]; exact upon_drewN _ w n⟩
theorem New0.cells {w w' : World} (h : New0 w w') {a : Addr} {v : Value} (hc : w.cell? a = some v) : w'.cell? a = some v := by
 have hb := h.block a.block (World.block_lt_of_cell? w _ hc) (fun f => f)
 rw [<- hc, World.cell?, World.cell?, hb]
def So (l : List Pr) (j : Nat) (s : ByteArray) : Prop := s.data.toList = numL l.length ++ (l.take j).flatMap pB
theorem So.start (l : List Pr) : So l 0 ⟨(numL l.length).toArray⟩ := by simp [So]
theorem So.step {l : List Pr} {j : Nat} {s : ByteArray} (h : So l j s) (hj : j < l.length) : So l (j + 1) (s ++ textA l[j].1 ++ textA l[j].2) := by
 unfold So at *
 rw [ByteArray.data_append, Array.toList_append, ByteArray.data_append, Array.toList_append, h, textA_list, textA_list, List.take_succ_eq_append_getElem hj, List.flatMap_append]
 simp [pB, List.append_assoc]
theorem So.last {l : List Pr} {j : Nat} {s : ByteArray} (h : So l j s) (hj : ¬ j < l.length) : s = ⟨(encB l).toArray⟩ := by
 refine data_inj ?_
 rw [h, List.take_of_length_le (by omega)]; rfl
theorem So.size {l : List Pr} {j : Nat} {s : ByteArray} (h : So l j s) (hok : Ok l) : s.size <= 1000 := by
 have h1 := nd_le l.length
 have h2 : ((l.take j).flatMap pB).length <= 114 * (l.take j).length := flat_len fun p hp => hok.good.small p (List.mem_of_mem_take hp)
 have h3 : (l.take j).length <= 8 := by rw [List.length_take]; have := hok.few; omega
 have h4 : s.data.toList.length = s.size := by simp
 have h5 := congrArg List.length h
 rw [List.length_append, numL_length] at h5
 omega
theorem textA_few {s : ByteArray} (h : s.size <= 64) : (textA s).size <= 80 := by rw [textA_size]; have := nd_le s.size; omega
set_option maxHeartbeats 3200000 in
theorem refenc_any (w : World) (S : Nat -> Prop) (v : Value) (l : List Pr) (hv : View w S v l) (hsm : Sml l) :
  Calls Tryz.prog 66 #[v] w fun e w' => e = encR l /\ New0 w w' := by
 by_cases hok : Ok l
 ·have HC := Lib.hid (refcheck_ok w S v l hv hsm hok)
  obtain ⟨A, c, rfl, -, -⟩ := Rw.View.shape hv
  have h1 := hok.one
  have h8 := hok.few
  obtain ⟨b, off, rfl, -, -, hcells⟩ := View.cells hv (by omega)
  replace hcells := Lib.hid hcells
  replace hok := Lib.hid hok
  have HN : Hid (∀ w, Calls Tryz.prog 65 #[.int .u64 (l.length : Int)] w fun e w' => e = .returned (.string ⟨(numL l.length).toArray⟩) /\ Below w.heap.size w w') := Lib.hid fun w => by
   have := refnum_any (l.length : Int) (by omega) (by omega) w
   rw [Int.toNat_natCast] at this
   exact this
  clear hv hsm
  go_enter Tryz.func66, Tryz.ntmps66
  go_wp2_with fail
  refine HC.out.mono ?_
  rintro e w1 ⟨rfl, hu1⟩
  replace hu1 := Lib.hid hu1
  clear HC
  go_wp2_with fail
  refine (HN.out _).mono ?_
  rintro e w2 ⟨rfl, hb2⟩
  have hu2 := Lib.hid (hu1.out.trans (newOf hb2))
  clear HN hb2 hu1
  go_wp2_with fail
  go_loopw [5, 6] (fun sv ov wr => ∃ (j : Nat) (s : ByteArray), sv = .string s /\ ov = .int .i64 (j : Int) /\ j <= l.length /\ Hid (So l j s) /\ Hid (New0 w wr)) (fun _ ov _ => l.length - (intOf ov).toNat)
  case atStart => exact ⟨0, _, rfl, rfl, Nat.zero_le _, Lib.hid (So.start l), hu2⟩
  case round =>
   clear hu2
   obtain ⟨j, s, rfl, rfl, hj, hso, hu⟩ := hrel
   by_cases hlt : j < l.length
   ·obtain ⟨x0, x1⟩ := hcells.out j hlt
    have r0 := New0.cells hu.out x0
    have r1 := New0.cells hu.out x1
    have hs1 := hso.out.size hok.out
    have hsm := hok.out.good.small _ (List.getElem_mem hlt)
    have hnx := hso.out.step hlt
    obtain ⟨a1, ha1⟩ : ∃ a1, l[j].1 = a1 := ⟨_, rfl⟩
    obtain ⟨a2, ha2⟩ : ∃ a2, l[j].2 = a2 := ⟨_, rfl⟩
    rw [ha1] at r0 hsm hnx
    rw [ha2] at r1 hsm hnx
    have H1 := fun d os => reftext_any a1 (by omega) (grow (redrawn wr d) os)
    have H2 := fun d os => reftext_any a2 (by omega) (grow (redrawn wr d) os)
    have hz1 := textA_few (s := a1) (by omega)
    have hz2 := textA_few (s := a2) (by omega)
    obtain ⟨t1, ht1⟩ : ∃ t1, textA a1 = t1 := ⟨_, rfl⟩
    obtain ⟨t2, ht2⟩ : ∃ t2, textA a2 = t2 := ⟨_, rfl⟩
    rw [ht1] at H1 hz1 hnx
    rw [ht2] at H2 hz2 hnx
    have hadd1 := fun W => run_string_add_sum (P := Tryz.prog) W s t1 (by omega)
    have hadd2 := fun W => run_string_add_sum (P := Tryz.prog) W (s ++ t1) t2 (by rw [ByteArray.size_append]; omega)
    have y0 := fun d os => cell_regrown r0 d os
    have y1 := fun d os => cell_regrown r1 d os
    replace H1 := Lib.hid H1
    replace H2 := Lib.hid H2
    replace hnx := Lib.hid hnx
    clear ha1 ha2 ht1 ht2 x0 x1 hso hs1 hsm hz1 hz2
    go_wp2_with fail
    refine wp_region_quiet_below (by kernel_rfl) (by kernel_rfl) ?_
    repeat (go_big_quiet_step (first
     | exact Calls.regrown_of (H1.out _ _)
     | exact Calls.regrown_of (H2.out _ _)))
    refine wpQuiet_nil ?_
    intro _ hw'
    obtain ⟨⟨dq, osq⟩, hw''⟩ := hw'
    subst hw''
    have hu5 := Lib.hid (hu.out.trans (newOf (below_regrown wr dq osq)))
    clear hu H1 H2 r0 r1 y0 y1 hadd1 hadd2
    generalize grow (redrawn wr dq) osq = w5 at *
    go_wp2_with fail
    go_roundw
    case rel => exact ⟨j + 1, _, rfl, by go_num, hlt, hnx, hu5⟩
    case measure => simp [intOf]; omega
   ·have hR : Hid (Ending.returned (.tuple #[.string s, .int .i64 0]) = encR l) := Lib.hid (by rw [encR_ok hok.out, hso.out.last hlt])
    clear hso
    go_wp2_with fail
    go_ret2
    exact ⟨hR.out, hu.out⟩
 ·have HC := Lib.hid (refcheck_no w S v l hv hsm hok)
  obtain ⟨A, c, rfl, -, -⟩ := Rw.View.shape hv
  have hR := Lib.hid (encR_no hok)
  clear hv hsm hok
  go_enter Tryz.func66, Tryz.ntmps66
  go_wp2_with fail
  refine HC.out.mono ?_
  rintro e w1 ⟨rfl, hu1⟩
  replace hu1 := Lib.hid hu1
  clear HC
  go_wp2_with fail
  go_ret2
  exact ⟨hR.out.symm, hu1.out⟩
end Lb
end
section
open Go.RowKit Go.Sort
namespace Lb
open Bit Dsk Ob Dig
def St (s : List UInt8) (n e j : Nat) (l : List Pr) (r : List UInt8) : Prop := (e ≠ 0 /\ dec s = ([], e)) \/ (e = 0 /\ ∃ k, gotN s = (n, k, 0) /\ ¬ (n < 1 \/ 8 < n) /\ Read n (s.drop k) j l r)
theorem St.start {s : List UInt8} {n k x : Nat} {b : Bool} (h : gotN s = (n, k, x)) (hb : b = true ↔ 1 <= n /\ n <= 8) : St s n (mustE b x 16) 0 [] (s.drop k) := by
 by_cases hx : x = 0
 ·subst hx
  cases b with
  | true => exact .inr ⟨by simp [mustE], k, h, by have := hb.1 rfl; omega, Read.start _ _⟩
  | false =>
   have hn : n < 1 \/ 8 < n := by
    by_cases c : 1 <= n /\ n <= 8
    ·exact absurd (hb.2 c) (by decide)
    ·omega
   exact .inl ⟨by simp [mustE], by rw [dec_few h hn]; simp [mustE]⟩
 ·have e : mustE b x 16 = x := by simp [mustE, hx]
  rw [e]
  exact .inl ⟨hx, dec_num h hx⟩
theorem St.few {s : List UInt8} {n j : Nat} {l : List Pr} {r : List UInt8} (h : St s n 0 j l r) : l.length = j /\ j <= n /\ n <= 8 := by
 rcases h with ⟨h, -⟩ | ⟨-, k, -, h2, h3, h4, -⟩
 ·exact absurd rfl h
 ·exact ⟨h4, h3, by omega⟩
theorem St.step {s : List UInt8} {n j : Nat} {l : List Pr} {r r1 r2 : List UInt8} {a b : ByteArray} {e : Nat} (h : St s n 0 j l r) (hj : j < n) (h1 : txt 32 r = (a, r1, 0)) (h2 : txt 64 r1 = (b, r2, e)) : St s n e (j + 1) (l ++ [(a, b)]) r2 := by
 rcases h with ⟨h, -⟩ | ⟨-, k, k1, k2, k3⟩
 ·exact absurd rfl h
 ·by_cases he : e = 0
  ·subst he; exact .inr ⟨rfl, k, k1, k2, k3.step hj h1 h2⟩
  ·exact .inl ⟨he, dec_bad k1 k2 (k3.bad2 hj h1 h2 he) he⟩
theorem St.bad {s : List UInt8} {n j j' : Nat} {l l' : List Pr} {r r1 r' : List UInt8} {a : ByteArray} {e : Nat} (h : St s n 0 j l r) (hj : j < n) (h1 : txt 32 r = (a, r1, e)) (he : e ≠ 0) : St s n e j' l' r' := by
 rcases h with ⟨h, -⟩ | ⟨-, k, k1, k2, k3⟩
 ·exact absurd rfl h
 ·exact .inl ⟨he, dec_bad k1 k2 (k3.bad1 hj h1 he) he⟩
theorem St.fin {s : List UInt8} {n e j : Nat} {l : List Pr} {r : List UInt8} {b1 b2 : Bool} (h : St s n e j l r) (hj : ¬ j < n \/ e ≠ 0) (h1 : b1 = true ↔ r = []) (h2 : b2 = true ↔ chk l = 0) :
  dec s = if mustE b2 (mustE b1 e 6) 16 = 0 then (l, 0) else ([], mustE b2 (mustE b1 e 6) 16) := by
 rcases h with ⟨he, hd⟩ | ⟨he, k, k1, k2, k3⟩
 ·have e1 : mustE b2 (mustE b1 e 6) 16 = e := by simp [mustE, he]
  rw [e1, if_neg he, hd]
 ·subst he
  have hp := k3.last (hj.resolve_right fun f => f rfl)
  cases b1 with
  | false =>
   have hr : r ≠ [] := fun c => absurd (h1.2 c) (by decide)
   rw [dec_more k1 k2 hp hr]; simp [mustE]
  | true =>
   obtain rfl := h1.1 rfl
   cases b2 with
   | false =>
    have hl : ¬ Ok l := fun c => absurd (h2.2 (chk_ok c)) (by decide)
    rw [dec_label k1 k2 hp hl]; simp [mustE]
   | true =>
    rw [dec_ok k1 k2 hp (chk_iff.1 (h2.1 rfl))]; simp [mustE]
theorem txt_is {m : Int} {r : ByteArray} {n k x : Nat} (h : gotT r.data.toList m = (n, k, x)) : txt m r.data.toList = (r.extract k (k + n), (r.extract (k + n) r.size).data.toList, x) := by
 have hl := gotT_le h
 have hlen : r.data.toList.length = r.size := by simp
 unfold txt
 rw [h]
 refine Prod.ext ?_ (Prod.ext ?_ rfl)
 ·refine data_inj ?_
  show (r.data.toList.drop k).take n = _
  rw [extract_list, List.drop_take]
  congr 1; omega
 ·show r.data.toList.drop (k + n) = _
  rw [extract_list, List.take_of_length_le (by omega)]
theorem ext_size (r : ByteArray) (a b : Nat) : (r.extract a b).size <= r.size := by rw [ByteArray.size_extract]; omega
theorem drop_list (s : ByteArray) (k : Nat) : (s.extract k s.size).data.toList = s.data.toList.drop k := by
 rw [extract_list, List.take_of_length_le (by rw [Array.length_toList]; exact Nat.le_refl _)]
abbrev InP (p : Nat) (s : ByteArray) (e : Nat) (u : Value) (l : List Pr) : Ob.Rel := Tens (InO p s e) (Rw.RowO layPr 89 u l)
theorem thingRowP (u : Value) (l : List Pr) : Thing (Rw.RowO layPr 89 u l) := Rw.thingRow _ _ _ _
theorem thingInP (p : Nat) (s : ByteArray) (e : Nat) (u : Value) (l : List Pr) : Thing (InP p s e u l) := Tens.ob (thingIn _ _ _) (thingRowP _ _)
theorem inpBox {p : Nat} {s : ByteArray} {e : Nat} {u : Value} {l : List Pr} {w0 w : World} (h : Own (InP p s e u l) w0 w) : Boxed p (.string s) (.int .i64 (e : Int)) w := by
 obtain ⟨A, hA⟩ := h.seeL
 exact Rw.box2See hA
theorem inpMust {p : Nat} {s : ByteArray} {e : Nat} {u : Value} {l : List Pr} {w0 w : World} (h : Own (InP p s e u l) w0 w) (b : Bool) (y : Nat) :
  Calls Tryz.prog 60 #[.pointer (some ⟨p, 0, none⟩), .bool b, .int .i64 (y : Int)] w fun r w' => r = .returned (.tuple #[]) /\ Own (InP p s (mustE b e y) u l) w0 w' :=
 ownL (Q := fun r => r = .returned (.tuple #[])) (thingRowP u l) h fun A _ hA => inmust_any w A p s b e y hA
theorem inpText {p : Nat} {r : ByteArray} {u : Value} {l : List Pr} {w0 w : World} {most : Int} {n k x : Nat} (h : Own (InP p r 0 u l) w0 w) (hs : r.size <= 4611686018427387904) (hm : most <= 9223372036854775807) (hg : gotT r.data.toList most = (n, k, x)) :
  Calls Tryz.prog 56 #[.pointer (some ⟨p, 0, none⟩), .int .i64 most] w fun e w' => e = .returned (.string (r.extract k (k + n))) /\ Own (InP p (r.extract (k + n) r.size) x u l) w0 w' :=
 ownL (Q := fun e => e = .returned (.string (r.extract k (k + n)))) (thingRowP u l) h fun A _ hA => intext_any w A p r most hs hm n k x hg _ _ rfl rfl hA
theorem inpTextNo {p : Nat} {r : ByteArray} {u : Value} {l : List Pr} {w0 w : World} {most : Int} {e : Nat} (h : Own (InP p r e u l) w0 w) (he : e ≠ 0) :
  Calls Tryz.prog 56 #[.pointer (some ⟨p, 0, none⟩), .int .i64 most] w fun x w' => x = .returned (.string ByteArray.empty) /\ Own (InP p r e u l) w0 w' :=
 ownL (Q := fun x => x = .returned (.string ByteArray.empty)) (thingRowP u l) h fun A _ hA => intext_err w A p r most e he hA
theorem Sml.snoc {l : List Pr} {a b : ByteArray} (h : Sml l) (ha : a.size <= 9223372036854775807) (hb : b.size <= 9223372036854775807) : Sml (l ++ [(a, b)]) := fun p hp => by
 rcases List.mem_append.1 hp with hp | hp
 ·exact h p hp
 ·rw [List.mem_singleton.1 hp]; exact ⟨ha, hb⟩
def Nw (w : World) : Nat -> Prop := fun b => w.heap.size <= b
theorem rowNew {I : Ob.Rel} {w0 w : World} {v : Value} {l : List Pr} (H : Own (Tens I (Rw.RowO layPr 89 v l)) w0 w) : ∀ g, v.ownBlock = some g -> Nw w0 g := fun g hg => by
 obtain ⟨⟨S, ⟨A, B, -, h2, -, h4⟩, h5⟩, -⟩ := H
 exact h5 g ((h4 g).2 (.inr (h2.2.1 g hg)))
set_option maxHeartbeats 6400000 in
theorem refdec_new (w : World) (s : ByteArray) (hs : s.size <= 140737488355328) :
  Calls Tryz.prog 57 #[.string s] w fun e w' => ∃ v, e = .returned (.tuple #[v, .int .i64 ((dec s.data.toList).2 : Int)]) /\ View w' (Nw w) v (dec s.data.toList).1 /\ New0 w w' := by
 obtain ⟨n, k, x, hg⟩ : ∃ n k x, gotN s.data.toList = (n, k, x) := ⟨_, _, _, rfl⟩
 have hn64 : n < 18446744073709551616 := by
  have := (gotN_lt s.data.toList).1
  rw [hg] at this
  exact this
 have hst0 := Lib.hid (fun (b : Bool) hb => St.start (b := b) hg hb)
 obtain ⟨t, ht⟩ : ∃ t, s.extract k s.size = t := ⟨_, rfl⟩
 have hts : t.size <= 140737488355328 := by rw [<- ht]; exact Nat.le_trans (ext_size _ _ _) hs
 have htl : Hid (s.data.toList.drop k = t.data.toList) := Lib.hid (by rw [<- ht, drop_list])
 have H0 : Hid (Own (InO w.heap.size s 0) w (w.alloc (.cells #[.string s, .int .i64 0] 77 (0, 0)))) := Lib.hid (Rw.box2Own (Below.refl _ _) (.string s) (.int .i64 ((0 : Nat) : Int)) _)
 have HN := Lib.hid (ownW (Q := fun e => e = .returned (.int .u64 (n : Int))) (I' := InO w.heap.size t x) H0.out fun A _ hA => innum_any _ A _ s (by omega) n k x hg t ht hA)
 obtain ⟨sl, hsl⟩ : ∃ sl, s.data.toList = sl := ⟨_, rfl⟩
 rw [hsl] at hst0 htl ⊢
 clear hg ht H0 hsl
 by_cases hc : n < 1
 ·have d1 : ¬ (1 : Int) <= (n : Int) := by omega
  have hb : Hid (St sl n (mustE false x 16) 0 [] t.data.toList) := Lib.hid (by rw [<- htl.out]; exact hst0.out false (by simp; omega))
  clear hst0 htl
  go_enter Tryz.func57, Tryz.ntmps57
  go_wp2_with fail
  refine HN.out.mono ?_
  rintro e w2 ⟨rfl, h2⟩
  have HM := Lib.hid (ownW (Q := fun r => r = .returned (.tuple #[])) (I' := InO w.heap.size t (mustE false x 16)) h2 fun A _ hA => inmust_any w2 A _ t false x 16 hA)
  clear HN h2
  go_wp2_with fail
  refine HM.out.mono ?_
  rintro e w3 ⟨rfl, h3⟩
  obtain ⟨e0, he0⟩ : ∃ e0, mustE false x 16 = e0 := ⟨_, rfl⟩
  rw [he0] at hb h3
  have hI := Lib.hid (Rw.rowNone layPr 89 (thingIn _ _ _) h3)
  clear HM h3 he0
  obtain ⟨p, hp⟩ : ∃ p, w.heap.size = p := ⟨_, rfl⟩
  rw [hp] at hI ⊢
  replace hp := Lib.hid hp
  go_wp2_with fail
  go_loopw [6, 7] (fun u ov wr => ∃ (j e : Nat) (l : List Pr) (r : ByteArray), ov = .int .u64 (j : Int) /\ j <= n /\ r.size <= 140737488355328 /\ Hid (Sml l) /\ Hid (St sl n e j l r.data.toList) /\ Hid (Own (InP p r e u l) w wr)) (fun _ ov _ => n - (intOf ov).toNat)
  case atStart => exact ⟨0, e0, [], t, rfl, Nat.zero_le _, hts, Lib.hid (fun p hp => by simp at hp), hb, hI⟩
  case round =>
   obtain ⟨j, e, l, r, rfl, hj, hr, hsm, hst, ho⟩ := hrel
   clear hb hI d1
   obtain ⟨c0, c1, f0, f1⟩ := inpBox ho.out
   by_cases hgo : j < n /\ e = 0
   ·obtain ⟨hlt, rfl⟩ := hgo
    have hfew := hst.out.few
    omega
   ·obtain ⟨b1, hb1⟩ : ∃ b1, r.toList.isEmpty = b1 := ⟨_, rfl⟩
    obtain ⟨q, hq⟩ : ∃ q, chk l = q := ⟨_, rfl⟩
    have hfin := Lib.hid (hst.out.fin (b1 := b1) (b2 := ((q : Int) == 0)) (by by_cases c : j < n <;> by_cases c2 : e = 0 <;> simp_all) (by rw [<- hb1, ByteArray.toList_eq, List.isEmpty_iff]) (by rw [beq_iff_eq, hq]; omega))
    have HM1 := Lib.hid (inpMust ho.out b1 6)
    replace hq := Lib.hid hq
    clear hst ho
    by_cases hlt : j < n
    ·omega
    ·clear hgo
     go_wp2_with fail
     refine HM1.out.mono ?_
     rintro e w4 ⟨rfl, h4⟩
     have HC := Lib.hid (refcheck_any w4 _ u6 l (Rw.rowSee h4).view hsm.out)
     rw [hq.out] at HC
     replace h4 := Lib.hid h4
     clear HM1 c0 c1 f0 f1
     obtain ⟨A, c, hu6_, -, -⟩ := Rw.View.shape (Rw.rowSee h4.out).view
     replace hu6_ := Lib.hid hu6_
     go_wp2_with fail
     refine HC.out.mono ?_
     rintro e w5 ⟨rfl, n5, rfl⟩
     have HM2 := Lib.hid (inpMust (Own.upon0 (thingInP _ _ _ _ _) h4.out (upon_drewN _ w4 n5)) ((q : Int) == 0) 16)
     clear HC h4
     go_wp2_with fail
     refine HM2.out.mono ?_
     rintro e w6 ⟨rfl, h6⟩
     clear HM2
     obtain ⟨f, hf⟩ : ∃ f, mustE ((q : Int) == 0) (mustE b1 e 6) 16 = f := ⟨_, rfl⟩
     rw [hf] at hfin h6
     obtain ⟨c0, c1, f0, f1⟩ := inpBox h6
     replace h6 := Lib.hid h6
     clear hf
     by_cases hf0 : f = 0
     ·subst hf0
      have hD : Hid (dec sl = (l, 0)) := Lib.hid (by rw [hfin.out, if_pos rfl])
      have hV : Hid (View w6 (Nw w) u6 (dec sl).1) := Lib.hid (by rw [hD.out]; exact (Rw.rowSee h6.out).view.mono fun b _ hb => rowNew h6.out b hb)
      have hE : Hid (Ending.returned (.tuple #[u6, .int .i64 0]) = .returned (.tuple #[u6, .int .i64 ((dec sl).2 : Int)])) := Lib.hid (by rw [hD.out]; rfl)
      have hN := Lib.hid (newOf h6.out.bel)
      clear hfin h6 hD
      go_wp2_with fail
      go_ret2
      exact ⟨u6, hE.out, hV.out, hN.out⟩
     ·have d3 : ((f : Int) != 0) = true := by rw [bne_iff_ne]; omega
      have hD : Hid (dec sl = ([], f)) := Lib.hid (by rw [hfin.out, if_neg hf0])
      have hE : Hid (Ending.returned (.tuple #[.slice none 0 0, .int .i64 (f : Int)]) = .returned (.tuple #[.slice none 0 0, .int .i64 ((dec sl).2 : Int)])) := Lib.hid (by rw [hD.out])
      have hV : Hid (∀ w', View w' (Nw w) (.slice none 0 0) (dec sl).1) := Lib.hid (fun w' => by rw [hD.out]; exact Rw.View.noth _ _ _)
      have hN := Lib.hid (fun n => (newOf h6.out.bel).trans (upon_drewN _ w6 n))
      clear hfin h6 hD hf0
      go_wp2_with fail
      go_quiet (fail)
      go_wp2_with fail
      go_ret2
      exact ⟨_, hE.out, hV.out _, hN.out _⟩
 by_cases hc : 8 < n
 ·have d1 : (1 : Int) <= (n : Int) := by omega
  have d2 : decide ((n : Int) <= 8) = false := decide_eq_false (by omega)
  have d2' : decide (n <= 8) = false := decide_eq_false (by omega)
  have hb : Hid (St sl n (mustE false x 16) 0 [] t.data.toList) := Lib.hid (by rw [<- htl.out]; exact hst0.out false (by simp; omega))
  clear hst0 htl
  go_enter Tryz.func57, Tryz.ntmps57
  go_wp2_with fail
  refine HN.out.mono ?_
  rintro e w2 ⟨rfl, h2⟩
  have HM := Lib.hid (ownW (Q := fun r => r = .returned (.tuple #[])) (I' := InO w.heap.size t (mustE false x 16)) h2 fun A _ hA => inmust_any w2 A _ t false x 16 hA)
  clear HN h2
  go_wp2_with fail
  refine HM.out.mono ?_
  rintro e w3 ⟨rfl, h3⟩
  obtain ⟨e0, he0⟩ : ∃ e0, mustE false x 16 = e0 := ⟨_, rfl⟩
  rw [he0] at hb h3
  have hI := Lib.hid (Rw.rowNone layPr 89 (thingIn _ _ _) h3)
  clear HM h3 he0
  obtain ⟨p, hp⟩ : ∃ p, w.heap.size = p := ⟨_, rfl⟩
  rw [hp] at hI ⊢
  replace hp := Lib.hid hp
  go_wp2_with fail
  go_loopw [6, 7] (fun u ov wr => ∃ (j e : Nat) (l : List Pr) (r : ByteArray), ov = .int .u64 (j : Int) /\ j <= n /\ r.size <= 140737488355328 /\ Hid (Sml l) /\ Hid (St sl n e j l r.data.toList) /\ Hid (Own (InP p r e u l) w wr)) (fun _ ov _ => n - (intOf ov).toNat)
  case atStart => exact ⟨0, e0, [], t, rfl, Nat.zero_le _, hts, Lib.hid (fun p hp => by simp at hp), hb, hI⟩
  case round =>
   obtain ⟨j, e, l, r, rfl, hj, hr, hsm, hst, ho⟩ := hrel
   clear hb hI d1 d2 d2'
   obtain ⟨c0, c1, f0, f1⟩ := inpBox ho.out
   by_cases hgo : j < n /\ e = 0
   ·obtain ⟨hlt, rfl⟩ := hgo
    have hfew := hst.out.few
    omega
   ·obtain ⟨b1, hb1⟩ : ∃ b1, r.toList.isEmpty = b1 := ⟨_, rfl⟩
    obtain ⟨q, hq⟩ : ∃ q, chk l = q := ⟨_, rfl⟩
    have hfin := Lib.hid (hst.out.fin (b1 := b1) (b2 := ((q : Int) == 0)) (by by_cases c : j < n <;> by_cases c2 : e = 0 <;> simp_all) (by rw [<- hb1, ByteArray.toList_eq, List.isEmpty_iff]) (by rw [beq_iff_eq, hq]; omega))
    have HM1 := Lib.hid (inpMust ho.out b1 6)
    replace hq := Lib.hid hq
    clear hst ho
    by_cases hlt : j < n
    ·have he : e ≠ 0 := fun c => hgo ⟨hlt, c⟩
     have d0 : ((e : Int) == 0) = false := by rw [beq_eq_false_iff_ne]; omega
     clear hgo he
     go_wp2_with fail
     refine HM1.out.mono ?_
     rintro e w4 ⟨rfl, h4⟩
     have HC := Lib.hid (refcheck_any w4 _ u6 l (Rw.rowSee h4).view hsm.out)
     rw [hq.out] at HC
     replace h4 := Lib.hid h4
     clear HM1 c0 c1 f0 f1
     obtain ⟨A, c, hu6_, -, -⟩ := Rw.View.shape (Rw.rowSee h4.out).view
     replace hu6_ := Lib.hid hu6_
     go_wp2_with fail
     refine HC.out.mono ?_
     rintro e w5 ⟨rfl, n5, rfl⟩
     have HM2 := Lib.hid (inpMust (Own.upon0 (thingInP _ _ _ _ _) h4.out (upon_drewN _ w4 n5)) ((q : Int) == 0) 16)
     clear HC h4
     go_wp2_with fail
     refine HM2.out.mono ?_
     rintro e w6 ⟨rfl, h6⟩
     clear HM2
     obtain ⟨f, hf⟩ : ∃ f, mustE ((q : Int) == 0) (mustE b1 e 6) 16 = f := ⟨_, rfl⟩
     rw [hf] at hfin h6
     obtain ⟨c0, c1, f0, f1⟩ := inpBox h6
     replace h6 := Lib.hid h6
     clear hf
     by_cases hf0 : f = 0
     ·subst hf0
      have hD : Hid (dec sl = (l, 0)) := Lib.hid (by rw [hfin.out, if_pos rfl])
      have hV : Hid (View w6 (Nw w) u6 (dec sl).1) := Lib.hid (by rw [hD.out]; exact (Rw.rowSee h6.out).view.mono fun b _ hb => rowNew h6.out b hb)
      have hE : Hid (Ending.returned (.tuple #[u6, .int .i64 0]) = .returned (.tuple #[u6, .int .i64 ((dec sl).2 : Int)])) := Lib.hid (by rw [hD.out]; rfl)
      have hN := Lib.hid (newOf h6.out.bel)
      clear hfin h6 hD
      go_wp2_with fail
      go_ret2
      exact ⟨u6, hE.out, hV.out, hN.out⟩
     ·have d3 : ((f : Int) != 0) = true := by rw [bne_iff_ne]; omega
      have hD : Hid (dec sl = ([], f)) := Lib.hid (by rw [hfin.out, if_neg hf0])
      have hE : Hid (Ending.returned (.tuple #[.slice none 0 0, .int .i64 (f : Int)]) = .returned (.tuple #[.slice none 0 0, .int .i64 ((dec sl).2 : Int)])) := Lib.hid (by rw [hD.out])
      have hV : Hid (∀ w', View w' (Nw w) (.slice none 0 0) (dec sl).1) := Lib.hid (fun w' => by rw [hD.out]; exact Rw.View.noth _ _ _)
      have hN := Lib.hid (fun n => (newOf h6.out.bel).trans (upon_drewN _ w6 n))
      clear hfin h6 hD hf0
      go_wp2_with fail
      go_quiet (fail)
      go_wp2_with fail
      go_ret2
      exact ⟨_, hE.out, hV.out _, hN.out _⟩
    ·clear hgo
     go_wp2_with fail
     refine HM1.out.mono ?_
     rintro e w4 ⟨rfl, h4⟩
     have HC := Lib.hid (refcheck_any w4 _ u6 l (Rw.rowSee h4).view hsm.out)
     rw [hq.out] at HC
     replace h4 := Lib.hid h4
     clear HM1 c0 c1 f0 f1
     obtain ⟨A, c, hu6_, -, -⟩ := Rw.View.shape (Rw.rowSee h4.out).view
     replace hu6_ := Lib.hid hu6_
     go_wp2_with fail
     refine HC.out.mono ?_
     rintro e w5 ⟨rfl, n5, rfl⟩
     have HM2 := Lib.hid (inpMust (Own.upon0 (thingInP _ _ _ _ _) h4.out (upon_drewN _ w4 n5)) ((q : Int) == 0) 16)
     clear HC h4
     go_wp2_with fail
     refine HM2.out.mono ?_
     rintro e w6 ⟨rfl, h6⟩
     clear HM2
     obtain ⟨f, hf⟩ : ∃ f, mustE ((q : Int) == 0) (mustE b1 e 6) 16 = f := ⟨_, rfl⟩
     rw [hf] at hfin h6
     obtain ⟨c0, c1, f0, f1⟩ := inpBox h6
     replace h6 := Lib.hid h6
     clear hf
     by_cases hf0 : f = 0
     ·subst hf0
      have hD : Hid (dec sl = (l, 0)) := Lib.hid (by rw [hfin.out, if_pos rfl])
      have hV : Hid (View w6 (Nw w) u6 (dec sl).1) := Lib.hid (by rw [hD.out]; exact (Rw.rowSee h6.out).view.mono fun b _ hb => rowNew h6.out b hb)
      have hE : Hid (Ending.returned (.tuple #[u6, .int .i64 0]) = .returned (.tuple #[u6, .int .i64 ((dec sl).2 : Int)])) := Lib.hid (by rw [hD.out]; rfl)
      have hN := Lib.hid (newOf h6.out.bel)
      clear hfin h6 hD
      go_wp2_with fail
      go_ret2
      exact ⟨u6, hE.out, hV.out, hN.out⟩
     ·have d3 : ((f : Int) != 0) = true := by rw [bne_iff_ne]; omega
      have hD : Hid (dec sl = ([], f)) := Lib.hid (by rw [hfin.out, if_neg hf0])
      have hE : Hid (Ending.returned (.tuple #[.slice none 0 0, .int .i64 (f : Int)]) = .returned (.tuple #[.slice none 0 0, .int .i64 ((dec sl).2 : Int)])) := Lib.hid (by rw [hD.out])
      have hV : Hid (∀ w', View w' (Nw w) (.slice none 0 0) (dec sl).1) := Lib.hid (fun w' => by rw [hD.out]; exact Rw.View.noth _ _ _)
      have hN := Lib.hid (fun n => (newOf h6.out.bel).trans (upon_drewN _ w6 n))
      clear hfin h6 hD hf0
      go_wp2_with fail
      go_quiet (fail)
      go_wp2_with fail
      go_ret2
      exact ⟨_, hE.out, hV.out _, hN.out _⟩
 ·have d1 : (1 : Int) <= (n : Int) := by omega
  have d2 : (n : Int) <= 8 := by omega
  have hb : Hid (St sl n (mustE true x 16) 0 [] t.data.toList) := Lib.hid (by rw [<- htl.out]; exact hst0.out true (by simp; omega))
  clear hst0 htl
  go_enter Tryz.func57, Tryz.ntmps57
  go_wp2_with fail
  refine HN.out.mono ?_
  rintro e w2 ⟨rfl, h2⟩
  have HM := Lib.hid (ownW (Q := fun r => r = .returned (.tuple #[])) (I' := InO w.heap.size t (mustE true x 16)) h2 fun A _ hA => inmust_any w2 A _ t true x 16 hA)
  clear HN h2
  go_wp2_with fail
  refine HM.out.mono ?_
  rintro e w3 ⟨rfl, h3⟩
  obtain ⟨e0, he0⟩ : ∃ e0, mustE true x 16 = e0 := ⟨_, rfl⟩
  rw [he0] at hb h3
  have hI := Lib.hid (Rw.rowNone layPr 89 (thingIn _ _ _) h3)
  clear HM h3 he0
  obtain ⟨p, hp⟩ : ∃ p, w.heap.size = p := ⟨_, rfl⟩
  rw [hp] at hI ⊢
  replace hp := Lib.hid hp
  go_wp2_with fail
  go_loopw [6, 7] (fun u ov wr => ∃ (j e : Nat) (l : List Pr) (r : ByteArray), ov = .int .u64 (j : Int) /\ j <= n /\ r.size <= 140737488355328 /\ Hid (Sml l) /\ Hid (St sl n e j l r.data.toList) /\ Hid (Own (InP p r e u l) w wr)) (fun _ ov _ => n - (intOf ov).toNat)
  case atStart => exact ⟨0, e0, [], t, rfl, Nat.zero_le _, hts, Lib.hid (fun p hp => by simp at hp), hb, hI⟩
  case round =>
   obtain ⟨j, e, l, r, rfl, hj, hr, hsm, hst, ho⟩ := hrel
   clear hb hI d1 d2
   obtain ⟨c0, c1, f0, f1⟩ := inpBox ho.out
   by_cases hgo : j < n /\ e = 0
   ·obtain ⟨hlt, rfl⟩ := hgo
    have hfew := hst.out.few
    obtain ⟨n1, k1, e1, hg1⟩ : ∃ n1 k1 e1, gotT r.data.toList 32 = (n1, k1, e1) := ⟨_, _, _, rfl⟩
    have HT1 := Lib.hid (inpText ho.out (by omega) (by omega) hg1)
    have hx1 := Lib.hid (txt_is hg1)
    have hz1 := ext_size r k1 (k1 + n1)
    have hz1' := ext_size r (k1 + n1) r.size
    obtain ⟨a, ha⟩ : ∃ a, r.extract k1 (k1 + n1) = a := ⟨_, rfl⟩
    obtain ⟨r1, hr1⟩ : ∃ r1, r.extract (k1 + n1) r.size = r1 := ⟨_, rfl⟩
    rw [ha] at HT1 hx1 hz1
    rw [hr1] at HT1 hx1 hz1'
    have ha9 : a.size <= 9223372036854775807 := by omega
    clear ha hr1 hg1 ho
    by_cases he1 : e1 = 0
    ·subst he1
     obtain ⟨n2, k2, e2, hg2⟩ : ∃ n2 k2 e2, gotT r1.data.toList 64 = (n2, k2, e2) := ⟨_, _, _, rfl⟩
     have hx2 := Lib.hid (txt_is hg2)
     have hz2 := ext_size r1 k2 (k2 + n2)
     have hz2' := ext_size r1 (k2 + n2) r1.size
     have HT2 := Lib.hid (fun w2 (h : Own (InP p r1 0 u6 l) w w2) => inpText h (by omega) (by omega : (64 : Int) <= 9223372036854775807) hg2)
     obtain ⟨b, hb⟩ : ∃ b, r1.extract k2 (k2 + n2) = b := ⟨_, rfl⟩
     obtain ⟨r2, hr2⟩ : ∃ r2, r1.extract (k2 + n2) r1.size = r2 := ⟨_, rfl⟩
     rw [hb] at HT2 hx2 hz2
     rw [hr2] at HT2 hx2 hz2'
     have hst' := Lib.hid (hst.out.step hlt hx1.out hx2.out)
     have hsm' := Lib.hid (hsm.out.snoc ha9 (by omega : b.size <= 9223372036854775807))
     have hr2s : r2.size <= 140737488355328 := by omega
     clear hb hr2 hg2 hx1 hx2 hst hsm hz1 hz1' hz2 hz2' ha9
     go_wp2_with fail
     refine HT1.out.mono ?_
     rintro e w4 ⟨rfl, h4⟩
     have HT2' := Lib.hid (HT2.out w4 h4)
     clear HT1 HT2 h4 c0 c1 f0 f1
     go_wp2_with fail
     refine HT2'.out.mono ?_
     rintro e w5 ⟨rfl, h5⟩
     clear HT2'
     have hM := Lib.hid ((Rw.rowSee h5).new ((Upon.refl _ w5).alloc (.cells #[.string a, .string b] 89 (0, 0))))
     have hI := Lib.hid (Own.upon0 (thingInP _ _ _ _ _) h5 ((Upon.refl _ w5).alloc (.cells #[.string a, .string b] 89 (0, 0))))
     clear h5
     go_wp2_with (at_builtin; refine Rw.wpList_append typPr rfl _ _ rfl _ _ l [(a, b)] All rfl rfl hM.out (view_one (cell_new w5 _)) (by rw [List.length_singleton]; omega) (by rw [List.length_singleton]; omega) ?_)
     intro v' w6 hown hgr hbl
     have h6 := Lib.hid (Rw.rowAppend (thingIn _ _ _) hI.out hown hgr (hbl.imp id fun h => h.trans (by simp)))
     clear hM hI hown hgr hbl
     go_wp2_with fail
     go_roundw
     case rel => exact ⟨j + 1, e2, _, r2, by go_num, hlt, hr2s, hsm', hst', h6⟩
     case measure => simp [intOf]; omega
    ·have HT2 := Lib.hid (fun w2 (h : Own (InP p r1 e1 u6 l) w w2) => inpTextNo (most := 64) h he1)
     obtain ⟨b, hb⟩ : ∃ b, ByteArray.empty = b := ⟨_, rfl⟩
     have hb0 : b.size <= 9223372036854775807 := by rw [<- hb]; exact Nat.zero_le _
     rw [hb] at HT2
     have e2 := e1
     have hst' : Hid (St sl n e1 (j + 1) (l ++ [(a, b)]) r1.data.toList) := Lib.hid (hst.out.bad hlt hx1.out he1)
     have hsm' := Lib.hid (hsm.out.snoc ha9 hb0)
     have hr2s : r1.size <= 140737488355328 := by omega
     clear hx1 hst hsm hz1 hz1' ha9 hb0 he1
     go_wp2_with fail
     refine HT1.out.mono ?_
     rintro e w4 ⟨rfl, h4⟩
     have HT2' := Lib.hid (HT2.out w4 h4)
     clear HT1 HT2 h4 c0 c1 f0 f1 hb
     go_wp2_with fail
     refine HT2'.out.mono ?_
     rintro e w5 ⟨rfl, h5⟩
     clear HT2'
     have hM := Lib.hid ((Rw.rowSee h5).new ((Upon.refl _ w5).alloc (.cells #[.string a, .string b] 89 (0, 0))))
     have hI := Lib.hid (Own.upon0 (thingInP _ _ _ _ _) h5 ((Upon.refl _ w5).alloc (.cells #[.string a, .string b] 89 (0, 0))))
     clear h5
     go_wp2_with (at_builtin; refine Rw.wpList_append typPr rfl _ _ rfl _ _ l [(a, b)] All rfl rfl hM.out (view_one (cell_new w5 _)) (by rw [List.length_singleton]; omega) (by rw [List.length_singleton]; omega) ?_)
     intro v' w6 hown hgr hbl
     have h6 := Lib.hid (Rw.rowAppend (thingIn _ _ _) hI.out hown hgr (hbl.imp id fun h => h.trans (by simp)))
     clear hM hI hown hgr hbl
     go_wp2_with fail
     go_roundw
     case rel => exact ⟨j + 1, e1, _, r1, by go_num, hlt, hr2s, hsm', hst', h6⟩
     case measure => simp [intOf]; omega
   ·obtain ⟨b1, hb1⟩ : ∃ b1, r.toList.isEmpty = b1 := ⟨_, rfl⟩
    obtain ⟨q, hq⟩ : ∃ q, chk l = q := ⟨_, rfl⟩
    have hfin := Lib.hid (hst.out.fin (b1 := b1) (b2 := ((q : Int) == 0)) (by by_cases c : j < n <;> by_cases c2 : e = 0 <;> simp_all) (by rw [<- hb1, ByteArray.toList_eq, List.isEmpty_iff]) (by rw [beq_iff_eq, hq]; omega))
    have HM1 := Lib.hid (inpMust ho.out b1 6)
    replace hq := Lib.hid hq
    clear hst ho
    by_cases hlt : j < n
    ·have he : e ≠ 0 := fun c => hgo ⟨hlt, c⟩
     have d0 : ((e : Int) == 0) = false := by rw [beq_eq_false_iff_ne]; omega
     clear hgo he
     go_wp2_with fail
     refine HM1.out.mono ?_
     rintro e w4 ⟨rfl, h4⟩
     have HC := Lib.hid (refcheck_any w4 _ u6 l (Rw.rowSee h4).view hsm.out)
     rw [hq.out] at HC
     replace h4 := Lib.hid h4
     clear HM1 c0 c1 f0 f1
     obtain ⟨A, c, hu6_, -, -⟩ := Rw.View.shape (Rw.rowSee h4.out).view
     replace hu6_ := Lib.hid hu6_
     go_wp2_with fail
     refine HC.out.mono ?_
     rintro e w5 ⟨rfl, n5, rfl⟩
     have HM2 := Lib.hid (inpMust (Own.upon0 (thingInP _ _ _ _ _) h4.out (upon_drewN _ w4 n5)) ((q : Int) == 0) 16)
     clear HC h4
     go_wp2_with fail
     refine HM2.out.mono ?_
     rintro e w6 ⟨rfl, h6⟩
     clear HM2
     obtain ⟨f, hf⟩ : ∃ f, mustE ((q : Int) == 0) (mustE b1 e 6) 16 = f := ⟨_, rfl⟩
     rw [hf] at hfin h6
     obtain ⟨c0, c1, f0, f1⟩ := inpBox h6
     replace h6 := Lib.hid h6
     clear hf
     by_cases hf0 : f = 0
     ·subst hf0
      have hD : Hid (dec sl = (l, 0)) := Lib.hid (by rw [hfin.out, if_pos rfl])
      have hV : Hid (View w6 (Nw w) u6 (dec sl).1) := Lib.hid (by rw [hD.out]; exact (Rw.rowSee h6.out).view.mono fun b _ hb => rowNew h6.out b hb)
      have hE : Hid (Ending.returned (.tuple #[u6, .int .i64 0]) = .returned (.tuple #[u6, .int .i64 ((dec sl).2 : Int)])) := Lib.hid (by rw [hD.out]; rfl)
      have hN := Lib.hid (newOf h6.out.bel)
      clear hfin h6 hD
      go_wp2_with fail
      go_ret2
      exact ⟨u6, hE.out, hV.out, hN.out⟩
     ·have d3 : ((f : Int) != 0) = true := by rw [bne_iff_ne]; omega
      have hD : Hid (dec sl = ([], f)) := Lib.hid (by rw [hfin.out, if_neg hf0])
      have hE : Hid (Ending.returned (.tuple #[.slice none 0 0, .int .i64 (f : Int)]) = .returned (.tuple #[.slice none 0 0, .int .i64 ((dec sl).2 : Int)])) := Lib.hid (by rw [hD.out])
      have hV : Hid (∀ w', View w' (Nw w) (.slice none 0 0) (dec sl).1) := Lib.hid (fun w' => by rw [hD.out]; exact Rw.View.noth _ _ _)
      have hN := Lib.hid (fun n => (newOf h6.out.bel).trans (upon_drewN _ w6 n))
      clear hfin h6 hD hf0
      go_wp2_with fail
      go_quiet (fail)
      go_wp2_with fail
      go_ret2
      exact ⟨_, hE.out, hV.out _, hN.out _⟩
    ·clear hgo
     go_wp2_with fail
     refine HM1.out.mono ?_
     rintro e w4 ⟨rfl, h4⟩
     have HC := Lib.hid (refcheck_any w4 _ u6 l (Rw.rowSee h4).view hsm.out)
     rw [hq.out] at HC
     replace h4 := Lib.hid h4
     clear HM1 c0 c1 f0 f1
     obtain ⟨A, c, hu6_, -, -⟩ := Rw.View.shape (Rw.rowSee h4.out).view
     replace hu6_ := Lib.hid hu6_
     go_wp2_with fail
     refine HC.out.mono ?_
     rintro e w5 ⟨rfl, n5, rfl⟩
     have HM2 := Lib.hid (inpMust (Own.upon0 (thingInP _ _ _ _ _) h4.out (upon_drewN _ w4 n5)) ((q : Int) == 0) 16)
     clear HC h4
     go_wp2_with fail
     refine HM2.out.mono ?_
     rintro e w6 ⟨rfl, h6⟩
     clear HM2
     obtain ⟨f, hf⟩ : ∃ f, mustE ((q : Int) == 0) (mustE b1 e 6) 16 = f := ⟨_, rfl⟩
     rw [hf] at hfin h6
     obtain ⟨c0, c1, f0, f1⟩ := inpBox h6
     replace h6 := Lib.hid h6
     clear hf
     by_cases hf0 : f = 0
     ·subst hf0
      have hD : Hid (dec sl = (l, 0)) := Lib.hid (by rw [hfin.out, if_pos rfl])
      have hV : Hid (View w6 (Nw w) u6 (dec sl).1) := Lib.hid (by rw [hD.out]; exact (Rw.rowSee h6.out).view.mono fun b _ hb => rowNew h6.out b hb)
      have hE : Hid (Ending.returned (.tuple #[u6, .int .i64 0]) = .returned (.tuple #[u6, .int .i64 ((dec sl).2 : Int)])) := Lib.hid (by rw [hD.out]; rfl)
      have hN := Lib.hid (newOf h6.out.bel)
      clear hfin h6 hD
      go_wp2_with fail
      go_ret2
      exact ⟨u6, hE.out, hV.out, hN.out⟩
     ·have d3 : ((f : Int) != 0) = true := by rw [bne_iff_ne]; omega
      have hD : Hid (dec sl = ([], f)) := Lib.hid (by rw [hfin.out, if_neg hf0])
      have hE : Hid (Ending.returned (.tuple #[.slice none 0 0, .int .i64 (f : Int)]) = .returned (.tuple #[.slice none 0 0, .int .i64 ((dec sl).2 : Int)])) := Lib.hid (by rw [hD.out])
      have hV : Hid (∀ w', View w' (Nw w) (.slice none 0 0) (dec sl).1) := Lib.hid (fun w' => by rw [hD.out]; exact Rw.View.noth _ _ _)
      have hN := Lib.hid (fun n => (newOf h6.out.bel).trans (upon_drewN _ w6 n))
      clear hfin h6 hD hf0
      go_wp2_with fail
      go_quiet (fail)
      go_wp2_with fail
      go_ret2
      exact ⟨_, hE.out, hV.out _, hN.out _⟩
end Lb
end
end
end Go.Proofs.YtgmnhodajngchaaGreatDoor
