/- Labels, plainly (layer 10): names, values, labels, their bytes, what is read, their order. Names no function of the program. -/
import Derived.Test.YtoamgmbpainpjaaPDig
set_option maxRecDepth 100000
namespace Go.Proofs.Ytoamgmbpainpjaa
open Go.RowKit Go.Sort
namespace Lb
open Dig
set_option linter.unusedVariables false

/-! ### the order of texts -/
theorem u8_tri (a b : UInt8) (h1 : ¬ a < b) (h2 : ¬ b < a) : a = b := by
  rw [UInt8.lt_iff_toNat_lt] at h1 h2
  exact UInt8.toNat_inj.1 (by omega)
theorem bl_irr : ∀ x : List UInt8, Op.bytesLess x x = false
  | [] => by simp [Op.bytesLess]
  | a :: x => by rw [Op.bytesLess, bl_irr x]; simp
theorem bl_trans : ∀ x y z : List UInt8, Op.bytesLess x y = true → Op.bytesLess y z = true → Op.bytesLess x z = true
  | _, _, [], _, h => by simp [Op.bytesLess] at h
  | [], _, _ :: _, _, _ => by simp [Op.bytesLess]
  | _ :: _, [], _ :: _, h, _ => by simp [Op.bytesLess] at h
  | a :: x, b :: y, c :: z, h1, h2 => by
    simp only [Op.bytesLess, Bool.or_eq_true, decide_eq_true_eq, Bool.and_eq_true, beq_iff_eq] at h1 h2 ⊢
    rcases h1 with h1 | ⟨rfl, h1⟩
    · rcases h2 with h2 | ⟨rfl, h2⟩
      · left; rw [UInt8.lt_iff_toNat_lt] at *; omega
      · exact .inl h1
    · rcases h2 with h2 | ⟨rfl, h2⟩
      · exact .inl h2
      · exact .inr ⟨rfl, bl_trans x y z h1 h2⟩
theorem bl_tri : ∀ x y : List UInt8, Op.bytesLess x y = false → Op.bytesLess y x = false → x = y
  | [], [], _, _ => rfl
  | [], _ :: _, h, _ => by simp [Op.bytesLess] at h
  | _ :: _, [], _, h => by simp [Op.bytesLess] at h
  | a :: x, b :: y, h1, h2 => by
    simp only [Op.bytesLess, Bool.or_eq_false_iff, decide_eq_false_iff_not, Bool.and_eq_false_iff, beq_eq_false_iff_ne] at h1 h2
    have e := u8_tri a b h1.1 h2.1
    subst e
    rw [bl_tri x y (h1.2.resolve_left (fun h => h rfl)) (h2.2.resolve_left (fun h => h rfl))]
def lt (a b : ByteArray) : Bool := Op.bytesLess a.toList b.toList
theorem toList_inj {a b : ByteArray} (h : a.toList = b.toList) : a = b := by
  rw [ByteArray.toList_eq, ByteArray.toList_eq] at h
  cases a; cases b
  congr 1
  exact Array.toList_inj.1 h
theorem data_inj {a b : ByteArray} (h : a.data.toList = b.data.toList) : a = b := by
  cases a; cases b
  congr 1
  exact Array.toList_inj.1 h
theorem toList_beq (a b : ByteArray) : (a.toList == b.toList) = decide (a = b) := by
  by_cases h : a = b
  · subst h; simp
  · rw [decide_eq_false h, beq_eq_false_iff_ne]; exact fun e => h (toList_inj e)
theorem lt_irr (a : ByteArray) : lt a a = false := bl_irr _
theorem lt_trans {a b c : ByteArray} (h1 : lt a b = true) (h2 : lt b c = true) : lt a c = true := bl_trans _ _ _ h1 h2
theorem lt_tri {a b : ByteArray} (h1 : lt a b = false) (h2 : lt b a = false) : a = b := toList_inj (bl_tri _ _ h1 h2)
theorem lt_asym {a b : ByteArray} (h : lt a b = true) : lt b a = false := by
  cases h2 : lt b a with
  | false => rfl
  | true => have := lt_trans h h2; rw [lt_irr] at this; cases this
theorem lt_ne {a b : ByteArray} (h : lt a b = true) : a ≠ b := fun e => by subst e; rw [lt_irr] at h; cases h

/-! ### pairs, names, values, labels -/
abbrev Pr := ByteArray × ByteArray
def nmB (b : UInt8) : Bool := (decide (97 ≤ b.toNat) && decide (b.toNat ≤ 122)) || decide (b.toNat = 95)
def vlB (b : UInt8) : Bool := decide (32 ≤ b.toNat) && decide (b.toNat ≤ 126)
def nm (s : ByteArray) : Bool := s.data.toList.all nmB && decide (1 ≤ s.size) && decide (s.size ≤ 32)
def vl (s : ByteArray) : Bool := s.data.toList.all vlB && decide (1 ≤ s.size) && decide (s.size ≤ 64)
theorem nm_size {s : ByteArray} (h : nm s = true) : 1 ≤ s.size ∧ s.size ≤ 32 := by simp [nm] at h; omega
theorem vl_size {s : ByteArray} (h : vl s = true) : 1 ≤ s.size ∧ s.size ≤ 64 := by simp [vl] at h; omega
/-- The first j pairs are right. -/
structure Good (l : List Pr) : Prop where
  each : ∀ p ∈ l, nm p.1 = true ∧ vl p.2 = true
  rise : l.Pairwise fun p q => lt p.1 q.1 = true
structure Ok (l : List Pr) : Prop where
  one : 1 ≤ l.length
  few : l.length ≤ 8
  good : Good l
open Classical in
noncomputable def chk (l : List Pr) : Nat := if Ok l then 0 else 16
theorem chk_ok {l : List Pr} (h : Ok l) : chk l = 0 := if_pos h
theorem chk_no {l : List Pr} (h : ¬ Ok l) : chk l = 16 := if_neg h
theorem chk_iff {l : List Pr} : chk l = 0 ↔ Ok l := by
  by_cases h : Ok l
  · rw [chk_ok h]; exact ⟨fun _ => h, fun _ => rfl⟩
  · rw [chk_no h]; exact ⟨fun e => absurd e (by decide), fun e => absurd e h⟩
theorem Good.nil : Good [] := ⟨fun p h => absurd h (by simp), List.Pairwise.nil⟩
theorem Good.step {l : List Pr} {j : Nat} (h : Good (l.take j)) (hj : j < l.length) (h1 : nm l[j].1 = true) (h2 : vl l[j].2 = true) (h3 : ∀ i (hi : i < l.length), j = i + 1 → lt l[i].1 l[j].1 = true) : Good (l.take (j + 1)) := by
  rw [List.take_succ_eq_append_getElem hj]
  refine ⟨fun p hp => ?_, ?_⟩
  · rcases List.mem_append.1 hp with hp | hp
    · exact h.each p hp
    · rw [List.mem_singleton.1 hp]; exact ⟨h1, h2⟩
  · rw [List.pairwise_append]
    refine ⟨h.rise, List.pairwise_singleton _ _, fun p hp q hq => ?_⟩
    rw [List.mem_singleton.1 hq]
    obtain ⟨i, hi, rfl⟩ := List.mem_iff_getElem.1 hp
    rw [List.getElem_take]
    have hij : i < j := by rw [List.length_take] at hi; omega
    have hl := h3 (j - 1) (by omega) (by omega)
    by_cases e : i = j - 1
    · subst e; exact hl
    · have hp := List.pairwise_iff_getElem.1 h.rise i (j - 1) hi (by rw [List.length_take]; omega) (by omega)
      rw [List.getElem_take, List.getElem_take] at hp
      exact lt_trans hp hl
theorem Ok.of {l : List Pr} (h1 : 1 ≤ l.length) (h8 : l.length ≤ 8) {j : Nat} (hj : ¬ j < l.length) (h : Good (l.take j)) : Ok l := ⟨h1, h8, by rwa [List.take_of_length_le (by omega)] at h⟩
theorem Ok.at {l : List Pr} (h : Ok l) (j : Nat) (hj : j < l.length) : nm l[j].1 = true ∧ vl l[j].2 = true := h.good.each _ (List.getElem_mem hj)
theorem Ok.up {l : List Pr} (h : Ok l) (i j : Nat) (hi : i < l.length) (hj : j < l.length) (hij : j = i + 1) : lt l[i].1 l[j].1 = true := List.pairwise_iff_getElem.1 h.good.rise i j hi hj (by omega)
theorem chk_name {l : List Pr} {j : Nat} (hj : j < l.length) (h : nm l[j].1 = false) : chk l = 16 := chk_no fun k => by rw [(k.at j hj).1] at h; cases h
theorem chk_value {l : List Pr} {j : Nat} (hj : j < l.length) (h : vl l[j].2 = false) : chk l = 16 := chk_no fun k => by rw [(k.at j hj).2] at h; cases h
theorem chk_order {l : List Pr} {i j : Nat} (hi : i < l.length) (hj : j < l.length) (hij : j = i + 1) (h : lt l[i].1 l[j].1 = false) : chk l = 16 := chk_no fun k => by rw [k.up i j hi hj hij] at h; cases h
theorem chk_few {l : List Pr} (h : l.length < 1 ∨ 8 < l.length) : chk l = 16 := chk_no fun k => by have := k.one; have := k.few; omega

/-! ### their bytes -/
def pB (p : Pr) : List UInt8 := numL p.1.size ++ p.1.data.toList ++ (numL p.2.size ++ p.2.data.toList)
def encB (l : List Pr) : List UInt8 := numL l.length ++ l.flatMap pB
open Classical in
/-- What Encode answers. -/
noncomputable def encR (l : List Pr) : Ending := if Ok l then .returned (.tuple #[.string ⟨(encB l).toArray⟩, .int .i64 0]) else .returned (.tuple #[.string ByteArray.empty, .int .i64 16])
theorem encR_ok {l : List Pr} (h : Ok l) : encR l = .returned (.tuple #[.string ⟨(encB l).toArray⟩, .int .i64 0]) := if_pos h
theorem encR_no {l : List Pr} (h : ¬ Ok l) : encR l = .returned (.tuple #[.string ByteArray.empty, .int .i64 16]) := if_neg h
theorem pB_len {p : Pr} (h1 : p.1.size ≤ 32) (h2 : p.2.size ≤ 64) : (pB p).length ≤ 114 := by
  have a := nd_le p.1.size
  have b := nd_le p.2.size
  simp only [pB, List.length_append, numL_length, Array.length_toList, ByteArray.size_data]
  omega
theorem flat_len : ∀ {l : List Pr}, (∀ p ∈ l, p.1.size ≤ 32 ∧ p.2.size ≤ 64) → (l.flatMap pB).length ≤ 114 * l.length
  | [], _ => by simp
  | p :: l, h => by
    have h1 := pB_len (h p (by simp)).1 (h p (by simp)).2
    have h2 := flat_len (l := l) fun q hq => h q (by simp [hq])
    rw [List.flatMap_cons, List.length_append, List.length_cons]; omega
theorem Good.small {l : List Pr} (h : Good l) : ∀ p ∈ l, p.1.size ≤ 32 ∧ p.2.size ≤ 64 := fun p hp => ⟨(nm_size (h.each p hp).1).2, (vl_size (h.each p hp).2).2⟩

/-! ### reading -/
/-- The next text: what it is, what is left, the error. -/
def txt (m : Int) (s : List UInt8) : ByteArray × List UInt8 × Nat := (⟨((s.drop (gotT s m).2.1).take (gotT s m).1).toArray⟩, s.drop ((gotT s m).2.1 + (gotT s m).1), (gotT s m).2.2)
def pairs : Nat → List UInt8 → List Pr × List UInt8 × Nat
  | 0, s => ([], s, 0)
  | n + 1, s => if (txt 32 s).2.2 ≠ 0 then ([], (txt 32 s).2.1, (txt 32 s).2.2) else if (txt 64 (txt 32 s).2.1).2.2 ≠ 0 then ([], (txt 64 (txt 32 s).2.1).2.1, (txt 64 (txt 32 s).2.1).2.2) else
    (((txt 32 s).1, (txt 64 (txt 32 s).2.1).1) :: (pairs n (txt 64 (txt 32 s).2.1).2.1).1, (pairs n (txt 64 (txt 32 s).2.1).2.1).2)
/-- So many pairs are read of s: the first ones are l, R is left. -/
def Read (n : Nat) (s : List UInt8) (j : Nat) (l : List Pr) (r : List UInt8) : Prop := j ≤ n ∧ l.length = j ∧ pairs n s = (l ++ (pairs (n - j) r).1, (pairs (n - j) r).2)
theorem Read.start (n : Nat) (s : List UInt8) : Read n s 0 [] s := ⟨Nat.zero_le _, rfl, by simp⟩
theorem Read.step {n : Nat} {s : List UInt8} {j : Nat} {l : List Pr} {r r1 r2 : List UInt8} {a b : ByteArray} (h : Read n s j l r) (hj : j < n) (h1 : txt 32 r = (a, r1, 0)) (h2 : txt 64 r1 = (b, r2, 0)) : Read n s (j + 1) (l ++ [(a, b)]) r2 := by
  obtain ⟨k1, k2, k3⟩ := h
  refine ⟨hj, by simp [k2], ?_⟩
  rw [k3, show n - j = n - (j + 1) + 1 by omega, pairs, h1]
  simp only [ne_eq, not_true_eq_false, if_false]
  rw [h2]
  simp
theorem Read.bad1 {n : Nat} {s : List UInt8} {j : Nat} {l : List Pr} {r r1 : List UInt8} {a : ByteArray} {e : Nat} (h : Read n s j l r) (hj : j < n) (h1 : txt 32 r = (a, r1, e)) (he : e ≠ 0) : (pairs n s).2.2 = e := by
  obtain ⟨k1, k2, k3⟩ := h
  rw [k3, show n - j = n - (j + 1) + 1 by omega, pairs, h1]
  simp [he]
theorem Read.bad2 {n : Nat} {s : List UInt8} {j : Nat} {l : List Pr} {r r1 r2 : List UInt8} {a b : ByteArray} {e : Nat} (h : Read n s j l r) (hj : j < n) (h1 : txt 32 r = (a, r1, 0)) (h2 : txt 64 r1 = (b, r2, e)) (he : e ≠ 0) : (pairs n s).2.2 = e := by
  obtain ⟨k1, k2, k3⟩ := h
  rw [k3, show n - j = n - (j + 1) + 1 by omega, pairs, h1]
  simp only [ne_eq, not_true_eq_false, if_false]
  rw [h2]
  simp [he]
theorem Read.last {n : Nat} {s : List UInt8} {j : Nat} {l : List Pr} {r : List UInt8} (h : Read n s j l r) (hj : ¬ j < n) : pairs n s = (l, r, 0) := by
  obtain ⟨k1, k2, k3⟩ := h
  rw [k3, show n - j = 0 by omega]
  simp [pairs]
/-- What Decode answers. -/
noncomputable def dec (s : List UInt8) : List Pr × Nat :=
  if (gotN s).2.2 ≠ 0 then ([], (gotN s).2.2) else if (gotN s).1 < 1 ∨ 8 < (gotN s).1 then ([], 16) else
  if (pairs (gotN s).1 (s.drop (gotN s).2.1)).2.2 ≠ 0 then ([], (pairs (gotN s).1 (s.drop (gotN s).2.1)).2.2) else if (pairs (gotN s).1 (s.drop (gotN s).2.1)).2.1 ≠ [] then ([], 6) else
  if chk (pairs (gotN s).1 (s.drop (gotN s).2.1)).1 ≠ 0 then ([], 16) else ((pairs (gotN s).1 (s.drop (gotN s).2.1)).1, 0)
theorem dec_num {s : List UInt8} {n k e : Nat} (h : gotN s = (n, k, e)) (he : e ≠ 0) : dec s = ([], e) := by unfold dec; rw [h]; simp [he]
theorem dec_few {s : List UInt8} {n k : Nat} (h : gotN s = (n, k, 0)) (hn : n < 1 ∨ 8 < n) : dec s = ([], 16) := by unfold dec; rw [h]; simp only [ne_eq, not_true_eq_false, if_false]; rw [if_pos hn]
theorem dec_bad {s : List UInt8} {n k e : Nat} (h : gotN s = (n, k, 0)) (hn : ¬ (n < 1 ∨ 8 < n)) (hp : (pairs n (s.drop k)).2.2 = e) (he : e ≠ 0) : dec s = ([], e) := by unfold dec; rw [h]; simp only [ne_eq, not_true_eq_false, if_false]; rw [if_neg hn, hp, if_pos he]
theorem dec_end {s : List UInt8} {n k : Nat} {l : List Pr} {r : List UInt8} (h : gotN s = (n, k, 0)) (hn : ¬ (n < 1 ∨ 8 < n)) (hp : pairs n (s.drop k) = (l, r, 0)) : dec s = if r ≠ [] then ([], 6) else if chk l ≠ 0 then ([], 16) else (l, 0) := by unfold dec; rw [h]; simp only [ne_eq, not_true_eq_false, if_false]; rw [if_neg hn, hp]; simp
theorem dec_more {s : List UInt8} {n k : Nat} {l : List Pr} {r : List UInt8} (h : gotN s = (n, k, 0)) (hn : ¬ (n < 1 ∨ 8 < n)) (hp : pairs n (s.drop k) = (l, r, 0)) (hr : r ≠ []) : dec s = ([], 6) := by rw [dec_end h hn hp, if_pos hr]
theorem dec_label {s : List UInt8} {n k : Nat} {l : List Pr} (h : gotN s = (n, k, 0)) (hn : ¬ (n < 1 ∨ 8 < n)) (hp : pairs n (s.drop k) = (l, [], 0)) (hl : ¬ Ok l) : dec s = ([], 16) := by rw [dec_end h hn hp, chk_no hl]; simp
theorem dec_ok {s : List UInt8} {n k : Nat} {l : List Pr} (h : gotN s = (n, k, 0)) (hn : ¬ (n < 1 ∨ 8 < n)) (hp : pairs n (s.drop k) = (l, [], 0)) (hl : Ok l) : dec s = (l, 0) := by rw [dec_end h hn hp, chk_ok hl]; simp

/-! ### back -/
theorem txt_text (t : ByteArray) (m : Int) (r : List UInt8) (h : (t.size : Int) ≤ m) (hs : t.size < 18446744073709551616) : txt m (numL t.size ++ t.data.toList ++ r) = (t, r, 0) := by
  have hg : gotN (numL t.size ++ t.data.toList ++ r) = (t.size, nd t.size + 1, 0) := by rw [List.append_assoc]; exact got_num _ hs _
  have hl : t.data.toList.length = t.size := by simp
  have ht : gotT (numL t.size ++ t.data.toList ++ r) m = (t.size, nd t.size + 1, 0) := by
    unfold gotT
    rw [hg]
    simp only [ne_eq, not_true_eq_false, if_false]
    rw [if_neg (by omega), if_neg]
    simp only [List.length_append, numL_length, hl]; omega
  unfold txt
  rw [ht]
  have e1 : (numL t.size ++ t.data.toList ++ r).drop (nd t.size + 1) = t.data.toList ++ r := by
    rw [List.append_assoc, ← numL_length, List.drop_left]
  refine Prod.ext ?_ (Prod.ext ?_ rfl)
  · refine data_inj ?_
    show ((numL t.size ++ t.data.toList ++ r).drop (nd t.size + 1)).take t.size = _
    rw [e1, ← hl, List.take_left]
  · show (numL t.size ++ t.data.toList ++ r).drop (nd t.size + 1 + t.size) = r
    rw [← List.drop_drop, e1, ← hl, List.drop_left]
theorem pairs_flat : ∀ (l : List Pr) (r : List UInt8), (∀ p ∈ l, p.1.size ≤ 32 ∧ p.2.size ≤ 64) → pairs l.length (l.flatMap pB ++ r) = (l, r, 0)
  | [], r, _ => by simp [pairs]
  | p :: l, r, h => by
    obtain ⟨h1, h2⟩ := h p (by simp)
    have e : (p :: l).flatMap pB ++ r = numL p.1.size ++ p.1.data.toList ++ (numL p.2.size ++ p.2.data.toList ++ (l.flatMap pB ++ r)) := by
      rw [List.flatMap_cons, pB]; simp [List.append_assoc]
    have ih := pairs_flat l r fun q hq => h q (by simp [hq])
    rw [e, List.length_cons, pairs, txt_text p.1 32 _ (by omega) (by omega)]
    simp only [ne_eq, not_true_eq_false, if_false]
    rw [txt_text p.2 64 _ (by omega) (by omega)]
    simp only [not_true_eq_false, if_false]
    rw [ih]
theorem dec_enc {l : List Pr} (h : Ok l) (r : List UInt8) : dec (encB l ++ r) = if r ≠ [] then ([], 6) else (l, 0) := by
  have hg : gotN (encB l ++ r) = (l.length, nd l.length + 1, 0) := by rw [encB, List.append_assoc]; exact got_num _ (by have := h.few; omega) _
  have hd : (encB l ++ r).drop (nd l.length + 1) = l.flatMap pB ++ r := by rw [encB, List.append_assoc, ← numL_length, List.drop_left]
  rw [dec_end hg (by have := h.one; have := h.few; omega) (by rw [hd]; exact pairs_flat l r h.good.small), chk_ok h]
  simp
theorem txt_ok {m : Int} {s r : List UInt8} {t : ByteArray} (h : txt m s = (t, r, 0)) : s = numL t.size ++ t.data.toList ++ r := by
  unfold txt at h
  obtain ⟨h1, h2⟩ := Prod.mk.inj h
  obtain ⟨h2, h3⟩ := Prod.mk.inj h2
  have hn : (gotN s).2.2 = 0 := by
    by_cases e : (gotN s).2.2 = 0
    · exact e
    · unfold gotT at h3; rw [if_pos e] at h3; exact absurd h3 e
  have hk := gotN_lt s
  have hG : ¬ (s.length - (gotN s).2.1 < (gotN s).1) ∧ gotT s m = ((gotN s).1, (gotN s).2.1, 0) := by
    unfold gotT at h3 ⊢
    rw [if_neg (by simp [hn])] at h3 ⊢
    by_cases c1 : m < 0 ∨ m < ((gotN s).1 : Int)
    · rw [if_pos c1] at h3; exact absurd h3 (by simp)
    · rw [if_neg c1] at h3 ⊢
      by_cases c2 : s.length - (gotN s).2.1 < (gotN s).1
      · rw [if_pos c2] at h3; exact absurd h3 (by simp)
      · rw [if_neg c2]; exact ⟨c2, rfl⟩
  rw [hG.2] at h1 h2
  have ht : t.data.toList = (s.drop (gotN s).2.1).take (gotN s).1 := by rw [← h1]
  have hsz : t.size = (gotN s).1 := by
    have : t.data.toList.length = t.size := by simp
    rw [← this, ht, List.length_take, List.length_drop]; omega
  rw [hsz, (num_got s hn).1, ht, ← h2, ← List.drop_drop, List.append_assoc, List.take_append_drop, List.take_append_drop]
theorem pairs_ok : ∀ {n : Nat} {s r : List UInt8} {l : List Pr}, pairs n s = (l, r, 0) → s = l.flatMap pB ++ r ∧ l.length = n
  | 0, s, r, l, h => by
    rw [pairs] at h
    obtain ⟨h1, h2⟩ := Prod.mk.inj h
    obtain ⟨h2, -⟩ := Prod.mk.inj h2
    subst h1 h2; exact ⟨rfl, rfl⟩
  | n + 1, s, r, l, h => by
    obtain ⟨⟨a, r1, e1⟩, h1⟩ : ∃ x, txt 32 s = x := ⟨_, rfl⟩
    obtain ⟨⟨b, r2, e2⟩, h2⟩ : ∃ x, txt 64 r1 = x := ⟨_, rfl⟩
    rw [pairs, h1] at h
    by_cases c1 : e1 = 0
    · subst c1
      simp only [ne_eq, not_true_eq_false, if_false] at h
      rw [h2] at h
      by_cases c2 : e2 = 0
      · subst c2
        simp only [not_true_eq_false, if_false] at h
        obtain ⟨⟨l', r', e'⟩, h3⟩ : ∃ x, pairs n r2 = x := ⟨_, rfl⟩
        rw [h3] at h
        obtain ⟨k1, k2⟩ := Prod.mk.inj h
        obtain ⟨k2, k3⟩ := Prod.mk.inj k2
        simp only at k1 k2 k3
        subst k1 k2 k3
        obtain ⟨i1, i2⟩ := pairs_ok h3
        refine ⟨?_, by simp [i2]⟩
        rw [txt_ok h1, txt_ok h2, i1, List.flatMap_cons, pB]
        simp [List.append_assoc]
      · simp [c2] at h
    · simp [c1] at h
theorem dec_back {s : List UInt8} {l : List Pr} (h : dec s = (l, 0)) : Ok l ∧ encB l = s := by
  unfold dec at h
  by_cases c1 : (gotN s).2.2 ≠ 0
  · rw [if_pos c1] at h; exact absurd (Prod.mk.inj h).2 c1
  rw [if_neg c1] at h
  by_cases c2 : (gotN s).1 < 1 ∨ 8 < (gotN s).1
  · rw [if_pos c2] at h; exact absurd (Prod.mk.inj h).2 (by decide)
  rw [if_neg c2] at h
  by_cases c3 : (pairs (gotN s).1 (s.drop (gotN s).2.1)).2.2 ≠ 0
  · rw [if_pos c3] at h; exact absurd (Prod.mk.inj h).2 c3
  rw [if_neg c3] at h
  by_cases c4 : (pairs (gotN s).1 (s.drop (gotN s).2.1)).2.1 ≠ []
  · rw [if_pos c4] at h; exact absurd (Prod.mk.inj h).2 (by decide)
  rw [if_neg c4] at h
  by_cases c5 : chk (pairs (gotN s).1 (s.drop (gotN s).2.1)).1 ≠ 0
  · rw [if_pos c5] at h; exact absurd (Prod.mk.inj h).2 (by decide)
  rw [if_neg c5] at h
  have hl := (Prod.mk.inj h).1
  have hok : Ok l := by rw [← hl]; exact chk_iff.1 (by simpa using c5)
  refine ⟨hok, ?_⟩
  obtain ⟨i1, i2⟩ := pairs_ok (n := (gotN s).1) (s := s.drop (gotN s).2.1) (l := l) (r := []) (Prod.ext hl (Prod.ext (by simpa using c4) (by simpa using c3)))
  rw [List.append_nil] at i1
  rw [encB, i2, (num_got s (by simpa using c1)).1, ← i1, List.take_append_drop]
theorem dec_none {s : List UInt8} {l : List Pr} {e : Nat} (h : dec s = (l, e)) (he : e ≠ 0) : l = [] := by
  unfold dec at h
  repeat' (split at h)
  all_goals first
    | exact (Prod.mk.inj h).1.symm
    | exact absurd (Prod.mk.inj h).2.symm he

/-! ### the order of pairs -/
def ltP (p q : Pr) : Bool := lt p.1 q.1 || (decide (p.1 = q.1) && lt p.2 q.2)
theorem ltP_irr (p : Pr) : ltP p p = false := by simp [ltP, lt_irr]
theorem ltP_iff {p q : Pr} : ltP p q = true ↔ lt p.1 q.1 = true ∨ p.1 = q.1 ∧ lt p.2 q.2 = true := by simp [ltP]
theorem ltP_trans {p q r : Pr} (h1 : ltP p q = true) (h2 : ltP q r = true) : ltP p r = true := by
  rw [ltP_iff] at *
  rcases h1 with h1 | ⟨e1, h1⟩
  · rcases h2 with h2 | ⟨e2, h2⟩
    · exact .inl (lt_trans h1 h2)
    · exact .inl (by rw [← e2]; exact h1)
  · rcases h2 with h2 | ⟨e2, h2⟩
    · exact .inl (by rw [e1]; exact h2)
    · exact .inr ⟨e1.trans e2, lt_trans h1 h2⟩
theorem ltP_tri {p q : Pr} (h1 : ltP p q = false) (h2 : ltP q p = false) : p = q := by
  have a := fun h => Bool.eq_false_iff.1 h1 (ltP_iff.2 h)
  have b := fun h => Bool.eq_false_iff.1 h2 (ltP_iff.2 h)
  have e1 : p.1 = q.1 := lt_tri (Bool.eq_false_iff.2 fun h => a (.inl h)) (Bool.eq_false_iff.2 fun h => b (.inl h))
  have e2 : p.2 = q.2 := lt_tri (Bool.eq_false_iff.2 fun h => a (.inr ⟨e1, h⟩)) (Bool.eq_false_iff.2 fun h => b (.inr ⟨e1.symm, h⟩))
  exact Prod.ext e1 e2
theorem ltP_asym {p q : Pr} (h : ltP p q = true) : ltP q p = false := by
  cases h2 : ltP q p with
  | false => rfl
  | true => have := ltP_trans h h2; rw [ltP_irr] at this; cases this
theorem ltP_ne {p q : Pr} (h : ltP p q = true) : p ≠ q := fun e => by subst e; rw [ltP_irr] at h; cases h
def cmp : List Pr → List Pr → Int
  | [], [] => 0
  | [], _ :: _ => -1
  | _ :: _, [] => 1
  | p :: a, q :: b => if ltP p q = true then -1 else if p = q then cmp a b else 1
theorem cmp_cons_eq (p : Pr) (a b : List Pr) : cmp (p :: a) (p :: b) = cmp a b := by rw [cmp, ltP_irr]; simp
theorem cmp_cons_lt {p q : Pr} (h : ltP p q = true) (a b : List Pr) : cmp (p :: a) (q :: b) = -1 := by rw [cmp, if_pos h]
theorem cmp_cons_gt {p q : Pr} (h : ltP p q = false) (hn : p ≠ q) (a b : List Pr) : cmp (p :: a) (q :: b) = 1 := by rw [cmp, if_neg (by rw [h]; decide), if_neg hn]
theorem three (p q : Pr) : ltP p q = true ∨ p = q ∨ (ltP p q = false ∧ p ≠ q ∧ ltP q p = true) := by
  cases h : ltP p q with
  | true => exact .inl rfl
  | false =>
    by_cases e : p = q
    · exact .inr (.inl e)
    · refine .inr (.inr ⟨rfl, e, ?_⟩)
      cases h2 : ltP q p with
      | true => rfl
      | false => exact absurd (ltP_tri h h2) e
theorem cmp_self : ∀ a : List Pr, cmp a a = 0
  | [] => rfl
  | p :: a => by rw [cmp_cons_eq, cmp_self a]
theorem cmp_three : ∀ a b : List Pr, cmp a b = -1 ∨ cmp a b = 0 ∨ cmp a b = 1
  | [], [] => .inr (.inl rfl)
  | [], _ :: _ => .inl rfl
  | _ :: _, [] => .inr (.inr rfl)
  | p :: a, q :: b => by
    rcases three p q with h | rfl | ⟨h1, h2, -⟩
    · exact .inl (cmp_cons_lt h _ _)
    · rw [cmp_cons_eq]; exact cmp_three a b
    · exact .inr (.inr (cmp_cons_gt h1 h2 _ _))
theorem cmp_swap : ∀ a b : List Pr, cmp b a = -cmp a b
  | [], [] => rfl
  | [], _ :: _ => rfl
  | _ :: _, [] => rfl
  | p :: a, q :: b => by
    rcases three p q with h | rfl | ⟨h1, h2, h3⟩
    · rw [cmp_cons_lt h, cmp_cons_gt (ltP_asym h) (ltP_ne h).symm]; rfl
    · rw [cmp_cons_eq, cmp_cons_eq]; exact cmp_swap a b
    · rw [cmp_cons_gt h1 h2, cmp_cons_lt h3]
theorem cmp_same : ∀ a b : List Pr, cmp a b = 0 ↔ a = b
  | [], [] => by simp [cmp]
  | [], _ :: _ => by simp [cmp]
  | _ :: _, [] => by simp [cmp]
  | p :: a, q :: b => by
    rcases three p q with h | rfl | ⟨h1, h2, h3⟩
    · rw [cmp_cons_lt h]; simp [ltP_ne h]
    · rw [cmp_cons_eq, cmp_same a b]; simp
    · rw [cmp_cons_gt h1 h2]; simp [h2]
theorem cmp_trans : ∀ a b c : List Pr, cmp a b ≤ 0 → cmp b c ≤ 0 → cmp a c ≤ 0 ∧ (cmp a b < 0 → cmp a c < 0)
  | [], [], [], _, _ => by simp [cmp]
  | [], _, _ :: _, _, _ => by simp [cmp]
  | [], q :: b, [], _, h => by simp [cmp] at h
  | _ :: _, [], _, h, _ => by simp [cmp] at h
  | _ :: _, q :: b, [], _, h => by simp [cmp] at h
  | p :: a, q :: b, r :: c, h1, h2 => by
    rcases three p q with g1 | rfl | ⟨k1, k2, -⟩
    · rcases three q r with g2 | rfl | ⟨m1, m2, -⟩
      · rw [cmp_cons_lt (ltP_trans g1 g2)]; simp
      · rw [cmp_cons_lt g1]; simp
      · rw [cmp_cons_gt m1 m2] at h2; exact absurd h2 (by decide)
    · rcases three p r with g2 | rfl | ⟨m1, m2, -⟩
      · rw [cmp_cons_lt g2]; simp
      · rw [cmp_cons_eq] at h1 h2 ⊢; rw [cmp_cons_eq]; exact cmp_trans a b c h1 h2
      · rw [cmp_cons_gt m1 m2] at h2; exact absurd h2 (by decide)
    · rw [cmp_cons_gt k1 k2] at h1; exact absurd h1 (by decide)
theorem cmp_more : ∀ (a : List Pr) (p : Pr), cmp a (a ++ [p]) = -1
  | [], p => rfl
  | q :: a, p => by rw [List.cons_append, cmp_cons_eq, cmp_more a p]
/-! in a loop -/
theorem cmp_step {a b : List Pr} {j : Nat} (ha : j < a.length) (hb : j < b.length) (he : a[j] = b[j]) : cmp (a.drop j) (b.drop j) = cmp (a.drop (j + 1)) (b.drop (j + 1)) := by
  rw [List.drop_eq_getElem_cons ha, List.drop_eq_getElem_cons hb, he, cmp_cons_eq]
theorem cmp_less {a b : List Pr} {j : Nat} (ha : j < a.length) (hb : j < b.length) (h : ltP a[j] b[j] = true) : cmp (a.drop j) (b.drop j) = -1 := by
  rw [List.drop_eq_getElem_cons ha, List.drop_eq_getElem_cons hb, cmp_cons_lt h]
theorem cmp_gr {a b : List Pr} {j : Nat} (ha : j < a.length) (hb : j < b.length) (h : ltP a[j] b[j] = false) (hn : a[j] ≠ b[j]) : cmp (a.drop j) (b.drop j) = 1 := by
  rw [List.drop_eq_getElem_cons ha, List.drop_eq_getElem_cons hb, cmp_cons_gt h hn]
theorem cmp_end1 {a b : List Pr} {j : Nat} (ha : ¬ j < a.length) (hb : j < b.length) : cmp (a.drop j) (b.drop j) = -1 := by
  rw [List.drop_eq_nil_of_le (by omega), List.drop_eq_getElem_cons hb]; rfl
theorem cmp_end2 {a b : List Pr} {j : Nat} (ha : j < a.length) (hb : ¬ j < b.length) : cmp (a.drop j) (b.drop j) = 1 := by
  rw [List.drop_eq_getElem_cons ha, show b.drop j = [] from List.drop_eq_nil_of_le (by omega)]; rfl
theorem cmp_end0 {a b : List Pr} {j : Nat} (ha : ¬ j < a.length) (hb : ¬ j < b.length) : cmp (a.drop j) (b.drop j) = 0 := by
  rw [List.drop_eq_nil_of_le (by omega), List.drop_eq_nil_of_le (by omega)]; rfl

/-! ### a name's value -/
def get : List Pr → ByteArray → ByteArray
  | [], _ => ByteArray.empty
  | p :: l, n => if p.1 = n then p.2 else get l n
theorem get_here {l : List Pr} {j : Nat} {n : ByteArray} (hj : j < l.length) (h : l[j].1 = n) : get (l.drop j) n = l[j].2 := by rw [List.drop_eq_getElem_cons hj, get, if_pos h]
theorem get_next {l : List Pr} {j : Nat} {n : ByteArray} (hj : j < l.length) (h : l[j].1 ≠ n) : get (l.drop j) n = get (l.drop (j + 1)) n := by rw [List.drop_eq_getElem_cons hj, get, if_neg h]
theorem get_end {l : List Pr} {j : Nat} {n : ByteArray} (hj : ¬ j < l.length) : get (l.drop j) n = ByteArray.empty := by rw [List.drop_eq_nil_of_le (by omega)]; rfl
theorem get_own : ∀ {l : List Pr}, l.Pairwise (fun p q => lt p.1 q.1 = true) → ∀ j (hj : j < l.length), get l l[j].1 = l[j].2
  | p :: l, h, 0, _ => by simp [get]
  | p :: l, h, j + 1, hj => by
    rw [List.pairwise_cons] at h
    have hj' : j < l.length := by simpa using hj
    have := h.1 l[j] (List.getElem_mem hj')
    simp only [List.getElem_cons_succ]
    rw [get, if_neg (lt_ne this)]
    exact get_own h.2 j hj'
theorem get_no : ∀ {l : List Pr} {n : ByteArray}, (∀ p ∈ l, p.1 ≠ n) → get l n = ByteArray.empty
  | [], _, _ => rfl
  | p :: l, n, h => by rw [get, if_neg (h p (by simp))]; exact get_no fun q hq => h q (by simp [hq])
theorem get_mid : ∀ {l m : List Pr} {n v : ByteArray}, (∀ p ∈ l, p.1 ≠ n) → get (l ++ (n, v) :: m) n = v
  | [], m, n, v, _ => by simp [get]
  | p :: l, m, n, v, h => by rw [List.cons_append, get, if_neg (h p (by simp))]; exact get_mid fun q hq => h q (by simp [hq])
/-- A pair more, at its place. -/
theorem good_more {l : List Pr} {n v : ByteArray} {k : Nat} (h : Good l) (hn : nm n = true) (hv : vl v = true) (hk : k ≤ l.length) (h1 : ∀ i (hi : i < l.length), i < k → lt l[i].1 n = true) (h2 : ∀ hk : k < l.length, lt n l[k].1 = true) : Good (l.take k ++ (n, v) :: l.drop k) := by
  have hs : Good (l.take k) ∧ Good (l.drop k) := ⟨⟨fun p hp => h.each p (List.mem_of_mem_take hp), h.rise.sublist (List.take_sublist _ _)⟩, ⟨fun p hp => h.each p (List.mem_of_mem_drop hp), h.rise.sublist (List.drop_sublist _ _)⟩⟩
  have hlow : ∀ p ∈ l.take k, lt p.1 n = true := fun p hp => by
    obtain ⟨i, hi, rfl⟩ := List.mem_iff_getElem.1 hp
    rw [List.length_take] at hi
    rw [List.getElem_take]
    exact h1 i (by omega) (by omega)
  have hhigh : ∀ p ∈ l.drop k, lt n p.1 = true := fun p hp => by
    obtain ⟨i, hi, rfl⟩ := List.mem_iff_getElem.1 hp
    rw [List.length_drop] at hi
    rw [List.getElem_drop]
    have h0 := h2 (by omega)
    by_cases e : i = 0
    · subst e; exact h0
    · exact lt_trans h0 (List.pairwise_iff_getElem.1 h.rise k (k + i) (by omega) (by omega) (by omega))
  refine ⟨fun p hp => ?_, ?_⟩
  · rcases List.mem_append.1 hp with hp | hp
    · exact hs.1.each p hp
    · rcases List.mem_cons.1 hp with rfl | hp
      · exact ⟨hn, hv⟩
      · exact hs.2.each p hp
  · rw [List.pairwise_append, List.pairwise_cons]
    refine ⟨hs.1.rise, ⟨hhigh, hs.2.rise⟩, fun p hp q hq => ?_⟩
    rcases List.mem_cons.1 hq with rfl | hq
    · exact hlow p hp
    · exact lt_trans (hlow p hp) (hhigh q hq)
end Lb
end Go.Proofs.Ytoamgmbpainpjaa
