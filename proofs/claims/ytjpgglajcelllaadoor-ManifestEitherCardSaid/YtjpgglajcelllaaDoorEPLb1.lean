/- Parts, put together: LbPure, LbRow, LbRef, LbRef2, LbIn, LbRef3, LbRef4. -/
import Derived.Test.YtjpgglajcelllaaDoorEPDig
import Derived.Test.YtjpgglajcelllaaDoorEPRow
import Derived.Deep.SlicePairs
import Derived.BigQuiet
import Derived.WalkLawsBesides
import Derived.Lib.QuietBelow

/- Labels, plainly (layer 10): names, values, labels, their bytes, what is read, their order. Names no function of the program. -/
section
set_option maxRecDepth 100000
namespace Go.Proofs.YtjpgglajcelllaaDoor
open Go.RowKit Go.Sort
namespace Lb
open Dig
set_option linter.unusedVariables false
/-! ### the order of texts -/
theorem bl_trans : ∀ x y z : List UInt8, Op.bytesLess x y = true → Op.bytesLess y z = true → Op.bytesLess x z = true
  | _, _, [], _, h => by simp [Op.bytesLess] at h
  | [], _, _ :: _, _, _ => by simp [Op.bytesLess]
  | _ :: _, [], _ :: _, h, _ => by simp [Op.bytesLess] at h
  | a :: x, b :: y, c :: z, h1, h2 => by
    simp only [Op.bytesLess, Bool.or_eq_true, decide_eq_true_eq, Bool.and_eq_true, beq_iff_eq] at h1 h2 ⊢
    rcases h1 with h1 | ⟨rfl, h1⟩
    · rcases h2 with h2 | ⟨rfl, h2⟩
      · left; rw [UInt8.lt_iff_toNat_lt] at *; omega
      · exact .inl h1
    · rcases h2 with h2 | ⟨rfl, h2⟩
      · exact .inl h2
      · exact .inr ⟨rfl, bl_trans x y z h1 h2⟩
def lt (a b : ByteArray) : Bool := Op.bytesLess a.toList b.toList
theorem toList_inj {a b : ByteArray} (h : a.toList = b.toList) : a = b := by
  rw [ByteArray.toList_eq, ByteArray.toList_eq] at h
  cases a; cases b
  congr 1
  exact Array.toList_inj.1 h
theorem data_inj {a b : ByteArray} (h : a.data.toList = b.data.toList) : a = b := by
  cases a; cases b
  congr 1
  exact Array.toList_inj.1 h
theorem lt_trans {a b c : ByteArray} (h1 : lt a b = true) (h2 : lt b c = true) : lt a c = true := bl_trans _ _ _ h1 h2
/-! ### pairs, names, values, labels -/
abbrev Pr := ByteArray × ByteArray
def nmB (b : UInt8) : Bool := (decide (97 ≤ b.toNat) && decide (b.toNat ≤ 122)) || decide (b.toNat = 95)
def vlB (b : UInt8) : Bool := decide (32 ≤ b.toNat) && decide (b.toNat ≤ 126)
def nm (s : ByteArray) : Bool := s.data.toList.all nmB && decide (1 ≤ s.size) && decide (s.size ≤ 32)
def vl (s : ByteArray) : Bool := s.data.toList.all vlB && decide (1 ≤ s.size) && decide (s.size ≤ 64)
theorem nm_size {s : ByteArray} (h : nm s = true) : 1 ≤ s.size ∧ s.size ≤ 32 := by simp [nm] at h; omega
theorem vl_size {s : ByteArray} (h : vl s = true) : 1 ≤ s.size ∧ s.size ≤ 64 := by simp [vl] at h; omega
/-- The first j pairs are right. -/
structure Good (l : List Pr) : Prop where
  each : ∀ p ∈ l, nm p.1 = true ∧ vl p.2 = true
  rise : l.Pairwise fun p q => lt p.1 q.1 = true
structure Ok (l : List Pr) : Prop where
  one : 1 ≤ l.length
  few : l.length ≤ 8
  good : Good l
open Classical in
noncomputable def chk (l : List Pr) : Nat := if Ok l then 0 else 16
theorem chk_ok {l : List Pr} (h : Ok l) : chk l = 0 := if_pos h
theorem Good.nil : Good [] := ⟨fun p h => absurd h (by simp), List.Pairwise.nil⟩
theorem Good.step {l : List Pr} {j : Nat} (h : Good (l.take j)) (hj : j < l.length) (h1 : nm l[j].1 = true) (h2 : vl l[j].2 = true) (h3 : ∀ i (hi : i < l.length), j = i + 1 → lt l[i].1 l[j].1 = true) : Good (l.take (j + 1)) := by
  rw [List.take_succ_eq_append_getElem hj]
  refine ⟨fun p hp => ?_, ?_⟩
  · rcases List.mem_append.1 hp with hp | hp
    · exact h.each p hp
    · rw [List.mem_singleton.1 hp]; exact ⟨h1, h2⟩
  · rw [List.pairwise_append]
    refine ⟨h.rise, List.pairwise_singleton _ _, fun p hp q hq => ?_⟩
    rw [List.mem_singleton.1 hq]
    obtain ⟨i, hi, rfl⟩ := List.mem_iff_getElem.1 hp
    rw [List.getElem_take]
    have hij : i < j := by rw [List.length_take] at hi; omega
    have hl := h3 (j - 1) (by omega) (by omega)
    by_cases e : i = j - 1
    · subst e; exact hl
    · have hp := List.pairwise_iff_getElem.1 h.rise i (j - 1) hi (by rw [List.length_take]; omega) (by omega)
      rw [List.getElem_take, List.getElem_take] at hp
      exact lt_trans hp hl
theorem Ok.up {l : List Pr} (h : Ok l) (i j : Nat) (hi : i < l.length) (hj : j < l.length) (hij : j = i + 1) : lt l[i].1 l[j].1 = true := List.pairwise_iff_getElem.1 h.good.rise i j hi hj (by omega)
/-! ### their bytes -/
def pB (p : Pr) : List UInt8 := numL p.1.size ++ p.1.data.toList ++ (numL p.2.size ++ p.2.data.toList)
def encB (l : List Pr) : List UInt8 := numL l.length ++ l.flatMap pB
theorem pB_len {p : Pr} (h1 : p.1.size ≤ 32) (h2 : p.2.size ≤ 64) : (pB p).length ≤ 114 := by
  have a := nd_le p.1.size
  have b := nd_le p.2.size
  simp only [pB, List.length_append, numL_length, Array.length_toList, ByteArray.size_data]
  omega
theorem flat_len : ∀ {l : List Pr}, (∀ p ∈ l, p.1.size ≤ 32 ∧ p.2.size ≤ 64) → (l.flatMap pB).length ≤ 114 * l.length
  | [], _ => by simp
  | p :: l, h => by
    have h1 := pB_len (h p (by simp)).1 (h p (by simp)).2
    have h2 := flat_len (l := l) fun q hq => h q (by simp [hq])
    rw [List.flatMap_cons, List.length_append, List.length_cons]; omega
theorem Good.small {l : List Pr} (h : Good l) : ∀ p ∈ l, p.1.size ≤ 32 ∧ p.2.size ≤ 64 := fun p hp => ⟨(nm_size (h.each p hp).1).2, (vl_size (h.each p hp).2).2⟩
/-! ### reading -/
/-- The next text: what it is, what is left, the error. -/
def txt (m : Int) (s : List UInt8) : ByteArray × List UInt8 × Nat := (⟨((s.drop (gotT s m).2.1).take (gotT s m).1).toArray⟩, s.drop ((gotT s m).2.1 + (gotT s m).1), (gotT s m).2.2)
def pairs : Nat → List UInt8 → List Pr × List UInt8 × Nat
  | 0, s => ([], s, 0)
  | n + 1, s => if (txt 32 s).2.2 ≠ 0 then ([], (txt 32 s).2.1, (txt 32 s).2.2) else if (txt 64 (txt 32 s).2.1).2.2 ≠ 0 then ([], (txt 64 (txt 32 s).2.1).2.1, (txt 64 (txt 32 s).2.1).2.2) else
    (((txt 32 s).1, (txt 64 (txt 32 s).2.1).1) :: (pairs n (txt 64 (txt 32 s).2.1).2.1).1, (pairs n (txt 64 (txt 32 s).2.1).2.1).2)
/-- So many pairs are read of s: the first ones are l, R is left. -/
def Read (n : Nat) (s : List UInt8) (j : Nat) (l : List Pr) (r : List UInt8) : Prop := j ≤ n ∧ l.length = j ∧ pairs n s = (l ++ (pairs (n - j) r).1, (pairs (n - j) r).2)
theorem Read.step {n : Nat} {s : List UInt8} {j : Nat} {l : List Pr} {r r1 r2 : List UInt8} {a b : ByteArray} (h : Read n s j l r) (hj : j < n) (h1 : txt 32 r = (a, r1, 0)) (h2 : txt 64 r1 = (b, r2, 0)) : Read n s (j + 1) (l ++ [(a, b)]) r2 := by
  obtain ⟨k1, k2, k3⟩ := h
  refine ⟨hj, by simp [k2], ?_⟩
  rw [k3, show n - j = n - (j + 1) + 1 by omega, pairs, h1]
  simp only [ne_eq, not_true_eq_false, if_false]
  rw [h2]
  simp
theorem Read.bad2 {n : Nat} {s : List UInt8} {j : Nat} {l : List Pr} {r r1 r2 : List UInt8} {a b : ByteArray} {e : Nat} (h : Read n s j l r) (hj : j < n) (h1 : txt 32 r = (a, r1, 0)) (h2 : txt 64 r1 = (b, r2, e)) (he : e ≠ 0) : (pairs n s).2.2 = e := by
  obtain ⟨k1, k2, k3⟩ := h
  rw [k3, show n - j = n - (j + 1) + 1 by omega, pairs, h1]
  simp only [ne_eq, not_true_eq_false, if_false]
  rw [h2]
  simp [he]
theorem Read.last {n : Nat} {s : List UInt8} {j : Nat} {l : List Pr} {r : List UInt8} (h : Read n s j l r) (hj : ¬ j < n) : pairs n s = (l, r, 0) := by
  obtain ⟨k1, k2, k3⟩ := h
  rw [k3, show n - j = 0 by omega]
  simp [pairs]
/-- What Decode answers. -/
noncomputable def dec (s : List UInt8) : List Pr × Nat :=
  if (gotN s).2.2 ≠ 0 then ([], (gotN s).2.2) else if (gotN s).1 < 1 ∨ 8 < (gotN s).1 then ([], 16) else
  if (pairs (gotN s).1 (s.drop (gotN s).2.1)).2.2 ≠ 0 then ([], (pairs (gotN s).1 (s.drop (gotN s).2.1)).2.2) else if (pairs (gotN s).1 (s.drop (gotN s).2.1)).2.1 ≠ [] then ([], 6) else
  if chk (pairs (gotN s).1 (s.drop (gotN s).2.1)).1 ≠ 0 then ([], 16) else ((pairs (gotN s).1 (s.drop (gotN s).2.1)).1, 0)
theorem dec_bad {s : List UInt8} {n k e : Nat} (h : gotN s = (n, k, 0)) (hn : ¬ (n < 1 ∨ 8 < n)) (hp : (pairs n (s.drop k)).2.2 = e) (he : e ≠ 0) : dec s = ([], e) := by unfold dec; rw [h]; simp only [ne_eq, not_true_eq_false, if_false]; rw [if_neg hn, hp, if_pos he]
theorem dec_end {s : List UInt8} {n k : Nat} {l : List Pr} {r : List UInt8} (h : gotN s = (n, k, 0)) (hn : ¬ (n < 1 ∨ 8 < n)) (hp : pairs n (s.drop k) = (l, r, 0)) : dec s = if r ≠ [] then ([], 6) else if chk l ≠ 0 then ([], 16) else (l, 0) := by unfold dec; rw [h]; simp only [ne_eq, not_true_eq_false, if_false]; rw [if_neg hn, hp]; simp
/-! ### back -/
theorem txt_text (t : ByteArray) (m : Int) (r : List UInt8) (h : (t.size : Int) ≤ m) (hs : t.size < 18446744073709551616) : txt m (numL t.size ++ t.data.toList ++ r) = (t, r, 0) := by
  have hg : gotN (numL t.size ++ t.data.toList ++ r) = (t.size, nd t.size + 1, 0) := by rw [List.append_assoc]; exact got_num _ hs _
  have hl : t.data.toList.length = t.size := by simp
  have ht : gotT (numL t.size ++ t.data.toList ++ r) m = (t.size, nd t.size + 1, 0) := by
    unfold gotT
    rw [hg]
    simp only [ne_eq, not_true_eq_false, if_false]
    rw [if_neg (by omega), if_neg]
    simp only [List.length_append, numL_length, hl]; omega
  unfold txt
  rw [ht]
  have e1 : (numL t.size ++ t.data.toList ++ r).drop (nd t.size + 1) = t.data.toList ++ r := by
    rw [List.append_assoc, ← numL_length, List.drop_left]
  refine Prod.ext ?_ (Prod.ext ?_ rfl)
  · refine data_inj ?_
    show ((numL t.size ++ t.data.toList ++ r).drop (nd t.size + 1)).take t.size = _
    rw [e1, ← hl, List.take_left]
  · show (numL t.size ++ t.data.toList ++ r).drop (nd t.size + 1 + t.size) = r
    rw [← List.drop_drop, e1, ← hl, List.drop_left]
theorem pairs_flat : ∀ (l : List Pr) (r : List UInt8), (∀ p ∈ l, p.1.size ≤ 32 ∧ p.2.size ≤ 64) → pairs l.length (l.flatMap pB ++ r) = (l, r, 0)
  | [], r, _ => by simp [pairs]
  | p :: l, r, h => by
    obtain ⟨h1, h2⟩ := h p (by simp)
    have e : (p :: l).flatMap pB ++ r = numL p.1.size ++ p.1.data.toList ++ (numL p.2.size ++ p.2.data.toList ++ (l.flatMap pB ++ r)) := by
      rw [List.flatMap_cons, pB]; simp [List.append_assoc]
    have ih := pairs_flat l r fun q hq => h q (by simp [hq])
    rw [e, List.length_cons, pairs, txt_text p.1 32 _ (by omega) (by omega)]
    simp only [ne_eq, not_true_eq_false, if_false]
    rw [txt_text p.2 64 _ (by omega) (by omega)]
    simp only [not_true_eq_false, if_false]
    rw [ih]
theorem dec_enc {l : List Pr} (h : Ok l) (r : List UInt8) : dec (encB l ++ r) = if r ≠ [] then ([], 6) else (l, 0) := by
  have hg : gotN (encB l ++ r) = (l.length, nd l.length + 1, 0) := by rw [encB, List.append_assoc]; exact got_num _ (by have := h.few; omega) _
  have hd : (encB l ++ r).drop (nd l.length + 1) = l.flatMap pB ++ r := by rw [encB, List.append_assoc, ← numL_length, List.drop_left]
  rw [dec_end hg (by have := h.one; have := h.few; omega) (by rw [hd]; exact pairs_flat l r h.good.small), chk_ok h]
  simp
theorem txt_ok {m : Int} {s r : List UInt8} {t : ByteArray} (h : txt m s = (t, r, 0)) : s = numL t.size ++ t.data.toList ++ r := by
  unfold txt at h
  obtain ⟨h1, h2⟩ := Prod.mk.inj h
  obtain ⟨h2, h3⟩ := Prod.mk.inj h2
  have hn : (gotN s).2.2 = 0 := by
    by_cases e : (gotN s).2.2 = 0
    · exact e
    · unfold gotT at h3; rw [if_pos e] at h3; exact absurd h3 e
  have hk := gotN_lt s
  have hG : ¬ (s.length - (gotN s).2.1 < (gotN s).1) ∧ gotT s m = ((gotN s).1, (gotN s).2.1, 0) := by
    unfold gotT at h3 ⊢
    rw [if_neg (by simp [hn])] at h3 ⊢
    by_cases c1 : m < 0 ∨ m < ((gotN s).1 : Int)
    · rw [if_pos c1] at h3; exact absurd h3 (by simp)
    · rw [if_neg c1] at h3 ⊢
      by_cases c2 : s.length - (gotN s).2.1 < (gotN s).1
      · rw [if_pos c2] at h3; exact absurd h3 (by simp)
      · rw [if_neg c2]; exact ⟨c2, rfl⟩
  rw [hG.2] at h1 h2
  have ht : t.data.toList = (s.drop (gotN s).2.1).take (gotN s).1 := by rw [← h1]
  have hsz : t.size = (gotN s).1 := by
    have : t.data.toList.length = t.size := by simp
    rw [← this, ht, List.length_take, List.length_drop]; omega
  rw [hsz, (num_got s hn).1, ht, ← h2, ← List.drop_drop, List.append_assoc, List.take_append_drop, List.take_append_drop]
/-! ### the order of pairs -/
/-! in a loop -/
/-! ### a name's value -/
def get : List Pr → ByteArray → ByteArray
  | [], _ => ByteArray.empty
  | p :: l, n => if p.1 = n then p.2 else get l n
end Lb
end Go.Proofs.YtjpgglajcelllaaDoor
end
/- Rows of pairs of texts in memory (layer 10); a row of pairs among the arguments. -/
section
set_option maxRecDepth 100000
namespace Go.Proofs.YtjpgglajcelllaaDoor
open Go.RowKit Go.ChangeShapes Go.WideShapes
namespace Lb
open Bit Dsk Ob Dig
set_option linter.unusedVariables false
def layPr : Rw.Lay Pr := ⟨2, by decide, fun p => [.string p.1, .string p.2], fun _ => rfl, fun p u hu => by
  rcases List.mem_cons.1 hu with rfl | hu
  · rfl
  · rw [List.mem_singleton.1 hu]; rfl⟩
abbrev All : Nat → Prop := fun _ => True
/-- v reads as the pairs l, out of a block of S. -/
abbrev View := Rw.View layPr
theorem View.cells {w : World} {S : Nat → Prop} {A : Option Addr} {n c : Nat} {l : List Pr} (h : View w S (.slice A n c) l) (hp : 0 < l.length) : ∃ b off, A = some ⟨b, off, none⟩ ∧ S b ∧ b < w.heap.size ∧ ∀ i (hi : i < l.length), w.cell? ⟨b, off + i * 2, none⟩ = some (.string l[i].1) ∧ w.cell? ⟨b, off + i * 2 + 1, none⟩ = some (.string l[i].2) := by
  obtain ⟨b, off, h1, h2, h3, h4⟩ := Rw.View.open h hp
  exact ⟨b, off, h1, h2, h3, fun i hi => ⟨h4 i hi 0 _ rfl, h4 i hi 1 _ rfl⟩⟩
def Sml (l : List Pr) : Prop := ∀ p ∈ l, p.1.size ≤ 9223372036854775807 ∧ p.2.size ≤ 9223372036854775807
end Lb
end Go.Proofs.YtjpgglajcelllaaDoor
end
/- The document's own labels (layer 10): Name, Value, Check, Get, Compare. -/
section
set_option maxRecDepth 100000
namespace Go.Proofs.YtjpgglajcelllaaDoor
open Go.RowKit Go.Sort
namespace Lb
open Bit Dsk Ob Dig
set_option linter.unusedVariables false
theorem ret_b {a b : Bool} (h : a = b) : Ending.returned (.bool a) = .returned (.bool b) := by rw [h]
theorem ret_i {a b : Int} (h : a = b) : Ending.returned (.int .i64 a) = .returned (.int .i64 b) := by rw [h]
end Lb
end Go.Proofs.YtjpgglajcelllaaDoor
end
/- The document's own labels (layer 10): Compare, Same, Check, Encode. -/
section
set_option maxRecDepth 100000
namespace Go.Proofs.YtjpgglajcelllaaDoor
open Go.RowKit Go.Sort
namespace Lb
open Bit Dsk Ob Dig
set_option linter.unusedVariables false
end Lb
end Go.Proofs.YtjpgglajcelllaaDoor
end
/- The document's own reader of fields (layer 10): In's Num, Text, Must. -/
section
set_option maxRecDepth 100000
namespace Go.Proofs.YtjpgglajcelllaaDoor
open Go.RowKit Go.Sort
namespace Lb
open Bit Dsk Ob Dig
set_option linter.unusedVariables false
theorem boxed_below {g : Nat} {a b : Value} {w w' : World} (h : Boxed g a b w) (hb : Below w.heap.size w w') : Boxed g a b w' := by
  have hl := World.block_lt_of_cell? w _ h.c0
  have hblk : w'.heap[g]? = w.heap[g]? := hb.block g hl
  refine ⟨?_, ?_, ?_, ?_⟩
  · rw [← h.c0, World.cell?, World.cell?, hblk]
  · rw [← h.c1, World.cell?, World.cell?, hblk]
  · rw [← h.f0, World.frozen?, World.frozen?, hblk]
  · rw [← h.f1, World.frozen?, World.frozen?, hblk]
theorem gotT_le {l : List UInt8} {m : Int} {n k x : Nat} (h : gotT l m = (n, k, x)) : k + n ≤ l.length := by
  have hk := gotN_lt l
  unfold gotT at h
  repeat' (split at h)
  all_goals
    simp only [Prod.mk.injEq] at h
    omega
end Lb
end Go.Proofs.YtjpgglajcelllaaDoor
end
/- The document's own labels (layer 10): Encode. -/
section
set_option maxRecDepth 100000
namespace Go.Proofs.YtjpgglajcelllaaDoor
open Go.RowKit Go.Sort
namespace Lb
open Bit Dsk Ob Dig
set_option linter.unusedVariables false
theorem New0.cells {w w' : World} (h : New0 w w') {a : Addr} {v : Value} (hc : w.cell? a = some v) : w'.cell? a = some v := by
  have hb := h.block a.block (World.block_lt_of_cell? w _ hc) (fun f => f)
  rw [← hc, World.cell?, World.cell?, hb]
/-- The bytes so far. -/
def So (l : List Pr) (j : Nat) (s : ByteArray) : Prop := s.data.toList = numL l.length ++ (l.take j).flatMap pB
theorem So.step {l : List Pr} {j : Nat} {s : ByteArray} (h : So l j s) (hj : j < l.length) : So l (j + 1) (s ++ textA l[j].1 ++ textA l[j].2) := by
  unfold So at *
  rw [ByteArray.data_append, Array.toList_append, ByteArray.data_append, Array.toList_append, h, textA_list, textA_list, List.take_succ_eq_append_getElem hj, List.flatMap_append]
  simp [pB, List.append_assoc]
theorem So.last {l : List Pr} {j : Nat} {s : ByteArray} (h : So l j s) (hj : ¬ j < l.length) : s = ⟨(encB l).toArray⟩ := by
  refine data_inj ?_
  rw [h, List.take_of_length_le (by omega)]; rfl
theorem So.size {l : List Pr} {j : Nat} {s : ByteArray} (h : So l j s) (hok : Ok l) : s.size ≤ 1000 := by
  have h1 := nd_le l.length
  have h2 : ((l.take j).flatMap pB).length ≤ 114 * (l.take j).length := flat_len fun p hp => hok.good.small p (List.mem_of_mem_take hp)
  have h3 : (l.take j).length ≤ 8 := by rw [List.length_take]; have := hok.few; omega
  have h4 : s.data.toList.length = s.size := by simp
  have h5 := congrArg List.length h
  rw [List.length_append, numL_length] at h5
  omega
end Lb
end Go.Proofs.YtjpgglajcelllaaDoor
end
/- The document's own labels (layer 10): Decode. -/
section
set_option maxRecDepth 100000
namespace Go.Proofs.YtjpgglajcelllaaDoor
open Go.RowKit Go.Sort
namespace Lb
open Bit Dsk Ob Dig
set_option linter.unusedVariables false
/-- How far Decode is. -/
def St (s : List UInt8) (n e j : Nat) (l : List Pr) (r : List UInt8) : Prop := (e ≠ 0 ∧ dec s = ([], e)) ∨ (e = 0 ∧ ∃ k, gotN s = (n, k, 0) ∧ ¬ (n < 1 ∨ 8 < n) ∧ Read n (s.drop k) j l r)
theorem St.few {s : List UInt8} {n j : Nat} {l : List Pr} {r : List UInt8} (h : St s n 0 j l r) : l.length = j ∧ j ≤ n ∧ n ≤ 8 := by
  rcases h with ⟨h, -⟩ | ⟨-, k, -, h2, h3, h4, -⟩
  · exact absurd rfl h
  · exact ⟨h4, h3, by omega⟩
theorem St.step {s : List UInt8} {n j : Nat} {l : List Pr} {r r1 r2 : List UInt8} {a b : ByteArray} {e : Nat} (h : St s n 0 j l r) (hj : j < n) (h1 : txt 32 r = (a, r1, 0)) (h2 : txt 64 r1 = (b, r2, e)) : St s n e (j + 1) (l ++ [(a, b)]) r2 := by
  rcases h with ⟨h, -⟩ | ⟨-, k, k1, k2, k3⟩
  · exact absurd rfl h
  · by_cases he : e = 0
    · subst he; exact .inr ⟨rfl, k, k1, k2, k3.step hj h1 h2⟩
    · exact .inl ⟨he, dec_bad k1 k2 (k3.bad2 hj h1 h2 he) he⟩
theorem txt_is {m : Int} {r : ByteArray} {n k x : Nat} (h : gotT r.data.toList m = (n, k, x)) : txt m r.data.toList = (r.extract k (k + n), (r.extract (k + n) r.size).data.toList, x) := by
  have hl := gotT_le h
  have hlen : r.data.toList.length = r.size := by simp
  unfold txt
  rw [h]
  refine Prod.ext ?_ (Prod.ext ?_ rfl)
  · refine data_inj ?_
    show (r.data.toList.drop k).take n = _
    rw [extract_list, List.drop_take]
    congr 1; omega
  · show r.data.toList.drop (k + n) = _
    rw [extract_list, List.take_of_length_le (by omega)]
theorem Sml.snoc {l : List Pr} {a b : ByteArray} (h : Sml l) (ha : a.size ≤ 9223372036854775807) (hb : b.size ≤ 9223372036854775807) : Sml (l ++ [(a, b)]) := fun p hp => by
  rcases List.mem_append.1 hp with hp | hp
  · exact h p hp
  · rw [List.mem_singleton.1 hp]; exact ⟨ha, hb⟩
/-- Blocks that were not there. -/
def Nw (w : World) : Nat → Prop := fun b => w.heap.size ≤ b
end Lb
end Go.Proofs.YtjpgglajcelllaaDoor
end
