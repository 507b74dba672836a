/- Parts: PMt1. -/
import Derived.Test.YtgmnhodajngchaaGreatDoorSPLb1
import Derived.Test.YtgmnhodajngchaaGreatDoorSPRow
set_option maxRecDepth 100000
set_option linter.unusedVariables false
namespace Go.Proofs.YtgmnhodajngchaaGreatDoor
section
section
open Go.RowKit Go.Sort
namespace Mt
open Bit Dsk Ob Dig
abbrev M := Int × ByteArray × ByteArray
def right (m : M) : Nat := if m.1 < 1 \/ 4 < m.1 then 5 else if Lb.nm m.2.1 = false \/ (m.2.2.size ≠ 0 /\ (Lb.vl m.2.2 = false \/ m.1 = 4)) then 3 else 0
def first : List M -> Nat
 | [] => 0
 | m :: l => if right m ≠ 0 then right m else first l
def chk (l : List M) : Nat := if 8 < l.length then 8 else first l
theorem first_bad {l : List M} {j : Nat} (hj : j < l.length) (h : right l[j] ≠ 0) : first (l.drop j) = right l[j] := by rw [List.drop_eq_getElem_cons hj, first, if_pos h]
theorem first_good {l : List M} {j : Nat} (hj : j < l.length) (h : right l[j] = 0) : first (l.drop j) = first (l.drop (j + 1)) := by rw [List.drop_eq_getElem_cons hj, first, if_neg (by simp [h])]
theorem first_end {l : List M} {j : Nat} (hj : ¬ j < l.length) : first (l.drop j) = 0 := by rw [List.drop_eq_nil_of_le (by omega)]; rfl
theorem first_zero : ∀ {l : List M}, first l = 0 ↔ ∀ m ∈ l, right m = 0
 | [] => by simp [first]
 | m :: l => by
  rw [first]
  by_cases h : right m = 0
  ·rw [if_neg (by simp [h]), first_zero]; simp [h]
  ·rw [if_pos h]; simp [h]
theorem chk_long {l : List M} (h : 8 < l.length) : chk l = 8 := if_pos h
theorem chk_few {l : List M} (h : ¬ 8 < l.length) : chk l = first l := if_neg h
theorem chk_zero {l : List M} : chk l = 0 ↔ l.length <= 8 /\ ∀ m ∈ l, right m = 0 := by
 unfold chk
 by_cases h : 8 < l.length
 ·rw [if_pos h]; simp; omega
 ·rw [if_neg h, first_zero]; simp; omega
theorem right_zero {m : M} : right m = 0 ↔ 1 <= m.1 /\ m.1 <= 4 /\ Lb.nm m.2.1 = true /\ (m.2.2.size ≠ 0 -> Lb.vl m.2.2 = true /\ m.1 ≠ 4) := by
 unfold right
 by_cases h1 : m.1 < 1 \/ 4 < m.1
 ·rw [if_pos h1]; simp; omega
 ·rw [if_neg h1]
  by_cases h2 : Lb.nm m.2.1 = false \/ (m.2.2.size ≠ 0 /\ (Lb.vl m.2.2 = false \/ m.1 = 4))
  ·rw [if_pos h2]
   constructor
   ·intro h; simp at h
   ·rintro ⟨-, -, k1, k2⟩
    rcases h2 with h2 | ⟨h2, h3⟩
    ·rw [k1] at h2; cases h2
    ·have := k2 h2
     rcases h3 with h3 | h3
     ·rw [this.1] at h3; cases h3
     ·exact absurd h3 this.2
  ·rw [if_neg h2]
   simp only [true_iff]
   refine ⟨by omega, by omega, ?_, fun h => ?_⟩
   ·cases h : Lb.nm m.2.1 with
    | true => rfl
    | false => exact absurd (.inl h) h2
   ·refine ⟨?_, fun e => h2 (.inr ⟨h, .inr e⟩)⟩
    cases h' : Lb.vl m.2.2 with
    | true => rfl
    | false => exact absurd (.inr ⟨h, .inl h'⟩) h2
theorem right_kind {m : M} (h : m.1 < 1 \/ 4 < m.1) : right m = 5 := if_pos h
theorem right_field {m : M} (h1 : ¬ (m.1 < 1 \/ 4 < m.1)) (h : Lb.nm m.2.1 = false \/ (m.2.2.size ≠ 0 /\ (Lb.vl m.2.2 = false \/ m.1 = 4))) : right m = 3 := by rw [right, if_neg h1, if_pos h]
theorem right_ok {m : M} (h1 : ¬ (m.1 < 1 \/ 4 < m.1)) (h : ¬ (Lb.nm m.2.1 = false \/ (m.2.2.size ≠ 0 /\ (Lb.vl m.2.2 = false \/ m.1 = 4)))) : right m = 0 := by rw [right, if_neg h1, if_neg h]
theorem right_small {m : M} (h : right m = 0) : m.2.1.size <= 32 /\ m.2.2.size <= 64 := by
 obtain ⟨-, -, h1, h2⟩ := right_zero.1 h
 refine ⟨(Lb.nm_size h1).2, ?_⟩
 by_cases h0 : m.2.2.size = 0
 ·omega
 ·exact (Lb.vl_size (h2 h0).1).2
def mB (m : M) : List UInt8 := numL m.1.toNat ++ Lb.pB m.2
def encB (l : List M) : List UInt8 := numL l.length ++ l.flatMap mB
theorem mB_len {m : M} (h1 : m.2.1.size <= 32) (h2 : m.2.2.size <= 64) : (mB m).length <= 123 := by
 have a := nd_le m.1.toNat
 have b := Lb.pB_len h1 h2
 rw [mB, List.length_append, numL_length]; omega
theorem flat_len : ∀ {l : List M}, (∀ m ∈ l, right m = 0) -> (l.flatMap mB).length <= 123 * l.length
 | [], _ => by simp
 | m :: l, h => by
  have h0 := right_small (h m (by simp))
  have h1 := mB_len h0.1 h0.2
  have h2 := flat_len (l := l) fun q hq => h q (by simp [hq])
  rw [List.flatMap_cons, List.length_append, List.length_cons]; omega
theorem encB_len {l : List M} (h : chk l = 0) : (encB l).length <= 1000 := by
 obtain ⟨h1, h2⟩ := chk_zero.1 h
 have h3 := flat_len h2
 have h4 := nd_le l.length
 rw [encB, List.length_append, numL_length]; omega
def one (s : List UInt8) : M × List UInt8 × Nat :=
 if (gotN s).2.2 ≠ 0 then ((0, ByteArray.empty, ByteArray.empty), s, (gotN s).2.2) else if 4 < (gotN s).1 then ((0, ByteArray.empty, ByteArray.empty), s, 5) else
 if (Lb.txt 32 (s.drop (gotN s).2.1)).2.2 ≠ 0 then ((0, ByteArray.empty, ByteArray.empty), s, (Lb.txt 32 (s.drop (gotN s).2.1)).2.2) else
 if (Lb.txt 64 (Lb.txt 32 (s.drop (gotN s).2.1)).2.1).2.2 ≠ 0 then ((0, ByteArray.empty, ByteArray.empty), s, (Lb.txt 64 (Lb.txt 32 (s.drop (gotN s).2.1)).2.1).2.2) else
 ((((gotN s).1 : Int), (Lb.txt 32 (s.drop (gotN s).2.1)).1, (Lb.txt 64 (Lb.txt 32 (s.drop (gotN s).2.1)).2.1).1), (Lb.txt 64 (Lb.txt 32 (s.drop (gotN s).2.1)).2.1).2.1, 0)
theorem one_num {s : List UInt8} {n k e : Nat} (h : gotN s = (n, k, e)) (he : e ≠ 0) : (one s).2.2 = e := by unfold one; rw [h]; simp [he]
theorem one_kind {s : List UInt8} {n k : Nat} (h : gotN s = (n, k, 0)) (hn : 4 < n) : (one s).2.2 = 5 := by unfold one; rw [h]; simp [hn]
theorem one_name {s r1 : List UInt8} {n k e : Nat} {a : ByteArray} (h : gotN s = (n, k, 0)) (hn : ¬ 4 < n) (h1 : Lb.txt 32 (s.drop k) = (a, r1, e)) (he : e ≠ 0) : (one s).2.2 = e := by
 unfold one; rw [h]; simp only [ne_eq, not_true_eq_false, if_false]; rw [if_neg hn, h1]; simp [he]
theorem one_value {s r1 r2 : List UInt8} {n k e : Nat} {a b : ByteArray} (h : gotN s = (n, k, 0)) (hn : ¬ 4 < n) (h1 : Lb.txt 32 (s.drop k) = (a, r1, 0)) (h2 : Lb.txt 64 r1 = (b, r2, e)) (he : e ≠ 0) : (one s).2.2 = e := by
 unfold one; rw [h]; simp only [ne_eq, not_true_eq_false, if_false]; rw [if_neg hn, h1]; simp only [not_true_eq_false, if_false]; rw [h2]; simp [he]
theorem one_ok {s r1 r2 : List UInt8} {n k : Nat} {a b : ByteArray} (h : gotN s = (n, k, 0)) (hn : ¬ 4 < n) (h1 : Lb.txt 32 (s.drop k) = (a, r1, 0)) (h2 : Lb.txt 64 r1 = (b, r2, 0)) : one s = (((n : Int), a, b), r2, 0) := by
 unfold one; rw [h]; simp only [ne_eq, not_true_eq_false, if_false]; rw [if_neg hn, h1]; simp only [not_true_eq_false, if_false]; rw [h2]; simp
def many : Nat -> List UInt8 -> List M × List UInt8 × Nat
 | 0, s => ([], s, 0)
 | n + 1, s => if (one s).2.2 ≠ 0 then ([], s, (one s).2.2) else ((one s).1 :: (many n (one s).2.1).1, (many n (one s).2.1).2)
def Read (n : Nat) (s : List UInt8) (j : Nat) (l : List M) (r : List UInt8) : Prop := j <= n /\ l.length = j /\ many n s = (l ++ (many (n - j) r).1, (many (n - j) r).2)
theorem Read.start (n : Nat) (s : List UInt8) : Read n s 0 [] s := ⟨Nat.zero_le _, rfl, by simp⟩
theorem Read.step {n : Nat} {s : List UInt8} {j : Nat} {l : List M} {r r1 : List UInt8} {m : M} (h : Read n s j l r) (hj : j < n) (h1 : one r = (m, r1, 0)) : Read n s (j + 1) (l ++ [m]) r1 := by
 obtain ⟨k1, k2, k3⟩ := h
 refine ⟨hj, by simp [k2], ?_⟩
 rw [k3, show n - j = n - (j + 1) + 1 by omega, many, h1]
 simp
theorem Read.bad {n : Nat} {s : List UInt8} {j : Nat} {l : List M} {r : List UInt8} {e : Nat} (h : Read n s j l r) (hj : j < n) (h1 : (one r).2.2 = e) (he : e ≠ 0) : (many n s).2.2 = e := by
 obtain ⟨k1, k2, k3⟩ := h
 rw [k3, show n - j = n - (j + 1) + 1 by omega, many, h1]
 simp [he]
theorem Read.last {n : Nat} {s : List UInt8} {j : Nat} {l : List M} {r : List UInt8} (h : Read n s j l r) (hj : ¬ j < n) : many n s = (l, r, 0) := by
 obtain ⟨k1, k2, k3⟩ := h
 rw [k3, show n - j = 0 by omega]
 simp [many]
def tk (s : List UInt8) : List M × List UInt8 × Nat :=
 if (gotN s).2.2 ≠ 0 then ([], s, (gotN s).2.2) else if 8 < (gotN s).1 then ([], s, 8) else
 if (many (gotN s).1 (s.drop (gotN s).2.1)).2.2 ≠ 0 then ([], s, (many (gotN s).1 (s.drop (gotN s).2.1)).2.2) else
 if chk (many (gotN s).1 (s.drop (gotN s).2.1)).1 ≠ 0 then ([], s, chk (many (gotN s).1 (s.drop (gotN s).2.1)).1) else
 ((many (gotN s).1 (s.drop (gotN s).2.1)).1, (many (gotN s).1 (s.drop (gotN s).2.1)).2.1, 0)
theorem tk_num {s : List UInt8} {n k e : Nat} (h : gotN s = (n, k, e)) (he : e ≠ 0) : tk s = ([], s, e) := by unfold tk; rw [h]; simp [he]
theorem tk_long {s : List UInt8} {n k : Nat} (h : gotN s = (n, k, 0)) (hn : 8 < n) : tk s = ([], s, 8) := by unfold tk; rw [h]; simp [hn]
theorem tk_bad {s : List UInt8} {n k e : Nat} (h : gotN s = (n, k, 0)) (hn : ¬ 8 < n) (hp : (many n (s.drop k)).2.2 = e) (he : e ≠ 0) : tk s = ([], s, e) := by
 unfold tk; rw [h]; simp only [ne_eq, not_true_eq_false, if_false]; rw [if_neg hn, hp, if_pos he]
theorem tk_chk {s : List UInt8} {n k : Nat} {l : List M} {r : List UInt8} (h : gotN s = (n, k, 0)) (hn : ¬ 8 < n) (hp : many n (s.drop k) = (l, r, 0)) (hl : chk l ≠ 0) : tk s = ([], s, chk l) := by
 unfold tk; rw [h]; simp only [ne_eq, not_true_eq_false, if_false]; rw [if_neg hn, hp]; simp [hl]
theorem tk_ok {s : List UInt8} {n k : Nat} {l : List M} {r : List UInt8} (h : gotN s = (n, k, 0)) (hn : ¬ 8 < n) (hp : many n (s.drop k) = (l, r, 0)) (hl : chk l = 0) : tk s = (l, r, 0) := by
 unfold tk; rw [h]; simp only [ne_eq, not_true_eq_false, if_false]; rw [if_neg hn, hp]; simp [hl]
theorem one_mB {m : M} (h : right m = 0) (r : List UInt8) : one (mB m ++ r) = (m, r, 0) := by
 obtain ⟨h1, h2, h3, h4⟩ := right_zero.1 h
 have hs := right_small h
 have hg : gotN (mB m ++ r) = (m.1.toNat, nd m.1.toNat + 1, 0) := by rw [mB, List.append_assoc]; exact got_num _ (by omega) _
 have hd : (mB m ++ r).drop (nd m.1.toNat + 1) = numL m.2.1.size ++ m.2.1.data.toList ++ (numL m.2.2.size ++ m.2.2.data.toList ++ r) := by
  rw [mB, List.append_assoc, <- numL_length, List.drop_left, Lb.pB]; simp [List.append_assoc]
 have e := one_ok hg (by omega) (by rw [hd]; exact Lb.txt_text m.2.1 32 _ (by omega) (by omega)) (Lb.txt_text m.2.2 64 r (by omega) (by omega))
 rw [e]
 have e1 : ((m.1.toNat : Nat) : Int) = m.1 := by omega
 rw [e1]
theorem many_flat : ∀ (l : List M) (r : List UInt8), (∀ m ∈ l, right m = 0) -> many l.length (l.flatMap mB ++ r) = (l, r, 0)
 | [], r, _ => by simp [many]
 | m :: l, r, h => by
  have e : (m :: l).flatMap mB ++ r = mB m ++ (l.flatMap mB ++ r) := by rw [List.flatMap_cons, List.append_assoc]
  have ih := many_flat l r fun q hq => h q (by simp [hq])
  rw [e, List.length_cons, many, one_mB (h m (by simp))]
  simp only [ne_eq, not_true_eq_false, if_false]
  rw [ih]
theorem tk_enc {l : List M} (h : chk l = 0) (r : List UInt8) : tk (encB l ++ r) = (l, r, 0) := by
 obtain ⟨h1, h2⟩ := chk_zero.1 h
 have hg : gotN (encB l ++ r) = (l.length, nd l.length + 1, 0) := by rw [encB, List.append_assoc]; exact got_num _ (by omega) _
 have hd : (encB l ++ r).drop (nd l.length + 1) = l.flatMap mB ++ r := by rw [encB, List.append_assoc, <- numL_length, List.drop_left]
 exact tk_ok hg (by omega) (by rw [hd]; exact many_flat l r h2) h
theorem one_back {s r : List UInt8} {m : M} (h : one s = (m, r, 0)) : s = mB m ++ r := by
 obtain ⟨n, k, e, hg⟩ : ∃ n k e, gotN s = (n, k, e) := ⟨_, _, _, rfl⟩
 have h0 : (one s).2.2 = 0 := by rw [h]
 by_cases he : e = 0
 ·subst he
  by_cases hn : 4 < n
  ·rw [one_kind hg hn] at h0; cases h0
  obtain ⟨⟨a, r1, e1⟩, h1⟩ : ∃ x, Lb.txt 32 (s.drop k) = x := ⟨_, rfl⟩
  by_cases he1 : e1 = 0
  ·subst he1
   obtain ⟨⟨b, r2, e2⟩, h2⟩ : ∃ x, Lb.txt 64 r1 = x := ⟨_, rfl⟩
   by_cases he2 : e2 = 0
   ·subst he2
    rw [one_ok hg hn h1 h2] at h
    have hm := (Prod.mk.inj h).1
    have hr := (Prod.mk.inj (Prod.mk.inj h).2).1
    clear h
    subst hm hr
    have hn0 := num_got s (by rw [hg])
    rw [hg] at hn0
    have e1 := Lb.txt_ok h1
    have e2 := Lb.txt_ok h2
    rw [mB, Lb.pB]
    simp only [Int.toNat_natCast]
    rw [hn0.1]
    have hs := (List.take_append_drop k s).symm
    rw [e1, e2] at hs
    exact hs.trans (by simp [List.append_assoc])
   ·rw [one_value hg hn h1 h2 he2] at h0; exact absurd h0 he2
  ·rw [one_name hg hn h1 he1] at h0; exact absurd h0 he1
 ·rw [one_num hg he] at h0; exact absurd h0 he
theorem many_back : ∀ {n : Nat} {s r : List UInt8} {l : List M}, many n s = (l, r, 0) -> s = l.flatMap mB ++ r /\ l.length = n
 | 0, s, r, l, h => by
  rw [many] at h
  obtain ⟨h1, h2⟩ := Prod.mk.inj h
  obtain ⟨h2, -⟩ := Prod.mk.inj h2
  subst h1 h2; exact ⟨rfl, rfl⟩
 | n + 1, s, r, l, h => by
  obtain ⟨⟨m, r1, e1⟩, h1⟩ : ∃ x, one s = x := ⟨_, rfl⟩
  rw [many, h1] at h
  by_cases c1 : e1 = 0
  ·subst c1
   simp only [ne_eq, not_true_eq_false, if_false] at h
   obtain ⟨⟨l', r', e'⟩, h3⟩ : ∃ x, many n r1 = x := ⟨_, rfl⟩
   rw [h3] at h
   obtain ⟨k1, k2⟩ := Prod.mk.inj h
   obtain ⟨k2, k3⟩ := Prod.mk.inj k2
   simp only at k1 k2 k3
   subst k1 k2 k3
   obtain ⟨i1, i2⟩ := many_back h3
   refine ⟨?_, by simp [i2]⟩
   rw [one_back h1, i1, List.flatMap_cons, List.append_assoc]
  ·simp [c1] at h
theorem tk_back {s r : List UInt8} {l : List M} (h : tk s = (l, r, 0)) : chk l = 0 /\ encB l ++ r = s := by
 have h0 : (tk s).2.2 = 0 := by rw [h]
 obtain ⟨n, k, e, hg⟩ : ∃ n k e, gotN s = (n, k, e) := ⟨_, _, _, rfl⟩
 by_cases he : e = 0
 ·subst he
  by_cases hn : 8 < n
  ·rw [tk_long hg hn] at h0; cases h0
  obtain ⟨⟨l', r', e'⟩, h3⟩ : ∃ x, many n (s.drop k) = x := ⟨_, rfl⟩
  by_cases he' : e' = 0
  ·subst he'
   by_cases hc : chk l' = 0
   ·rw [tk_ok hg hn h3 hc] at h
    have hm := (Prod.mk.inj h).1
    have hr := (Prod.mk.inj (Prod.mk.inj h).2).1
    clear h
    subst hm hr
    obtain ⟨i1, i2⟩ := many_back h3
    have hn0 := num_got s (by rw [hg])
    rw [hg] at hn0
    refine ⟨hc, ?_⟩
    rw [encB, i2, hn0.1, List.append_assoc, <- i1, List.take_append_drop]
   ·rw [tk_chk hg hn h3 hc] at h0; exact absurd h0 hc
  ·rw [tk_bad hg hn (by rw [h3]) he'] at h0; exact absurd h0 he'
 ·rw [tk_num hg he] at h0; exact absurd h0 he
end Mt
end
section
open Go.RowKit Go.ChangeShapes Go.WideShapes
namespace Mt
open Bit Dsk Ob Dig
def layM : Rw.Lay M := ⟨3, by decide, fun m => [.int .i64 m.1, .string m.2.1, .string m.2.2], fun _ => rfl, fun m u hu => by
 simp only [List.mem_cons, List.not_mem_nil, or_false] at hu
 rcases hu with rfl | rfl | rfl <;> rfl⟩
abbrev All : Nat -> Prop := fun _ => True
abbrev View := Rw.View layM
abbrev Mine := Rw.Mine layM 174
theorem typM : Rw.Typ layM 45 174 40 := Rw.Typ.mk' (z := .agg #[.int .i64 0, .string ByteArray.empty, .string ByteArray.empty]) Tryz.underlying45 (by kernel_rfl) rfl
theorem View.cells {w : World} {S : Nat -> Prop} {A : Option Addr} {n c : Nat} {l : List M} (h : View w S (.slice A n c) l) (hp : 0 < l.length) : ∃ b off, A = some ⟨b, off, none⟩ /\ S b /\ b < w.heap.size /\
  ∀ i (hi : i < l.length), w.cell? ⟨b, off + i * 3, none⟩ = some (.int .i64 l[i].1) /\ w.cell? ⟨b, off + i * 3 + 1, none⟩ = some (.string l[i].2.1) /\ w.cell? ⟨b, off + i * 3 + 2, none⟩ = some (.string l[i].2.2) := by
 obtain ⟨b, off, h1, h2, h3, h4⟩ := Rw.View.open h hp
 exact ⟨b, off, h1, h2, h3, fun i hi => ⟨h4 i hi 0 _ rfl, h4 i hi 1 _ rfl, h4 i hi 2 _ rfl⟩⟩
theorem view_of {w : World} {S : Nat -> Prop} {b off c : Nat} {l : List M} (hc : l.length <= c) (hm : c <= maxLen) (hS : S b) (h : ∀ i (hi : i < l.length), w.cell? ⟨b, off + i * 3, none⟩ = some (.int .i64 l[i].1) /\ w.cell? ⟨b, off + i * 3 + 1, none⟩ = some (.string l[i].2.1) /\ w.cell? ⟨b, off + i * 3 + 2, none⟩ = some (.string l[i].2.2)) : View w S (.slice (some ⟨b, off, none⟩) l.length c) l :=
  ⟨_, c, rfl, hc, hm, fun _ => ⟨b, off, rfl, hS, fun i hi t u ht => by
    obtain ⟨h0, h1, h2⟩ := h i hi
    match t, ht with
    | 0, ht => obtain rfl : Value.int .i64 l[i].1 = u := by simpa [layM] using ht
               exact h0
    | 1, ht => obtain rfl : Value.string l[i].2.1 = u := by simpa [layM] using ht
               exact h1
    | 2, ht => obtain rfl : Value.string l[i].2.2 = u := by simpa [layM] using ht
               exact h2
    | t + 3, ht => simp [layM] at ht⟩⟩
theorem view_one {w : World} {g : Nat} {k : Int} {x y : ByteArray} (h : w.heap[g]? = some (.cells #[.int .i64 k, .string x, .string y] 174 (0, 0))) : View w All (.slice (some ⟨g, 0, none⟩) 1 1) [(k, x, y)] :=
 view_of (l := [(k, x, y)]) (c := 1) (Nat.le_refl _) (by unfold maxLen; decide) trivial fun i hi => by
  have : i = 0 := by simpa using hi
  subst this
  exact ⟨by rw [Lib.cell_of_heap h]; rfl, by rw [Lib.cell_of_heap h]; rfl, by rw [Lib.cell_of_heap h]; rfl⟩
def Bnd1 (m : M) : Prop := -9223372036854775808 <= m.1 /\ m.1 <= 9223372036854775807 /\ m.2.1.size <= 9223372036854775807 /\ m.2.2.size <= 9223372036854775807
def Bnd (l : List M) : Prop := ∀ m ∈ l, Bnd1 m
end Mt
end
section
open Go.RowKit Go.Sort
namespace Mt
open Bit Dsk Ob Dig
def mv (m : M) : Value := .agg #[.int .i64 m.1, .string m.2.1, .string m.2.2]
theorem emp_yes {v : ByteArray} (h : v.size = 0) : (v.toList == []) = true := by
 rw [beq_iff_eq, ByteArray.toList_eq, <- List.length_eq_zero_iff]; simpa using h
theorem emp_no {v : ByteArray} (h : v.size ≠ 0) : (v.toList == []) = false := by
 rw [beq_eq_false_iff_ne]; intro e
 rw [ByteArray.toList_eq] at e
 have h4 : v.data.toList.length = v.size := by simp
 rw [e, List.length_nil] at h4
 exact h h4.symm
theorem right_emp {k : Int} {n v : ByteArray} (ck : ¬ (k < 1 \/ 4 < k)) (hn : Lb.nm n = true) (h0 : v.size = 0) : right (k, n, v) = 0 := right_ok ck fun h => by
 rcases h with h | ⟨h, -⟩
 ·rw [show Lb.nm (k, n, v).2.1 = true from hn] at h; cases h
 ·exact h h0
theorem right_val {k : Int} {n v : ByteArray} (ck : ¬ (k < 1 \/ 4 < k)) (hn : Lb.nm n = true) (hv : Lb.vl v = true) (h4 : k ≠ 4) : right (k, n, v) = 0 := right_ok ck fun h => by
 rcases h with h | ⟨-, h | h⟩
 ·rw [show Lb.nm (k, n, v).2.1 = true from hn] at h; cases h
 ·rw [show Lb.vl (k, n, v).2.2 = true from hv] at h; cases h
 ·exact h4 h
set_option maxHeartbeats 3200000 in
theorem refright_any (w : World) (m : M) (hb : Bnd1 m) :
  Calls Tryz.prog 140 #[mv m] w fun e w' => e = .returned (.int .i64 (right m : Int)) /\ New0 w w' := by
 obtain ⟨k, n, v⟩ := m
 obtain ⟨-, -, hn, hv⟩ := hb
 simp only at hn hv
 unfold mv
 have hU := Lib.hid ((Upon.refl (fun _ => False) w).alloc (.cells #[.int .i64 k, .string n, .string v] 174 (0, 0)))
 by_cases c1 : k < 1
 ·have hR : Hid ((5 : Int) = (right (k, n, v) : Int)) := Lib.hid (by rw [right_kind (.inl c1)]; rfl)
  go_enter Tryz.func140, Tryz.ntmps140
  go_wp2_with fail
  go_ret
  exact ⟨Lb.ret_i hR.out, hU.out⟩
 by_cases c4 : 4 < k
 ·have hR : Hid ((5 : Int) = (right (k, n, v) : Int)) := Lib.hid (by rw [right_kind (.inr c4)]; rfl)
  go_enter Tryz.func140, Tryz.ntmps140
  go_wp2_with fail
  go_ret
  exact ⟨Lb.ret_i hR.out, hU.out⟩
 have ck : ¬ (k < 1 \/ 4 < k) := by omega
 have HN := Lib.hid (fun w => Lb.refname_any n hn w)
 have HV := Lib.hid (fun w => Lb.refvalue_any v hv w)
 cases hnm : Lb.nm n with
 | false =>
  have hR : Hid ((3 : Int) = (right (k, n, v) : Int)) := Lib.hid (by rw [right_field ck (.inl hnm)]; rfl)
  rw [hnm] at HN
  clear HV hnm ck
  go_enter Tryz.func140, Tryz.ntmps140
  go_wp2_with fail
  refine (HN.out _).mono ?_
  rintro e w2 ⟨rfl, n2, rfl⟩
  clear HN
  go_wp2_with fail
  go_ret
  exact ⟨Lb.ret_i hR.out, hU.out.trans (upon_drewN _ _ n2)⟩
 | true =>
  by_cases h0 : v.size = 0
  ·have hR : Hid ((0 : Int) = (right (k, n, v) : Int)) := Lib.hid (by rw [right_emp ck hnm h0]; rfl)
   have d0 := emp_yes h0
   rw [hnm] at HN
   clear HV hnm ck
   go_enter Tryz.func140, Tryz.ntmps140
   go_wp2_with fail
   refine (HN.out _).mono ?_
   rintro e w2 ⟨rfl, n2, rfl⟩
   clear HN
   go_wp2_with fail
   all_goals
    go_ret
    exact ⟨Lb.ret_i hR.out, ((Upon.refl _ w).alloc _).trans (upon_drewN _ _ n2)⟩
  ·have d0 := emp_no h0
   cases hvl : Lb.vl v with
   | false =>
    have hR : Hid ((3 : Int) = (right (k, n, v) : Int)) := Lib.hid (by rw [right_field ck (.inr ⟨h0, .inl hvl⟩)]; rfl)
    rw [hnm] at HN
    rw [hvl] at HV
    clear hnm ck hvl
    go_enter Tryz.func140, Tryz.ntmps140
    go_wp2_with fail
    refine (HN.out _).mono ?_
    rintro e w2 ⟨rfl, n2, rfl⟩
    clear HN
    go_wp2_with fail
    refine (HV.out _).mono ?_
    rintro e w3 ⟨rfl, n3, rfl⟩
    clear HV
    go_wp2_with fail
    go_ret
    exact ⟨Lb.ret_i hR.out, by first | exact (hU.out.trans (upon_drewN _ _ n2)).trans (upon_drewN _ _ n3) | exact hU.out.trans (upon_drewN _ _ (n2 + n3))⟩
   | true =>
    by_cases h4 : k = 4
    ·have hR : Hid ((3 : Int) = (right (k, n, v) : Int)) := Lib.hid (by rw [right_field ck (.inr ⟨h0, .inr h4⟩)]; rfl)
     have e4 : (k == 4) = true := by rw [h4]; rfl
     rw [hnm] at HN
     rw [hvl] at HV
     clear hnm ck hvl h4
     go_enter Tryz.func140, Tryz.ntmps140
     go_wp2_with fail
     refine (HN.out _).mono ?_
     rintro e w2 ⟨rfl, n2, rfl⟩
     clear HN
     go_wp2_with fail
     refine (HV.out _).mono ?_
     rintro e w3 ⟨rfl, n3, rfl⟩
     clear HV
     go_wp2_with fail
     go_ret
     exact ⟨Lb.ret_i hR.out, by first | exact (hU.out.trans (upon_drewN _ _ n2)).trans (upon_drewN _ _ n3) | exact hU.out.trans (upon_drewN _ _ (n2 + n3))⟩
    ·have hR : Hid ((0 : Int) = (right (k, n, v) : Int)) := Lib.hid (by rw [right_val ck hnm hvl h4]; rfl)
     have e4 : (k == 4) = false := by rw [beq_eq_false_iff_ne]; exact h4
     rw [hnm] at HN
     rw [hvl] at HV
     clear hnm ck hvl h4
     go_enter Tryz.func140, Tryz.ntmps140
     go_wp2_with fail
     refine (HN.out _).mono ?_
     rintro e w2 ⟨rfl, n2, rfl⟩
     clear HN
     go_wp2_with fail
     refine (HV.out _).mono ?_
     rintro e w3 ⟨rfl, n3, rfl⟩
     clear HV
     go_wp2_with fail
     go_ret
     exact ⟨Lb.ret_i hR.out, by first | exact (hU.out.trans (upon_drewN _ _ n2)).trans (upon_drewN _ _ n3) | exact hU.out.trans (upon_drewN _ _ (n2 + n3))⟩
set_option maxHeartbeats 1600000 in
theorem refcheck_any (w : World) (S : Nat -> Prop) (v : Value) (l : List M) (hv : View w S v l) (hb : Bnd l) :
  Calls Tryz.prog 93 #[v] w fun e w' => e = .returned (.int .i64 (chk l : Int)) /\ New0 w w' := by
 obtain ⟨A, c, rfl, -, -⟩ := Rw.View.shape hv
 replace hv := Lib.hid hv
 replace hb := Lib.hid hb
 by_cases h8 : 8 < l.length
 ·have hR : Hid ((8 : Int) = (chk l : Int)) := Lib.hid (by rw [chk_long h8]; rfl)
  have d2 : (8 : Int) < (l.length : Int) := by omega
  go_enter Tryz.func93, Tryz.ntmps93
  go_wp2_with fail
  go_ret
  exact ⟨Lb.ret_i hR.out, Upon.refl _ _⟩
 have d2 : ¬ (8 : Int) < (l.length : Int) := by omega
 have hf : Hid (first l = chk l) := Lib.hid (chk_few h8).symm
 obtain ⟨q, hq⟩ : ∃ q, chk l = q := ⟨_, rfl⟩
 rw [hq] at hf ⊢
 clear hq
 go_enter Tryz.func93, Tryz.ntmps93
 go_wp2_with fail
 go_loopw [3] (fun ov wr => ∃ j : Nat, ov = .int .i64 (j : Int) /\ j <= l.length /\ Hid (first (l.drop j) = q) /\ Hid (New0 w wr)) (fun ov _ => l.length - (intOf ov).toNat)
 case atStart => exact ⟨0, rfl, Nat.zero_le _, hf, Lib.hid (Upon.refl _ _)⟩
 case round =>
  clear hf
  obtain ⟨j, rfl, hj, hg, hu⟩ := hrel
  by_cases hlt : j < l.length
  ·obtain ⟨b, off, rfl, -, -, hcells⟩ := View.cells hv.out (by omega)
   obtain ⟨x0, x1, x2⟩ := hcells j hlt
   have r0 := Lb.New0.cells hu.out x0
   have r1 := Lb.New0.cells hu.out x1
   have r2 := Lb.New0.cells hu.out x2
   have HR := Lib.hid (fun w => refright_any w l[j] (hb.out _ (List.getElem_mem hlt)))
   have hbad := Lib.hid (fun h => (first_bad hlt h).symm.trans hg.out)
   have hgood := Lib.hid (fun h => (first_good hlt h).symm.trans hg.out)
   obtain ⟨m, hm⟩ : ∃ m, l[j] = m := ⟨_, rfl⟩
   rw [hm] at r0 r1 r2 HR hbad hgood
   clear hcells x0 x1 x2 hm hg
   obtain ⟨a, b', c'⟩ := m
   unfold mv at HR
   by_cases he : right (a, b', c') = 0
   ·have hG := Lib.hid (hgood.out he)
    rw [he] at HR
    clear hbad hgood he
    go_wp2_with fail
    refine (HR.out _).mono ?_
    rintro e w2 ⟨rfl, hu2⟩
    have hu3 := Lib.hid (hu.out.trans hu2)
    clear HR hu hu2 r0 r1 r2
    go_wp2_with fail
    go_roundw
    case rel => exact ⟨j + 1, by go_num, hlt, hG, hu3⟩
    case measure => simp [intOf]; omega
   ·have hG := Lib.hid (hbad.out he)
    obtain ⟨z, hz⟩ : ∃ z, right (a, b', c') = z := ⟨_, rfl⟩
    rw [hz] at HR hG he
    have d : ((z : Int) != 0) = true := by rw [bne_iff_ne]; omega
    have hE : Hid ((z : Int) = (q : Int)) := Lib.hid (by rw [hG.out])
    clear hbad hgood he hz hG
    go_wp2_with fail
    refine (HR.out _).mono ?_
    rintro e w2 ⟨rfl, hu2⟩
    have hu3 := Lib.hid (hu.out.trans hu2)
    clear HR hu hu2 r0 r1 r2
    go_wp2_with fail
    go_ret
    exact ⟨Lb.ret_i hE.out, hu3.out⟩
  ·have hE : Hid ((0 : Int) = (q : Int)) := Lib.hid (by have := hg.out; rw [first_end hlt] at this; rw [<- this]; rfl)
   clear hg hv hb
   go_wp2_with fail
   go_ret
   exact ⟨Lb.ret_i hE.out, hu.out⟩
end Mt
end
section
open Go.RowKit Go.Sort
namespace Mt
open Bit Dsk Ob Dig
theorem m_step {l m : List M} {j : Nat} (ha : j < l.length) (hb : j < m.length) (he : l[j] = m[j]) : l.drop j = m.drop j ↔ l.drop (j + 1) = m.drop (j + 1) := by
 rw [List.drop_eq_getElem_cons ha, List.drop_eq_getElem_cons hb, he]; exact ⟨fun h => (List.cons.inj h).2, fun h => by rw [h]⟩
theorem m_diff {l m : List M} {j : Nat} (ha : j < l.length) (hb : j < m.length) (he : l[j] ≠ m[j]) : l.drop j ≠ m.drop j := by
 rw [List.drop_eq_getElem_cons ha, List.drop_eq_getElem_cons hb]; exact fun h => he (List.cons.inj h).1
set_option maxHeartbeats 3200000 in
theorem same_any (w : World) (S S' : Nat -> Prop) (v1 v2 : Value) (l m : List M) (h1 : View w S v1 l) (h2 : View w S' v2 m) :
  Calls Tryz.prog 75 #[v1, v2] w fun e w' => e = .returned (.bool (decide (l = m))) /\ ∃ n, w' = w.drewN n := by
 obtain ⟨A, c, rfl, hc1, hc2⟩ := Rw.View.shape h1
 obtain ⟨A', c', rfl, hc1', hc2'⟩ := Rw.View.shape h2
 have hl := Nat.le_trans hc1 hc2
 unfold maxLen at hl
 clear hc1 hc2 hc1' hc2'
 replace h1 := Lib.hid h1
 replace h2 := Lib.hid h2
 by_cases hlen : l.length = m.length
 ·obtain ⟨q, hq⟩ : ∃ q, decide (l = m) = q := ⟨_, rfl⟩
  have hst : Hid (decide (l.drop 0 = m.drop 0) = q) := Lib.hid hq
  rw [hq]
  have d : ((l.length : Int) != (m.length : Int)) = false := by rw [hlen]; simp
  replace hlen := Lib.hid hlen
  clear hq
  go_enter Tryz.func75, Tryz.ntmps75
  go_wp2_with fail
  clear d
  go_loopw [5] (fun ov wr => ∃ j k : Nat, ov = .int .i64 (j : Int) /\ j <= l.length /\ Hid (decide (l.drop j = m.drop j) = q) /\ wr = w.drewN k) (fun ov _ => l.length - (intOf ov).toNat)
  case atStart => exact ⟨0, 0, rfl, Nat.zero_le _, hst, rfl⟩
  case round =>
   clear hst
   obtain ⟨j, k, rfl, hj, hg, rfl⟩ := hrel
   by_cases hlt : j < l.length
   ·have hlt' : j < m.length := by have := hlen.out; omega
    obtain ⟨b, off, rfl, -, -, hcells⟩ := View.cells h1.out (by omega)
    obtain ⟨b', off', rfl, -, -, hcells'⟩ := View.cells h2.out (by omega)
    obtain ⟨x0, x1, x2⟩ := hcells j hlt
    obtain ⟨y0, y1, y2⟩ := hcells' j hlt'
    have q1 : Hid (l[j] = m[j] -> decide (l.drop (j + 1) = m.drop (j + 1)) = q) := Lib.hid (fun h => by rw [<- hg.out]; exact decide_eq_decide.2 (m_step hlt hlt' h).symm)
    have q2 : Hid (l[j] ≠ m[j] -> false = q) := Lib.hid (fun h => by rw [<- hg.out]; exact (decide_eq_false (m_diff hlt hlt' h)).symm)
    clear hcells hcells' h1 h2 hg
    obtain ⟨p, hp⟩ : ∃ p, l[j] = p := ⟨_, rfl⟩
    obtain ⟨q', hq'⟩ : ∃ q', m[j] = q' := ⟨_, rfl⟩
    rw [hp] at x0 x1 x2 q1 q2
    rw [hq'] at y0 y1 y2 q1 q2
    clear hp hq'
    obtain ⟨a1, a2, a3⟩ := p
    obtain ⟨b1, b2, b3⟩ := q'
    simp only at x0 x1 x2 y0 y1 y2
    by_cases e1 : a1 = b1
    ·subst e1
     by_cases e2 : a2 = b2
     ·subst e2
      by_cases e3 : a3 = b3
      ·subst e3
       have hG := Lib.hid (q1.out rfl)
       clear q1 q2
       go_wp2_with fail
       go_quiet (fail)
       go_wp2_with fail
       go_roundw
       case rel => exact ⟨j + 1, _, by go_num, hlt, hG, rfl⟩
       case measure => simp [intOf]; omega
      ·have hG := Lib.hid (q2.out (fun h => e3 (Prod.mk.inj (Prod.mk.inj h).2).2))
       have d4 : (a3.toList == b3.toList) = false := by rw [Lb.toList_beq]; exact decide_eq_false e3
       have d5 : decide (a3 = b3) = false := decide_eq_false e3
       clear q1 q2
       go_wp2_with fail
       go_quiet (fail)
       go_wp2_with fail
       go_ret
       exact ⟨Lb.ret_b hG.out, _, by rw [World.drewN_drewN]⟩
     ·have hG := Lib.hid (q2.out (fun h => e2 (Prod.mk.inj (Prod.mk.inj h).2).1))
      have d4 : (a2.toList == b2.toList) = false := by rw [Lb.toList_beq]; exact decide_eq_false e2
      have d5 : decide (a2 = b2) = false := decide_eq_false e2
      clear q1 q2
      go_wp2_with fail
      go_quiet (fail)
      go_wp2_with fail
      go_ret
      exact ⟨Lb.ret_b hG.out, _, by rw [World.drewN_drewN]⟩
    ·have hG := Lib.hid (q2.out (fun h => e1 (Prod.mk.inj h).1))
     have d4 : (a1 == b1) = false := by rw [beq_eq_false_iff_ne]; exact e1
     have d5 : decide (a1 = b1) = false := decide_eq_false e1
     clear q1 q2
     go_wp2_with fail
     go_quiet (fail)
     go_wp2_with fail
     go_ret
     exact ⟨Lb.ret_b hG.out, _, by rw [World.drewN_drewN]⟩
   ·have hG : Hid (true = q) := Lib.hid (by rw [<- hg.out]; exact (decide_eq_true (by rw [List.drop_eq_nil_of_le (by omega), List.drop_eq_nil_of_le (by have := hlen.out; omega)])).symm)
    clear hg h1 h2
    go_wp2_with fail
    go_ret
    exact ⟨Lb.ret_b hG.out, k, rfl⟩
 ·have hR : Hid (false = decide (l = m)) := Lib.hid (decide_eq_false (fun e => hlen (by rw [e]))).symm
  have d : ((l.length : Int) != (m.length : Int)) = true := by rw [bne_iff_ne]; omega
  clear h1 h2 hlen
  go_enter Tryz.func75, Tryz.ntmps75
  go_wp2_with fail
  go_ret
  exact ⟨Lb.ret_b hR.out, 0, rfl⟩
end Mt
end
section
open Go.RowKit Go.Sort
namespace Mt
open Bit Dsk Ob Dig
def encR (l : List M) : Ending := if chk l = 0 then .returned (.tuple #[.string ⟨(encB l).toArray⟩, .int .i64 0]) else .returned (.tuple #[.string ByteArray.empty, .int .i64 (chk l : Int)])
theorem encR_ok {l : List M} (h : chk l = 0) : encR l = .returned (.tuple #[.string ⟨(encB l).toArray⟩, .int .i64 0]) := if_pos h
theorem encR_no {l : List M} (h : chk l ≠ 0) : encR l = .returned (.tuple #[.string ByteArray.empty, .int .i64 (chk l : Int)]) := if_neg h
def So (l : List M) (j : Nat) (s : ByteArray) : Prop := s.data.toList = numL l.length ++ (l.take j).flatMap mB
def numA (n : Nat) : ByteArray := ⟨(numL n).toArray⟩
theorem numA_few (n : Nat) : (numA n).size <= 9 := by
 show (numL n).toArray.size <= 9
 rw [List.size_toArray, numL_length]; have := nd_le n; omega
theorem So.start (l : List M) : So l 0 ⟨(numL l.length).toArray⟩ := by simp [So]
theorem So.step {l : List M} {j : Nat} {s : ByteArray} (h : So l j s) (hj : j < l.length) : So l (j + 1) (s ++ numA l[j].1.toNat ++ textA l[j].2.1 ++ textA l[j].2.2) := by
 unfold So at *
 rw [ByteArray.data_append, Array.toList_append, ByteArray.data_append, Array.toList_append, ByteArray.data_append, Array.toList_append, h, textA_list, textA_list, List.take_succ_eq_append_getElem hj, List.flatMap_append]
 simp [mB, Lb.pB, numA, List.append_assoc]
theorem So.last {l : List M} {j : Nat} {s : ByteArray} (h : So l j s) (hj : ¬ j < l.length) : s = ⟨(encB l).toArray⟩ := by
 refine Lb.data_inj ?_
 rw [h, List.take_of_length_le (by omega)]; rfl
theorem So.size {l : List M} {j : Nat} {s : ByteArray} (h : So l j s) (hok : chk l = 0) : s.size <= 1000 := by
 obtain ⟨h8, hr⟩ := chk_zero.1 hok
 have h1 := nd_le l.length
 have h2 : ((l.take j).flatMap mB).length <= 123 * (l.take j).length := flat_len fun p hp => hr p (List.mem_of_mem_take hp)
 have h3 : (l.take j).length <= 8 := by rw [List.length_take]; omega
 have h4 : s.data.toList.length = s.size := by simp
 have h5 := congrArg List.length h
 rw [List.length_append, numL_length] at h5
 omega
theorem refcheck_is (w : World) (S : Nat -> Prop) (v : Value) (l : List M) (hv : View w S v l) (hb : Bnd l) {z : Nat} (h : chk l = z) :
  Calls Tryz.prog 93 #[v] w fun e w' => e = .returned (.int .i64 (z : Int)) /\ New0 w w' := by
 subst h; exact refcheck_any w S v l hv hb
set_option maxHeartbeats 3200000 in
theorem refenc_any (w : World) (S : Nat -> Prop) (v : Value) (l : List M) (hv : View w S v l) (hb : Bnd l) :
  Calls Tryz.prog 115 #[v] w fun e w' => e = encR l /\ New0 w w' := by
 by_cases hok : chk l = 0
 ·have HC := Lib.hid (refcheck_is w S v l hv hb hok)
  obtain ⟨A, c, rfl, -, -⟩ := Rw.View.shape hv
  have h8 := (chk_zero.1 hok).1
  have HN : Hid (∀ w, Calls Tryz.prog 65 #[.int .u64 (l.length : Int)] w fun e w' => e = .returned (.string ⟨(numL l.length).toArray⟩) /\ Below w.heap.size w w') := Lib.hid fun w => by
   have := refnum_any (l.length : Int) (by omega) (by omega) w
   rw [Int.toNat_natCast] at this
   exact this
  replace hv := Lib.hid hv
  replace hok := Lib.hid hok
  clear hb
  go_enter Tryz.func115, Tryz.ntmps115
  go_wp2_with fail
  refine HC.out.mono ?_
  rintro e w1 ⟨rfl, hu1⟩
  replace hu1 := Lib.hid hu1
  clear HC
  go_wp2_with fail
  refine (HN.out _).mono ?_
  rintro e w2 ⟨rfl, hb2⟩
  have hu2 := Lib.hid (hu1.out.trans (newOf hb2))
  clear HN hb2 hu1
  go_wp2_with fail
  go_loopw [5, 6] (fun sv ov wr => ∃ (j : Nat) (s : ByteArray), sv = .string s /\ ov = .int .i64 (j : Int) /\ j <= l.length /\ Hid (So l j s) /\ Hid (New0 w wr)) (fun _ ov _ => l.length - (intOf ov).toNat)
  case atStart => exact ⟨0, _, rfl, rfl, Nat.zero_le _, Lib.hid (So.start l), hu2⟩
  case round =>
   clear hu2
   obtain ⟨j, s, rfl, rfl, hj, hso, hu⟩ := hrel
   by_cases hlt : j < l.length
   ·obtain ⟨b, off, rfl, -, -, hcells⟩ := View.cells hv.out (by omega)
    obtain ⟨x0, x1, x2⟩ := hcells j hlt
    have r0 := Lb.New0.cells hu.out x0
    have r1 := Lb.New0.cells hu.out x1
    have r2 := Lb.New0.cells hu.out x2
    have hs1 := hso.out.size hok.out
    have hri := (chk_zero.1 hok.out).2 _ (List.getElem_mem hlt)
    have hsm := right_small hri
    obtain ⟨hk1, hk2, -, -⟩ := right_zero.1 hri
    have hnx := hso.out.step hlt
    obtain ⟨m, hm⟩ : ∃ m, l[j] = m := ⟨_, rfl⟩
    rw [hm] at r0 r1 r2 hsm hk1 hk2 hnx
    obtain ⟨k, a1, a2⟩ := m
    simp only at r0 r1 r2 hsm hk1 hk2 hnx
    obtain ⟨kn, rfl⟩ : ∃ kn : Nat, k = (kn : Int) := ⟨k.toNat, by omega⟩
    rw [Int.toNat_natCast] at hnx
    have hz0 := numA_few kn
    have H0 := fun d os => by
     have := refnum_any (kn : Int) (by omega) (by omega) (grow (redrawn wr d) os)
     rw [Int.toNat_natCast] at this
     exact this
    have H1 := fun d os => reftext_any a1 (by omega) (grow (redrawn wr d) os)
    have H2 := fun d os => reftext_any a2 (by omega) (grow (redrawn wr d) os)
    have hz1 := Lb.textA_few (s := a1) (by omega)
    have hz2 := Lb.textA_few (s := a2) (by omega)
    change ∀ d os, Calls _ _ _ _ (fun e w' => e = .returned (.string (numA kn)) /\ _) at H0
    obtain ⟨t0, ht0⟩ : ∃ t0, numA kn = t0 := ⟨_, rfl⟩
    obtain ⟨t1, ht1⟩ : ∃ t1, textA a1 = t1 := ⟨_, rfl⟩
    obtain ⟨t2, ht2⟩ : ∃ t2, textA a2 = t2 := ⟨_, rfl⟩
    rw [ht0] at hz0 hnx
    simp only [ht0] at H0
    rw [ht1] at H1 hz1 hnx
    rw [ht2] at H2 hz2 hnx
    have hadd0 := fun W => run_string_add_sum (P := Tryz.prog) W s t0 (by omega)
    have hadd1 := fun W => run_string_add_sum (P := Tryz.prog) W (s ++ t0) t1 (by rw [ByteArray.size_append]; omega)
    have hadd2 := fun W => run_string_add_sum (P := Tryz.prog) W (s ++ t0 ++ t1) t2 (by rw [ByteArray.size_append, ByteArray.size_append]; omega)
    have y0 := fun d os => cell_regrown r0 d os
    have y1 := fun d os => cell_regrown r1 d os
    have y2 := fun d os => cell_regrown r2 d os
    have hcv : IntKind.u64.wrap (kn : Int) = (kn : Int) := by rw [IntKind.wrap_u64]; omega
    replace H0 := Lib.hid H0
    replace H1 := Lib.hid H1
    replace H2 := Lib.hid H2
    replace hnx := Lib.hid hnx
    clear hm ht0 ht1 ht2 x0 x1 x2 hso hs1 hsm hz0 hz1 hz2 hri hcells
    go_wp2_with fail
    refine wp_region_quiet_below (by kernel_rfl) (by kernel_rfl) ?_
    repeat (go_big_quiet_step (first
     | exact Calls.regrown_of (H0.out _ _)
     | exact Calls.regrown_of (H1.out _ _)
     | exact Calls.regrown_of (H2.out _ _)))
    refine wpQuiet_nil ?_
    intro _ hw'
    obtain ⟨⟨dq, osq⟩, hw''⟩ := hw'
    subst hw''
    have hu5 := Lib.hid (hu.out.trans (newOf (below_regrown wr dq osq)))
    clear hu H0 H1 H2 r0 r1 r2 y0 y1 y2 hadd0 hadd1 hadd2 hcv hk1 hk2
    generalize grow (redrawn wr dq) osq = w5 at *
    go_wp2_with fail
    go_roundw
    case rel => exact ⟨j + 1, _, rfl, by go_num, hlt, hnx, hu5⟩
    case measure => simp [intOf]; omega
   ·have hR : Hid (Ending.returned (.tuple #[.string s, .int .i64 0]) = encR l) := Lib.hid (by rw [encR_ok hok.out, hso.out.last hlt])
    clear hso
    go_wp2_with fail
    go_ret2
    exact ⟨hR.out, hu.out⟩
 ·have hR := Lib.hid (encR_no hok)
  obtain ⟨z, hz⟩ : ∃ z, chk l = z := ⟨_, rfl⟩
  have HC := Lib.hid (refcheck_is w S v l hv hb hz)
  obtain ⟨A, c, rfl, -, -⟩ := Rw.View.shape hv
  rw [hz] at hR hok
  have d : ((z : Int) != 0) = true := by rw [bne_iff_ne]; omega
  clear hv hb hok hz
  go_enter Tryz.func115, Tryz.ntmps115
  go_wp2_with fail
  refine HC.out.mono ?_
  rintro e w1 ⟨rfl, hu1⟩
  replace hu1 := Lib.hid hu1
  clear HC
  go_wp2_with fail
  go_ret2
  exact ⟨hR.out.symm, hu1.out⟩
end Mt
end
section
open Go.RowKit Go.Sort
namespace Mt
open Bit Dsk Ob Dig Lb
theorem ioBox {J : Ob.Rel} {p : Nat} {s : ByteArray} {e : Nat} {w0 w : World} (h : Own (Tens (InO p s e) J) w0 w) : Boxed p (.string s) (.int .i64 (e : Int)) w := by
 obtain ⟨A, hA⟩ := h.seeL
 exact Rw.box2See hA
theorem ioMust {J : Ob.Rel} (hJ : Thing J) {p : Nat} {s : ByteArray} {e : Nat} {w0 w : World} (h : Own (Tens (InO p s e) J) w0 w) (b : Bool) (y : Nat) :
  Calls Tryz.prog 60 #[.pointer (some ⟨p, 0, none⟩), .bool b, .int .i64 (y : Int)] w fun r w' => r = .returned (.tuple #[]) /\ Own (Tens (InO p s (mustE b e y)) J) w0 w' :=
 ownL (Q := fun r => r = .returned (.tuple #[])) hJ h fun A _ hA => inmust_any w A p s b e y hA
theorem ioNum {J : Ob.Rel} (hJ : Thing J) {p : Nat} {s : ByteArray} {w0 w : World} {n k x : Nat} (h : Own (Tens (InO p s 0) J) w0 w) (hs : s.size <= 4611686018427387904) (hg : gotN s.data.toList = (n, k, x)) :
  Calls Tryz.prog 23 #[.pointer (some ⟨p, 0, none⟩)] w fun e w' => e = .returned (.int .u64 (n : Int)) /\ Own (Tens (InO p (s.extract k s.size) x) J) w0 w' :=
 ownL (Q := fun e => e = .returned (.int .u64 (n : Int))) hJ h fun A _ hA => innum_any w A p s (by omega) n k x hg _ rfl hA
theorem ioText {J : Ob.Rel} (hJ : Thing J) {p : Nat} {r : ByteArray} {w0 w : World} {most : Int} {n k x : Nat} (h : Own (Tens (InO p r 0) J) w0 w) (hs : r.size <= 4611686018427387904) (hm : most <= 9223372036854775807) (hg : gotT r.data.toList most = (n, k, x)) :
  Calls Tryz.prog 56 #[.pointer (some ⟨p, 0, none⟩), .int .i64 most] w fun e w' => e = .returned (.string (r.extract k (k + n))) /\ Own (Tens (InO p (r.extract (k + n) r.size) x) J) w0 w' :=
 ownL (Q := fun e => e = .returned (.string (r.extract k (k + n)))) hJ h fun A _ hA => intext_any w A p r most hs hm n k x hg _ _ rfl rfl hA
theorem ioTextNo {J : Ob.Rel} (hJ : Thing J) {p : Nat} {r : ByteArray} {w0 w : World} {most : Int} {e : Nat} (h : Own (Tens (InO p r e) J) w0 w) (he : e ≠ 0) :
  Calls Tryz.prog 56 #[.pointer (some ⟨p, 0, none⟩), .int .i64 most] w fun x w' => x = .returned (.string ByteArray.empty) /\ Own (Tens (InO p r e) J) w0 w' :=
 ownL (Q := fun x => x = .returned (.string ByteArray.empty)) hJ h fun A _ hA => intext_err w A p r most e he hA
theorem ioSet {J : Ob.Rel} (hJ : Thing J) {p : Nat} {s : ByteArray} {e : Nat} {w0 w : World} (h : Own (Tens (InO p s e) J) w0 w) (y : Nat) : Own (Tens (InO p s y) J) w0 (w.setCell ⟨p, 1, none⟩ (.int .i64 (y : Int))) := by
 obtain ⟨A, hA, go⟩ := h.left hJ
 exact go _ _ (Rw.box2Set1 hA (Upon.refl _ w))
def St (s : List UInt8) (n e j : Nat) (l : List M) (r : List UInt8) : Prop := (e ≠ 0 /\ (tk s).2.2 = e) \/ (e = 0 /\ ∃ k, gotN s = (n, k, 0) /\ ¬ 8 < n /\ Read n (s.drop k) j l r)
theorem St.start {s : List UInt8} {n k x : Nat} {b : Bool} (h : gotN s = (n, k, x)) (hb : b = true ↔ n <= 8) : St s n (mustE b x 8) 0 [] (s.drop k) := by
 by_cases hx : x = 0
 ·subst hx
  cases b with
  | true => exact .inr ⟨by simp [mustE], k, h, by have := hb.1 rfl; omega, Read.start _ _⟩
  | false =>
   have hn : 8 < n := by
    by_cases c : n <= 8
    ·exact absurd (hb.2 c) (by decide)
    ·omega
   exact .inl ⟨by simp [mustE], by rw [tk_long h hn]; simp [mustE]⟩
 ·have e : mustE b x 8 = x := by simp [mustE, hx]
  rw [e]
  exact .inl ⟨hx, by rw [tk_num h hx]⟩
theorem St.few {s : List UInt8} {n j : Nat} {l : List M} {r : List UInt8} (h : St s n 0 j l r) : l.length = j /\ j <= n /\ n <= 8 := by
 rcases h with ⟨h, -⟩ | ⟨-, k, -, h2, h3, h4, -⟩
 ·exact absurd rfl h
 ·exact ⟨h4, h3, by omega⟩
theorem St.step {s : List UInt8} {n j : Nat} {l : List M} {r r1 : List UInt8} {m : M} (h : St s n 0 j l r) (hj : j < n) (h1 : one r = (m, r1, 0)) : St s n 0 (j + 1) (l ++ [m]) r1 := by
 rcases h with ⟨h, -⟩ | ⟨-, k, k1, k2, k3⟩
 ·exact absurd rfl h
 ·exact .inr ⟨rfl, k, k1, k2, k3.step hj h1⟩
theorem St.bad {s : List UInt8} {n j j' : Nat} {l l' : List M} {r r' : List UInt8} {e : Nat} (h : St s n 0 j l r) (hj : j < n) (h1 : (one r).2.2 = e) (he : e ≠ 0) : St s n e j' l' r' := by
 rcases h with ⟨h, -⟩ | ⟨-, k, k1, k2, k3⟩
 ·exact absurd rfl h
 ·exact .inl ⟨he, by rw [tk_bad k1 k2 (k3.bad hj h1 he) he]⟩
def TkE (s : List UInt8) (x : Nat) (l : List M) (r : List UInt8) : Prop := (tk s).2.2 = x /\ (x = 0 -> tk s = (l, r, 0))
theorem St.err {s : List UInt8} {n e j : Nat} {l : List M} {r : List UInt8} (h : St s n e j l r) (he : e ≠ 0) : TkE s e l r := by
 rcases h with ⟨-, h⟩ | ⟨h, -⟩
 ·exact ⟨h, fun c => absurd c he⟩
 ·exact absurd h he
theorem St.fin {s : List UInt8} {n j : Nat} {l : List M} {r : List UInt8} (h : St s n 0 j l r) (hj : ¬ j < n) : TkE s (chk l) l r := by
 rcases h with ⟨h, -⟩ | ⟨-, k, k1, k2, k3⟩
 ·exact absurd rfl h
 ·have hp := k3.last hj
  by_cases hc : chk l = 0
  ·have := tk_ok k1 k2 hp hc
   rw [hc]
   exact ⟨by rw [this], fun _ => this⟩
  ·exact ⟨by rw [tk_chk k1 k2 hp hc], fun c => absurd c hc⟩
theorem Bnd.snoc {l : List M} {m : M} (h : Bnd l) (hm : Bnd1 m) : Bnd (l ++ [m]) := fun x hx => by
 rcases List.mem_append.1 hx with hx | hx
 ·exact h x hx
 ·rw [List.mem_singleton.1 hx]; exact hm
theorem bnd_wrap (k : Int) {a b : ByteArray} (ha : a.size <= 9223372036854775807) (hb : b.size <= 9223372036854775807) : Bnd1 (IntKind.i64.wrap k, a, b) := by
 refine ⟨?_, ?_, ha, hb⟩ <;> simp only [IntKind.wrap_i64] <;> omega
theorem view_two (w : World) (k : Int) (a b : ByteArray) : View (w.alloc (.cells #[.int .i64 k, .string a, .string b] 174 (0, 0))) All (.slice (some ⟨w.heap.size, 0, none⟩) 1 1) [(k, a, b)] := view_one (cell_new w _)
theorem ioRow {R : Ob.Rel} (hR : Thing R) {p : Nat} {s : ByteArray} {e : Nat} {w0 w w' : World} {v v' : Value} {l m : List M} (H : Own (Tens (InO p s e) (Tens R (Rw.RowO layM 174 v l))) w0 w) (hown : Mine w' v' m) (hg : w.grownBy w' v.ownBlock) (hb : v'.ownBlock = v.ownBlock \/ v'.ownBlock = some w.heap.size) : Own (Tens (InO p s e) (Tens R (Rw.RowO layM 174 v' m))) w0 w' :=
 (Rw.rowAppend (Tens.ob (thingIn _ _ _) hR) H.cossa hown hg hb).assoc
theorem ioSeeRow {R : Ob.Rel} {p : Nat} {s : ByteArray} {e : Nat} {w0 w : World} {v : Value} {l : List M} (H : Own (Tens (InO p s e) (Tens R (Rw.RowO layM 174 v l))) w0 w) : Mine w v l := Rw.rowSee H.dropl
end Mt
end
section
open Go.RowKit Go.Sort
namespace Mt
open Bit Dsk Ob Dig Lb
set_option maxHeartbeats 12800000 in
theorem take_any {R : Ob.Rel} (hR : Thing R) {p : Nat} {s : ByteArray} {w0 w : World} (hs : s.size <= 140737488355328) (h : Own (Tens (InO p s 0) R) w0 w) :
  Calls Tryz.prog 61 #[.pointer (some ⟨p, 0, none⟩)] w fun e w' => ∃ (u : Value) (l : List M) (r : ByteArray) (x : Nat), e = .returned u /\ TkE s.data.toList x l r.data.toList /\ r.size <= 140737488355328 /\ Bnd l /\ Own (Tens (InO p r x) (Tens R (Rw.RowO layM 174 u l))) w0 w' := by
 obtain ⟨n, k, x, hg⟩ : ∃ n k x, gotN s.data.toList = (n, k, x) := ⟨_, _, _, rfl⟩
 have hn64 : n < 18446744073709551616 := by
  have := (gotN_lt s.data.toList).1
  rw [hg] at this
  exact this
 obtain ⟨b, hbd⟩ : ∃ b, decide (n <= 8) = b := ⟨_, rfl⟩
 have hst0 := Lib.hid (Mt.St.start (b := b) hg (by rw [<- hbd, decide_eq_true_eq]))
 have hbd' : decide ((n : Int) <= 8) = b := by rw [<- hbd]; exact decide_eq_decide.2 (by omega)
 have HN := Lib.hid (ioNum hR h (by omega) hg)
 obtain ⟨t, ht⟩ : ∃ t, s.extract k s.size = t := ⟨_, rfl⟩
 have hts : t.size <= 140737488355328 := by rw [<- ht]; exact Nat.le_trans (ext_size _ _ _) hs
 rw [<- drop_list, ht] at hst0
 rw [ht] at HN
 obtain ⟨sl, hsl⟩ : ∃ sl, s.data.toList = sl := ⟨_, rfl⟩
 rw [hsl] at hst0 ⊢
 have hJ := Lib.hid (fun v (l : List M) => Tens.ob hR (Rw.thingRow layM 174 v l))
 replace hR := Lib.hid hR
 clear hg ht hsl h
 go_enter Tryz.func61, Tryz.ntmps61
 go_wp2_with fail
 refine HN.out.mono ?_
 rintro e w2 ⟨rfl, h2⟩
 have HM := Lib.hid (ioMust hR.out h2 b 8)
 clear HN h2
 go_wp2_with fail
 refine HM.out.mono ?_
 rintro e w3 ⟨rfl, h3⟩
 obtain ⟨e0, he0⟩ : ∃ e0, mustE b x 8 = e0 := ⟨_, rfl⟩
 rw [he0] at hst0 h3
 have hI := Lib.hid (Rw.rowNone layM 174 (Tens.ob (thingIn _ _ _) hR.out) h3).assoc
 clear HM h3 he0 hbd hbd'
 go_wp2_with fail
 go_loopw [4, 5] (fun u ov wr => ∃ (j e : Nat) (l : List M) (r : ByteArray), ov = .int .u64 (j : Int) /\ j <= n /\ r.size <= 140737488355328 /\ Hid (Bnd l) /\ Hid (Mt.St sl n e j l r.data.toList) /\ Hid (Own (Tens (InO p r e) (Tens R (Rw.RowO layM 174 u l))) w0 wr)) (fun _ ov _ => n - (intOf ov).toNat)
 case atStart => exact ⟨0, e0, [], t, rfl, Nat.zero_le _, hts, Lib.hid (fun p hp => by simp at hp), hst0, hI⟩
 case round =>
  obtain ⟨j, e, l, r, rfl, hj, hr, hsm, hst, ho⟩ := hrel
  clear hst0 hI
  obtain ⟨c0, c1, f0, f1⟩ := ioBox ho.out
  by_cases he : e = 0
  ·subst he
   obtain ⟨hlj, -, hn8⟩ := hst.out.few
   replace hlj := Lib.hid hlj
   by_cases hlt : j < n
   ·obtain ⟨kn, kk, x1, hg⟩ : ∃ kn kk x1, gotN r.data.toList = (kn, kk, x1) := ⟨_, _, _, rfl⟩
    have hk64 : kn < 18446744073709551616 := by
     have := (gotN_lt r.data.toList).1
     rw [hg] at this
     exact this
    have HN := Lib.hid (ioNum (hJ.out _ _) ho.out (by omega) hg)
    obtain ⟨r1, hr1⟩ : ∃ r1, r.extract kk r.size = r1 := ⟨_, rfl⟩
    rw [hr1] at HN
    have hr1s : r1.size <= 140737488355328 := by rw [<- hr1]; exact Nat.le_trans (ext_size _ _ _) hr
    have hr1l : r.data.toList.drop kk = r1.data.toList := by rw [<- hr1, drop_list]
    have hll : l.length <= 8 := by have := hlj.out; omega
    obtain ⟨b1, hb1⟩ : ∃ b1, decide (kn <= 4) = b1 := ⟨_, rfl⟩
    have hb1' : decide ((kn : Int) <= 4) = b1 := by rw [<- hb1]; exact decide_eq_decide.2 (by omega)
    have HMf := Lib.hid (fun w (h : Own (Tens (InO p r1 x1) (Tens R (Rw.RowO layM 174 u4 l))) w0 w) => ioMust (hJ.out _ _) h b1 5)
    obtain ⟨e1, he1⟩ : ∃ e1, mustE b1 x1 5 = e1 := ⟨_, rfl⟩
    rw [he1] at HMf
    by_cases he10 : e1 = 0
    ·have hx1 : x1 = 0 := by
      by_cases c : x1 = 0
      ·exact c
      ·simp [mustE, c] at he1; omega
     have hbt : b1 = true := by
      subst hx1
      cases b1 with
      | true => rfl
      | false => simp [mustE] at he1; omega
     have hk4 : kn <= 4 := by rw [hbt] at hb1; exact of_decide_eq_true hb1
     subst hx1
     subst hbt
     rw [he10] at HMf
     clear he1 he10
     obtain ⟨na, ka, x2, hga⟩ : ∃ na ka x2, gotT r1.data.toList 32 = (na, ka, x2) := ⟨_, _, _, rfl⟩
     have hta := txt_is hga
     have HTf := Lib.hid (fun w (h : Own (Tens (InO p r1 0) (Tens R (Rw.RowO layM 174 u4 l))) w0 w) => ioText (hJ.out _ _) h (by omega) (by decide) hga)
     obtain ⟨a, ha⟩ : ∃ a, r1.extract ka (ka + na) = a := ⟨_, rfl⟩
     obtain ⟨r2, hr2⟩ : ∃ r2, r1.extract (ka + na) r1.size = r2 := ⟨_, rfl⟩
     rw [ha, hr2] at hta HTf
     have has : a.size <= 9223372036854775807 := by rw [<- ha]; exact Nat.le_trans (ext_size _ _ _) (by omega)
     have hr2s : r2.size <= 140737488355328 := by rw [<- hr2]; exact Nat.le_trans (ext_size _ _ _) hr1s
     have hcv : IntKind.i64.wrap (kn : Int) = (kn : Int) := by rw [IntKind.wrap_i64]; omega
     by_cases hx2 : x2 = 0
     ·subst hx2
      obtain ⟨nb, kb, x3, hgb⟩ : ∃ nb kb x3, gotT r2.data.toList 64 = (nb, kb, x3) := ⟨_, _, _, rfl⟩
      have htb := txt_is hgb
      have HTf2 := Lib.hid (fun w (h : Own (Tens (InO p r2 0) (Tens R (Rw.RowO layM 174 u4 l))) w0 w) => ioText (hJ.out _ _) h (by omega) (by decide) hgb)
      obtain ⟨b, hb⟩ : ∃ b, r2.extract kb (kb + nb) = b := ⟨_, rfl⟩
      obtain ⟨r3, hr3⟩ : ∃ r3, r2.extract (kb + nb) r2.size = r3 := ⟨_, rfl⟩
      rw [hb, hr3] at htb HTf2
      have hbs : b.size <= 9223372036854775807 := by rw [<- hb]; exact Nat.le_trans (ext_size _ _ _) (by omega)
      have hr3s : r3.size <= 140737488355328 := by rw [<- hr3]; exact Nat.le_trans (ext_size _ _ _) hr2s
      have hst' : Hid (Mt.St sl n x3 (j + 1) (l ++ [((kn : Int), a, b)]) r3.data.toList) := Lib.hid (by
       by_cases hx3 : x3 = 0
       ·subst hx3; exact hst.out.step hlt (one_ok hg (by omega) (by rw [hr1l]; exact hta) htb)
       ·exact hst.out.bad hlt (one_value hg (by omega) (by rw [hr1l]; exact hta) htb hx3) hx3)
      have hsm' : Hid (Bnd (l ++ [((kn : Int), a, b)])) := Lib.hid (hsm.out.snoc ⟨by simp only; omega, by simp only; omega, has, hbs⟩)
      clear hst hsm hta htb hga hgb hg ha hb hr1 hr2 hr3 hr1l has hbs ho
      go_wp2_with fail
      refine HN.out.mono ?_
      rintro e w6 ⟨rfl, h6⟩
      have HM := Lib.hid (HMf.out _ h6)
      clear HN HMf h6 c0 c1 f0 f1
      go_wp2_with fail
      refine HM.out.mono ?_
      rintro e w7 ⟨rfl, h7⟩
      have HT := Lib.hid (HTf.out _ h7)
      clear HM HTf h7
      go_wp2_with fail
      refine HT.out.mono ?_
      rintro e w8 ⟨rfl, h8⟩
      have HT2 := Lib.hid (HTf2.out _ h8)
      clear HT HTf2 h8
      go_wp2_with fail
      refine HT2.out.mono ?_
      rintro e w9 ⟨rfl, h9⟩
      clear HT2
      obtain ⟨A4, c4, hu4_, -, -⟩ := Rw.View.shape (ioSeeRow h9).view
      subst hu4_
      have hM := Lib.hid ((ioSeeRow h9).new ((Upon.refl _ _).alloc (.cells #[.int .i64 (kn : Int), .string a, .string b] 174 (0, 0))))
      have hI := Lib.hid (Own.upon0 (Tens.ob (thingIn _ _ _) (hJ.out _ _)) h9 ((Upon.refl _ _).alloc (.cells #[.int .i64 (kn : Int), .string a, .string b] 174 (0, 0))))
      have hX := Lib.hid (Mt.view_two w9 (kn : Int) a b)
      clear h9
      go_wp2_with (at_builtin; refine Rw.wpList_append typM rfl _ _ rfl _ _ l [((kn : Int), a, b)] All rfl rfl hM.out hX.out (by rw [List.length_singleton]; omega) (by rw [List.length_singleton]; omega) ?_)
      intro v' w10 hown hgr hbl
      have h10 := Lib.hid (ioRow hR.out hI.out hown hgr (hbl.imp id fun h => h.trans (by simp)))
      clear hM hI hX hown hgr hbl
      go_wp2_with fail
      go_roundw
      case rel => exact ⟨j + 1, x3, _, r3, by go_num, hlt, hr3s, hsm', hst', h10⟩
      case measure => simp [intOf]; omega
     ·have HTf2 := Lib.hid (fun w (h : Own (Tens (InO p r2 x2) (Tens R (Rw.RowO layM 174 u4 l))) w0 w) => ioTextNo (most := 64) (hJ.out _ _) h hx2)
      obtain ⟨b, hb⟩ : ∃ b, ByteArray.empty = b := ⟨_, rfl⟩
      have hbs : b.size <= 9223372036854775807 := by rw [<- hb]; exact Nat.zero_le _
      rw [hb] at HTf2
      have hst' : Hid (Mt.St sl n x2 (j + 1) (l ++ [((kn : Int), a, b)]) r2.data.toList) := Lib.hid (hst.out.bad hlt (one_name hg (by omega) (by rw [hr1l]; exact hta) hx2) hx2)
      have hsm' : Hid (Bnd (l ++ [((kn : Int), a, b)])) := Lib.hid (hsm.out.snoc ⟨by simp only; omega, by simp only; omega, has, hbs⟩)
      clear hst hsm hta hga hg ha hr1 hr2 hr1l has hbs ho hx2
      go_wp2_with fail
      refine HN.out.mono ?_
      rintro e w6 ⟨rfl, h6⟩
      have HM := Lib.hid (HMf.out _ h6)
      clear HN HMf h6 c0 c1 f0 f1
      go_wp2_with fail
      refine HM.out.mono ?_
      rintro e w7 ⟨rfl, h7⟩
      have HT := Lib.hid (HTf.out _ h7)
      clear HM HTf h7
      go_wp2_with fail
      refine HT.out.mono ?_
      rintro e w8 ⟨rfl, h8⟩
      have HT2 := Lib.hid (HTf2.out _ h8)
      clear HT HTf2 h8 hb
      go_wp2_with fail
      refine HT2.out.mono ?_
      rintro e w9 ⟨rfl, h9⟩
      clear HT2
      obtain ⟨A4, c4, hu4_, -, -⟩ := Rw.View.shape (ioSeeRow h9).view
      subst hu4_
      have hM := Lib.hid ((ioSeeRow h9).new ((Upon.refl _ _).alloc (.cells #[.int .i64 (kn : Int), .string a, .string b] 174 (0, 0))))
      have hI := Lib.hid (Own.upon0 (Tens.ob (thingIn _ _ _) (hJ.out _ _)) h9 ((Upon.refl _ _).alloc (.cells #[.int .i64 (kn : Int), .string a, .string b] 174 (0, 0))))
      have hX := Lib.hid (Mt.view_two w9 (kn : Int) a b)
      clear h9
      go_wp2_with (at_builtin; refine Rw.wpList_append typM rfl _ _ rfl _ _ l [((kn : Int), a, b)] All rfl rfl hM.out hX.out (by rw [List.length_singleton]; omega) (by rw [List.length_singleton]; omega) ?_)
      intro v' w10 hown hgr hbl
      have h10 := Lib.hid (ioRow hR.out hI.out hown hgr (hbl.imp id fun h => h.trans (by simp)))
      clear hM hI hX hown hgr hbl
      go_wp2_with fail
      go_roundw
      case rel => exact ⟨j + 1, x2, _, r2, by go_num, hlt, hr2s, hsm', hst', h10⟩
      case measure => simp [intOf]; omega
    ·have hone : (one r.data.toList).2.2 = e1 := by
      by_cases c : x1 = 0
      ·subst c
       cases b1 with
       | true => simp [mustE] at he1; omega
       | false =>
        have h4 : 4 < kn := by
         have := of_decide_eq_false hb1
         omega
        rw [one_kind hg h4]; simp [mustE] at he1; exact he1
      ·rw [one_num hg c]; simp [mustE, c] at he1; exact he1
     obtain ⟨a, ha⟩ : ∃ a, ByteArray.empty = a := ⟨_, rfl⟩
     have has : a.size <= 9223372036854775807 := by rw [<- ha]; exact Nat.zero_le _
     have HTf := Lib.hid (fun w (h : Own (Tens (InO p r1 e1) (Tens R (Rw.RowO layM 174 u4 l))) w0 w) => ioTextNo (most := 32) (hJ.out _ _) h he10)
     have HTf2 := Lib.hid (fun w (h : Own (Tens (InO p r1 e1) (Tens R (Rw.RowO layM 174 u4 l))) w0 w) => ioTextNo (most := 64) (hJ.out _ _) h he10)
     rw [ha] at HTf HTf2
     obtain ⟨kv, hcv⟩ : ∃ kv, IntKind.i64.wrap (kn : Int) = kv := ⟨_, rfl⟩
     have hst' : Hid (Mt.St sl n e1 (j + 1) (l ++ [(kv, a, a)]) r1.data.toList) := Lib.hid (hst.out.bad hlt hone he10)
     have hsm' : Hid (Bnd (l ++ [(kv, a, a)])) := Lib.hid (by rw [<- hcv]; exact hsm.out.snoc (bnd_wrap _ has has))
     clear hst hsm hg hr1 hr1l has ho he10 hone he1 hb1
     go_wp2_with fail
     refine HN.out.mono ?_
     rintro e w6 ⟨rfl, h6⟩
     have HM := Lib.hid (HMf.out _ h6)
     clear HN HMf h6 c0 c1 f0 f1
     go_wp2_with fail
     refine HM.out.mono ?_
     rintro e w7 ⟨rfl, h7⟩
     have HT := Lib.hid (HTf.out _ h7)
     clear HM HTf h7
     go_wp2_with fail
     refine HT.out.mono ?_
     rintro e w8 ⟨rfl, h8⟩
     have HT2 := Lib.hid (HTf2.out _ h8)
     clear HT HTf2 h8 ha
     go_wp2_with fail
     refine HT2.out.mono ?_
     rintro e w9 ⟨rfl, h9⟩
     clear HT2
     obtain ⟨A4, c4, hu4_, -, -⟩ := Rw.View.shape (ioSeeRow h9).view
     subst hu4_
     have hM := Lib.hid ((ioSeeRow h9).new ((Upon.refl _ _).alloc (.cells #[.int .i64 kv, .string a, .string a] 174 (0, 0))))
     have hI := Lib.hid (Own.upon0 (Tens.ob (thingIn _ _ _) (hJ.out _ _)) h9 ((Upon.refl _ _).alloc (.cells #[.int .i64 kv, .string a, .string a] 174 (0, 0))))
     have hX := Lib.hid (Mt.view_two w9 kv a a)
     clear h9
     go_wp2_with (at_builtin; refine Rw.wpList_append typM rfl _ _ rfl _ _ l [(kv, a, a)] All rfl rfl hM.out hX.out (by rw [List.length_singleton]; omega) (by rw [List.length_singleton]; omega) ?_)
     intro v' w10 hown hgr hbl
     have h10 := Lib.hid (ioRow hR.out hI.out hown hgr (hbl.imp id fun h => h.trans (by simp)))
     clear hM hI hX hown hgr hbl
     go_wp2_with fail
     go_roundw
     case rel => exact ⟨j + 1, e1, _, r1, by go_num, hlt, hr1s, hsm', hst', h10⟩
     case measure => simp [intOf]; omega
   ·have hfin := Lib.hid (hst.out.fin hlt)
    obtain ⟨z, hz⟩ : ∃ z, chk l = z := ⟨_, rfl⟩
    have HC := Lib.hid (refcheck_is _ _ _ l (ioSeeRow ho.out).view hsm.out hz)
    rw [hz] at hfin
    obtain ⟨A4, c4, hu4_, -, -⟩ := Rw.View.shape (ioSeeRow ho.out).view
    subst hu4_
    clear hst hz
    go_wp2_with fail
    refine HC.out.mono ?_
    rintro e w6 ⟨rfl, hu6⟩
    have h6 := Own.upon0 (Tens.ob (thingIn _ _ _) (hJ.out _ _)) ho.out hu6
    obtain ⟨g0, g1, k0, k1⟩ := ioBox h6
    have hend := Lib.hid (ioSet (hJ.out _ _) h6 z)
    clear HC ho hu6 h6 c0 c1 f0 f1
    go_wp2_with fail
    go_ret
    exact ⟨_, l, r, z, rfl, hfin.out, hr, hsm.out, hend.out⟩
  ·have hfin := Lib.hid (hst.out.err he)
   have d0 : ((e : Int) == 0) = false := by rw [beq_eq_false_iff_ne]; omega
   clear hst he
   by_cases hlt : j < n
   ·go_wp2_with fail
    go_ret
    exact ⟨_, l, r, e, rfl, hfin.out, hr, hsm.out, ho.out⟩
   ·go_wp2_with fail
    go_ret
    exact ⟨_, l, r, e, rfl, hfin.out, hr, hsm.out, ho.out⟩
def got (s : List UInt8) : List M × Nat × Nat := if (tk s).2.2 = 0 then ((tk s).1, s.length - (tk s).2.1.length, 0) else ([], 0, (tk s).2.2)
theorem got_no {s : List UInt8} {x : Nat} (h : (tk s).2.2 = x) (hx : x ≠ 0) : got s = ([], 0, x) := by unfold got; rw [h, if_neg hx]
theorem got_ok {s : List UInt8} {l : List M} {r : List UInt8} (h : tk s = (l, r, 0)) : got s = (l, s.length - r.length, 0) := by unfold got; rw [h]; simp
def NoO : Ob.Rel := fun _ S => ∀ x, ¬ S x
theorem thingNo : Thing NoO := ⟨fun _ _ _ h _ _ => h, fun _ _ h x hx => absurd hx (h x)⟩
theorem ownNo {I : Ob.Rel} (hI : Thing I) {w0 w : World} (H : Own I w0 w) : Own (Tens I NoO) w0 w :=
 Own.new hI H (T := fun _ => False) (fun x hx => hx) (fun x hx => hx.elim) (Upon.refl _ w)
theorem tk_len {s r : List UInt8} {l : List M} (h : tk s = (l, r, 0)) : r.length <= s.length := by
 have := congrArg List.length (tk_back h).2
 rw [List.length_append] at this
 omega
end Mt
end
end
end Go.Proofs.YtgmnhodajngchaaGreatDoor
